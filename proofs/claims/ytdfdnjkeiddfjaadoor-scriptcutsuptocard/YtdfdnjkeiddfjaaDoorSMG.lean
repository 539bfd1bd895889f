/-
  script (stage 25): a part is written; is a part zero?
-/
import Derived.Test.YtdfdnjkeiddfjaaDoorSM7
import Derived.Test.YtdfdnjkeiddfjaaDoorJ4
import Derived.Test.YtdfdnjkeiddfjaaDoorK3
namespace Go.Proofs.YtdfdnjkeiddfjaaDoor
open Go.RowKit
attribute [local go_sem ↓] Go.wp_at_zero Go.wp_at_succ
attribute [local go_sem] run_store_funcA

set_option maxRecDepth 20000 in
set_option maxHeartbeats 2000000 in
theorem spellA_1 (d : SdO) (a : Option Addr) (bn bc : Nat) (g : Nat) (w : World) (hs : d.who.size ≤ 2000000) (hE : EnvOk w) (hg : BlkK w g #[.func (.func 49) #[] #[]] 97) :
    Calls Tryd.prog 70 #[d.v a bn bc, .pointer (some ⟨g, 0, none⟩)] w fun e w' => e = .returned (.string (nmS d.who)) ∧ Below w.heap.size w w' := by
  obtain ⟨k, who, too, tx, n, m, q⟩ := d
  have hb1 := below1K w (.cells #[.int .i64 k, .string who, .string too, .string tx, .slice a bn bc, .int .i64 n, .int .i64 m, .int .i64 q] 24)
  have hk1 := BlkK.new w #[.int .i64 k, .string who, .string too, .string tx, .slice a bn bc, .int .i64 n, .int .i64 m, .int .i64 q] 24
  have HW : Hid (∀ X, EnvOk X → Calls Tryd.prog 71 #[.string who] X fun e w' => e = .returned (.bool (wrd who)) ∧ w' = X) := fun X hX => word_any who (by simp only at hs; omega) X hX.signs.says
  have HQ : Hid (∀ X, Calls Tryd.prog 72 #[.string who] X fun e w' => e = .returned (.string (qtB who)) ∧ Below X.heap.size X w') := fun X => quote_any who hs X
  have HE1 := hm7 (hE.later hb1)
  have hz := cell8 (hg.later hb1) 0 _ rfl
  have hx := cell8 hk1 1 _ rfl
  have HB1 := hm7 hb1
  have e0 : nmS who = if wrd who = true then who else qtB who := rfl
  try simp only
  rw [e0]
  obtain ⟨wv, hwv⟩ : ∃ b, wrd who = b := ⟨_, rfl⟩
  rw [hwv] at HW ⊢
  clear hs hE hg hk1 hb1 hwv e0
  cases wv with
  | true =>
    go_enter Tryd.func70, Tryd.ntmps70
    go_wp2_with (first | (go_at_call 49; refine (fldA_1 w.heap.size _).mono ?_; rintro e wx ⟨rfl, rfl⟩) | (go_at_call 71; refine (HW.out _ HE1.out).mono ?_; rintro e wx ⟨rfl, rfl⟩))
    go_ret
    exact ⟨rfl, HB1.out⟩
  | false =>
    go_enter Tryd.func70, Tryd.ntmps70
    go_wp2_with (first | (go_at_call 49; refine (fldA_1 w.heap.size _).mono ?_; rintro e wx ⟨rfl, rfl⟩) | (go_at_call 71; refine (HW.out _ HE1.out).mono ?_; rintro e wx ⟨rfl, rfl⟩) | (go_at_call 72; refine (HQ.out _).mono ?_; rintro e w3 ⟨rfl, hb3⟩))
    go_ret
    exact ⟨rfl, below_stepK HB1.out hb3⟩
set_option maxHeartbeats 1000000 in
theorem emptyA_1 (d : SdO) (a : Option Addr) (bn bc : Nat) (g : Nat) (w : World) (hg : BlkK w g #[.func (.func 49) #[] #[]] 97) :
    Calls Tryd.prog 73 #[d.v a bn bc, .pointer (some ⟨g, 0, none⟩)] w fun e w' => e = .returned (.bool (decide (d.who = ⟨#[]⟩))) ∧ Below w.heap.size w w' := by
  obtain ⟨k, who, too, tx, n, m, q⟩ := d
  have hb1 := below1K w (.cells #[.int .i64 k, .string who, .string too, .string tx, .slice a bn bc, .int .i64 n, .int .i64 m, .int .i64 q] 24)
  have hk1 := BlkK.new w #[.int .i64 k, .string who, .string too, .string tx, .slice a bn bc, .int .i64 n, .int .i64 m, .int .i64 q] 24
  have hz := cell8 (hg.later hb1) 0 _ rfl
  have hx := cell8 hk1 1 _ rfl
  have HB1 := hm7 hb1
  have e1 := str_dec who ⟨#[]⟩
  try simp only
  clear hg hk1 hb1
  go_enter Tryd.func73, Tryd.ntmps73
  go_wp2_with (go_at_call 49; refine (fldA_1 w.heap.size _).mono ?_; rintro e wx ⟨rfl, rfl⟩)
  go_ret
  exact ⟨by first | rw [e1] | (rw [← e1]; simp) | (simp [← e1, emptyL]), HB1.out⟩
set_option maxRecDepth 20000 in
set_option maxHeartbeats 2000000 in
theorem spellA_2 (d : SdO) (a : Option Addr) (bn bc : Nat) (g : Nat) (w : World) (hs : d.too.size ≤ 2000000) (hE : EnvOk w) (hg : BlkK w g #[.func (.func 50) #[] #[]] 97) :
    Calls Tryd.prog 70 #[d.v a bn bc, .pointer (some ⟨g, 0, none⟩)] w fun e w' => e = .returned (.string (nmS d.too)) ∧ Below w.heap.size w w' := by
  obtain ⟨k, who, too, tx, n, m, q⟩ := d
  have hb1 := below1K w (.cells #[.int .i64 k, .string who, .string too, .string tx, .slice a bn bc, .int .i64 n, .int .i64 m, .int .i64 q] 24)
  have hk1 := BlkK.new w #[.int .i64 k, .string who, .string too, .string tx, .slice a bn bc, .int .i64 n, .int .i64 m, .int .i64 q] 24
  have HW : Hid (∀ X, EnvOk X → Calls Tryd.prog 71 #[.string too] X fun e w' => e = .returned (.bool (wrd too)) ∧ w' = X) := fun X hX => word_any too (by simp only at hs; omega) X hX.signs.says
  have HQ : Hid (∀ X, Calls Tryd.prog 72 #[.string too] X fun e w' => e = .returned (.string (qtB too)) ∧ Below X.heap.size X w') := fun X => quote_any too hs X
  have HE1 := hm7 (hE.later hb1)
  have hz := cell8 (hg.later hb1) 0 _ rfl
  have hx := cell8 hk1 2 _ rfl
  have HB1 := hm7 hb1
  have e0 : nmS too = if wrd too = true then too else qtB too := rfl
  try simp only
  rw [e0]
  obtain ⟨wv, hwv⟩ : ∃ b, wrd too = b := ⟨_, rfl⟩
  rw [hwv] at HW ⊢
  clear hs hE hg hk1 hb1 hwv e0
  cases wv with
  | true =>
    go_enter Tryd.func70, Tryd.ntmps70
    go_wp2_with (first | (go_at_call 50; refine (fldA_2 w.heap.size _).mono ?_; rintro e wx ⟨rfl, rfl⟩) | (go_at_call 71; refine (HW.out _ HE1.out).mono ?_; rintro e wx ⟨rfl, rfl⟩))
    go_ret
    exact ⟨rfl, HB1.out⟩
  | false =>
    go_enter Tryd.func70, Tryd.ntmps70
    go_wp2_with (first | (go_at_call 50; refine (fldA_2 w.heap.size _).mono ?_; rintro e wx ⟨rfl, rfl⟩) | (go_at_call 71; refine (HW.out _ HE1.out).mono ?_; rintro e wx ⟨rfl, rfl⟩) | (go_at_call 72; refine (HQ.out _).mono ?_; rintro e w3 ⟨rfl, hb3⟩))
    go_ret
    exact ⟨rfl, below_stepK HB1.out hb3⟩
set_option maxHeartbeats 1000000 in
theorem emptyA_2 (d : SdO) (a : Option Addr) (bn bc : Nat) (g : Nat) (w : World) (hg : BlkK w g #[.func (.func 50) #[] #[]] 97) :
    Calls Tryd.prog 73 #[d.v a bn bc, .pointer (some ⟨g, 0, none⟩)] w fun e w' => e = .returned (.bool (decide (d.too = ⟨#[]⟩))) ∧ Below w.heap.size w w' := by
  obtain ⟨k, who, too, tx, n, m, q⟩ := d
  have hb1 := below1K w (.cells #[.int .i64 k, .string who, .string too, .string tx, .slice a bn bc, .int .i64 n, .int .i64 m, .int .i64 q] 24)
  have hk1 := BlkK.new w #[.int .i64 k, .string who, .string too, .string tx, .slice a bn bc, .int .i64 n, .int .i64 m, .int .i64 q] 24
  have hz := cell8 (hg.later hb1) 0 _ rfl
  have hx := cell8 hk1 2 _ rfl
  have HB1 := hm7 hb1
  have e1 := str_dec too ⟨#[]⟩
  try simp only
  clear hg hk1 hb1
  go_enter Tryd.func73, Tryd.ntmps73
  go_wp2_with (go_at_call 50; refine (fldA_2 w.heap.size _).mono ?_; rintro e wx ⟨rfl, rfl⟩)
  go_ret
  exact ⟨by first | rw [e1] | (rw [← e1]; simp) | (simp [← e1, emptyL]), HB1.out⟩
set_option maxHeartbeats 1000000 in
theorem spellA_5 (d : SdO) (a : Option Addr) (bn bc : Nat) (g : Nat) (w : World) (h0 : -9223372036854775808 ≤ d.n) (h1 : d.n ≤ 9223372036854775807) (hE : EnvOk w) (hg : BlkK w g #[.func (.func 58) #[] #[]] 100) :
    Calls Tryd.prog 75 #[d.v a bn bc, .pointer (some ⟨g, 0, none⟩)] w fun e w' => e = .returned (.string (ibS d.n)) ∧ Below w.heap.size w w' := by
  obtain ⟨k, who, too, tx, n, m, q⟩ := d
  have hb1 := below1K w (.cells #[.int .i64 k, .string who, .string too, .string tx, .slice a bn bc, .int .i64 n, .int .i64 m, .int .i64 q] 24)
  have hk1 := BlkK.new w #[.int .i64 k, .string who, .string too, .string tx, .slice a bn bc, .int .i64 n, .int .i64 m, .int .i64 q] 24
  have HI : Hid (∀ X, EnvOk X → Calls Tryd.prog 64 #[.int .i64 n] X fun e w' => e = .returned (.string (ibS n)) ∧ Below X.heap.size X w') := fun X hX => itoa_any n h0 h1 X hX
  have HE1 := hm7 (hE.later hb1)
  have hz := cell8 (hg.later hb1) 0 _ rfl
  have hx := cell8 hk1 5 _ rfl
  have HB1 := hm7 hb1
  try simp only
  clear hE hg hk1 hb1
  go_enter Tryd.func75, Tryd.ntmps75
  go_wp2_with (first | (go_at_call 58; refine (fldA_3 w.heap.size _).mono ?_; rintro e wx ⟨rfl, rfl⟩) | (go_at_call 64; refine (HI.out _ HE1.out).mono ?_; rintro e w3 ⟨rfl, hb3⟩))
  go_ret
  exact ⟨rfl, below_stepK HB1.out hb3⟩
set_option maxHeartbeats 1000000 in
theorem emptyA_5 (d : SdO) (a : Option Addr) (bn bc : Nat) (g : Nat) (w : World) (hg : BlkK w g #[.func (.func 58) #[] #[]] 100) :
    Calls Tryd.prog 76 #[d.v a bn bc, .pointer (some ⟨g, 0, none⟩)] w fun e w' => e = .returned (.bool (decide (d.n = 0))) ∧ Below w.heap.size w w' := by
  obtain ⟨k, who, too, tx, n, m, q⟩ := d
  have hb1 := below1K w (.cells #[.int .i64 k, .string who, .string too, .string tx, .slice a bn bc, .int .i64 n, .int .i64 m, .int .i64 q] 24)
  have hk1 := BlkK.new w #[.int .i64 k, .string who, .string too, .string tx, .slice a bn bc, .int .i64 n, .int .i64 m, .int .i64 q] 24
  have hz := cell8 (hg.later hb1) 0 _ rfl
  have hx := cell8 hk1 5 _ rfl
  have HB1 := hm7 hb1
  try simp only
  clear hg hk1 hb1
  go_enter Tryd.func76, Tryd.ntmps76
  go_wp2_with (go_at_call 58; refine (fldA_3 w.heap.size _).mono ?_; rintro e wx ⟨rfl, rfl⟩)
  go_ret
  exact ⟨by first | rfl | simp | (congr 2), HB1.out⟩
set_option maxHeartbeats 1000000 in
theorem spellA_6 (d : SdO) (a : Option Addr) (bn bc : Nat) (g : Nat) (w : World) (h0 : -9223372036854775808 ≤ d.m) (h1 : d.m ≤ 9223372036854775807) (hE : EnvOk w) (hg : BlkK w g #[.func (.func 59) #[] #[]] 100) :
    Calls Tryd.prog 75 #[d.v a bn bc, .pointer (some ⟨g, 0, none⟩)] w fun e w' => e = .returned (.string (ibS d.m)) ∧ Below w.heap.size w w' := by
  obtain ⟨k, who, too, tx, n, m, q⟩ := d
  have hb1 := below1K w (.cells #[.int .i64 k, .string who, .string too, .string tx, .slice a bn bc, .int .i64 n, .int .i64 m, .int .i64 q] 24)
  have hk1 := BlkK.new w #[.int .i64 k, .string who, .string too, .string tx, .slice a bn bc, .int .i64 n, .int .i64 m, .int .i64 q] 24
  have HI : Hid (∀ X, EnvOk X → Calls Tryd.prog 64 #[.int .i64 m] X fun e w' => e = .returned (.string (ibS m)) ∧ Below X.heap.size X w') := fun X hX => itoa_any m h0 h1 X hX
  have HE1 := hm7 (hE.later hb1)
  have hz := cell8 (hg.later hb1) 0 _ rfl
  have hx := cell8 hk1 6 _ rfl
  have HB1 := hm7 hb1
  try simp only
  clear hE hg hk1 hb1
  go_enter Tryd.func75, Tryd.ntmps75
  go_wp2_with (first | (go_at_call 59; refine (fldA_4 w.heap.size _).mono ?_; rintro e wx ⟨rfl, rfl⟩) | (go_at_call 64; refine (HI.out _ HE1.out).mono ?_; rintro e w3 ⟨rfl, hb3⟩))
  go_ret
  exact ⟨rfl, below_stepK HB1.out hb3⟩
set_option maxHeartbeats 1000000 in
theorem emptyA_6 (d : SdO) (a : Option Addr) (bn bc : Nat) (g : Nat) (w : World) (hg : BlkK w g #[.func (.func 59) #[] #[]] 100) :
    Calls Tryd.prog 76 #[d.v a bn bc, .pointer (some ⟨g, 0, none⟩)] w fun e w' => e = .returned (.bool (decide (d.m = 0))) ∧ Below w.heap.size w w' := by
  obtain ⟨k, who, too, tx, n, m, q⟩ := d
  have hb1 := below1K w (.cells #[.int .i64 k, .string who, .string too, .string tx, .slice a bn bc, .int .i64 n, .int .i64 m, .int .i64 q] 24)
  have hk1 := BlkK.new w #[.int .i64 k, .string who, .string too, .string tx, .slice a bn bc, .int .i64 n, .int .i64 m, .int .i64 q] 24
  have hz := cell8 (hg.later hb1) 0 _ rfl
  have hx := cell8 hk1 6 _ rfl
  have HB1 := hm7 hb1
  try simp only
  clear hg hk1 hb1
  go_enter Tryd.func76, Tryd.ntmps76
  go_wp2_with (go_at_call 59; refine (fldA_4 w.heap.size _).mono ?_; rintro e wx ⟨rfl, rfl⟩)
  go_ret
  exact ⟨by first | rfl | simp | (congr 2), HB1.out⟩
set_option maxHeartbeats 1000000 in
theorem spellA_7 (d : SdO) (a : Option Addr) (bn bc : Nat) (g : Nat) (w : World) (h0 : -9223372036854775808 ≤ d.q) (h1 : d.q ≤ 9223372036854775807) (hE : EnvOk w) (hg : BlkK w g #[.func (.func 60) #[] #[]] 100) :
    Calls Tryd.prog 75 #[d.v a bn bc, .pointer (some ⟨g, 0, none⟩)] w fun e w' => e = .returned (.string (ibS d.q)) ∧ Below w.heap.size w w' := by
  obtain ⟨k, who, too, tx, n, m, q⟩ := d
  have hb1 := below1K w (.cells #[.int .i64 k, .string who, .string too, .string tx, .slice a bn bc, .int .i64 n, .int .i64 m, .int .i64 q] 24)
  have hk1 := BlkK.new w #[.int .i64 k, .string who, .string too, .string tx, .slice a bn bc, .int .i64 n, .int .i64 m, .int .i64 q] 24
  have HI : Hid (∀ X, EnvOk X → Calls Tryd.prog 64 #[.int .i64 q] X fun e w' => e = .returned (.string (ibS q)) ∧ Below X.heap.size X w') := fun X hX => itoa_any q h0 h1 X hX
  have HE1 := hm7 (hE.later hb1)
  have hz := cell8 (hg.later hb1) 0 _ rfl
  have hx := cell8 hk1 7 _ rfl
  have HB1 := hm7 hb1
  try simp only
  clear hE hg hk1 hb1
  go_enter Tryd.func75, Tryd.ntmps75
  go_wp2_with (first | (go_at_call 60; refine (fldA_5 w.heap.size _).mono ?_; rintro e wx ⟨rfl, rfl⟩) | (go_at_call 64; refine (HI.out _ HE1.out).mono ?_; rintro e w3 ⟨rfl, hb3⟩))
  go_ret
  exact ⟨rfl, below_stepK HB1.out hb3⟩
set_option maxHeartbeats 1000000 in
theorem emptyA_7 (d : SdO) (a : Option Addr) (bn bc : Nat) (g : Nat) (w : World) (hg : BlkK w g #[.func (.func 60) #[] #[]] 100) :
    Calls Tryd.prog 76 #[d.v a bn bc, .pointer (some ⟨g, 0, none⟩)] w fun e w' => e = .returned (.bool (decide (d.q = 0))) ∧ Below w.heap.size w w' := by
  obtain ⟨k, who, too, tx, n, m, q⟩ := d
  have hb1 := below1K w (.cells #[.int .i64 k, .string who, .string too, .string tx, .slice a bn bc, .int .i64 n, .int .i64 m, .int .i64 q] 24)
  have hk1 := BlkK.new w #[.int .i64 k, .string who, .string too, .string tx, .slice a bn bc, .int .i64 n, .int .i64 m, .int .i64 q] 24
  have hz := cell8 (hg.later hb1) 0 _ rfl
  have hx := cell8 hk1 7 _ rfl
  have HB1 := hm7 hb1
  try simp only
  clear hg hk1 hb1
  go_enter Tryd.func76, Tryd.ntmps76
  go_wp2_with (go_at_call 60; refine (fldA_5 w.heap.size _).mono ?_; rintro e wx ⟨rfl, rfl⟩)
  go_ret
  exact ⟨by first | rfl | simp | (congr 2), HB1.out⟩
set_option maxHeartbeats 1000000 in
theorem spellA_3 (d : SdO) (a : Option Addr) (bn bc : Nat) (w : World) (hs : d.tx.size ≤ 2000000) :
    Calls Tryd.prog 52 #[d.v a bn bc] w fun e w' => e = .returned (.string (qtB d.tx)) ∧ Below w.heap.size w w' := by
  obtain ⟨k, who, too, tx, n, m, q⟩ := d
  have hb1 := below1K w (.cells #[.int .i64 k, .string who, .string too, .string tx, .slice a bn bc, .int .i64 n, .int .i64 m, .int .i64 q] 24)
  have hk1 := BlkK.new w #[.int .i64 k, .string who, .string too, .string tx, .slice a bn bc, .int .i64 n, .int .i64 m, .int .i64 q] 24
  have HQ : Hid (∀ X, Calls Tryd.prog 72 #[.string tx] X fun e w' => e = .returned (.string (qtB tx)) ∧ Below X.heap.size X w') := fun X => quote_any tx hs X
  have HB1 := hm7 hb1
  try simp only
  clear hs hk1 hb1
  go_enter Tryd.func52, Tryd.ntmps52
  go_wp2_with (go_at_call 72; refine (HQ.out _).mono ?_; rintro e w3 ⟨rfl, hb3⟩)
  go_ret
  exact ⟨rfl, below_stepK HB1.out hb3⟩
set_option maxHeartbeats 1000000 in
theorem emptyA_3 (d : SdO) (a : Option Addr) (bn bc : Nat) (w : World) :
    Calls Tryd.prog 53 #[d.v a bn bc] w fun e w' => e = .returned (.bool (decide (d.tx = ⟨#[]⟩))) ∧ Below w.heap.size w w' := by
  obtain ⟨k, who, too, tx, n, m, q⟩ := d
  have hb1 := below1K w (.cells #[.int .i64 k, .string who, .string too, .string tx, .slice a bn bc, .int .i64 n, .int .i64 m, .int .i64 q] 24)
  have hk1 := BlkK.new w #[.int .i64 k, .string who, .string too, .string tx, .slice a bn bc, .int .i64 n, .int .i64 m, .int .i64 q] 24
  have HB1 := hm7 hb1
  have e1 := str_dec tx ⟨#[]⟩
  try simp only
  clear hk1 hb1
  go_enter Tryd.func53, Tryd.ntmps53
  go_wp2
  go_ret
  exact ⟨by first | rw [e1] | (rw [← e1]; simp) | (simp [← e1, emptyL]), HB1.out⟩
set_option maxHeartbeats 1000000 in
theorem spellA_4 (d : SdO) (b : ByteArray) (a : Option Addr) (bc : Nat) (w : World) (hs : b.size ≤ 2000000) (hb : LbW (fun _ => True) w (.slice a b.size bc) (blK b)) :
    Calls Tryd.prog 55 #[d.v a b.size bc] w fun e w' => e = .returned (.string (qtB b)) ∧ Below w.heap.size w w' := by
  obtain ⟨k, who, too, tx, n, m, q⟩ := d
  have hb1 := below1K w (.cells #[.int .i64 k, .string who, .string too, .string tx, .slice a b.size bc, .int .i64 n, .int .i64 m, .int .i64 q] 24)
  have hk1 := BlkK.new w #[.int .i64 k, .string who, .string too, .string tx, .slice a b.size bc, .int .i64 n, .int .i64 m, .int .i64 q] 24
  have HQ : Hid (∀ X, Calls Tryd.prog 72 #[.string b] X fun e w' => e = .returned (.string (qtB b)) ∧ Below X.heap.size X w') := fun X => quote_any b hs X
  have HB1 := hm7 hb1
  have hcv := conv_lb (hb.below hb1)
  rw [ofL_bl] at hcv
  try simp only
  clear hs hk1 hb1 hb
  go_enter Tryd.func55, Tryd.ntmps55
  go_wp2_with (go_at_call 72; refine (HQ.out _).mono ?_; rintro e w3 ⟨rfl, hb3⟩)
  go_ret
  exact ⟨rfl, below_stepK HB1.out hb3⟩
set_option maxHeartbeats 1000000 in
theorem emptyA_4 (d : SdO) (a : Option Addr) (bn bc : Nat) (w : World) :
    Calls Tryd.prog 56 #[d.v a bn bc] w fun e w' => e = .returned (.bool (decide (bn = 0))) ∧ Below w.heap.size w w' := by
  obtain ⟨k, who, too, tx, n, m, q⟩ := d
  have hb1 := below1K w (.cells #[.int .i64 k, .string who, .string too, .string tx, .slice a bn bc, .int .i64 n, .int .i64 m, .int .i64 q] 24)
  have hk1 := BlkK.new w #[.int .i64 k, .string who, .string too, .string tx, .slice a bn bc, .int .i64 n, .int .i64 m, .int .i64 q] 24
  have HB1 := hm7 hb1
  try simp only
  clear hk1 hb1
  go_enter Tryd.func56, Tryd.ntmps56
  go_wp2
  go_ret
  exact ⟨by first | rfl | (simp; rw [Bool.eq_iff_iff]; simp), HB1.out⟩
end Go.Proofs.YtdfdnjkeiddfjaaDoor
