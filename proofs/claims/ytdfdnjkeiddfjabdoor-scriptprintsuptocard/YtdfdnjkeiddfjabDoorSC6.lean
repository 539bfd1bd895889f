import Derived.Test.YtdfdnjkeiddfjabDoorK13
import Derived.Test.YtdfdnjkeiddfjabDoorK17
import Derived.Lib.ItoaMem
import Derived.Test.YtdfdnjkeiddfjabDoorK5
import Derived.Test.YtdfdnjkeiddfjabDoorK9
import Derived.BigQuiet
import Derived.Lib.AtoiAllCases
import Derived.Laws.AppendOwnNone
import Derived.Laws.AppendOwn
/-
  hearsaylaw04.TokensFront: the walk.
-/
namespace Go.Proofs.YtdfdnjkeiddfjabDoor
open Go.RowKit

theorem cutL_all (s : ByteArray) : cutL (blK s) (s.size : Int) = ct (s.size + 1) (blK s) 0 [] := by
  unfold cutL; rw [bl_len, if_neg (by omega)]
theorem run_eql_ft (e p e' p' : Int) (w : World) : (binOp .eql 32 (.agg #[.int .i64 e, .int .i64 p]) (.agg #[.int .i64 e', .int .i64 p'])).run Tryd.prog w = .ok (.bool (decide (e = e' ∧ p = p'))) w := by
  by_cases h1 : e = e'
  · by_cases h2 : p = p'
    · subst h1 h2; go_simp
    · subst h1; go_simp
  · go_simp
end Go.Proofs.YtdfdnjkeiddfjabDoor
/-
  There and back: numbers, runs (plain).
-/
namespace Go.Proofs.YtdfdnjkeiddfjabDoor

theorem rl_all : ∀ (l y : List Int), (∀ x ∈ l, rnb x = true) → rl (l ++ y) = l.length + rl y
  | [], y, _ => by simp
  | c :: l, y, h => by
    rw [List.cons_append, rl_cons, if_pos (h c (by simp)), rl_all l y (fun x hx => h x (by simp [hx]))]
    simp only [List.length_cons]; omega
end Go.Proofs.YtdfdnjkeiddfjabDoor
/-
  There and back: every token that has a spelling (plain).
-/
namespace Go.Proofs.YtdfdnjkeiddfjabDoor

theorem sgo_rng {k : Int} (h : ¬ sgo k = ⟨#[]⟩) : 5 ≤ k ∧ k ≤ 16 := by
  by_cases h0 : 0 ≤ k
  · by_cases h1 : k < 17
    · by_cases h2 : 5 ≤ k
      · omega
      · have : k = 0 ∨ k = 1 ∨ k = 2 ∨ k = 3 ∨ k = 4 := by omega
        rcases this with rfl | rfl | rfl | rfl | rfl <;> exact absurd rfl h
    · refine absurd ?_ h
      unfold sgo; rw [if_pos h0, List.getElem?_eq_none (by rw [signL_len]; omega)]; rfl
  · refine absurd ?_ h
    unfold sgo; rw [if_neg h0]
end Go.Proofs.YtdfdnjkeiddfjabDoor
/-
  script (stage 25): the document's put (all parts but bytes).
-/
namespace Go.Proofs.YtdfdnjkeiddfjabDoor
open Go.RowKit
attribute [local go_sem ↓] Go.wp_at_zero Go.wp_at_succ

/-- A step, but for its bytes. -/
structure SdO where
  k : Int
  who : ByteArray
  too : ByteArray
  tx : ByteArray
  n : Int
  m : Int
  q : Int
abbrev SdO.v (d : SdO) (a : Option Addr) (bn bc : Nat) : Value := .agg #[.int .i64 d.k, .string d.who, .string d.too, .string d.tx, .slice a bn bc, .int .i64 d.n, .int .i64 d.m, .int .i64 d.q]
def putS (p : Int) (d : SdO) (t : Tk) : SdO :=
  if p = 119 then { d with who := t.x } else if p = 111 then { d with too := t.x } else if p = 116 then { d with tx := t.x } else if p = 110 then { d with n := t.n } else if p = 109 then { d with m := t.n } else if p = 107 then { d with q := t.n } else d
end Go.Proofs.YtdfdnjkeiddfjabDoor
/-
  script (stage 25): the document's shown (all parts but bytes).
-/
namespace Go.Proofs.YtdfdnjkeiddfjabDoor
open Go.RowKit
attribute [local go_sem ↓] Go.wp_at_zero Go.wp_at_succ

/-- A number's digits. -/
def ibS (n : Int) : ByteArray := ⟨(Lib.itoa n).toArray⟩
set_option maxRecDepth 20000 in
set_option maxHeartbeats 2000000 in
theorem shownS_119 (d : SdO) (a : Option Addr) (bn bc : Nat) (w : World) (hs : d.who.size ≤ 2000000) : Calls Tryd.prog 19 #[d.v a bn bc, .int .u8 119] w fun e w' => e = .returned (.string (nmS d.who)) ∧ Below w.heap.size w w' := by
  obtain ⟨k, who, too, tx, n, m, q⟩ := d
  have HC : Hid (∀ X, Calls Tryd.prog 28 #[.string who] X fun e w' => e = .returned (.string (nmS who)) ∧ Below X.heap.size X w') := fun X => nameS_any who hs X
  go_enter Tryd.func19, Tryd.ntmps19
  go_wp2_with (go_at_call 28; refine (HC.out _).mono ?_; rintro e w2 ⟨rfl, hb⟩; have HB : Hid (Below _ _ w2) := hb; clear hb)
  go_ret
  exact ⟨rfl, (below1K _ _).trans (HB.out.mono (by simp))⟩
set_option maxRecDepth 20000 in
set_option maxHeartbeats 2000000 in
theorem shownS_111 (d : SdO) (a : Option Addr) (bn bc : Nat) (w : World) (hs : d.too.size ≤ 2000000) : Calls Tryd.prog 19 #[d.v a bn bc, .int .u8 111] w fun e w' => e = .returned (.string (nmS d.too)) ∧ Below w.heap.size w w' := by
  obtain ⟨k, who, too, tx, n, m, q⟩ := d
  have HC : Hid (∀ X, Calls Tryd.prog 28 #[.string too] X fun e w' => e = .returned (.string (nmS too)) ∧ Below X.heap.size X w') := fun X => nameS_any too hs X
  go_enter Tryd.func19, Tryd.ntmps19
  go_wp2_with (go_at_call 28; refine (HC.out _).mono ?_; rintro e w2 ⟨rfl, hb⟩; have HB : Hid (Below _ _ w2) := hb; clear hb)
  go_ret
  exact ⟨rfl, (below1K _ _).trans (HB.out.mono (by simp))⟩
set_option maxRecDepth 20000 in
set_option maxHeartbeats 2000000 in
theorem shownS_116 (d : SdO) (a : Option Addr) (bn bc : Nat) (w : World) (hs : d.tx.size ≤ 2000000) : Calls Tryd.prog 19 #[d.v a bn bc, .int .u8 116] w fun e w' => e = .returned (.string (qtB d.tx)) ∧ Below w.heap.size w w' := by
  obtain ⟨k, who, too, tx, n, m, q⟩ := d
  have HC : Hid (∀ X, Calls Tryd.prog 29 #[.string tx] X fun e w' => e = .returned (.string (qtB tx)) ∧ Below X.heap.size X w') := fun X => qquote_any tx hs X
  go_enter Tryd.func19, Tryd.ntmps19
  go_wp2_with (go_at_call 29; refine (HC.out _).mono ?_; rintro e w2 ⟨rfl, hb⟩; have HB : Hid (Below _ _ w2) := hb; clear hb)
  go_ret
  exact ⟨rfl, (below1K _ _).trans (HB.out.mono (by simp))⟩
set_option maxRecDepth 20000 in
set_option maxHeartbeats 2000000 in
theorem shownS_110 (d : SdO) (a : Option Addr) (bn bc : Nat) (w : World) (h0 : -9223372036854775808 ≤ d.n) (h1 : d.n ≤ 9223372036854775807) (hE : EnvOk w) : Calls Tryd.prog 19 #[d.v a bn bc, .int .u8 110] w fun e w' => e = .returned (.string (ibS d.n)) ∧ Below w.heap.size w w' := by
  obtain ⟨k, who, too, tx, n, m, q⟩ := d
  have HC : Hid (Calls Tryd.prog 30 #[.int .i64 n] (w.alloc (.cells #[.int .i64 k, .string who, .string too, .string tx, .slice a bn bc, .int .i64 n, .int .i64 m, .int .i64 q] 24)) fun e w' => e = .returned (.string (ibS n)) ∧ Below (w.alloc (.cells #[.int .i64 k, .string who, .string too, .string tx, .slice a bn bc, .int .i64 n, .int .i64 m, .int .i64 q] 24)).heap.size (w.alloc (.cells #[.int .i64 k, .string who, .string too, .string tx, .slice a bn bc, .int .i64 n, .int .i64 m, .int .i64 q] 24)) w') := itoa_any n h0 h1 _ (hE.later (below1K _ _))
  go_enter Tryd.func19, Tryd.ntmps19
  go_wp2_with (go_at_call 30; refine HC.out.mono ?_; rintro e w2 ⟨rfl, hb⟩; have HB : Hid (Below _ _ w2) := hb; clear hb)
  go_ret
  exact ⟨rfl, (below1K _ _).trans (HB.out.mono (by simp))⟩
set_option maxRecDepth 20000 in
set_option maxHeartbeats 2000000 in
theorem shownS_109 (d : SdO) (a : Option Addr) (bn bc : Nat) (w : World) (h0 : -9223372036854775808 ≤ d.m) (h1 : d.m ≤ 9223372036854775807) (hE : EnvOk w) : Calls Tryd.prog 19 #[d.v a bn bc, .int .u8 109] w fun e w' => e = .returned (.string (ibS d.m)) ∧ Below w.heap.size w w' := by
  obtain ⟨k, who, too, tx, n, m, q⟩ := d
  have HC : Hid (Calls Tryd.prog 30 #[.int .i64 m] (w.alloc (.cells #[.int .i64 k, .string who, .string too, .string tx, .slice a bn bc, .int .i64 n, .int .i64 m, .int .i64 q] 24)) fun e w' => e = .returned (.string (ibS m)) ∧ Below (w.alloc (.cells #[.int .i64 k, .string who, .string too, .string tx, .slice a bn bc, .int .i64 n, .int .i64 m, .int .i64 q] 24)).heap.size (w.alloc (.cells #[.int .i64 k, .string who, .string too, .string tx, .slice a bn bc, .int .i64 n, .int .i64 m, .int .i64 q] 24)) w') := itoa_any m h0 h1 _ (hE.later (below1K _ _))
  go_enter Tryd.func19, Tryd.ntmps19
  go_wp2_with (go_at_call 30; refine HC.out.mono ?_; rintro e w2 ⟨rfl, hb⟩; have HB : Hid (Below _ _ w2) := hb; clear hb)
  go_ret
  exact ⟨rfl, (below1K _ _).trans (HB.out.mono (by simp))⟩
set_option maxRecDepth 20000 in
set_option maxHeartbeats 2000000 in
theorem shownS_107 (d : SdO) (a : Option Addr) (bn bc : Nat) (w : World) (h0 : -9223372036854775808 ≤ d.q) (h1 : d.q ≤ 9223372036854775807) (hE : EnvOk w) : Calls Tryd.prog 19 #[d.v a bn bc, .int .u8 107] w fun e w' => e = .returned (.string (ibS d.q)) ∧ Below w.heap.size w w' := by
  obtain ⟨k, who, too, tx, n, m, q⟩ := d
  have HC : Hid (Calls Tryd.prog 30 #[.int .i64 q] (w.alloc (.cells #[.int .i64 k, .string who, .string too, .string tx, .slice a bn bc, .int .i64 n, .int .i64 m, .int .i64 q] 24)) fun e w' => e = .returned (.string (ibS q)) ∧ Below (w.alloc (.cells #[.int .i64 k, .string who, .string too, .string tx, .slice a bn bc, .int .i64 n, .int .i64 m, .int .i64 q] 24)).heap.size (w.alloc (.cells #[.int .i64 k, .string who, .string too, .string tx, .slice a bn bc, .int .i64 n, .int .i64 m, .int .i64 q] 24)) w') := itoa_any q h0 h1 _ (hE.later (below1K _ _))
  go_enter Tryd.func19, Tryd.ntmps19
  go_wp2_with (go_at_call 30; refine HC.out.mono ?_; rintro e w2 ⟨rfl, hb⟩; have HB : Hid (Below _ _ w2) := hb; clear hb)
  go_ret
  exact ⟨rfl, (below1K _ _).trans (HB.out.mono (by simp))⟩
end Go.Proofs.YtdfdnjkeiddfjabDoor
