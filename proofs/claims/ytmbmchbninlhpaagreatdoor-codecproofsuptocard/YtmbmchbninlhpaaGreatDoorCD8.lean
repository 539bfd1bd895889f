import Derived.Test.YtmbmchbninlhpaaGreatDoorCD6
import Derived.Test.YtmbmchbninlhpaaGreatDoorCL5
namespace Go.Proofs.YtmbmchbninlhpaaGreatDoor
open Go.RowKit

set_option maxRecDepth 20000 in
set_option maxHeartbeats 1000000 in
theorem bounded_any (lo hi : Int) (g : Nat) (l : List Int) (w : World) (h : RdS w g l) :
  Calls Tryz.prog 115 #[.pointer (some ⟨g, 0, none⟩), .int .i64 lo, .int .i64 hi] w (RdP g w (fun n v _ => v = .int .i64 n /\ lo <= n /\ n <= hi /\ 0 <= n /\ n <= 255) (rBnd lo hi l)) := by
 have hN := number_any 1 (by omega) g l w h
 unfold rBnd
 rcases hr : rNum 1 l with c | ⟨n, r⟩
 ·have HN : Hid (Calls Tryz.prog 112 #[.pointer (some ⟨g, 0, none⟩), .int .i64 1] w fun e w' => e = .panicked [pE c] /\ Bv g w.heap.size w w') := RdP.err hN hr
  clear hN h
  simp only [Rd.and]
  go_enter Tryz.func115, Tryz.ntmps115
  go_wp2_with (go_at_call 112; refine HN.out.mono ?_; rintro e w1 ⟨rfl, hb⟩)
  exact ⟨rfl, hb, rfl⟩
 ·have HN : Hid (Calls Tryz.prog 112 #[.pointer (some ⟨g, 0, none⟩), .int .i64 1] w fun e w' => ∃ v, e = .returned v /\ (v = .int .u64 n /\ 0 <= n /\ n < (256 : Int) ^ 1) /\ RdS w' g r /\ Bv g w.heap.size w w') := RdP.ok hN hr
  clear hN h
  simp only [Rd.and]
  by_cases h1 : n < lo
  ·rw [if_pos (Or.inl h1)]
   go_enter Tryz.func115, Tryz.ntmps115
   go_wp2_with (first
    | (go_at_call 112; refine HN.out.mono ?_; rintro e w1 ⟨v, rfl, ⟨rfl, h0, h9⟩, hs, hb⟩; have h9' : n <= 255 := (by simpa using Int.le_of_lt_add_one h9); have HB : Hid (Bv g w.heap.size w w1) := hb; clear h9 hs hb)
    | (go_at_call 79; refine (giveUp_any 63 _).mono ?_; rintro e w2 ⟨rfl, rfl⟩))
   exact ⟨rfl, HB.out, rfl⟩
  ·by_cases h2 : hi < n
   ·rw [if_pos (Or.inr h2)]
    go_enter Tryz.func115, Tryz.ntmps115
    go_wp2_with (first
     | (go_at_call 112; refine HN.out.mono ?_; rintro e w1 ⟨v, rfl, ⟨rfl, h0, h9⟩, hs, hb⟩; have h9' : n <= 255 := (by simpa using Int.le_of_lt_add_one h9); have HB : Hid (Bv g w.heap.size w w1) := hb; clear h9 hs hb)
     | (go_at_call 79; refine (giveUp_any 63 _).mono ?_; rintro e w2 ⟨rfl, rfl⟩))
    exact ⟨rfl, HB.out, rfl⟩
   ·rw [if_neg (fun h => h.elim h1 h2)]
    go_enter Tryz.func115, Tryz.ntmps115
    go_wp2_with (go_at_call 112; refine HN.out.mono ?_; rintro e w1 ⟨v, rfl, ⟨rfl, h0, h9⟩, hs, hb⟩; have h9' : n <= 255 := (by simpa using Int.le_of_lt_add_one h9); have HB : Hid (Bv g w.heap.size w w1) := hb; have HS : Hid (RdS w1 g r) := hs; clear h9 hs hb)
    go_ret
    exact ⟨HB.out, _, rfl, ⟨rfl, by omega, by omega, by omega, by omega⟩, HS.out⟩
def Nm_ (w : World) (v : Value) (cs : List Int) : Prop := ∃ b cap, v = .slice (some ⟨b, 0, none⟩) cs.length cap /\ cs.length <= 100 /\ ∀ (i : Nat) (x : Int), cs[i]? = some x -> w.cell? ⟨b, i, none⟩ = some (.int .i64 x)
set_option maxRecDepth 20000 in
set_option maxHeartbeats 1000000 in
theorem indexI_any (cs : List Int) (v : Value) (n : Int) (w : World) (h : Nm_ w v cs) :
  Calls Tryz.prog 191 #[v, .int .i64 n] w fun e w' => w' = w /\ ∃ k : Int, e = .returned (.int .i64 k) /\ (0 <= k ↔ n ∈ cs) := by
 obtain ⟨b, cap, rfl, h100, hc⟩ := h
 have HC : Hid (∀ (i : Nat) (x : Int), cs[i]? = some x -> w.cell? ⟨b, i, none⟩ = some (.int .i64 x)) := hc
 clear hc
 go_enter Tryz.func191, Tryz.ntmps191
 go_wp2
 go_loopg [8] cs.length (fun j' i wr => wr = w /\ ∃ j : Nat, j + j' = cs.length /\ i = .int .i64 j /\ n ∉ cs.take j)
 case atStart => exact ⟨rfl, 0, by omega, rfl, by simp⟩
 case round =>
  obtain ⟨rfl, j, hj, rfl, hno⟩ := hrel
  have HN : Hid (n ∉ cs.take j) := hno
  clear hno
  cases gk with
  | succ g' =>
   have hlt : j < cs.length := by omega
   obtain ⟨x, hx⟩ : ∃ x, cs[j]? = some x := ⟨_, List.getElem?_eq_getElem hlt⟩
   have c0 := HC.out j x hx
   have i1 : (0 : Int) <= (j : Int) := by omega
   have i2 : (j : Int) < (cs.length : Int) := by omega
   have HX : Hid (cs[j]? = some x) := hx
   clear hx
   by_cases he : n = x
   ·subst he
    go_wp2
    go_ret
    exact ⟨rfl, _, rfl, ⟨fun _ => List.mem_of_getElem? HX.out, fun _ => by omega⟩⟩
   ·have he' : (n == x) = false := beq_eq_false_iff_ne.2 he
    have HE : Hid (n ≠ x) := he
    clear he
    go_wp2
    go_roundg g'
    case measure => omega
    case rel =>
     refine ⟨rfl, j + 1, by omega, by go_num, ?_⟩
     rw [List.take_add_one, HX.out]
     intro hm
     rcases List.mem_append.1 hm with hm | hm
     ·exact HN.out hm
     ·simp at hm; exact HE.out hm
  | zero =>
   obtain rfl : j = cs.length := by omega
   have hz : ¬ ((cs.length : Int) < (cs.length : Int)) := by omega
   go_wp2
   go_ret
   refine ⟨rfl, _, rfl, ⟨fun h => by omega, fun h => ?_⟩⟩
   have := HN.out
   rw [List.take_length] at this
   exact absurd h this
set_option maxRecDepth 20000 in
set_option maxHeartbeats 1000000 in
theorem contI_any (cs : List Int) (v : Value) (n : Int) (w : World) (h : Nm_ w v cs) :
  Calls Tryz.prog 180 #[v, .int .i64 n] w fun e w' => e = .returned (.bool (decide (n ∈ cs))) /\ w' = w := by
 have HI : Hid (Calls Tryz.prog 191 #[v, .int .i64 n] w fun e w' => w' = w /\ ∃ k : Int, e = .returned (.int .i64 k) /\ (0 <= k ↔ n ∈ cs)) := indexI_any cs v n w h
 clear h
 by_cases hm : n ∈ cs
 ·rw [decide_eq_true hm]
  go_enter Tryz.func180, Tryz.ntmps180
  go_wp2_with (go_at_call 191; refine HI.out.mono ?_; rintro e w1 ⟨rfl, k, rfl, hk⟩; have hk' := hk.2 hm; clear hk)
  go_ret
  exact ⟨rfl, rfl⟩
 ·rw [decide_eq_false hm]
  go_enter Tryz.func180, Tryz.ntmps180
  go_wp2_with (go_at_call 191; refine HI.out.mono ?_; rintro e w1 ⟨rfl, k, rfl, hk⟩; have hk' : ¬ 0 <= k := fun h => hm (hk.1 h); clear hk)
  go_ret
  exact ⟨ret_b (decide_eq_false (by omega)), rfl⟩
set_option maxRecDepth 20000 in
set_option maxHeartbeats 1000000 in
theorem oneOf_any (cs : List Int) (v : Value) (g : Nat) (l : List Int) (w : World) (h : RdS w g l) (hv : ∀ X, Bv g w.heap.size w X -> Nm_ X v cs) :
  Calls Tryz.prog 149 #[.pointer (some ⟨g, 0, none⟩), v] w (RdP g w (fun n u _ => u = .int .i64 n /\ n ∈ cs) (rOne cs l)) := by
 have hN := number_any 1 (by omega) g l w h
 unfold rOne
 rcases hr : rNum 1 l with c | ⟨n, r⟩
 ·have HN : Hid (Calls Tryz.prog 112 #[.pointer (some ⟨g, 0, none⟩), .int .i64 1] w fun e w' => e = .panicked [pE c] /\ Bv g w.heap.size w w') := RdP.err hN hr
  clear hN h
  simp only [Rd.and]
  go_enter Tryz.func149, Tryz.ntmps149
  go_wp2_with (go_at_call 112; refine HN.out.mono ?_; rintro e w1 ⟨rfl, hb⟩)
  exact ⟨rfl, hb, rfl⟩
 ·have HN : Hid (Calls Tryz.prog 112 #[.pointer (some ⟨g, 0, none⟩), .int .i64 1] w fun e w' => ∃ v, e = .returned v /\ (v = .int .u64 n /\ 0 <= n /\ n < (256 : Int) ^ 1) /\ RdS w' g r /\ Bv g w.heap.size w w') := RdP.ok hN hr
  have HC : Hid (∀ X, Bv g w.heap.size w X -> Calls Tryz.prog 180 #[v, .int .i64 n] X fun e w' => e = .returned (.bool (decide (n ∈ cs))) /\ w' = X) := fun X hX => contI_any cs v n X (hv X hX)
  clear hN h hv
  simp only [Rd.and]
  by_cases hm : n ∈ cs
  ·rw [if_pos hm]
   rw [decide_eq_true hm] at HC
   go_enter Tryz.func149, Tryz.ntmps149
   go_wp2_with (first
    | (go_at_call 112; refine HN.out.mono ?_; rintro e w1 ⟨v1, rfl, ⟨rfl, h0, h9⟩, hs, hb⟩; have h9' : n <= 255 := (by simpa using Int.le_of_lt_add_one h9); have HB : Hid (Bv g w.heap.size w w1) := hb; have HS : Hid (RdS w1 g r) := hs; clear h9 hs hb)
    | (go_at_call 180; refine (HC.out _ HB.out).mono ?_; rintro e w2 ⟨rfl, rfl⟩))
   go_ret
   exact ⟨HB.out, _, rfl, ⟨rfl, hm⟩, HS.out⟩
  ·rw [if_neg hm]
   rw [decide_eq_false hm] at HC
   go_enter Tryz.func149, Tryz.ntmps149
   go_wp2_with (first
    | (go_at_call 112; refine HN.out.mono ?_; rintro e w1 ⟨v1, rfl, ⟨rfl, h0, h9⟩, hs, hb⟩; have h9' : n <= 255 := (by simpa using Int.le_of_lt_add_one h9); have HB : Hid (Bv g w.heap.size w w1) := hb; clear h9 hs hb)
    | (go_at_call 180; refine (HC.out _ HB.out).mono ?_; rintro e w2 ⟨rfl, rfl⟩)
    | (go_at_call 79; refine (giveUp_any 63 _).mono ?_; rintro e w2 ⟨rfl, rfl⟩))
   exact ⟨rfl, HB.out, rfl⟩
set_option maxRecDepth 20000 in
set_option maxHeartbeats 1000000 in
theorem natural_any (g : Nat) (l : List Int) (w : World) (h : RdS w g l) :
  Calls Tryz.prog 118 #[.pointer (some ⟨g, 0, none⟩)] w (RdP g w (fun n u _ => u = .int .i64 n) (rNat l)) := by
 have hN := number_any 8 (by omega) g l w h
 unfold rNat
 rcases hr : rNum 8 l with c | ⟨n, r⟩
 ·have HN : Hid (Calls Tryz.prog 112 #[.pointer (some ⟨g, 0, none⟩), .int .i64 8] w fun e w' => e = .panicked [pE c] /\ Bv g w.heap.size w w') := RdP.err hN hr
  clear hN h
  simp only [Rd.and]
  go_enter Tryz.func118, Tryz.ntmps118
  go_wp2_with (go_at_call 112; refine HN.out.mono ?_; rintro e w1 ⟨rfl, hb⟩)
  exact ⟨rfl, hb, rfl⟩
 ·have HN : Hid (Calls Tryz.prog 112 #[.pointer (some ⟨g, 0, none⟩), .int .i64 8] w fun e w' => ∃ v, e = .returned v /\ (v = .int .u64 n /\ 0 <= n /\ n < (256 : Int) ^ 8) /\ RdS w' g r /\ Bv g w.heap.size w w') := RdP.ok hN hr
  clear hN h
  simp only [Rd.and]
  by_cases hm : 9223372036854775807 < n
  ·rw [if_pos hm]
   go_enter Tryz.func118, Tryz.ntmps118
   go_wp2_with (first
    | (go_at_call 112; refine HN.out.mono ?_; rintro e w1 ⟨v1, rfl, ⟨rfl, h0, h9⟩, hs, hb⟩; have HB : Hid (Bv g w.heap.size w w1) := hb; clear h9 hs hb)
    | (go_at_call 79; refine (giveUp_any 63 _).mono ?_; rintro e w2 ⟨rfl, rfl⟩))
   exact ⟨rfl, HB.out, rfl⟩
  ·rw [if_neg hm]
   go_enter Tryz.func118, Tryz.ntmps118
   go_wp2_with (go_at_call 112; refine HN.out.mono ?_; rintro e w1 ⟨v1, rfl, ⟨rfl, h0, h9⟩, hs, hb⟩; have HB : Hid (Bv g w.heap.size w w1) := hb; have HS : Hid (RdS w1 g r) := hs; clear h9 hs hb)
   go_ret
   exact ⟨HB.out, _, rfl, rfl, HS.out⟩
set_option maxRecDepth 20000 in
set_option maxHeartbeats 1000000 in
theorem rtext_any (lo hi : Int) (g : Nat) (l : List Int) (w : World) (h : RdS w g l) :
  Calls Tryz.prog 179 #[.pointer (some ⟨g, 0, none⟩), .int .i64 lo, .int .i64 hi] w (RdP g w (fun s v _ => v = .string s) (rText lo hi l)) := by
 have hN := bounded_any lo hi g l w h
 unfold rText
 rcases hr : rBnd lo hi l with c | ⟨n, r⟩
 ·have HN : Hid (Calls Tryz.prog 115 #[.pointer (some ⟨g, 0, none⟩), .int .i64 lo, .int .i64 hi] w fun e w' => e = .panicked [pE c] /\ Bv g w.heap.size w w') := RdP.err hN hr
  clear hN h
  simp only [Rd.and]
  go_enter Tryz.func179, Tryz.ntmps179
  go_wp2_with (go_at_call 115; refine HN.out.mono ?_; rintro e w1 ⟨rfl, hb⟩)
  exact ⟨rfl, hb, rfl⟩
 ·have HN : Hid (Calls Tryz.prog 115 #[.pointer (some ⟨g, 0, none⟩), .int .i64 lo, .int .i64 hi] w fun e w' => ∃ v, e = .returned v /\ (v = .int .i64 n /\ lo <= n /\ n <= hi /\ 0 <= n /\ n <= 255) /\ RdS w' g r /\ Bv g w.heap.size w w') := RdP.ok hN hr
  clear hN h
  simp only [Rd.and, rTake]
  by_cases hm : r.length < n.toNat
  ·rw [if_pos hm]
   simp only
   have HT : Hid (∀ X, RdS X g r -> 0 <= n -> Calls Tryz.prog 145 #[.pointer (some ⟨g, 0, none⟩), .int .i64 n] X fun e w' => e = .panicked [pE 61] /\ w' = X) := fun X hX h0 => by
    have := take_no n.toNat g r X hX hm
    rwa [Int.toNat_of_nonneg h0] at this
   go_enter Tryz.func179, Tryz.ntmps179
   go_wp2_with (first
    | (go_at_call 115; refine HN.out.mono ?_; rintro e w1 ⟨v, rfl, ⟨rfl, -, -, h0, h9⟩, hs, hb⟩; have HB : Hid (Bv g w.heap.size w w1) := hb; have HS : Hid (RdS w1 g r) := hs; clear hs hb)
    | (go_at_call 145; refine (HT.out _ HS.out h0).mono ?_; rintro e w2 ⟨rfl, rfl⟩))
   exact ⟨rfl, HB.out, rfl⟩
  ·rw [if_neg hm]
   simp only
   have HT : Hid (∀ X, RdS X g r -> 0 <= n -> Calls Tryz.prog 145 #[.pointer (some ⟨g, 0, none⟩), .int .i64 n] X fun e w' => ∃ v, e = .returned v /\ Bg g w' v (r.take n.toNat) /\ RdS w' g (r.drop n.toNat) /\ Bv g X.heap.size X w') := fun X hX h0 => by
    have := take_ok n.toNat g r X hX (by omega)
    rwa [Int.toNat_of_nonneg h0] at this
   go_enter Tryz.func179, Tryz.ntmps179
   go_wp2_with (first
    | (go_at_call 115; refine HN.out.mono ?_; rintro e w1 ⟨v, rfl, ⟨rfl, -, -, h0, h9⟩, hs, hb⟩; have HB : Hid (Bv g w.heap.size w w1) := hb; have HS : Hid (RdS w1 g r) := hs; clear hs hb)
    | (go_at_call 145; refine (HT.out _ HS.out h0).mono ?_; rintro e w2 ⟨v2, rfl, hg2, hs2, hb2⟩; have hcv := conv_bn hg2.bn (fun x hx => HS.out.1 x (List.mem_of_mem_take hx)); have HB2 : Hid (Bv g w.heap.size w w2) := HB.out.step hb2; have HS2 : Hid (RdS w2 g (r.drop n.toNat)) := hs2; clear hs2 hb2 hg2))
   go_ret
   exact ⟨HB2.out, _, rfl, rfl, HS2.out⟩
end Go.Proofs.YtmbmchbninlhpaaGreatDoor
namespace Go.Proofs.YtmbmchbninlhpaaGreatDoor
open Go.RowKit

set_option maxRecDepth 20000 in
set_option maxHeartbeats 2000000 in
theorem termOf_any (k lo : Int) (hk : k = 0 ∨ k = 1 ∨ k = 2 ∨ k = 3) (g : Nat) (l : List Int) (w : World) (h : RdS w g l) :
  Calls Tryz.prog 150 #[.pointer (some ⟨g, 0, none⟩), .int .i64 k, .int .i64 lo] w (RdP g w (fun t v _ => v = t.v) (rTermOf k lo l)) := by
 have hlt := h.lt
 have HA : Hid (RdS (w.alloc (.cells #[.int .i64 0, .int .i64 0, .string ⟨#[]⟩] 56)) g l) := h.below (below1 _ _)
 have HB : Hid (Blk (w.alloc (.cells #[.int .i64 0, .int .i64 0, .string ⟨#[]⟩] 56)) w.heap.size #[.int .i64 0, .int .i64 0, .string ⟨#[]⟩] 56) := Blk.new _ _ _
 have HL : Hid (Bv g w.heap.size w (w.alloc (.cells #[.int .i64 0, .int .i64 0, .string ⟨#[]⟩] 56))) := Bv.of (below1 _ _)
 clear h
 unfold rTermOf
 rcases hk with rfl | rfl | rfl | rfl
 ·simp only [show ¬ (0 : Int) = 1 by omega, show ¬ (0 : Int) = 2 by omega, show ¬ (0 : Int) = 3 by omega, if_false]
  go_enter Tryz.func150, Tryz.ntmps150
  go_wp2
  exact bodyPost_ret (v := Tm.v zt) (by simp [results, Tryz.results150, go_sem, zt]) rfl ⟨HL.out, _, rfl, rfl, HA.out⟩
 ·simp only [if_true]
  have hN := fun X hX => number_any 8 (by omega) g l X hX
  rcases hr : rNum 8 l with c | ⟨n, r⟩
  ·have HN : Hid (∀ X, RdS X g l -> Calls Tryz.prog 112 #[.pointer (some ⟨g, 0, none⟩), .int .i64 8] X fun e w' => e = .panicked [pE c] /\ Bv g X.heap.size X w') := fun X hX => RdP.err (hN X hX) hr
   simp only [Rd.and]
   clear hN
   go_enter Tryz.func150, Tryz.ntmps150
   go_wp2_with (go_at_call 112; refine (HN.out _ HA.out).mono ?_; rintro e w1 ⟨rfl, hb⟩)
   exact ⟨rfl, HL.out.step hb, rfl⟩
  ·have HN : Hid (∀ X, RdS X g l -> Calls Tryz.prog 112 #[.pointer (some ⟨g, 0, none⟩), .int .i64 8] X fun e w' => ∃ v, e = .returned v /\ (v = .int .u64 n /\ 0 <= n /\ n < (256 : Int) ^ 8) /\ RdS w' g r /\ Bv g X.heap.size X w') := fun X hX => RdP.ok (hN X hX) hr
   simp only [Rd.and]
   clear hN
   go_enter Tryz.func150, Tryz.ntmps150
   go_wp2_with (go_at_call 112; refine (HN.out _ HA.out).mono ?_; rintro e w1 ⟨v1, rfl, ⟨rfl, h0, h9⟩, hs, hb⟩; obtain ⟨r0, r1, r2, f0, f1, f2⟩ := three (HB.out.bl hb (by omega)); have HB1 : Hid (Bv g w.heap.size w w1) := HL.out.step hb; have HS : Hid (RdS w1 g r) := hs; clear h9 hs hb)
   exact bodyPost_ret (v := Tm.v ⟨1, wrap64 n, ⟨#[]⟩⟩) (by simp [results, Tryz.results150, go_sem, r0, r1, r2]) rfl ⟨bset3V HB1.out (Nat.le_refl _), _, rfl, rfl, ((HS.out.off hlt).off hlt).off hlt⟩
 ·simp only [show ¬ (2 : Int) = 1 by omega, if_false, if_true]
  have hN := fun X hX => rtext_any lo 64 g l X hX
  rcases hr : rText lo 64 l with c | ⟨n, r⟩
  ·have HN : Hid (∀ X, RdS X g l -> Calls Tryz.prog 179 #[.pointer (some ⟨g, 0, none⟩), .int .i64 lo, .int .i64 64] X fun e w' => e = .panicked [pE c] /\ Bv g X.heap.size X w') := fun X hX => RdP.err (hN X hX) hr
   simp only [Rd.and]
   clear hN
   go_enter Tryz.func150, Tryz.ntmps150
   go_wp2_with (go_at_call 179; refine (HN.out _ HA.out).mono ?_; rintro e w1 ⟨rfl, hb⟩)
   exact ⟨rfl, HL.out.step hb, rfl⟩
  ·have HN : Hid (∀ X, RdS X g l -> Calls Tryz.prog 179 #[.pointer (some ⟨g, 0, none⟩), .int .i64 lo, .int .i64 64] X fun e w' => ∃ v, e = .returned v /\ (v = .string n) /\ RdS w' g r /\ Bv g X.heap.size X w') := fun X hX => RdP.ok (hN X hX) hr
   simp only [Rd.and]
   clear hN
   go_enter Tryz.func150, Tryz.ntmps150
   go_wp2_with (go_at_call 179; refine (HN.out _ HA.out).mono ?_; rintro e w1 ⟨v1, rfl, rfl, hs, hb⟩; obtain ⟨r0, r1, r2, f0, f1, f2⟩ := three (HB.out.bl hb (by omega)); have HB1 : Hid (Bv g w.heap.size w w1) := HL.out.step hb; have HS : Hid (RdS w1 g r) := hs; clear hs hb)
   exact bodyPost_ret (v := Tm.v ⟨2, 0, n⟩) (by simp [results, Tryz.results150, go_sem, r0, r1, r2]) rfl ⟨bset3V HB1.out (Nat.le_refl _), _, rfl, rfl, ((HS.out.off hlt).off hlt).off hlt⟩
 ·simp only [show ¬ (3 : Int) = 1 by omega, show ¬ (3 : Int) = 2 by omega, if_false, if_true]
  have hN := fun X hX => natural_any g l X hX
  rcases hr : rNat l with c | ⟨n, r⟩
  ·have HN : Hid (∀ X, RdS X g l -> Calls Tryz.prog 118 #[.pointer (some ⟨g, 0, none⟩)] X fun e w' => e = .panicked [pE c] /\ Bv g X.heap.size X w') := fun X hX => RdP.err (hN X hX) hr
   simp only [Rd.and]
   clear hN
   go_enter Tryz.func150, Tryz.ntmps150
   go_wp2_with (go_at_call 118; refine (HN.out _ HA.out).mono ?_; rintro e w1 ⟨rfl, hb⟩)
   exact ⟨rfl, HL.out.step hb, rfl⟩
  ·have HN : Hid (∀ X, RdS X g l -> Calls Tryz.prog 118 #[.pointer (some ⟨g, 0, none⟩)] X fun e w' => ∃ v, e = .returned v /\ (v = .int .i64 n) /\ RdS w' g r /\ Bv g X.heap.size X w') := fun X hX => RdP.ok (hN X hX) hr
   simp only [Rd.and]
   clear hN
   go_enter Tryz.func150, Tryz.ntmps150
   go_wp2_with (go_at_call 118; refine (HN.out _ HA.out).mono ?_; rintro e w1 ⟨v1, rfl, rfl, hs, hb⟩; obtain ⟨r0, r1, r2, f0, f1, f2⟩ := three (HB.out.bl hb (by omega)); have HB1 : Hid (Bv g w.heap.size w w1) := HL.out.step hb; have HS : Hid (RdS w1 g r) := hs; clear hs hb)
   exact bodyPost_ret (v := Tm.v ⟨3, n, ⟨#[]⟩⟩) (by simp [results, Tryz.results150, go_sem, r0, r1, r2]) rfl ⟨bset3V HB1.out (Nat.le_refl _), _, rfl, rfl, ((HS.out.off hlt).off hlt).off hlt⟩
set_option maxRecDepth 20000 in
set_option maxHeartbeats 2000000 in
theorem qual8_any (g : Nat) (l : List Int) (w : World) (h : RdS w g l) :
  Calls Tryz.prog 146 #[.pointer (some ⟨g, 0, none⟩)] w (RdP g w (fun t v _ => v = t.v) (rQual l)) := by
 have hlt := h.lt
 have HA : Hid (RdS ((w.alloc (.cells #[.int .i64 0, .int .i64 0, .string ⟨#[]⟩] 56)).alloc (.cells #[.int .i64 0, .int .i64 2, .int .i64 3] 3)) g l) := h.below (below2 _ _ _)
 have HB : Hid (Blk ((w.alloc (.cells #[.int .i64 0, .int .i64 0, .string ⟨#[]⟩] 56)).alloc (.cells #[.int .i64 0, .int .i64 2, .int .i64 3] 3)) w.heap.size #[.int .i64 0, .int .i64 0, .string ⟨#[]⟩] 56) := Blk.old _ _ _ _
 have HL : Hid (Bv g w.heap.size w ((w.alloc (.cells #[.int .i64 0, .int .i64 0, .string ⟨#[]⟩] 56)).alloc (.cells #[.int .i64 0, .int .i64 2, .int .i64 3] 3))) := Bv.of (below2 _ _ _)
 have HC : Blk ((w.alloc (.cells #[.int .i64 0, .int .i64 0, .string ⟨#[]⟩] 56)).alloc (.cells #[.int .i64 0, .int .i64 2, .int .i64 3] 3)) (w.heap.size + 1) #[.int .i64 0, .int .i64 2, .int .i64 3] 3 := Blk.new2 _ _ _ _
 have HO := oneOf_any [0, 2, 3] (.slice (some ⟨w.heap.size + 1, 0, none⟩) 3 3) g l _ HA.out (fun X hX => ⟨w.heap.size + 1, 3, rfl, by simp, fun i x hx => by
  have hB := HC.bl hX (by omega)
  have hi := (List.getElem?_eq_some_iff.1 hx).1
  have : w.heap.size + 1 < X.heap.size := hB.lt
  rcases (show i = 0 ∨ i = 1 ∨ i = 2 by simp at hi; omega) with rfl | rfl | rfl
  all_goals (simp only [List.getElem?_cons_zero, List.getElem?_cons_succ, Option.some.injEq] at hx; subst hx; exact cell_of_row _ _ _ _ _ _ hB)⟩)
 clear h HC
 unfold rQual
 rcases hr : rOne [0, 2, 3] l with c | ⟨n, r⟩
 ·have HN : Hid (Calls Tryz.prog 149 #[.pointer (some ⟨g, 0, none⟩), .slice (some ⟨w.heap.size + 1, 0, none⟩) 3 3] _ fun e w' => e = .panicked [pE c] /\ Bv g _ _ w') := RdP.err HO hr
  simp only [Rd.and]
  clear HO
  go_enter Tryz.func146, Tryz.ntmps146
  go_wp2_with (go_at_call 149; refine HN.out.mono ?_; rintro e w1 ⟨rfl, hb⟩)
  exact ⟨rfl, HL.out.step hb, rfl⟩
 ·have HN : Hid (Calls Tryz.prog 149 #[.pointer (some ⟨g, 0, none⟩), .slice (some ⟨w.heap.size + 1, 0, none⟩) 3 3] _ fun e w' => ∃ v, e = .returned v /\ (v = .int .i64 n /\ n ∈ [0, 2, 3]) /\ RdS w' g r /\ Bv g _ _ w') := RdP.ok HO hr
  simp only [Rd.and]
  clear HO
  have hN := fun X hX hk => termOf_any n 1 hk g r X hX
  rcases hr2 : rTermOf n 1 r with c | ⟨t, r2⟩
  ·have HT : Hid (∀ X, RdS X g r -> (n = 0 ∨ n = 1 ∨ n = 2 ∨ n = 3) -> Calls Tryz.prog 150 #[.pointer (some ⟨g, 0, none⟩), .int .i64 n, .int .i64 1] X fun e w' => e = .panicked [pE c] /\ Bv g X.heap.size X w') := fun X hX hk => RdP.err (hN X hX hk) hr2
   clear hN
   go_enter Tryz.func146, Tryz.ntmps146
   go_wp2_with (first
    | (go_at_call 149; refine HN.out.mono ?_; rintro e w1 ⟨v1, rfl, ⟨rfl, hm⟩, hs, hb⟩; have HM : Hid (n ∈ [0, 2, 3]) := hm; have HB1 : Hid (Bv g w.heap.size w w1) := HL.out.step hb; have HS : Hid (RdS w1 g r) := hs; clear hm hs hb)
    | (go_at_call 150; refine (HT.out _ HS.out (by have := HM.out; simp at this; omega)).mono ?_; rintro e w2 ⟨rfl, hb⟩))
   exact ⟨rfl, HB1.out.step hb, rfl⟩
  ·have HT : Hid (∀ X, RdS X g r -> (n = 0 ∨ n = 1 ∨ n = 2 ∨ n = 3) -> Calls Tryz.prog 150 #[.pointer (some ⟨g, 0, none⟩), .int .i64 n, .int .i64 1] X fun e w' => ∃ v, e = .returned v /\ (v = t.v) /\ RdS w' g r2 /\ Bv g X.heap.size X w') := fun X hX hk => RdP.ok (hN X hX hk) hr2
   clear hN
   obtain ⟨tk, tn, ts⟩ := t
   go_enter Tryz.func146, Tryz.ntmps146
   go_wp2_with (first
    | (go_at_call 149; refine HN.out.mono ?_; rintro e w1 ⟨v1, rfl, ⟨rfl, hm⟩, hs, hb⟩; have HM : Hid (n ∈ [0, 2, 3]) := hm; have HB1 : Hid (Bv g w.heap.size w w1) := HL.out.step hb; have HS : Hid (RdS w1 g r) := hs; have HK1 : Hid (Blk w1 _ _ _) := HB.out.bl hb (by omega); clear hm hs hb)
    | (go_at_call 150; refine (HT.out _ HS.out (by have := HM.out; simp at this; omega)).mono ?_; rintro e w2 ⟨v2, rfl, rfl, hs, hb⟩; obtain ⟨r0, r1, r2, f0, f1, f2⟩ := three (HK1.out.bl hb (by omega)); have HB2 : Hid (Bv g w.heap.size w w2) := HB1.out.step hb; have HS2 : Hid (RdS w2 g _) := hs; clear hs hb))
   exact bodyPost_ret (v := Tm.v ⟨tk, tn, ts⟩) (by simp [results, Tryz.results146, go_sem, r0, r1, r2]) rfl ⟨bset3V HB2.out (Nat.le_refl _), _, rfl, rfl, ((HS2.out.off hlt).off hlt).off hlt⟩
set_option maxRecDepth 20000 in
set_option maxHeartbeats 2000000 in
theorem arg8_any (g : Nat) (l : List Int) (w : World) (h : RdS w g l) :
  Calls Tryz.prog 148 #[.pointer (some ⟨g, 0, none⟩)] w (RdP g w (fun t v _ => v = t.v) (rArg l)) := by
 have hlt := h.lt
 have HA : Hid (RdS ((w.alloc (.cells #[.int .i64 0, .int .i64 0, .string ⟨#[]⟩] 56)).alloc (.cells #[.int .i64 1, .int .i64 2, .int .i64 3] 3)) g l) := h.below (below2 _ _ _)
 have HB : Hid (Blk ((w.alloc (.cells #[.int .i64 0, .int .i64 0, .string ⟨#[]⟩] 56)).alloc (.cells #[.int .i64 1, .int .i64 2, .int .i64 3] 3)) w.heap.size #[.int .i64 0, .int .i64 0, .string ⟨#[]⟩] 56) := Blk.old _ _ _ _
 have HL : Hid (Bv g w.heap.size w ((w.alloc (.cells #[.int .i64 0, .int .i64 0, .string ⟨#[]⟩] 56)).alloc (.cells #[.int .i64 1, .int .i64 2, .int .i64 3] 3))) := Bv.of (below2 _ _ _)
 have HC : Blk ((w.alloc (.cells #[.int .i64 0, .int .i64 0, .string ⟨#[]⟩] 56)).alloc (.cells #[.int .i64 1, .int .i64 2, .int .i64 3] 3)) (w.heap.size + 1) #[.int .i64 1, .int .i64 2, .int .i64 3] 3 := Blk.new2 _ _ _ _
 have HO := oneOf_any [1, 2, 3] (.slice (some ⟨w.heap.size + 1, 0, none⟩) 3 3) g l _ HA.out (fun X hX => ⟨w.heap.size + 1, 3, rfl, by simp, fun i x hx => by
  have hB := HC.bl hX (by omega)
  have hi := (List.getElem?_eq_some_iff.1 hx).1
  have : w.heap.size + 1 < X.heap.size := hB.lt
  rcases (show i = 0 ∨ i = 1 ∨ i = 2 by simp at hi; omega) with rfl | rfl | rfl
  all_goals (simp only [List.getElem?_cons_zero, List.getElem?_cons_succ, Option.some.injEq] at hx; subst hx; exact cell_of_row _ _ _ _ _ _ hB)⟩)
 clear h HC
 unfold rArg
 rcases hr : rOne [1, 2, 3] l with c | ⟨n, r⟩
 ·have HN : Hid (Calls Tryz.prog 149 #[.pointer (some ⟨g, 0, none⟩), .slice (some ⟨w.heap.size + 1, 0, none⟩) 3 3] _ fun e w' => e = .panicked [pE c] /\ Bv g _ _ w') := RdP.err HO hr
  simp only [Rd.and]
  clear HO
  go_enter Tryz.func148, Tryz.ntmps148
  go_wp2_with (go_at_call 149; refine HN.out.mono ?_; rintro e w1 ⟨rfl, hb⟩)
  exact ⟨rfl, HL.out.step hb, rfl⟩
 ·have HN : Hid (Calls Tryz.prog 149 #[.pointer (some ⟨g, 0, none⟩), .slice (some ⟨w.heap.size + 1, 0, none⟩) 3 3] _ fun e w' => ∃ v, e = .returned v /\ (v = .int .i64 n /\ n ∈ [1, 2, 3]) /\ RdS w' g r /\ Bv g _ _ w') := RdP.ok HO hr
  simp only [Rd.and]
  clear HO
  have hN := fun X hX hk => termOf_any n 0 hk g r X hX
  rcases hr2 : rTermOf n 0 r with c | ⟨t, r2⟩
  ·have HT : Hid (∀ X, RdS X g r -> (n = 0 ∨ n = 1 ∨ n = 2 ∨ n = 3) -> Calls Tryz.prog 150 #[.pointer (some ⟨g, 0, none⟩), .int .i64 n, .int .i64 0] X fun e w' => e = .panicked [pE c] /\ Bv g X.heap.size X w') := fun X hX hk => RdP.err (hN X hX hk) hr2
   clear hN
   go_enter Tryz.func148, Tryz.ntmps148
   go_wp2_with (first
    | (go_at_call 149; refine HN.out.mono ?_; rintro e w1 ⟨v1, rfl, ⟨rfl, hm⟩, hs, hb⟩; have HM : Hid (n ∈ [1, 2, 3]) := hm; have HB1 : Hid (Bv g w.heap.size w w1) := HL.out.step hb; have HS : Hid (RdS w1 g r) := hs; clear hm hs hb)
    | (go_at_call 150; refine (HT.out _ HS.out (by have := HM.out; simp at this; omega)).mono ?_; rintro e w2 ⟨rfl, hb⟩))
   exact ⟨rfl, HB1.out.step hb, rfl⟩
  ·have HT : Hid (∀ X, RdS X g r -> (n = 0 ∨ n = 1 ∨ n = 2 ∨ n = 3) -> Calls Tryz.prog 150 #[.pointer (some ⟨g, 0, none⟩), .int .i64 n, .int .i64 0] X fun e w' => ∃ v, e = .returned v /\ (v = t.v) /\ RdS w' g r2 /\ Bv g X.heap.size X w') := fun X hX hk => RdP.ok (hN X hX hk) hr2
   clear hN
   obtain ⟨tk, tn, ts⟩ := t
   go_enter Tryz.func148, Tryz.ntmps148
   go_wp2_with (first
    | (go_at_call 149; refine HN.out.mono ?_; rintro e w1 ⟨v1, rfl, ⟨rfl, hm⟩, hs, hb⟩; have HM : Hid (n ∈ [1, 2, 3]) := hm; have HB1 : Hid (Bv g w.heap.size w w1) := HL.out.step hb; have HS : Hid (RdS w1 g r) := hs; have HK1 : Hid (Blk w1 _ _ _) := HB.out.bl hb (by omega); clear hm hs hb)
    | (go_at_call 150; refine (HT.out _ HS.out (by have := HM.out; simp at this; omega)).mono ?_; rintro e w2 ⟨v2, rfl, rfl, hs, hb⟩; obtain ⟨r0, r1, r2, f0, f1, f2⟩ := three (HK1.out.bl hb (by omega)); have HB2 : Hid (Bv g w.heap.size w w2) := HB1.out.step hb; have HS2 : Hid (RdS w2 g _) := hs; clear hs hb))
   exact bodyPost_ret (v := Tm.v ⟨tk, tn, ts⟩) (by simp [results, Tryz.results148, go_sem, r0, r1, r2]) rfl ⟨bset3V HB2.out (Nat.le_refl _), _, rfl, rfl, ((HS2.out.off hlt).off hlt).off hlt⟩
end Go.Proofs.YtmbmchbninlhpaaGreatDoor
