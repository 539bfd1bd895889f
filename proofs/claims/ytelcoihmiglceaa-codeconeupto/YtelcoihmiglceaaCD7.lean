/-
  The codec reads: bounded, oneOf, natural, text.
-/
import Derived.Test.YtelcoihmiglceaaCD6
namespace Go.Proofs.Ytelcoihmiglceaa
open Go.RowKit

set_option maxRecDepth 20000 in
set_option maxHeartbeats 1000000 in
theorem bounded_any (lo hi : Int) (g : Nat) (l : List Int) (w : World) (h : RdS w g l) :
    Calls Try.prog 65 #[.pointer (some ⟨g, 0, none⟩), .int .i64 lo, .int .i64 hi] w (RdP g w (fun n v _ => v = .int .i64 n ∧ lo ≤ n ∧ n ≤ hi ∧ 0 ≤ n ∧ n ≤ 255) (rBnd lo hi l)) := by
  have hN := number_any 1 (by omega) g l w h
  unfold rBnd
  rcases hr : rNum 1 l with c | ⟨n, r⟩
  · have HN : Hid (Calls Try.prog 87 #[.pointer (some ⟨g, 0, none⟩), .int .i64 1] w fun e w' => e = .panicked [pE c] ∧ Bv g w.heap.size w w') := RdP.err hN hr
    clear hN h
    simp only [Rd.and]
    go_enter Try.func65, Try.ntmps65
    go_wp2_with (go_at_call 87; refine HN.out.mono ?_; rintro e w1 ⟨rfl, hb⟩)
    exact ⟨rfl, hb, rfl⟩
  · have HN : Hid (Calls Try.prog 87 #[.pointer (some ⟨g, 0, none⟩), .int .i64 1] w fun e w' => ∃ v, e = .returned v ∧ (v = .int .u64 n ∧ 0 ≤ n ∧ n < (256 : Int) ^ 1) ∧ RdS w' g r ∧ Bv g w.heap.size w w') := RdP.ok hN hr
    clear hN h
    simp only [Rd.and]
    by_cases h1 : n < lo
    · rw [if_pos (Or.inl h1)]
      go_enter Try.func65, Try.ntmps65
      go_wp2_with (first
        | (go_at_call 87; refine HN.out.mono ?_; rintro e w1 ⟨v, rfl, ⟨rfl, h0, h9⟩, hs, hb⟩; have h9' : n ≤ 255 := (by simpa using Int.le_of_lt_add_one h9); have HB : Hid (Bv g w.heap.size w w1) := hb; clear h9 hs hb)
        | (go_at_call 63; refine (giveUp_any 63 _).mono ?_; rintro e w2 ⟨rfl, rfl⟩))
      exact ⟨rfl, HB.out, rfl⟩
    · by_cases h2 : hi < n
      · rw [if_pos (Or.inr h2)]
        go_enter Try.func65, Try.ntmps65
        go_wp2_with (first
          | (go_at_call 87; refine HN.out.mono ?_; rintro e w1 ⟨v, rfl, ⟨rfl, h0, h9⟩, hs, hb⟩; have h9' : n ≤ 255 := (by simpa using Int.le_of_lt_add_one h9); have HB : Hid (Bv g w.heap.size w w1) := hb; clear h9 hs hb)
          | (go_at_call 63; refine (giveUp_any 63 _).mono ?_; rintro e w2 ⟨rfl, rfl⟩))
        exact ⟨rfl, HB.out, rfl⟩
      · rw [if_neg (fun h => h.elim h1 h2)]
        go_enter Try.func65, Try.ntmps65
        go_wp2_with (go_at_call 87; refine HN.out.mono ?_; rintro e w1 ⟨v, rfl, ⟨rfl, h0, h9⟩, hs, hb⟩; have h9' : n ≤ 255 := (by simpa using Int.le_of_lt_add_one h9); have HB : Hid (Bv g w.heap.size w w1) := hb; have HS : Hid (RdS w1 g r) := hs; clear h9 hs hb)
        go_ret
        exact ⟨HB.out, _, rfl, ⟨rfl, by omega, by omega, by omega, by omega⟩, HS.out⟩
/-- Numbers in memory. -/
def Nm_ (w : World) (v : Value) (cs : List Int) : Prop := ∃ b cap, v = .slice (some ⟨b, 0, none⟩) cs.length cap ∧ cs.length ≤ 100 ∧ ∀ (i : Nat) (x : Int), cs[i]? = some x → w.cell? ⟨b, i, none⟩ = some (.int .i64 x)
set_option maxRecDepth 20000 in
set_option maxHeartbeats 1000000 in
theorem indexI_any (cs : List Int) (v : Value) (n : Int) (w : World) (h : Nm_ w v cs) :
    Calls Try.prog 107 #[v, .int .i64 n] w fun e w' => w' = w ∧ ∃ k : Int, e = .returned (.int .i64 k) ∧ (0 ≤ k ↔ n ∈ cs) := by
  obtain ⟨b, cap, rfl, h100, hc⟩ := h
  have HC : Hid (∀ (i : Nat) (x : Int), cs[i]? = some x → w.cell? ⟨b, i, none⟩ = some (.int .i64 x)) := hc
  clear hc
  go_enter Try.func107, Try.ntmps107
  go_wp2
  go_loopg [8] cs.length (fun j' i wr => wr = w ∧ ∃ j : Nat, j + j' = cs.length ∧ i = .int .i64 j ∧ n ∉ cs.take j)
  case atStart => exact ⟨rfl, 0, by omega, rfl, by simp⟩
  case round =>
    obtain ⟨rfl, j, hj, rfl, hno⟩ := hrel
    have HN : Hid (n ∉ cs.take j) := hno
    clear hno
    cases gk with
    | succ g' =>
      have hlt : j < cs.length := by omega
      obtain ⟨x, hx⟩ : ∃ x, cs[j]? = some x := ⟨_, List.getElem?_eq_getElem hlt⟩
      have c0 := HC.out j x hx
      have i1 : (0 : Int) ≤ (j : Int) := by omega
      have i2 : (j : Int) < (cs.length : Int) := by omega
      have HX : Hid (cs[j]? = some x) := hx
      clear hx
      by_cases he : n = x
      · subst he
        go_wp2
        go_ret
        exact ⟨rfl, _, rfl, ⟨fun _ => List.mem_of_getElem? HX.out, fun _ => by omega⟩⟩
      · have he' : (n == x) = false := beq_eq_false_iff_ne.2 he
        have HE : Hid (n ≠ x) := he
        clear he
        go_wp2
        go_roundg g'
        case measure => omega
        case rel =>
          refine ⟨rfl, j + 1, by omega, by go_num, ?_⟩
          rw [List.take_add_one, HX.out]
          intro hm
          rcases List.mem_append.1 hm with hm | hm
          · exact HN.out hm
          · simp at hm; exact HE.out hm
    | zero =>
      obtain rfl : j = cs.length := by omega
      have hz : ¬ ((cs.length : Int) < (cs.length : Int)) := by omega
      go_wp2
      go_ret
      refine ⟨rfl, _, rfl, ⟨fun h => by omega, fun h => ?_⟩⟩
      have := HN.out
      rw [List.take_length] at this
      exact absurd h this
set_option maxRecDepth 20000 in
set_option maxHeartbeats 1000000 in
theorem contI_any (cs : List Int) (v : Value) (n : Int) (w : World) (h : Nm_ w v cs) :
    Calls Try.prog 102 #[v, .int .i64 n] w fun e w' => e = .returned (.bool (decide (n ∈ cs))) ∧ w' = w := by
  have HI : Hid (Calls Try.prog 107 #[v, .int .i64 n] w fun e w' => w' = w ∧ ∃ k : Int, e = .returned (.int .i64 k) ∧ (0 ≤ k ↔ n ∈ cs)) := indexI_any cs v n w h
  clear h
  by_cases hm : n ∈ cs
  · rw [decide_eq_true hm]
    go_enter Try.func102, Try.ntmps102
    go_wp2_with (go_at_call 107; refine HI.out.mono ?_; rintro e w1 ⟨rfl, k, rfl, hk⟩; have hk' := hk.2 hm; clear hk)
    go_ret
    exact ⟨rfl, rfl⟩
  · rw [decide_eq_false hm]
    go_enter Try.func102, Try.ntmps102
    go_wp2_with (go_at_call 107; refine HI.out.mono ?_; rintro e w1 ⟨rfl, k, rfl, hk⟩; have hk' : ¬ 0 ≤ k := fun h => hm (hk.1 h); clear hk)
    go_ret
    exact ⟨ret_b (decide_eq_false (by omega)), rfl⟩
set_option maxRecDepth 20000 in
set_option maxHeartbeats 1000000 in
theorem oneOf_any (cs : List Int) (v : Value) (g : Nat) (l : List Int) (w : World) (h : RdS w g l) (hv : ∀ X, Bv g w.heap.size w X → Nm_ X v cs) :
    Calls Try.prog 88 #[.pointer (some ⟨g, 0, none⟩), v] w (RdP g w (fun n u _ => u = .int .i64 n ∧ n ∈ cs) (rOne cs l)) := by
  have hN := number_any 1 (by omega) g l w h
  unfold rOne
  rcases hr : rNum 1 l with c | ⟨n, r⟩
  · have HN : Hid (Calls Try.prog 87 #[.pointer (some ⟨g, 0, none⟩), .int .i64 1] w fun e w' => e = .panicked [pE c] ∧ Bv g w.heap.size w w') := RdP.err hN hr
    clear hN h
    simp only [Rd.and]
    go_enter Try.func88, Try.ntmps88
    go_wp2_with (go_at_call 87; refine HN.out.mono ?_; rintro e w1 ⟨rfl, hb⟩)
    exact ⟨rfl, hb, rfl⟩
  · have HN : Hid (Calls Try.prog 87 #[.pointer (some ⟨g, 0, none⟩), .int .i64 1] w fun e w' => ∃ v, e = .returned v ∧ (v = .int .u64 n ∧ 0 ≤ n ∧ n < (256 : Int) ^ 1) ∧ RdS w' g r ∧ Bv g w.heap.size w w') := RdP.ok hN hr
    have HC : Hid (∀ X, Bv g w.heap.size w X → Calls Try.prog 102 #[v, .int .i64 n] X fun e w' => e = .returned (.bool (decide (n ∈ cs))) ∧ w' = X) := fun X hX => contI_any cs v n X (hv X hX)
    clear hN h hv
    simp only [Rd.and]
    by_cases hm : n ∈ cs
    · rw [if_pos hm]
      rw [decide_eq_true hm] at HC
      go_enter Try.func88, Try.ntmps88
      go_wp2_with (first
        | (go_at_call 87; refine HN.out.mono ?_; rintro e w1 ⟨v1, rfl, ⟨rfl, h0, h9⟩, hs, hb⟩; have h9' : n ≤ 255 := (by simpa using Int.le_of_lt_add_one h9); have HB : Hid (Bv g w.heap.size w w1) := hb; have HS : Hid (RdS w1 g r) := hs; clear h9 hs hb)
        | (go_at_call 102; refine (HC.out _ HB.out).mono ?_; rintro e w2 ⟨rfl, rfl⟩))
      go_ret
      exact ⟨HB.out, _, rfl, ⟨rfl, hm⟩, HS.out⟩
    · rw [if_neg hm]
      rw [decide_eq_false hm] at HC
      go_enter Try.func88, Try.ntmps88
      go_wp2_with (first
        | (go_at_call 87; refine HN.out.mono ?_; rintro e w1 ⟨v1, rfl, ⟨rfl, h0, h9⟩, hs, hb⟩; have h9' : n ≤ 255 := (by simpa using Int.le_of_lt_add_one h9); have HB : Hid (Bv g w.heap.size w w1) := hb; clear h9 hs hb)
        | (go_at_call 102; refine (HC.out _ HB.out).mono ?_; rintro e w2 ⟨rfl, rfl⟩)
        | (go_at_call 63; refine (giveUp_any 63 _).mono ?_; rintro e w2 ⟨rfl, rfl⟩))
      exact ⟨rfl, HB.out, rfl⟩
set_option maxRecDepth 20000 in
set_option maxHeartbeats 1000000 in
theorem natural_any (g : Nat) (l : List Int) (w : World) (h : RdS w g l) :
    Calls Try.prog 103 #[.pointer (some ⟨g, 0, none⟩)] w (RdP g w (fun n u _ => u = .int .i64 n) (rNat l)) := by
  have hN := number_any 8 (by omega) g l w h
  unfold rNat
  rcases hr : rNum 8 l with c | ⟨n, r⟩
  · have HN : Hid (Calls Try.prog 87 #[.pointer (some ⟨g, 0, none⟩), .int .i64 8] w fun e w' => e = .panicked [pE c] ∧ Bv g w.heap.size w w') := RdP.err hN hr
    clear hN h
    simp only [Rd.and]
    go_enter Try.func103, Try.ntmps103
    go_wp2_with (go_at_call 87; refine HN.out.mono ?_; rintro e w1 ⟨rfl, hb⟩)
    exact ⟨rfl, hb, rfl⟩
  · have HN : Hid (Calls Try.prog 87 #[.pointer (some ⟨g, 0, none⟩), .int .i64 8] w fun e w' => ∃ v, e = .returned v ∧ (v = .int .u64 n ∧ 0 ≤ n ∧ n < (256 : Int) ^ 8) ∧ RdS w' g r ∧ Bv g w.heap.size w w') := RdP.ok hN hr
    clear hN h
    simp only [Rd.and]
    by_cases hm : 9223372036854775807 < n
    · rw [if_pos hm]
      go_enter Try.func103, Try.ntmps103
      go_wp2_with (first
        | (go_at_call 87; refine HN.out.mono ?_; rintro e w1 ⟨v1, rfl, ⟨rfl, h0, h9⟩, hs, hb⟩; have HB : Hid (Bv g w.heap.size w w1) := hb; clear h9 hs hb)
        | (go_at_call 63; refine (giveUp_any 63 _).mono ?_; rintro e w2 ⟨rfl, rfl⟩))
      exact ⟨rfl, HB.out, rfl⟩
    · rw [if_neg hm]
      go_enter Try.func103, Try.ntmps103
      go_wp2_with (go_at_call 87; refine HN.out.mono ?_; rintro e w1 ⟨v1, rfl, ⟨rfl, h0, h9⟩, hs, hb⟩; have HB : Hid (Bv g w.heap.size w w1) := hb; have HS : Hid (RdS w1 g r) := hs; clear h9 hs hb)
      go_ret
      exact ⟨HB.out, _, rfl, rfl, HS.out⟩
set_option maxRecDepth 20000 in
set_option maxHeartbeats 1000000 in
theorem rtext_any (lo hi : Int) (g : Nat) (l : List Int) (w : World) (h : RdS w g l) :
    Calls Try.prog 95 #[.pointer (some ⟨g, 0, none⟩), .int .i64 lo, .int .i64 hi] w (RdP g w (fun s v _ => v = .string s) (rText lo hi l)) := by
  have hN := bounded_any lo hi g l w h
  unfold rText
  rcases hr : rBnd lo hi l with c | ⟨n, r⟩
  · have HN : Hid (Calls Try.prog 65 #[.pointer (some ⟨g, 0, none⟩), .int .i64 lo, .int .i64 hi] w fun e w' => e = .panicked [pE c] ∧ Bv g w.heap.size w w') := RdP.err hN hr
    clear hN h
    simp only [Rd.and]
    go_enter Try.func95, Try.ntmps95
    go_wp2_with (go_at_call 65; refine HN.out.mono ?_; rintro e w1 ⟨rfl, hb⟩)
    exact ⟨rfl, hb, rfl⟩
  · have HN : Hid (Calls Try.prog 65 #[.pointer (some ⟨g, 0, none⟩), .int .i64 lo, .int .i64 hi] w fun e w' => ∃ v, e = .returned v ∧ (v = .int .i64 n ∧ lo ≤ n ∧ n ≤ hi ∧ 0 ≤ n ∧ n ≤ 255) ∧ RdS w' g r ∧ Bv g w.heap.size w w') := RdP.ok hN hr
    clear hN h
    simp only [Rd.and, rTake]
    by_cases hm : r.length < n.toNat
    · rw [if_pos hm]
      simp only
      have HT : Hid (∀ X, RdS X g r → 0 ≤ n → Calls Try.prog 101 #[.pointer (some ⟨g, 0, none⟩), .int .i64 n] X fun e w' => e = .panicked [pE 61] ∧ w' = X) := fun X hX h0 => by
        have := take_no n.toNat g r X hX hm
        rwa [Int.toNat_of_nonneg h0] at this
      go_enter Try.func95, Try.ntmps95
      go_wp2_with (first
        | (go_at_call 65; refine HN.out.mono ?_; rintro e w1 ⟨v, rfl, ⟨rfl, -, -, h0, h9⟩, hs, hb⟩; have HB : Hid (Bv g w.heap.size w w1) := hb; have HS : Hid (RdS w1 g r) := hs; clear hs hb)
        | (go_at_call 101; refine (HT.out _ HS.out h0).mono ?_; rintro e w2 ⟨rfl, rfl⟩))
      exact ⟨rfl, HB.out, rfl⟩
    · rw [if_neg hm]
      simp only
      have HT : Hid (∀ X, RdS X g r → 0 ≤ n → Calls Try.prog 101 #[.pointer (some ⟨g, 0, none⟩), .int .i64 n] X fun e w' => ∃ v, e = .returned v ∧ Bg g w' v (r.take n.toNat) ∧ RdS w' g (r.drop n.toNat) ∧ Bv g X.heap.size X w') := fun X hX h0 => by
        have := take_ok n.toNat g r X hX (by omega)
        rwa [Int.toNat_of_nonneg h0] at this
      go_enter Try.func95, Try.ntmps95
      go_wp2_with (first
        | (go_at_call 65; refine HN.out.mono ?_; rintro e w1 ⟨v, rfl, ⟨rfl, -, -, h0, h9⟩, hs, hb⟩; have HB : Hid (Bv g w.heap.size w w1) := hb; have HS : Hid (RdS w1 g r) := hs; clear hs hb)
        | (go_at_call 101; refine (HT.out _ HS.out h0).mono ?_; rintro e w2 ⟨v2, rfl, hg2, hs2, hb2⟩; have hcv := conv_bn hg2.bn (fun x hx => HS.out.1 x (List.mem_of_mem_take hx)); have HB2 : Hid (Bv g w.heap.size w w2) := HB.out.step hb2; have HS2 : Hid (RdS w2 g (r.drop n.toNat)) := hs2; clear hs2 hb2 hg2))
      go_ret
      exact ⟨HB2.out, _, rfl, rfl, HS2.out⟩
end Go.Proofs.Ytelcoihmiglceaa
