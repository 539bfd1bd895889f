import Derived.Test.YtdfdnjkeiddfjaaDoorK28
import Derived.Test.YtdfdnjkeiddfjaaDoorK13
import Derived.Test.YtdfdnjkeiddfjaaDoorK24
/-
  There and back: a token's spelling is read as that token (plain).
-/
namespace Go.Proofs.YtdfdnjkeiddfjaaDoor

theorem bl_itB_pos (u : Nat) : blK (itB (u : Int)) = (Lib.decDigits u).map fun b => (b.toNat : Int) := by
  unfold itB blK; rw [Lib.itoa_nonneg]
theorem bl_itB_neg (u : Nat) (h : 1 ≤ u) : blK (itB (-(u : Int))) = 45 :: (Lib.decDigits u).map fun b => (b.toNat : Int) := by
  unfold itB blK; rw [Lib.itoa_neg u h]; rfl
theorem dec_rnb (u : Nat) : ∀ x ∈ (Lib.decDigits u).map (fun b => (b.toNat : Int)), rnb x = true ∧ dig x = true := by
  intro x hx
  simp only [List.mem_map] at hx
  obtain ⟨b, hb, rfl⟩ := hx
  have := (dec_dig u).1 b hb
  have hd : dig (b.toNat : Int) = true := by simp only [dig, Bool.and_eq_true, decide_eq_true_eq]; omega
  exact ⟨by simp [rnb, hd], hd⟩
theorem dig_not {c : Int} (h : dig c = true) : sml c = false ∧ grt c = false ∧ ¬ c = 45 := by
  simp only [dig, Bool.and_eq_true, decide_eq_true_eq] at h
  refine ⟨?_, ?_, by omega⟩
  · simp only [sml, Bool.and_eq_false_iff, decide_eq_false_iff_not]; omega
  · simp only [grt, Bool.or_eq_false_iff, Bool.and_eq_false_iff, decide_eq_false_iff_not]; omega
theorem tok_num {n : Int} {y : List Int} (h0 : -9223372036854775808 ≤ n) (h1 : n ≤ 9223372036854775807) (hy : rl y = 0) : tok (blK (itB n) ++ y) = .ok 4 [] n (itB n).size := by
  have hnum := num_itB n h0 h1
  have hlen : (blK (itB n)).length = (itB n).size := bl_len _
  have ht : (blK (itB n) ++ y).take (itB n).size = blK (itB n) := by rw [← hlen]; exact List.take_left
  by_cases hn : n < 0
  · obtain ⟨u, rfl⟩ : ∃ u : Nat, n = -(u : Int) := ⟨n.natAbs, by omega⟩
    have e := bl_itB_neg u (by omega)
    have hrl := rl_all ((Lib.decDigits u).map fun b => (b.toNat : Int)) y (fun x hx => (dec_rnb u x hx).1)
    rw [e] at hlen ht hnum ⊢
    simp only [List.length_cons] at hlen
    rw [List.cons_append] at ht ⊢
    rw [tok_minus (by decide) (by decide) rfl, hrl, hy, Nat.add_zero, show 1 + ((Lib.decDigits u).map fun b => (b.toNat : Int)).length = (itB (-(u : Int))).size by omega]
    exact numt_some (by rw [ht]; exact hnum)
  · obtain ⟨u, rfl⟩ : ∃ u : Nat, n = (u : Int) := ⟨n.toNat, by omega⟩
    have e := bl_itB_pos u
    have hall := dec_rnb u
    have hrl := rl_all ((Lib.decDigits u).map fun b => (b.toNat : Int)) y (fun x hx => (hall x hx).1)
    rw [← e] at hrl hall
    have hne : ¬ blK (itB (u : Int)) = [] := by rw [e]; simpa using (dec_dig u).2
    cases ec : blK (itB (u : Int)) with
    | nil => exact absurd ec hne
    | cons c r =>
      have hc := (hall c (by rw [ec]; simp)).2
      obtain ⟨d1, d2, d3⟩ := dig_not hc
      rw [ec] at hlen ht hnum hrl
      rw [List.cons_append] at ht hrl ⊢
      rw [tok_dig d1 d2 d3 hc, hrl, hy, Nat.add_zero, hlen]
      exact numt_some (by rw [ht]; exact hnum)
theorem sk_two (a b : Int) (ha : 0 ≤ a ∧ a ≤ 255) (hb : 0 ≤ b ∧ b ≤ 255) : sk (ofL [a, b]) = 0 ∨ (a = 58 ∧ b = 45) ∨ (a = 33 ∧ b = 61) ∨ (a = 60 ∧ b = 61) := by
  by_cases h : ∀ t ∈ signL, ¬ t = ofL [a, b]
  · exact Or.inl (skG_none _ _ _ h)
  · right
    simp only [Classical.not_forall, Decidable.not_not] at h
    obtain ⟨t, ht, e⟩ := h
    have e2 : blK t = [a, b] := by rw [e, bl_ofL (by intro x hx; simp at hx; omega)]
    have hl : (blK t).length = 2 := by rw [e2]; rfl
    simp only [signL, List.mem_cons, List.not_mem_nil, or_false] at ht
    rcases ht with rfl | rfl | rfl | rfl | rfl | rfl | rfl | rfl | rfl | rfl | rfl | rfl | rfl | rfl | rfl | rfl | rfl
    all_goals first
      | (exact absurd hl (by decide))
      | (have e3 : ([58, 45] : List Int) = [a, b] := e2; simp at e3; omega)
      | (have e3 : ([33, 61] : List Int) = [a, b] := e2; simp at e3; omega)
      | (have e3 : ([60, 61] : List Int) = [a, b] := e2; simp at e3; omega)
/-- A sign of one byte. -/
theorem tok_one {a : Int} {k : Nat} {y : List Int} (ha : 0 ≤ a ∧ a ≤ 255) (h1 : sml a = false) (h2 : grt a = false) (h3 : ¬ a = 45) (h4 : dig a = false) (h5 : ¬ a = 34) (hk : sk (ofL [a]) = k) (hk0 : ¬ k = 0)
    (hy : byt y) (hn : ∀ d r, y = d :: r → ¬ ((a = 58 ∧ d = 45) ∨ (a = 33 ∧ d = 61) ∨ (a = 60 ∧ d = 61))) : tok ([a] ++ y) = .ok (k : Int) [] 0 1 := by
  rw [List.singleton_append, tok_sign h1 h2 h3 h4 h5]
  unfold sgt
  have hone : sgF (a :: y) 1 = .ok (k : Int) [] 0 1 := by
    have e : ofL ((a :: y).take (0 + 1)) = ofL [a] := rfl
    rw [sgF_yes (m := 0) (by rw [e, hk]; exact hk0), e, hk]
  cases y with
  | nil => exact hone
  | cons d r =>
    have e : min 2 (a :: d :: r).length = 2 := by simp
    have hz : sk (ofL ((a :: d :: r).take (1 + 1))) = 0 := by
      rcases sk_two a d ha (hy d (by simp)) with h | h
      · exact h
      · exact absurd h (hn d r rfl)
    rw [e, sgF_no hz]; exact hone
theorem tok_two {a b : Int} {k : Nat} {y : List Int} (h1 : sml a = false) (h2 : grt a = false) (h3 : ¬ a = 45) (h4 : dig a = false) (h5 : ¬ a = 34) (hk : sk (ofL [a, b]) = k) (hk0 : ¬ k = 0) : tok ([a, b] ++ y) = .ok (k : Int) [] 0 2 := by
  show tok (a :: b :: y) = _
  rw [tok_sign h1 h2 h3 h4 h5]
  unfold sgt
  have e : min 2 (a :: b :: y).length = 2 := by simp
  have e2 : ofL ((a :: b :: y).take (1 + 1)) = ofL [a, b] := rfl
  rw [e, sgF_yes (m := 1) (by rw [e2, hk]; exact hk0), e2, hk]
end Go.Proofs.YtdfdnjkeiddfjaaDoor
/-
  A text's Quote, as its bytes are written (plain).
-/
namespace Go.Proofs.YtdfdnjkeiddfjaaDoor

theorem bl_qtB (s : ByteArray) : blK (qtB s) = 34 :: (rpl (fun i => kq (atK_ s i)) 0 (blK s) ++ [34]) := by
  have e : qtB s = ofL (qtl s s.size ++ [34]) := rfl
  rw [e, bl_ofL (fun x hx => ?_), qtl_rpl s s.size (Nat.le_refl _), List.take_of_length_le (by rw [bl_len]; exact Nat.le_refl _)]
  · rfl
  · rcases List.mem_append.1 hx with hx | hx
    · exact qtl_byt s _ x hx
    · simp at hx; omega
end Go.Proofs.YtdfdnjkeiddfjaaDoor
