import Derived.Test.YtdfdnjkeiddfjaaDoorK28
import Derived.Test.YtdfdnjkeiddfjaaDoorK13
import Derived.Test.YtdfdnjkeiddfjaaDoorK24
/-
  There and back: a token's spelling is read as that token (plain).
-/
namespace Go.Proofs.YtdfdnjkeiddfjaaDoor

theorem bl_itB_pos (u : Nat) : blK (itB (u : Int)) = (Lib.decDigits u).map fun b => (b.toNat : Int) := by
  unfold itB blK; rw [Lib.itoa_nonneg]
theorem bl_itB_neg (u : Nat) (h : 1 ≤ u) : blK (itB (-(u : Int))) = 45 :: (Lib.decDigits u).map fun b => (b.toNat : Int) := by
  unfold itB blK; rw [Lib.itoa_neg u h]; rfl
theorem dec_rnb (u : Nat) : ∀ x ∈ (Lib.decDigits u).map (fun b => (b.toNat : Int)), rnb x = true ∧ dig x = true := by
  intro x hx
  simp only [List.mem_map] at hx
  obtain ⟨b, hb, rfl⟩ := hx
  have := (dec_dig u).1 b hb
  have hd : dig (b.toNat : Int) = true := by simp only [dig, Bool.and_eq_true, decide_eq_true_eq]; omega
  exact ⟨by simp [rnb, hd], hd⟩
theorem dig_not {c : Int} (h : dig c = true) : sml c = false ∧ grt c = false ∧ ¬ c = 45 := by
  simp only [dig, Bool.and_eq_true, decide_eq_true_eq] at h
  refine ⟨?_, ?_, by omega⟩
  · simp only [sml, Bool.and_eq_false_iff, decide_eq_false_iff_not]; omega
  · simp only [grt, Bool.or_eq_false_iff, Bool.and_eq_false_iff, decide_eq_false_iff_not]; omega
theorem tok_num {n : Int} {y : List Int} (h0 : -9223372036854775808 ≤ n) (h1 : n ≤ 9223372036854775807) (hy : rl y = 0) : tok (blK (itB n) ++ y) = .ok 4 [] n (itB n).size := by
  have hnum := num_itB n h0 h1
  have hlen : (blK (itB n)).length = (itB n).size := bl_len _
  have ht : (blK (itB n) ++ y).take (itB n).size = blK (itB n) := by rw [← hlen]; exact List.take_left
  by_cases hn : n < 0
  · obtain ⟨u, rfl⟩ : ∃ u : Nat, n = -(u : Int) := ⟨n.natAbs, by omega⟩
    have e := bl_itB_neg u (by omega)
    have hrl := rl_all ((Lib.decDigits u).map fun b => (b.toNat : Int)) y (fun x hx => (dec_rnb u x hx).1)
    rw [e] at hlen ht hnum ⊢
    simp only [List.length_cons] at hlen
    rw [List.cons_append] at ht ⊢
    rw [tok_minus (by decide) (by decide) rfl, hrl, hy, Nat.add_zero, show 1 + ((Lib.decDigits u).map fun b => (b.toNat : Int)).length = (itB (-(u : Int))).size by omega]
    exact numt_some (by rw [ht]; exact hnum)
  · obtain ⟨u, rfl⟩ : ∃ u : Nat, n = (u : Int) := ⟨n.toNat, by omega⟩
    have e := bl_itB_pos u
    have hall := dec_rnb u
    have hrl := rl_all ((Lib.decDigits u).map fun b => (b.toNat : Int)) y (fun x hx => (hall x hx).1)
    rw [← e] at hrl hall
    have hne : ¬ blK (itB (u : Int)) = [] := by rw [e]; simpa using (dec_dig u).2
    cases ec : blK (itB (u : Int)) with
    | nil => exact absurd ec hne
    | cons c r =>
      have hc := (hall c (by rw [ec]; simp)).2
      obtain ⟨d1, d2, d3⟩ := dig_not hc
      rw [ec] at hlen ht hnum hrl
      rw [List.cons_append] at ht hrl ⊢
      rw [tok_dig d1 d2 d3 hc, hrl, hy, Nat.add_zero, hlen]
      exact numt_some (by rw [ht]; exact hnum)
theorem sk_two (a b : Int) (ha : 0 ≤ a ∧ a ≤ 255) (hb : 0 ≤ b ∧ b ≤ 255) : sk (ofL [a, b]) = 0 ∨ (a = 58 ∧ b = 45) ∨ (a = 33 ∧ b = 61) ∨ (a = 60 ∧ b = 61) := by
  by_cases h : ∀ t ∈ signL, ¬ t = ofL [a, b]
  · exact Or.inl (skG_none _ _ _ h)
  · right
    simp only [Classical.not_forall, Decidable.not_not] at h
    obtain ⟨t, ht, e⟩ := h
    have e2 : blK t = [a, b] := by rw [e, bl_ofL (by intro x hx; simp at hx; omega)]
    have hl : (blK t).length = 2 := by rw [e2]; rfl
    simp only [signL, List.mem_cons, List.not_mem_nil, or_false] at ht
    rcases ht with rfl | rfl | rfl | rfl | rfl | rfl | rfl | rfl | rfl | rfl | rfl | rfl | rfl | rfl | rfl | rfl | rfl
    all_goals first
      | (exact absurd hl (by decide))
      | (have e3 : ([58, 45] : List Int) = [a, b] := e2; simp at e3; omega)
      | (have e3 : ([33, 61] : List Int) = [a, b] := e2; simp at e3; omega)
      | (have e3 : ([60, 61] : List Int) = [a, b] := e2; simp at e3; omega)
/-- A sign of one byte. -/
theorem tok_one {a : Int} {k : Nat} {y : List Int} (ha : 0 ≤ a ∧ a ≤ 255) (h1 : sml a = false) (h2 : grt a = false) (h3 : ¬ a = 45) (h4 : dig a = false) (h5 : ¬ a = 34) (hk : sk (ofL [a]) = k) (hk0 : ¬ k = 0)
    (hy : byt y) (hn : ∀ d r, y = d :: r → ¬ ((a = 58 ∧ d = 45) ∨ (a = 33 ∧ d = 61) ∨ (a = 60 ∧ d = 61))) : tok ([a] ++ y) = .ok (k : Int) [] 0 1 := by
  rw [List.singleton_append, tok_sign h1 h2 h3 h4 h5]
  unfold sgt
  have hone : sgF (a :: y) 1 = .ok (k : Int) [] 0 1 := by
    have e : ofL ((a :: y).take (0 + 1)) = ofL [a] := rfl
    rw [sgF_yes (m := 0) (by rw [e, hk]; exact hk0), e, hk]
  cases y with
  | nil => exact hone
  | cons d r =>
    have e : min 2 (a :: d :: r).length = 2 := by simp
    have hz : sk (ofL ((a :: d :: r).take (1 + 1))) = 0 := by
      rcases sk_two a d ha (hy d (by simp)) with h | h
      · exact h
      · exact absurd h (hn d r rfl)
    rw [e, sgF_no hz]; exact hone
theorem tok_two {a b : Int} {k : Nat} {y : List Int} (h1 : sml a = false) (h2 : grt a = false) (h3 : ¬ a = 45) (h4 : dig a = false) (h5 : ¬ a = 34) (hk : sk (ofL [a, b]) = k) (hk0 : ¬ k = 0) : tok ([a, b] ++ y) = .ok (k : Int) [] 0 2 := by
  show tok (a :: b :: y) = _
  rw [tok_sign h1 h2 h3 h4 h5]
  unfold sgt
  have e : min 2 (a :: b :: y).length = 2 := by simp
  have e2 : ofL ((a :: b :: y).take (1 + 1)) = ofL [a, b] := rfl
  rw [e, sgF_yes (m := 1) (by rw [e2, hk]; exact hk0), e2, hk]
end Go.Proofs.YtdfdnjkeiddfjaaDoor
/-
  A text's Quote, as its bytes are written (plain).
-/
namespace Go.Proofs.YtdfdnjkeiddfjaaDoor

theorem bl_qtB (s : ByteArray) : blK (qtB s) = 34 :: (rpl (fun i => kq (atK_ s i)) 0 (blK s) ++ [34]) := by
  have e : qtB s = ofL (qtl s s.size ++ [34]) := rfl
  rw [e, bl_ofL (fun x hx => ?_), qtl_rpl s s.size (Nat.le_refl _), List.take_of_length_le (by rw [bl_len]; exact Nat.le_refl _)]
  · rfl
  · rcases List.mem_append.1 hx with hx | hx
    · exact qtl_byt s _ x hx
    · simp at hx; omega
end Go.Proofs.YtdfdnjkeiddfjaaDoor
/-
  There and back: every token that has a spelling (plain).
-/
namespace Go.Proofs.YtdfdnjkeiddfjaaDoor

/-- What may stand behind a token's spelling without being read with it. -/
def stp (t : Tk) (y : List Int) : Prop := (enr t.k = true → rl y = 0) ∧ (t.k = 15 → ∀ r, ¬ y = 61 :: r)
/-- The bytes of a token's text. -/
def tbs (t : Tk) : List Int := if t.k = 1 ∨ t.k = 2 ∨ t.k = 3 then blK t.x else []
theorem sgo_rng {k : Int} (h : ¬ sgo k = ⟨#[]⟩) : 5 ≤ k ∧ k ≤ 16 := by
  by_cases h0 : 0 ≤ k
  · by_cases h1 : k < 17
    · by_cases h2 : 5 ≤ k
      · omega
      · have : k = 0 ∨ k = 1 ∨ k = 2 ∨ k = 3 ∨ k = 4 := by omega
        rcases this with rfl | rfl | rfl | rfl | rfl <;> exact absurd rfl h
    · refine absurd ?_ h
      unfold sgo; rw [if_pos h0, List.getElem?_eq_none (by rw [signL_len]; omega)]; rfl
  · refine absurd ?_ h
    unfold sgo; rw [if_neg h0]
theorem tok_spl {t : Tk} {s : ByteArray} {y : List Int} (hs : spl t = some s) (ho : okt t) (hy : stp t y) (hb : byt y) : tok (blK s ++ y) = .ok t.k (tbs t) t.n s.size ∧ t.x = ofL (tbs t) := by
  obtain ⟨k, x, n, a, e⟩ := t
  unfold spl at hs
  simp only at hs hy ⊢
  by_cases q1 : k = 1
  · rw [if_pos q1] at hs
    by_cases q : wrd x = true ∧ n = 0
    · rw [if_pos q] at hs
      cases hs
      subst q1
      obtain ⟨hw, rfl⟩ := q
      exact ⟨tok_word hw (hy.1 rfl), by show s = ofL (blK s); rw [ofL_bl]⟩
    · rw [if_neg q] at hs; cases hs
  · rw [if_neg q1] at hs
    by_cases q2 : k = 2
    · rw [if_pos q2] at hs
      by_cases q : vrb x = true ∧ n = 0
      · rw [if_pos q] at hs
        cases hs
        subst q2
        obtain ⟨hw, rfl⟩ := q
        exact ⟨tok_var hw (hy.1 rfl), by show s = ofL (blK s); rw [ofL_bl]⟩
      · rw [if_neg q] at hs; cases hs
    · rw [if_neg q2] at hs
      by_cases q3 : k = 3
      · rw [if_pos q3] at hs
        by_cases q : n = 0
        · rw [if_pos q] at hs
          cases hs
          subst q3 q
          refine ⟨?_, by show x = ofL (blK x); rw [ofL_bl]⟩
          have hl : (qtB x).size = (rpl (fun i => kq (atK_ x i)) 0 (blK x)).length + 2 := by rw [← bl_len, bl_qtB]; simp
          rw [bl_qtB, tok_quoted, hl]; rfl
        · rw [if_neg q] at hs; cases hs
      · rw [if_neg q3] at hs
        by_cases q4 : k = 4
        · rw [if_pos q4] at hs
          by_cases q : x = ⟨#[]⟩
          · rw [if_pos q] at hs
            cases hs
            subst q4 q
            exact ⟨tok_num ho.2.1 ho.2.2 (hy.1 rfl), rfl⟩
          · rw [if_neg q] at hs; cases hs
        · rw [if_neg q4] at hs
          by_cases q : ¬ sgo k = ⟨#[]⟩ ∧ x = ⟨#[]⟩ ∧ n = 0
          · rw [if_pos q] at hs
            cases hs
            obtain ⟨hg, rfl, rfl⟩ := q
            have hr := sgo_rng hg
            have hk : k = 5 ∨ k = 6 ∨ k = 7 ∨ k = 8 ∨ k = 9 ∨ k = 10 ∨ k = 11 ∨ k = 12 ∨ k = 13 ∨ k = 14 ∨ k = 15 ∨ k = 16 := by omega
            clear hg hr q1 q2 q3 q4
            rcases hk with rfl | rfl | rfl | rfl | rfl | rfl | rfl | rfl | rfl | rfl | rfl | rfl
            · refine ⟨?_, rfl⟩
              have hrl : rl ([115, 97, 121, 115] ++ y) = 4 := by rw [rl_all _ _ (by decide), hy.1 rfl]; rfl
              show tok (115 :: ([97, 121, 115] ++ y)) = _
              have e1 : (115 : Int) :: ([97, 121, 115] ++ y) = [115, 97, 121, 115] ++ y := rfl
              rw [tok_small (by decide), e1, hrl]
              show (if ofL [115, 97, 121, 115] = saysB then TR.ok 5 [] 0 4 else _) = _
              rw [if_pos (by rfl)]; rfl
            · exact ⟨tok_one (a := 40) (k := 6) (by omega) (by decide) (by decide) (by decide) (by decide) (by decide) (by decide) (by decide) hb (fun d r _ => by omega), rfl⟩
            · exact ⟨tok_one (a := 41) (k := 7) (by omega) (by decide) (by decide) (by decide) (by decide) (by decide) (by decide) (by decide) hb (fun d r _ => by omega), rfl⟩
            · exact ⟨tok_one (a := 44) (k := 8) (by omega) (by decide) (by decide) (by decide) (by decide) (by decide) (by decide) (by decide) hb (fun d r _ => by omega), rfl⟩
            · exact ⟨tok_one (a := 59) (k := 9) (by omega) (by decide) (by decide) (by decide) (by decide) (by decide) (by decide) (by decide) hb (fun d r _ => by omega), rfl⟩
            · exact ⟨tok_one (a := 46) (k := 10) (by omega) (by decide) (by decide) (by decide) (by decide) (by decide) (by decide) (by decide) hb (fun d r _ => by omega), rfl⟩
            · exact ⟨tok_two (a := 58) (b := 45) (k := 11) (by decide) (by decide) (by decide) (by decide) (by decide) (by decide) (by decide), rfl⟩
            · exact ⟨tok_one (a := 63) (k := 12) (by omega) (by decide) (by decide) (by decide) (by decide) (by decide) (by decide) (by decide) hb (fun d r _ => by omega), rfl⟩
            · exact ⟨tok_one (a := 61) (k := 13) (by omega) (by decide) (by decide) (by decide) (by decide) (by decide) (by decide) (by decide) hb (fun d r _ => by omega), rfl⟩
            · exact ⟨tok_two (a := 33) (b := 61) (k := 14) (by decide) (by decide) (by decide) (by decide) (by decide) (by decide) (by decide), rfl⟩
            · exact ⟨tok_one (a := 60) (k := 15) (by omega) (by decide) (by decide) (by decide) (by decide) (by decide) (by decide) (by decide) hb (fun d r hd h => by have := hy.2 rfl; rcases h with h | h | h; omega; omega; exact this r (by rw [hd, h.2])), rfl⟩
            · exact ⟨tok_two (a := 60) (b := 61) (k := 16) (by decide) (by decide) (by decide) (by decide) (by decide) (by decide) (by decide), rfl⟩
          · rw [if_neg q] at hs; cases hs
end Go.Proofs.YtdfdnjkeiddfjaaDoor
