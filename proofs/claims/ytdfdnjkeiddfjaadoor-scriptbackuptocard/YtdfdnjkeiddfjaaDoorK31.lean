import Derived.Test.YtdfdnjkeiddfjaaDoorK24B
/-
  There and back: every token that has a spelling (plain).
-/
namespace Go.Proofs.YtdfdnjkeiddfjaaDoor

/-- What may stand behind a token's spelling without being read with it. -/
def stp (t : Tk) (y : List Int) : Prop := (enr t.k = true → rl y = 0) ∧ (t.k = 15 → ∀ r, ¬ y = 61 :: r)
/-- The bytes of a token's text. -/
def tbs (t : Tk) : List Int := if t.k = 1 ∨ t.k = 2 ∨ t.k = 3 then blK t.x else []
theorem sgo_rng {k : Int} (h : ¬ sgo k = ⟨#[]⟩) : 5 ≤ k ∧ k ≤ 16 := by
  by_cases h0 : 0 ≤ k
  · by_cases h1 : k < 17
    · by_cases h2 : 5 ≤ k
      · omega
      · have : k = 0 ∨ k = 1 ∨ k = 2 ∨ k = 3 ∨ k = 4 := by omega
        rcases this with rfl | rfl | rfl | rfl | rfl <;> exact absurd rfl h
    · refine absurd ?_ h
      unfold sgo; rw [if_pos h0, List.getElem?_eq_none (by rw [signL_len]; omega)]; rfl
  · refine absurd ?_ h
    unfold sgo; rw [if_neg h0]
theorem tok_spl {t : Tk} {s : ByteArray} {y : List Int} (hs : spl t = some s) (ho : okt t) (hy : stp t y) (hb : byt y) : tok (blK s ++ y) = .ok t.k (tbs t) t.n s.size ∧ t.x = ofL (tbs t) := by
  obtain ⟨k, x, n, a, e⟩ := t
  unfold spl at hs
  simp only at hs hy ⊢
  by_cases q1 : k = 1
  · rw [if_pos q1] at hs
    by_cases q : wrd x = true ∧ n = 0
    · rw [if_pos q] at hs
      cases hs
      subst q1
      obtain ⟨hw, rfl⟩ := q
      exact ⟨tok_word hw (hy.1 rfl), by show s = ofL (blK s); rw [ofL_bl]⟩
    · rw [if_neg q] at hs; cases hs
  · rw [if_neg q1] at hs
    by_cases q2 : k = 2
    · rw [if_pos q2] at hs
      by_cases q : vrb x = true ∧ n = 0
      · rw [if_pos q] at hs
        cases hs
        subst q2
        obtain ⟨hw, rfl⟩ := q
        exact ⟨tok_var hw (hy.1 rfl), by show s = ofL (blK s); rw [ofL_bl]⟩
      · rw [if_neg q] at hs; cases hs
    · rw [if_neg q2] at hs
      by_cases q3 : k = 3
      · rw [if_pos q3] at hs
        by_cases q : n = 0
        · rw [if_pos q] at hs
          cases hs
          subst q3 q
          refine ⟨?_, by show x = ofL (blK x); rw [ofL_bl]⟩
          have hl : (qtB x).size = (rpl (fun i => kq (atK_ x i)) 0 (blK x)).length + 2 := by rw [← bl_len, bl_qtB]; simp
          rw [bl_qtB, tok_quoted, hl]; rfl
        · rw [if_neg q] at hs; cases hs
      · rw [if_neg q3] at hs
        by_cases q4 : k = 4
        · rw [if_pos q4] at hs
          by_cases q : x = ⟨#[]⟩
          · rw [if_pos q] at hs
            cases hs
            subst q4 q
            exact ⟨tok_num ho.2.1 ho.2.2 (hy.1 rfl), rfl⟩
          · rw [if_neg q] at hs; cases hs
        · rw [if_neg q4] at hs
          by_cases q : ¬ sgo k = ⟨#[]⟩ ∧ x = ⟨#[]⟩ ∧ n = 0
          · rw [if_pos q] at hs
            cases hs
            obtain ⟨hg, rfl, rfl⟩ := q
            have hr := sgo_rng hg
            have hk : k = 5 ∨ k = 6 ∨ k = 7 ∨ k = 8 ∨ k = 9 ∨ k = 10 ∨ k = 11 ∨ k = 12 ∨ k = 13 ∨ k = 14 ∨ k = 15 ∨ k = 16 := by omega
            clear hg hr q1 q2 q3 q4
            rcases hk with rfl | rfl | rfl | rfl | rfl | rfl | rfl | rfl | rfl | rfl | rfl | rfl
            · refine ⟨?_, rfl⟩
              have hrl : rl ([115, 97, 121, 115] ++ y) = 4 := by rw [rl_all _ _ (by decide), hy.1 rfl]; rfl
              show tok (115 :: ([97, 121, 115] ++ y)) = _
              have e1 : (115 : Int) :: ([97, 121, 115] ++ y) = [115, 97, 121, 115] ++ y := rfl
              rw [tok_small (by decide), e1, hrl]
              show (if ofL [115, 97, 121, 115] = saysB then TR.ok 5 [] 0 4 else _) = _
              rw [if_pos (by rfl)]; rfl
            · exact ⟨tok_one (a := 40) (k := 6) (by omega) (by decide) (by decide) (by decide) (by decide) (by decide) (by decide) (by decide) hb (fun d r _ => by omega), rfl⟩
            · exact ⟨tok_one (a := 41) (k := 7) (by omega) (by decide) (by decide) (by decide) (by decide) (by decide) (by decide) (by decide) hb (fun d r _ => by omega), rfl⟩
            · exact ⟨tok_one (a := 44) (k := 8) (by omega) (by decide) (by decide) (by decide) (by decide) (by decide) (by decide) (by decide) hb (fun d r _ => by omega), rfl⟩
            · exact ⟨tok_one (a := 59) (k := 9) (by omega) (by decide) (by decide) (by decide) (by decide) (by decide) (by decide) (by decide) hb (fun d r _ => by omega), rfl⟩
            · exact ⟨tok_one (a := 46) (k := 10) (by omega) (by decide) (by decide) (by decide) (by decide) (by decide) (by decide) (by decide) hb (fun d r _ => by omega), rfl⟩
            · exact ⟨tok_two (a := 58) (b := 45) (k := 11) (by decide) (by decide) (by decide) (by decide) (by decide) (by decide) (by decide), rfl⟩
            · exact ⟨tok_one (a := 63) (k := 12) (by omega) (by decide) (by decide) (by decide) (by decide) (by decide) (by decide) (by decide) hb (fun d r _ => by omega), rfl⟩
            · exact ⟨tok_one (a := 61) (k := 13) (by omega) (by decide) (by decide) (by decide) (by decide) (by decide) (by decide) (by decide) hb (fun d r _ => by omega), rfl⟩
            · exact ⟨tok_two (a := 33) (b := 61) (k := 14) (by decide) (by decide) (by decide) (by decide) (by decide) (by decide) (by decide), rfl⟩
            · exact ⟨tok_one (a := 60) (k := 15) (by omega) (by decide) (by decide) (by decide) (by decide) (by decide) (by decide) (by decide) hb (fun d r hd h => by have := hy.2 rfl; rcases h with h | h | h; omega; omega; exact this r (by rw [hd, h.2])), rfl⟩
            · exact ⟨tok_two (a := 60) (b := 61) (k := 16) (by decide) (by decide) (by decide) (by decide) (by decide) (by decide) (by decide), rfl⟩
          · rw [if_neg q] at hs; cases hs
end Go.Proofs.YtdfdnjkeiddfjaaDoor
/-
  There and back: the joined text is cut into its tokens (plain).
-/
namespace Go.Proofs.YtdfdnjkeiddfjaaDoor

/-- How a spelling begins. -/
theorem spl_head {t : Tk} {s : ByteArray} (hs : spl t = some s) : ∃ c r, blK s = c :: r ∧ ¬ (c = 32 ∨ c = 9 ∨ c = 10 ∨ c = 13) ∧ ¬ c = 37 ∧ (rnb c = true → t.k = 1 ∨ t.k = 2 ∨ t.k = 5 ∨ (t.k = 4 ∧ 0 ≤ t.n)) ∧ (c = 61 → t.k = 13) := by
  obtain ⟨k, x, n, a, e⟩ := t
  unfold spl at hs
  simp only at hs ⊢
  by_cases q1 : k = 1
  · rw [if_pos q1] at hs
    by_cases q : wrd x = true ∧ n = 0
    · rw [if_pos q] at hs
      cases hs
      obtain ⟨c, r, e1, h1, -, -⟩ := wrd_run q.1
      simp only [sml, Bool.and_eq_true, decide_eq_true_eq] at h1
      exact ⟨c, r, e1, by omega, by omega, fun _ => Or.inl q1, fun h => by omega⟩
    · rw [if_neg q] at hs; cases hs
  · rw [if_neg q1] at hs
    by_cases q2 : k = 2
    · rw [if_pos q2] at hs
      by_cases q : vrb x = true ∧ n = 0
      · rw [if_pos q] at hs
        cases hs
        obtain ⟨c, r, e1, h1, -⟩ := vrb_run q.1
        simp only [grt, Bool.or_eq_true, Bool.and_eq_true, decide_eq_true_eq] at h1
        exact ⟨c, r, e1, by omega, by omega, fun _ => Or.inr (Or.inl q2), fun h => by omega⟩
      · rw [if_neg q] at hs; cases hs
    · rw [if_neg q2] at hs
      by_cases q3 : k = 3
      · rw [if_pos q3] at hs
        by_cases q : n = 0
        · rw [if_pos q] at hs
          cases hs
          exact ⟨34, _, bl_qtB x, by decide, by decide, fun h => absurd h (by decide), fun h => absurd h (by decide)⟩
        · rw [if_neg q] at hs; cases hs
      · rw [if_neg q3] at hs
        by_cases q4 : k = 4
        · rw [if_pos q4] at hs
          by_cases q : x = ⟨#[]⟩
          · rw [if_pos q] at hs
            cases hs
            by_cases hn : n < 0
            · obtain ⟨u, rfl⟩ : ∃ u : Nat, n = -(u : Int) := ⟨n.natAbs, by omega⟩
              exact ⟨45, _, bl_itB_neg u (by omega), by decide, by decide, fun h => absurd h (by decide), fun h => absurd h (by decide)⟩
            · obtain ⟨u, rfl⟩ : ∃ u : Nat, n = (u : Int) := ⟨n.toNat, by omega⟩
              have e := bl_itB_pos u
              have hall := dec_rnb u
              rw [← e] at hall
              have hne : ¬ blK (itB (u : Int)) = [] := by rw [e]; simpa using (dec_dig u).2
              cases ec : blK (itB (u : Int)) with
              | nil => exact absurd ec hne
              | cons c r =>
                have hc := (hall c (by rw [ec]; simp)).2
                simp only [dig, Bool.and_eq_true, decide_eq_true_eq] at hc
                exact ⟨c, r, rfl, by omega, by omega, fun _ => Or.inr (Or.inr (Or.inr ⟨q4, by omega⟩)), fun h => by omega⟩
          · rw [if_neg q] at hs; cases hs
        · rw [if_neg q4] at hs
          by_cases q : ¬ sgo k = ⟨#[]⟩ ∧ x = ⟨#[]⟩ ∧ n = 0
          · rw [if_pos q] at hs
            cases hs
            have hr := sgo_rng q.1
            have hk : k = 5 ∨ k = 6 ∨ k = 7 ∨ k = 8 ∨ k = 9 ∨ k = 10 ∨ k = 11 ∨ k = 12 ∨ k = 13 ∨ k = 14 ∨ k = 15 ∨ k = 16 := by omega
            clear q hr q1 q2 q3 q4
            rcases hk with rfl | rfl | rfl | rfl | rfl | rfl | rfl | rfl | rfl | rfl | rfl | rfl
            · exact ⟨115, [97, 121, 115], rfl, by decide, by decide, fun _ => Or.inr (Or.inr (Or.inl rfl)), fun h => absurd h (by decide)⟩
            · exact ⟨40, [], rfl, by decide, by decide, fun h => absurd h (by decide), fun h => absurd h (by decide)⟩
            · exact ⟨41, [], rfl, by decide, by decide, fun h => absurd h (by decide), fun h => absurd h (by decide)⟩
            · exact ⟨44, [], rfl, by decide, by decide, fun h => absurd h (by decide), fun h => absurd h (by decide)⟩
            · exact ⟨59, [], rfl, by decide, by decide, fun h => absurd h (by decide), fun h => absurd h (by decide)⟩
            · exact ⟨46, [], rfl, by decide, by decide, fun h => absurd h (by decide), fun h => absurd h (by decide)⟩
            · exact ⟨58, [45], rfl, by decide, by decide, fun h => absurd h (by decide), fun h => absurd h (by decide)⟩
            · exact ⟨63, [], rfl, by decide, by decide, fun h => absurd h (by decide), fun h => absurd h (by decide)⟩
            · exact ⟨61, [], rfl, by decide, by decide, fun h => absurd h (by decide), fun _ => rfl⟩
            · exact ⟨33, [61], rfl, by decide, by decide, fun h => absurd h (by decide), fun h => absurd h (by decide)⟩
            · exact ⟨60, [], rfl, by decide, by decide, fun h => absurd h (by decide), fun h => absurd h (by decide)⟩
            · exact ⟨60, [61], rfl, by decide, by decide, fun h => absurd h (by decide), fun h => absurd h (by decide)⟩
          · rw [if_neg q] at hs; cases hs
end Go.Proofs.YtdfdnjkeiddfjaaDoor
