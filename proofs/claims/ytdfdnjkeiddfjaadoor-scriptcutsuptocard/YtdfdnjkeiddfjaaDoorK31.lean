/-
  There and back: the joined text is cut into its tokens (plain).
-/
import Derived.Test.YtdfdnjkeiddfjaaDoorK30
namespace Go.Proofs.YtdfdnjkeiddfjaaDoor

/-- How a spelling begins. -/
theorem spl_head {t : Tk} {s : ByteArray} (hs : spl t = some s) : ∃ c r, blK s = c :: r ∧ ¬ (c = 32 ∨ c = 9 ∨ c = 10 ∨ c = 13) ∧ ¬ c = 37 ∧ (rnb c = true → t.k = 1 ∨ t.k = 2 ∨ t.k = 5 ∨ (t.k = 4 ∧ 0 ≤ t.n)) ∧ (c = 61 → t.k = 13) := by
  obtain ⟨k, x, n, a, e⟩ := t
  unfold spl at hs
  simp only at hs ⊢
  by_cases q1 : k = 1
  · rw [if_pos q1] at hs
    by_cases q : wrd x = true ∧ n = 0
    · rw [if_pos q] at hs
      cases hs
      obtain ⟨c, r, e1, h1, -, -⟩ := wrd_run q.1
      simp only [sml, Bool.and_eq_true, decide_eq_true_eq] at h1
      exact ⟨c, r, e1, by omega, by omega, fun _ => Or.inl q1, fun h => by omega⟩
    · rw [if_neg q] at hs; cases hs
  · rw [if_neg q1] at hs
    by_cases q2 : k = 2
    · rw [if_pos q2] at hs
      by_cases q : vrb x = true ∧ n = 0
      · rw [if_pos q] at hs
        cases hs
        obtain ⟨c, r, e1, h1, -⟩ := vrb_run q.1
        simp only [grt, Bool.or_eq_true, Bool.and_eq_true, decide_eq_true_eq] at h1
        exact ⟨c, r, e1, by omega, by omega, fun _ => Or.inr (Or.inl q2), fun h => by omega⟩
      · rw [if_neg q] at hs; cases hs
    · rw [if_neg q2] at hs
      by_cases q3 : k = 3
      · rw [if_pos q3] at hs
        by_cases q : n = 0
        · rw [if_pos q] at hs
          cases hs
          exact ⟨34, _, bl_qtB x, by decide, by decide, fun h => absurd h (by decide), fun h => absurd h (by decide)⟩
        · rw [if_neg q] at hs; cases hs
      · rw [if_neg q3] at hs
        by_cases q4 : k = 4
        · rw [if_pos q4] at hs
          by_cases q : x = ⟨#[]⟩
          · rw [if_pos q] at hs
            cases hs
            by_cases hn : n < 0
            · obtain ⟨u, rfl⟩ : ∃ u : Nat, n = -(u : Int) := ⟨n.natAbs, by omega⟩
              exact ⟨45, _, bl_itB_neg u (by omega), by decide, by decide, fun h => absurd h (by decide), fun h => absurd h (by decide)⟩
            · obtain ⟨u, rfl⟩ : ∃ u : Nat, n = (u : Int) := ⟨n.toNat, by omega⟩
              have e := bl_itB_pos u
              have hall := dec_rnb u
              rw [← e] at hall
              have hne : ¬ blK (itB (u : Int)) = [] := by rw [e]; simpa using (dec_dig u).2
              cases ec : blK (itB (u : Int)) with
              | nil => exact absurd ec hne
              | cons c r =>
                have hc := (hall c (by rw [ec]; simp)).2
                simp only [dig, Bool.and_eq_true, decide_eq_true_eq] at hc
                exact ⟨c, r, rfl, by omega, by omega, fun _ => Or.inr (Or.inr (Or.inr ⟨q4, by omega⟩)), fun h => by omega⟩
          · rw [if_neg q] at hs; cases hs
        · rw [if_neg q4] at hs
          by_cases q : ¬ sgo k = ⟨#[]⟩ ∧ x = ⟨#[]⟩ ∧ n = 0
          · rw [if_pos q] at hs
            cases hs
            have hr := sgo_rng q.1
            have hk : k = 5 ∨ k = 6 ∨ k = 7 ∨ k = 8 ∨ k = 9 ∨ k = 10 ∨ k = 11 ∨ k = 12 ∨ k = 13 ∨ k = 14 ∨ k = 15 ∨ k = 16 := by omega
            clear q hr q1 q2 q3 q4
            rcases hk with rfl | rfl | rfl | rfl | rfl | rfl | rfl | rfl | rfl | rfl | rfl | rfl
            · exact ⟨115, [97, 121, 115], rfl, by decide, by decide, fun _ => Or.inr (Or.inr (Or.inl rfl)), fun h => absurd h (by decide)⟩
            · exact ⟨40, [], rfl, by decide, by decide, fun h => absurd h (by decide), fun h => absurd h (by decide)⟩
            · exact ⟨41, [], rfl, by decide, by decide, fun h => absurd h (by decide), fun h => absurd h (by decide)⟩
            · exact ⟨44, [], rfl, by decide, by decide, fun h => absurd h (by decide), fun h => absurd h (by decide)⟩
            · exact ⟨59, [], rfl, by decide, by decide, fun h => absurd h (by decide), fun h => absurd h (by decide)⟩
            · exact ⟨46, [], rfl, by decide, by decide, fun h => absurd h (by decide), fun h => absurd h (by decide)⟩
            · exact ⟨58, [45], rfl, by decide, by decide, fun h => absurd h (by decide), fun h => absurd h (by decide)⟩
            · exact ⟨63, [], rfl, by decide, by decide, fun h => absurd h (by decide), fun h => absurd h (by decide)⟩
            · exact ⟨61, [], rfl, by decide, by decide, fun h => absurd h (by decide), fun _ => rfl⟩
            · exact ⟨33, [61], rfl, by decide, by decide, fun h => absurd h (by decide), fun h => absurd h (by decide)⟩
            · exact ⟨60, [], rfl, by decide, by decide, fun h => absurd h (by decide), fun h => absurd h (by decide)⟩
            · exact ⟨60, [61], rfl, by decide, by decide, fun h => absurd h (by decide), fun h => absurd h (by decide)⟩
          · rw [if_neg q] at hs; cases hs
/-- The joined text behind what stands ahead. -/
def jz : Option Tk → List Tk → Option (List Int)
  | _, [] => some []
  | p, t :: r => match spl t with
    | none => none
    | some s => (jz (some t) r).map fun z => gp p t ++ (blK s ++ z)
theorem jz_cons (p : Option Tk) (t : Tk) (r : List Tk) : jz p (t :: r) = match spl t with
    | none => none
    | some s => (jz (some t) r).map fun z => gp p t ++ (blK s ++ z) := rfl
theorem jnA_jz : ∀ (l : List Tk) (p : Option Tk) (acc : List Int), jnA p l acc = (jz p l).map (acc ++ ·)
  | [], p, acc => by show some acc = some (acc ++ []); rw [List.append_nil]
  | t :: r, p, acc => by
    cases e : spl t with
    | none => rw [jnA_no e, jz_cons, e]; rfl
    | some s =>
      rw [jnA_yes e, jz_cons, e, jnA_jz r]
      cases jz (some t) r with
      | none => rfl
      | some z => simp
def Tk.bar (t : Tk) : Tk := ⟨t.k, t.x, t.n, 0, 0⟩
theorem jz_byt : ∀ (l : List Tk) (p : Option Tk) (z : List Int), jz p l = some z → byt z
  | [], _, z, h => by cases h; intro x hx; simp at hx
  | t :: r, p, z, h => by
    rw [jz_cons] at h
    cases e : spl t with
    | none => rw [e] at h; cases h
    | some s =>
      rw [e] at h
      cases ez : jz (some t) r with
      | none => rw [ez] at h; cases h
      | some z' =>
        rw [ez] at h
        simp only [Option.map_some, Option.some.injEq] at h
        subst h
        intro x hx
        rcases List.mem_append.1 hx with hx | hx
        · unfold gp at hx
          cases p with
          | none => simp at hx
          | some q =>
            simp only at hx
            split at hx
            · simp at hx; omega
            · simp at hx
        · rcases List.mem_append.1 hx with hx | hx
          · exact bl_byt s x hx
          · exact jz_byt r (some t) z' ez x hx
theorem jz_stp {t : Tk} {r : List Tk} {z : List Int} (h : jz (some t) r = some z) : stp t z := by
  cases r with
  | nil => cases h; exact ⟨fun _ => rfl, fun _ r hr => by cases hr⟩
  | cons u r =>
    rw [jz_cons] at h
    cases e : spl u with
    | none => rw [e] at h; cases h
    | some s =>
      rw [e] at h
      cases ez : jz (some u) r with
      | none => rw [ez] at h; cases h
      | some z' =>
        rw [ez] at h
        simp only [Option.map_some, Option.some.injEq] at h
        subst h
        obtain ⟨c, y, ec, -, -, h1, h2⟩ := spl_head e
        cases hg : grw t u with
        | true =>
          have e2 : gp (some t) u = [32] := by show (if grw t u = true then [32] else []) = _; rw [if_pos hg]
          rw [e2]
          exact ⟨fun _ => by show rl (32 :: _) = 0; rw [rl_cons, if_neg (by decide)], fun _ r hr => by simp at hr⟩
        | false =>
          have e2 : gp (some t) u = [] := by show (if grw t u = true then [32] else []) = _; rw [if_neg (by rw [hg]; simp)]
          rw [e2, List.nil_append, ec, List.cons_append]
          refine ⟨fun hn => ?_, fun hk r hr => ?_⟩
          · rw [rl_cons]
            by_cases q : rnb c = true
            · exfalso
              have := h1 q
              unfold grw at hg
              rcases this with h | h | h | ⟨h, h'⟩
              · rw [if_neg (by omega), if_pos (by omega), hn] at hg; cases hg
              · rw [if_neg (by omega), if_pos (by omega), hn] at hg; cases hg
              · rw [if_neg (by omega), if_pos (by omega), hn] at hg; cases hg
              · rw [if_pos h, if_neg (by omega), hn] at hg; cases hg
            · rw [if_neg q]
          · have hc : c = 61 := by simp at hr; exact hr.1
            have := h2 hc
            unfold grw at hg
            rw [if_neg (by omega), if_neg (by omega), if_pos this, decide_eq_true hk] at hg
            cases hg
/-- The joined text is cut into tokens that are the same but for their places. -/
theorem ct_jz : ∀ (l : List Tk) (p : Option Tk) (z : List Int) (f off : Nat) (acc : List Tk), jz p l = some z → (∀ t ∈ l, okt t) → z.length < f →
    ∃ T, ct f z off acc = (acc ++ T, 0, 0) ∧ T.map Tk.bar = l.map Tk.bar
  | [], _, z, f, off, acc, h, _, hf => by
    cases h
    obtain ⟨f, rfl⟩ : ∃ g, f = g + 1 := ⟨f - 1, by simp at hf; omega⟩
    exact ⟨[], by rw [ct_end, List.append_nil], rfl⟩
  | t :: r, p, z, f, off, acc, h, ho, hf => by
    rw [jz_cons] at h
    cases e : spl t with
    | none => rw [e] at h; cases h
    | some s =>
      rw [e] at h
      cases ez : jz (some t) r with
      | none => rw [ez] at h; cases h
      | some z' =>
        rw [ez] at h
        simp only [Option.map_some, Option.some.injEq] at h
        obtain ⟨c, y, ec, n1, n2, -, -⟩ := spl_head e
        obtain ⟨ht, hx⟩ := tok_spl e (ho t (by simp)) (jz_stp ez) (jz_byt _ _ _ ez)
        have hsz : 0 < s.size := by rw [← bl_len, ec]; simp
        have core : ∀ (f off : Nat) (acc : List Tk), (blK s ++ z').length < f → ∃ T, ct f (blK s ++ z') off acc = (acc ++ T, 0, 0) ∧ T.map Tk.bar = (t :: r).map Tk.bar := by
          intro f off acc hf
          obtain ⟨f, rfl⟩ : ∃ g, f = g + 1 := ⟨f - 1, by omega⟩
          have hd : (blK s ++ z').drop s.size = z' := by rw [← bl_len]; exact List.drop_left
          rw [List.length_append, bl_len] at hf
          obtain ⟨T, hT, hb⟩ := ct_jz r (some t) z' f (off + s.size) (acc ++ [⟨t.k, t.x, t.n, off, (off + s.size : Nat)⟩]) ez (fun u hu => ho u (by simp [hu])) (by omega)
          refine ⟨⟨t.k, t.x, t.n, off, (off + s.size : Nat)⟩ :: T, ?_, by simp only [List.map_cons, hb]; rfl⟩
          have ht2 := ht
          rw [ec, List.cons_append] at ht2
          have hd2 := hd
          rw [ec, List.cons_append] at hd2
          rw [ec, List.cons_append, ct_cons, if_neg n1, if_neg n2, ht2]
          show ct f ((c :: (y ++ z')).drop s.size) (off + s.size) (acc ++ [⟨t.k, ofL (tbs t), t.n, off, (off + s.size : Nat)⟩]) = _
          rw [hd2, ← hx, hT]; simp
        have hgp : gp p t = [] ∨ gp p t = [32] := by
          unfold gp
          cases p with
          | none => exact Or.inl rfl
          | some q => simp only; split <;> simp
        rcases hgp with hg | hg
        · rw [hg, List.nil_append] at h
          subst h
          exact core f off acc hf
        · rw [hg] at h
          subst h
          simp only [List.singleton_append, List.length_cons] at hf ⊢
          obtain ⟨f, rfl⟩ : ∃ g, f = g + 1 := ⟨f - 1, by omega⟩
          rw [ct_cons, if_pos (Or.inl rfl)]
          exact core f (off + 1) acc (by omega)
end Go.Proofs.YtdfdnjkeiddfjaaDoor
