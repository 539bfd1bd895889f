/-
  Tokens and texts: fronts, and longer ones.
-/
import Derived.Test.YtdfdnjkeiddfjaaDoorK15
namespace Go.Proofs.YtdfdnjkeiddfjaaDoor

theorem skG_none (x : ByteArray) : ∀ (l : List ByteArray) (i : Nat), (∀ t ∈ l, ¬ t = x) → skG i l x = 0
  | [], _, _ => rfl
  | t :: l, i, h => by
    show (if t = x then i else skG (i + 1) l x) = 0
    rw [if_neg (h t (by simp)), skG_none x l (i + 1) (fun u hu => h u (by simp [hu]))]
theorem sign_second : ∀ t ∈ signL, ¬ t.data.toList[1]? = some 32 := by decide
theorem sk_blank (c : Int) : sk (ofL [c, 32]) = 0 := skG_none _ _ _ fun t ht e => sign_second t ht (by rw [e]; rfl)
theorem sgF_congr {l l' : List Int} : ∀ m, (∀ i, i ≤ m → l.take i = l'.take i) → sgF l m = sgF l' m
  | 0, _ => rfl
  | m + 1, h => by
    show (if sk (ofL (l.take (m + 1))) = 0 then sgF l m else .ok (sk (ofL (l.take (m + 1))) : Nat) [] 0 (m + 1)) = (if sk (ofL (l'.take (m + 1))) = 0 then sgF l' m else .ok (sk (ofL (l'.take (m + 1))) : Nat) [] 0 (m + 1))
    rw [h (m + 1) (Nat.le_refl _), sgF_congr m (fun i hi => h i (by omega))]
theorem sgt_app (c : Int) (r m : List Int) : sgt (c :: (r ++ 32 :: m)) = sgt (c :: r) := by
  unfold sgt
  cases r with
  | nil =>
    have e : min 2 (c :: ([] ++ 32 :: m)).length = 2 := by simp
    have e' : min 2 [c].length = 1 := by simp
    rw [e, e', sgF_no (m := 1) (by show sk (ofL [c, 32]) = 0; exact sk_blank c)]
    exact sgF_congr 1 fun i hi => by
      rcases i with _ | _ | i
      · rfl
      · rfl
      · omega
  | cons d r =>
    have e : min 2 (c :: (d :: r ++ 32 :: m)).length = 2 := by simp
    have e' : min 2 (c :: d :: r).length = 2 := by simp
    rw [e, e']
    exact sgF_congr 2 fun i hi => by
      rcases i with _ | _ | _ | i
      · rfl
      · rfl
      · rfl
      · omega
theorem sgt_take {c : Int} {r : List Int} {k : Int} {x : List Int} {n : Int} {len : Nat} (h : sgt (c :: r) = .ok k x n len) (m : Nat) (hm : len ≤ m + 1) : sgt (c :: r.take m) = .ok k x n len := by
  have hl := (sgF_len (c :: r) (min 2 (c :: r).length)).1 k x n len h
  rcases Nat.eq_zero_or_pos m with h0 | h0
  · subst h0
    rw [List.take_zero]
    unfold sgt at h ⊢
    cases r with
    | nil => exact h
    | cons d r =>
      have e : min 2 (c :: d :: r).length = 2 := by simp
      have e' : min 2 [c].length = 1 := by simp
      rw [e] at h
      rw [e']
      by_cases q : sk (ofL ((c :: d :: r).take (1 + 1))) = 0
      · rw [sgF_no q] at h
        rw [← h]
        exact sgF_congr 1 fun i hi => by
          rcases i with _ | _ | i
          · rfl
          · rfl
          · omega
      · rw [sgF_yes q] at h
        cases h
        omega
  · unfold sgt at h ⊢
    have e : min 2 (c :: r.take m).length = min 2 (c :: r).length := by simp only [List.length_cons, List.length_take]; omega
    rw [e, ← h]
    exact sgF_congr _ fun i hi => by
      rcases i with _ | i
      · rfl
      · rw [List.take_succ_cons, List.take_succ_cons, List.take_take, Nat.min_eq_left (by simp only [List.length_cons] at hi; omega)]
theorem numt_congr {n : Nat} {l l' : List Int} (h : l.take n = l'.take n) : numt n l = numt n l' := by unfold numt; rw [h]
theorem tok_take {c : Int} {r : List Int} {k : Int} {x : List Int} {n : Int} {len : Nat} (h : tok (c :: r) = .ok k x n len) (m : Nat) (hm : len ≤ m + 1) : tok (c :: r.take m) = .ok k x n len := by
  have e1 : c :: r.take m = (c :: r).take (m + 1) := rfl
  cases a : sml c with
  | true =>
    rw [tok_small a] at h ⊢
    have hl : len = rl (c :: r) := by split at h <;> (cases h; rfl)
    have hr : rl (c :: r.take m) = rl (c :: r) := by rw [e1, rl_take]; omega
    rw [hr, e1, List.take_take, Nat.min_eq_left (by omega)]
    exact h
  | false =>
    cases b : grt c with
    | true =>
      rw [tok_great a b] at h ⊢
      have hl : len = rl (c :: r) := by cases h; rfl
      have hr : rl (c :: r.take m) = rl (c :: r) := by rw [e1, rl_take]; omega
      rw [hr, e1, List.take_take, Nat.min_eq_left (by omega)]
      exact h
    | false =>
      by_cases q : c = 45
      · rw [tok_minus a b q] at h ⊢
        have hl := (numt_len _ _).1 _ _ _ _ h
        have hr : rl (r.take m) = rl r := by rw [rl_take]; omega
        rw [hr, ← h, e1]
        exact numt_congr (by rw [List.take_take, Nat.min_eq_left (by omega)])
      · cases d : dig c with
        | true =>
          rw [tok_dig a b q d] at h ⊢
          have hl := (numt_len _ _).1 _ _ _ _ h
          have hr : rl (c :: r.take m) = rl (c :: r) := by rw [e1, rl_take]; omega
          rw [hr, ← h, e1]
          exact numt_congr (by rw [List.take_take, Nat.min_eq_left (by omega)])
        | false =>
          by_cases q2 : c = 34
          · rw [tok_quote a b q d q2] at h ⊢
            exact qd_ok _ _ _ _ _ _ _ _ h _ _ (by omega) (by rw [List.take_take, Nat.min_eq_left (by omega)])
          · rw [tok_sign a b q d q2] at h ⊢
            exact sgt_take h m hm
theorem tok_app {c : Int} {r m : List Int} (h : ∀ e o, tok (c :: r) = .bad e o → e = 42 ∨ e = 45) : tok (c :: (r ++ 32 :: m)) = tok (c :: r) := by
  have e1 : c :: (r ++ 32 :: m) = (c :: r) ++ 32 :: m := rfl
  have hr : rl (c :: (r ++ 32 :: m)) = rl (c :: r) := by rw [e1, rl_app]
  have hr2 : rl (r ++ 32 :: m) = rl r := rl_app r m
  have hle := rl_le (c :: r)
  have hle2 := rl_le r
  cases a : sml c with
  | true => rw [tok_small a, tok_small a, hr, e1, take_app_le _ _ _ hle]
  | false =>
    cases b : grt c with
    | true => rw [tok_great a b, tok_great a b, hr, e1, take_app_le _ _ _ hle]
    | false =>
      by_cases q : c = 45
      · rw [tok_minus a b q, tok_minus a b q, hr2, e1]
        exact numt_congr (take_app_le _ _ _ (by simp only [List.length_cons]; omega))
      · cases d : dig c with
        | true =>
          rw [tok_dig a b q d, tok_dig a b q d, hr, e1]
          exact numt_congr (take_app_le _ _ _ hle)
        | false =>
          by_cases q2 : c = 34
          · rw [tok_quote a b q d q2] at h
            rw [tok_quote a b q d q2, tok_quote a b q d q2]
            cases e : qd (r.length + 1) r 1 [] with
            | bad e' o =>
              have h1 := h e' o e
              have h2 := (qd_len (r.length + 1) r 1 []).2 e' o e
              omega
            | ok k x n len =>
              have hl := (qd_len (r.length + 1) r 1 []).1 _ _ _ _ e
              exact qd_ok _ _ _ _ _ _ _ _ e _ _ (by omega) (take_app_le _ _ _ (by omega))
          · rw [tok_sign a b q d q2, tok_sign a b q d q2, sgt_app]
/-- A fault's place in a token. -/
theorem tok_bad {c : Int} {r : List Int} {e : Int} {o : Nat} (h : tok (c :: r) = .bad e o) :
    (o = 0 ∧ (e = 42 ∨ e = 43 ∨ e = 45)) ∨ (e = 44 ∧ 1 ≤ o ∧ o < r.length + 1 ∧ tok (c :: r.take (o - 1)) = .bad 43 0) := by
  cases a : sml c with
  | true => rw [tok_small a] at h; split at h <;> cases h
  | false =>
    cases b : grt c with
    | true => rw [tok_great a b] at h; cases h
    | false =>
      by_cases q : c = 45
      · rw [tok_minus a b q] at h
        unfold numt at h
        split at h
        · cases h
        · cases h; exact Or.inl ⟨rfl, Or.inr (Or.inr rfl)⟩
      · cases d : dig c with
        | true =>
          rw [tok_dig a b q d] at h
          unfold numt at h
          split at h
          · cases h
          · cases h; exact Or.inl ⟨rfl, Or.inr (Or.inr rfl)⟩
        | false =>
          by_cases q2 : c = 34
          · rw [tok_quote a b q d q2] at h
            rcases qd_bad _ _ _ _ _ _ h with ⟨rfl, rfl⟩ | ⟨rfl, h2, h3, h4⟩
            · exact Or.inl ⟨rfl, Or.inr (Or.inl rfl)⟩
            · refine Or.inr ⟨rfl, h2, by omega, ?_⟩
              rw [tok_quote a b q d q2]
              have hlt : (r.take (o - 1)).length ≤ r.length := by rw [List.length_take]; omega
              exact qd_fuel (h4 (r.length + 1) (by omega)) (by omega) (by omega)
          · rw [tok_sign a b q d q2] at h
            unfold sgt at h
            have he := (sgF_len _ _).2 _ _ h
            have ho : ∀ m, sgF (c :: r) m = .bad e o → o = 0 := by
              intro m
              induction m with
              | zero => intro h; cases h; rfl
              | succ m ih =>
                intro h
                by_cases q : sk (ofL ((c :: r).take (m + 1))) = 0
                · rw [sgF_no q] at h; exact ih h
                · rw [sgF_yes q] at h; cases h
            exact Or.inl ⟨ho _ h, Or.inl he⟩
end Go.Proofs.YtdfdnjkeiddfjaaDoor
