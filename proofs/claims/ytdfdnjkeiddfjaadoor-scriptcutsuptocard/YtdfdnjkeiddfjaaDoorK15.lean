/-
  Fronts and longer texts: the plain mathematics.
-/
import Derived.Test.YtdfdnjkeiddfjaaDoorK8
namespace Go.Proofs.YtdfdnjkeiddfjaaDoor

theorem rl_cons (c : Int) (r : List Int) : rl (c :: r) = if rnb c = true then rl r + 1 else 0 := rfl
theorem rl_take : ∀ (l : List Int) (m : Nat), rl (l.take m) = min (rl l) m
  | [], m => by simp [rl]
  | c :: l, 0 => by simp [rl]
  | c :: l, m + 1 => by
    rw [List.take_succ_cons, rl_cons, rl_cons, rl_take l m]
    split <;> omega
theorem rl_app : ∀ (l m : List Int), rl (l ++ 32 :: m) = rl l
  | [], m => by show rl (32 :: m) = 0; rw [rl_cons, if_neg (by decide)]
  | c :: l, m => by rw [List.cons_append, rl_cons, rl_cons, rl_app l m]
theorem le_cons (c : Int) (r : List Int) : le_ (c :: r) = if c = 10 then 0 else le_ r + 1 := rfl
theorem le_take : ∀ (l : List Int) (m : Nat), le_ (l.take m) = min (le_ l) m
  | [], m => by simp [le_]
  | c :: l, 0 => by simp [le_]
  | c :: l, m + 1 => by
    rw [List.take_succ_cons, le_cons, le_cons, le_take l m]
    split <;> omega
theorem le_app : ∀ (l y : List Int), le_ l < l.length → le_ (l ++ y) = le_ l
  | [], y, h => by simp at h
  | c :: l, y, h => by
    rw [List.cons_append, le_cons, le_cons]
    by_cases q : c = 10
    · rw [if_pos q, if_pos q]
    · rw [if_neg q, if_neg q]
      rw [le_cons, if_neg q] at h
      rw [le_app l y (by simp at h; omega)]
theorem take_app_le (l y : List Int) (n : Nat) (h : n ≤ l.length) : (l ++ y).take n = l.take n := List.take_append_of_le_length h
theorem drop_app_le (l y : List Int) (n : Nat) (h : n ≤ l.length) : (l ++ y).drop n = l.drop n ++ y := List.drop_append_of_le_length h
theorem esc_take {l : List Int} {b : Int} {k : Nat} (h : esc l = some (b, k)) (y : List Int) (hy : l.take k = y.take k) : esc y = some (b, k) := by
  have hr := esc_rng h
  cases l with
  | nil => cases h
  | cons c r =>
    obtain ⟨k, rfl⟩ : ∃ k', k = k' + 1 := ⟨k - 1, by omega⟩
    cases y with
    | nil => simp at hy
    | cons d z =>
      simp only [List.take_succ_cons, List.cons.injEq] at hy
      obtain ⟨rfl, hy⟩ := hy
      rw [esc_cons] at h ⊢
      by_cases q1 : c = 34 ∨ c = 92
      · rw [if_pos q1] at h ⊢; exact h
      · rw [if_neg q1] at h ⊢
        by_cases q2 : c = 110
        · rw [if_pos q2] at h ⊢; exact h
        · rw [if_neg q2] at h ⊢
          by_cases q3 : c = 116
          · rw [if_pos q3] at h ⊢; exact h
          · rw [if_neg q3] at h ⊢
            by_cases q4 : c = 120
            · rw [if_pos q4] at h ⊢
              cases e : hex2 r with
              | none => rw [e] at h; cases h
              | some x =>
                rw [e] at h
                simp only [Option.map_some, Option.some.injEq, Prod.mk.injEq] at h
                obtain ⟨rfl, hk⟩ := h
                obtain rfl : k = 2 := by omega
                match r, z, e, hy with
                | a :: a2 :: r', z, e, hy =>
                  match z, hy with
                  | [], hy => simp at hy
                  | [_], hy => simp at hy
                  | z1 :: z2 :: z', hy =>
                    simp at hy
                    obtain ⟨rfl, rfl⟩ := hy
                    have e2 : hex2 (a :: a2 :: z') = some x := e
                    rw [e2]; rfl
            · rw [if_neg q4] at h; cases h
/-- A quoted text that ends: what stands behind it doesn't matter. -/
theorem qd_ok : ∀ (f : Nat) (r : List Int) (off : Nat) (acc : List Int) (k : Int) (x : List Int) (n : Int) (len : Nat), qd f r off acc = .ok k x n len →
    ∀ (f' : Nat) (y : List Int), y.length < f' → y.take (len - off) = r.take (len - off) → qd f' y off acc = .ok k x n len
  | 0, _, _, _, _, _, _, _, h, _, _, _, _ => by cases h
  | _ + 1, [], _, _, _, _, _, _, h, _, _, _, _ => by cases h
  | f + 1, c :: r, off, acc, k, x, n, len, h, f', y, hf, hy => by
    have hl := (qd_len (f + 1) (c :: r) off acc).1 k x n len h
    obtain ⟨m, hm⟩ : ∃ m, len - off = m + 1 := ⟨len - off - 1, by omega⟩
    rw [hm] at hy
    cases y with
    | nil => simp at hy
    | cons d z =>
      simp only [List.take_succ_cons, List.cons.injEq] at hy
      obtain ⟨rfl, hy⟩ := hy
      obtain ⟨f', rfl⟩ : ∃ g, f' = g + 1 := ⟨f' - 1, by omega⟩
      simp only [List.length_cons] at hf
      rw [qd_cons] at h ⊢
      by_cases q1 : d = 34
      · rw [if_pos q1] at h ⊢; exact h
      · rw [if_neg q1] at h ⊢
        by_cases q2 : d = 92
        · rw [if_pos q2] at h ⊢
          cases ee : esc r with
          | none => rw [ee] at h; cases h
          | some bk =>
            obtain ⟨b, kk⟩ := bk
            rw [ee] at h
            have hr := esc_rng ee
            have hl2 := (qd_len f (r.drop kk) (off + 1 + kk) (acc ++ [b])).1 k x n len h
            have ez : esc z = some (b, kk) := esc_take ee z (by
              have := congrArg (List.take kk) hy
              rw [List.take_take, List.take_take, Nat.min_eq_left (by omega)] at this
              exact this.symm)
            rw [ez]
            refine qd_ok f (r.drop kk) (off + 1 + kk) (acc ++ [b]) k x n len h f' (z.drop kk) (by rw [List.length_drop]; omega) ?_
            have := congrArg (List.drop kk) hy
            rw [List.drop_take, List.drop_take] at this
            rw [show len - (off + 1 + kk) = m - kk by omega]
            exact this
        · rw [if_neg q2] at h ⊢
          by_cases q3 : d < 32 ∨ d = 127
          · rw [if_pos q3] at h; cases h
          · rw [if_neg q3] at h ⊢
            exact qd_ok f r (off + 1) (acc ++ [d]) k x n len h f' z (by omega) (by rw [show len - (off + 1) = m by omega]; exact hy)
/-- A fault inside of a quoted text: what stands ahead of it is a text that didn't end. -/
theorem qd_bad : ∀ (f : Nat) (r : List Int) (off : Nat) (acc : List Int) (e : Int) (o : Nat), qd f r off acc = .bad e o →
    (e = 43 ∧ o = 0) ∨ (e = 44 ∧ off ≤ o ∧ o < off + r.length ∧ ∀ f', r.length < f' → qd f' (r.take (o - off)) off acc = .bad 43 0)
  | 0, _, _, _, _, _, h => by cases h; exact Or.inl ⟨rfl, rfl⟩
  | _ + 1, [], _, _, _, _, h => by cases h; exact Or.inl ⟨rfl, rfl⟩
  | f + 1, c :: r, off, acc, e, o, h => by
    rw [qd_cons] at h
    by_cases q1 : c = 34
    · rw [if_pos q1] at h; cases h
    · rw [if_neg q1] at h
      by_cases q2 : c = 92
      · rw [if_pos q2] at h
        cases ee : esc r with
        | none =>
          rw [ee] at h; cases h
          refine Or.inr ⟨rfl, Nat.le_refl _, by simp, fun f' hf => ?_⟩
          rw [Nat.sub_self, List.take_zero]
          cases f' <;> rfl
        | some bk =>
          obtain ⟨b, kk⟩ := bk
          rw [ee] at h
          have hr := esc_rng ee
          rcases qd_bad f (r.drop kk) (off + 1 + kk) (acc ++ [b]) e o h with h1 | ⟨h1, h2, h3, h4⟩
          · exact Or.inl h1
          · rw [List.length_drop] at h3 h4
            refine Or.inr ⟨h1, by omega, by simp; omega, fun f' hf => ?_⟩
            simp only [List.length_cons] at hf
            obtain ⟨f', rfl⟩ : ∃ g, f' = g + 1 := ⟨f' - 1, by omega⟩
            obtain ⟨m, hm⟩ : ∃ m, o - off = m + 1 := ⟨o - off - 1, by omega⟩
            rw [hm, List.take_succ_cons, qd_cons, if_neg q1, if_pos q2]
            have ez : esc (r.take m) = some (b, kk) := esc_take ee _ (by rw [List.take_take, Nat.min_eq_left (by omega)])
            rw [ez]
            have := h4 f' (by omega)
            rw [show o - (off + 1 + kk) = m - kk by omega] at this
            show qd f' ((r.take m).drop kk) _ _ = _
            rw [List.drop_take]
            exact this
      · rw [if_neg q2] at h
        by_cases q3 : c < 32 ∨ c = 127
        · rw [if_pos q3] at h; cases h
          refine Or.inr ⟨rfl, Nat.le_refl _, by simp, fun f' hf => ?_⟩
          rw [Nat.sub_self, List.take_zero]
          cases f' <;> rfl
        · rw [if_neg q3] at h
          rcases qd_bad f r (off + 1) (acc ++ [c]) e o h with h1 | ⟨h1, h2, h3, h4⟩
          · exact Or.inl h1
          · refine Or.inr ⟨h1, by omega, by simp; omega, fun f' hf => ?_⟩
            simp only [List.length_cons] at hf
            obtain ⟨f', rfl⟩ : ∃ g, f' = g + 1 := ⟨f' - 1, by omega⟩
            obtain ⟨m, hm⟩ : ∃ m, o - off = m + 1 := ⟨o - off - 1, by omega⟩
            rw [hm, List.take_succ_cons, qd_cons, if_neg q1, if_neg q2, if_neg q3]
            have := h4 f' (by omega)
            rw [show o - (off + 1) = m by omega] at this
            exact this
/-- A text that didn't end: whatever the fuel. -/
theorem qd_fuel : ∀ {f : Nat} {r : List Int} {off : Nat} {acc : List Int}, qd f r off acc = .bad 43 0 → ∀ {f' : Nat}, r.length < f → r.length < f' → qd f' r off acc = .bad 43 0
  | 0, _, _, _, _, _, h, _ => by omega
  | _ + 1, [], _, _, _, f', _, _ => by cases f' <;> rfl
  | f + 1, c :: r, off, acc, h, f', hf, hf' => by
    simp only [List.length_cons] at hf hf'
    obtain ⟨f', rfl⟩ : ∃ g, f' = g + 1 := ⟨f' - 1, by omega⟩
    rw [qd_cons] at h ⊢
    by_cases q1 : c = 34
    · rw [if_pos q1] at h; cases h
    · rw [if_neg q1] at h ⊢
      by_cases q2 : c = 92
      · rw [if_pos q2] at h ⊢
        cases ee : esc r with
        | none => rw [ee] at h; cases h
        | some bk =>
          obtain ⟨b, kk⟩ := bk
          rw [ee] at h
          have hr := esc_rng ee
          exact qd_fuel h (by rw [List.length_drop]; omega) (by rw [List.length_drop]; omega)
      · rw [if_neg q2] at h ⊢
        by_cases q3 : c < 32 ∨ c = 127
        · rw [if_pos q3] at h; cases h
        · rw [if_neg q3] at h ⊢
          exact qd_fuel h (by omega) (by omega)
end Go.Proofs.YtdfdnjkeiddfjaaDoor
