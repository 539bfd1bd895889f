/-
  A text with a line feed and two words behind it: the plain mathematics.
-/
import Derived.Test.YtekjicklbgpdcabDoorK18
namespace Go.Proofs.YtekjicklbgpdcabDoor

theorem rl_lf : ∀ (l m : List Int), rl (l ++ 10 :: m) = rl l
  | [], m => by show rl (10 :: m) = 0; rw [rl_cons, if_neg (by decide)]
  | c :: l, m => by rw [List.cons_append, rl_cons, rl_cons, rl_lf l m]
theorem le_lf : ∀ (l m : List Int), le_ (l ++ 10 :: m) ≤ l.length
  | [], m => by show le_ (10 :: m) ≤ 0; rw [le_cons, if_pos rfl]; exact Nat.le_refl _
  | c :: l, m => by
    rw [List.cons_append, le_cons]
    have := le_lf l m
    split <;> simp only [List.length_cons] <;> omega
theorem hexv_lf : hexv 10 = none := by decide
theorem hex2_cons (a b : Int) (r : List Int) : hex2 (a :: b :: r) = match hexv a, hexv b with
    | some x, some y => some (x * 16 + y)
    | _, _ => none := rfl
theorem esc_lf : ∀ (l m : List Int) (b : Int) (k : Nat), esc (l ++ 10 :: m) = some (b, k) → k ≤ l.length
  | [], m, b, k, h => by
    have e : esc ([] ++ 10 :: m) = none := by
      show esc (10 :: m) = none
      rw [esc_cons, if_neg (by decide), if_neg (by decide), if_neg (by decide), if_neg (by decide)]
    rw [e] at h; cases h
  | c :: l, m, b, k, h => by
    rw [List.cons_append, esc_cons] at h
    by_cases q1 : c = 34 ∨ c = 92
    · rw [if_pos q1] at h; cases h; simp
    · rw [if_neg q1] at h
      by_cases q2 : c = 110
      · rw [if_pos q2] at h; cases h; simp
      · rw [if_neg q2] at h
        by_cases q3 : c = 116
        · rw [if_pos q3] at h; cases h; simp
        · rw [if_neg q3] at h
          by_cases q4 : c = 120
          · rw [if_pos q4] at h
            rcases l with _ | ⟨x, _ | ⟨y, l⟩⟩
            · have e : hex2 ([] ++ 10 :: m) = none := by
                rw [List.nil_append]
                cases m with
                | nil => rfl
                | cons z m => rw [hex2_cons, hexv_lf]
              rw [e] at h; cases h
            · have e : hex2 ([x] ++ 10 :: m) = none := by
                show hex2 (x :: 10 :: m) = none
                rw [hex2_cons, hexv_lf]; cases hexv x <;> rfl
              rw [e] at h; cases h
            · cases e : hex2 (x :: y :: l ++ 10 :: m) with
              | none => rw [e] at h; cases h
              | some v => rw [e] at h; cases h; simp
          · rw [if_neg q4] at h; cases h
theorem qd_lf : ∀ (f : Nat) (r m : List Int) (off : Nat) (acc : List Int) (k : Int) (x : List Int) (n : Int) (len : Nat), qd f (r ++ 10 :: m) off acc = .ok k x n len → len ≤ off + r.length
  | 0, _, _, _, _, _, _, _, _, h => by cases h
  | f + 1, [], m, off, acc, k, x, n, len, h => by
    rw [List.nil_append, qd_cons, if_neg (by decide), if_neg (by decide), if_pos (by decide)] at h; cases h
  | f + 1, c :: r, m, off, acc, k, x, n, len, h => by
    rw [List.cons_append, qd_cons] at h
    simp only [List.length_cons]
    by_cases q1 : c = 34
    · rw [if_pos q1] at h; cases h; omega
    · rw [if_neg q1] at h
      by_cases q2 : c = 92
      · rw [if_pos q2] at h
        cases ee : esc (r ++ 10 :: m) with
        | none => rw [ee] at h; cases h
        | some bk =>
          obtain ⟨b, kk⟩ := bk
          rw [ee] at h
          have hk := esc_lf r m b kk ee
          have h2 : qd f ((r ++ 10 :: m).drop kk) (off + 1 + kk) (acc ++ [b]) = .ok k x n len := h
          rw [drop_app_le _ _ _ hk] at h2
          have := qd_lf f _ m _ _ k x n len h2
          rw [List.length_drop] at this
          omega
      · rw [if_neg q2] at h
        by_cases q3 : c < 32 ∨ c = 127
        · rw [if_pos q3] at h; cases h
        · rw [if_neg q3] at h
          have := qd_lf f r m _ _ k x n len h
          omega
theorem sign_lf : ∀ t ∈ signL, ¬ t.data.toList[1]? = some 10 := by decide
theorem sk_lf (c : Int) : sk (ofL [c, 10]) = 0 := skG_none _ _ _ fun t ht e => sign_lf t ht (by rw [e]; rfl)
theorem tok_lf {c : Int} {r m : List Int} {k : Int} {x : List Int} {n : Int} {len : Nat} (h : tok (c :: (r ++ 10 :: m)) = .ok k x n len) : len ≤ r.length + 1 := by
  have e1 : c :: (r ++ 10 :: m) = (c :: r) ++ 10 :: m := rfl
  have hr : rl (c :: (r ++ 10 :: m)) = rl (c :: r) := by rw [e1, rl_lf]
  have hr2 : rl (r ++ 10 :: m) = rl r := rl_lf r m
  have hle := rl_le (c :: r)
  have hle2 := rl_le r
  simp only [List.length_cons] at hle
  cases a : sml c with
  | true =>
    rw [tok_small a] at h
    split at h <;> (cases h; omega)
  | false =>
    cases b : grt c with
    | true => rw [tok_great a b] at h; cases h; omega
    | false =>
      by_cases q : c = 45
      · rw [tok_minus a b q] at h
        have := (numt_len _ _).1 k x n len h
        omega
      · cases d : dig c with
        | true =>
          rw [tok_dig a b q d] at h
          have := (numt_len _ _).1 k x n len h
          omega
        | false =>
          by_cases q2 : c = 34
          · rw [tok_quote a b q d q2] at h
            have := qd_lf _ r m 1 [] k x n len h
            omega
          · rw [tok_sign a b q d q2] at h
            unfold sgt at h
            cases r with
            | cons z r =>
              have := (sgF_len _ _).1 k x n len h
              simp only [List.length_cons]; omega
            | nil =>
              have e : min 2 (c :: ([] ++ 10 :: m)).length = 2 := by simp
              rw [e, sgF_no (m := 1) (by show sk (ofL [c, 10]) = 0; exact sk_lf c)] at h
              have := (sgF_len _ _).1 k x n len h
              simp only [List.length_nil]; omega
theorem ct_two (f off : Nat) (acc : List Tk) : ct (f + 6) [10, 32, 97, 32, 98] off acc = (acc ++ [⟨1, ofL [97], 0, (off + 1 + 1 : Nat), (off + 1 + 1 + 1 : Nat)⟩] ++ [⟨1, ofL [98], 0, (off + 1 + 1 + 1 + 1 : Nat), (off + 1 + 1 + 1 + 1 + 1 : Nat)⟩], 0, 0) := by
  have ea : tok [97, 32, 98] = .ok 1 [97] 0 1 := by decide
  have eb : tok [98] = .ok 1 [98] 0 1 := by decide
  rw [ct_cons, if_pos (by decide), ct_cons, if_pos (by decide), ct_cons, if_neg (by decide), if_neg (by decide), ea]
  show ct (f + 3) [32, 98] _ _ = _
  rw [ct_cons, if_pos (by decide), ct_cons, if_neg (by decide), if_neg (by decide), eb]
  show ct (f + 1) [] _ _ = _
  rw [ct_end]
/-- What is cut ends with the two words. -/
theorem ct_lf : ∀ (f : Nat) (l : List Int) (off : Nat) (acc : List Tk), l.length + 5 < f → (ct f (l ++ [10, 32, 97, 32, 98]) off acc).2.1 = 0 →
    ∃ (T : List Tk) (a b : Tk), (ct f (l ++ [10, 32, 97, 32, 98]) off acc).1 = T ++ [a, b] ∧ b.x = ofL [98]
  | 0, _, _, _, h, _ => by omega
  | f + 1, [], off, acc, h, _ => by
    obtain ⟨g, rfl⟩ : ∃ g, f = g + 5 := ⟨f - 5, by simp at h; omega⟩
    rw [List.nil_append, ct_two]
    exact ⟨acc, _, _, by rw [List.append_assoc]; rfl, rfl⟩
  | f + 1, c :: r, off, acc, h, h0 => by
    simp only [List.length_cons] at h
    rw [List.cons_append, ct_cons] at h0 ⊢
    by_cases q1 : c = 32 ∨ c = 9 ∨ c = 10 ∨ c = 13
    · rw [if_pos q1] at h0 ⊢
      exact ct_lf f r _ _ (by omega) h0
    · rw [if_neg q1] at h0 ⊢
      by_cases q2 : c = 37
      · rw [if_pos q2] at h0 ⊢
        have hle : le_ (c :: (r ++ [10, 32, 97, 32, 98])) ≤ (c :: r).length := le_lf (c :: r) _
        have hle1 : le_ (c :: (r ++ [10, 32, 97, 32, 98])) = le_ (r ++ [10, 32, 97, 32, 98]) + 1 := by rw [le_cons, if_neg (by omega)]
        obtain ⟨e, he'⟩ : ∃ e, le_ (c :: (r ++ [10, 32, 97, 32, 98])) = e := ⟨_, rfl⟩
        rw [he'] at h0 hle hle1 ⊢
        have ed : (c :: (r ++ [10, 32, 97, 32, 98])).drop e = (c :: r).drop e ++ [10, 32, 97, 32, 98] := drop_app_le (c :: r) _ _ hle
        rw [ed] at h0 ⊢
        exact ct_lf f _ _ _ (by rw [List.length_drop]; simp only [List.length_cons]; omega) h0
      · rw [if_neg q2] at h0 ⊢
        cases et : tok (c :: (r ++ [10, 32, 97, 32, 98])) with
        | bad e o =>
          rw [et] at h0
          exact absurd h0 ((tok_len c _).2 e o et)
        | ok k x n len =>
          rw [et] at h0
          have hl := tok_lf et
          have hl1 := (tok_len c _).1 k x n len et
          have ed : (c :: (r ++ [10, 32, 97, 32, 98])).drop len = (c :: r).drop len ++ [10, 32, 97, 32, 98] := drop_app_le (c :: r) _ _ (by simp only [List.length_cons]; omega)
          have h1 : (ct f ((c :: (r ++ [10, 32, 97, 32, 98])).drop len) (off + len) (acc ++ [⟨k, ofL x, n, off, (off + len : Nat)⟩])).2.1 = 0 := h0
          show ∃ T a b, (ct f ((c :: (r ++ [10, 32, 97, 32, 98])).drop len) (off + len) (acc ++ [⟨k, ofL x, n, off, (off + len : Nat)⟩])).1 = T ++ [a, b] ∧ b.x = ofL [98]
          rw [ed] at h1 ⊢
          exact ct_lf f _ _ _ (by rw [List.length_drop]; simp only [List.length_cons]; omega) h1
theorem cut_lf (s : ByteArray) (h : (cutL (bl (s ++ ⟨#[10, 32, 97, 32, 98]⟩)) ((s ++ ⟨#[10, 32, 97, 32, 98]⟩).size : Nat)).2.1 = 0) :
    ∃ (T : List Tk) (a b : Tk), (cutL (bl (s ++ ⟨#[10, 32, 97, 32, 98]⟩)) ((s ++ ⟨#[10, 32, 97, 32, 98]⟩).size : Nat)).1 = T ++ [a, b] ∧ b.x = ofL [98] := by
  rw [cutL_all] at h ⊢
  have hb : bl (s ++ ⟨#[10, 32, 97, 32, 98]⟩) = bl s ++ [10, 32, 97, 32, 98] := by rw [bl_append]; rfl
  have hl : (bl s ++ [10, 32, 97, 32, 98]).length = (s ++ ⟨#[10, 32, 97, 32, 98]⟩).size := by rw [← hb, bl_len]
  rw [hb] at h ⊢
  exact ct_lf _ _ _ _ (by rw [← hl]; simp) h
/-- The text that is cut beside. -/
def xyB : ByteArray := ⟨#[120, 32, 121, 32, 115, 97, 121, 115]⟩
def xyT : List Tk := [⟨1, ⟨#[120]⟩, 0, 0, 1⟩, ⟨1, ⟨#[121]⟩, 0, 2, 3⟩, ⟨5, ⟨#[]⟩, 0, 4, 8⟩]
theorem xyT_cut : cutL (bl xyB) 8 = (xyT, 0, 0) := by kernel_rfl
end Go.Proofs.YtekjicklbgpdcabDoor
