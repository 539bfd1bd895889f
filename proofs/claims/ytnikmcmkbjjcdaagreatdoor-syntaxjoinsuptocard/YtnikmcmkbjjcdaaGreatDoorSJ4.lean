import Derived.Test.YtnikmcmkbjjcdaaGreatDoorK9
import Derived.Test.YtnikmcmkbjjcdaaGreatDoorSJ2
import Derived.Test.YtnikmcmkbjjcdaaGreatDoorJ4
/-
  Fronts and longer texts: the plain mathematics.
-/
namespace Go.Proofs.YtnikmcmkbjjcdaaGreatDoor

theorem rl_cons (c : Int) (r : List Int) : rl (c :: r) = if rnb c = true then rl r + 1 else 0 := rfl
theorem le_cons (c : Int) (r : List Int) : le_ (c :: r) = if c = 10 then 0 else le_ r + 1 := rfl
theorem take_app_le (l y : List Int) (n : Nat) (h : n ≤ l.length) : (l ++ y).take n = l.take n := List.take_append_of_le_length h
theorem drop_app_le (l y : List Int) (n : Nat) (h : n ≤ l.length) : (l ++ y).drop n = l.drop n ++ y := List.drop_append_of_le_length h
theorem esc_take {l : List Int} {b : Int} {k : Nat} (h : esc l = some (b, k)) (y : List Int) (hy : l.take k = y.take k) : esc y = some (b, k) := by
  have hr := esc_rng h
  cases l with
  | nil => cases h
  | cons c r =>
    obtain ⟨k, rfl⟩ : ∃ k', k = k' + 1 := ⟨k - 1, by omega⟩
    cases y with
    | nil => simp at hy
    | cons d z =>
      simp only [List.take_succ_cons, List.cons.injEq] at hy
      obtain ⟨rfl, hy⟩ := hy
      rw [esc_cons] at h ⊢
      by_cases q1 : c = 34 ∨ c = 92
      · rw [if_pos q1] at h ⊢; exact h
      · rw [if_neg q1] at h ⊢
        by_cases q2 : c = 110
        · rw [if_pos q2] at h ⊢; exact h
        · rw [if_neg q2] at h ⊢
          by_cases q3 : c = 116
          · rw [if_pos q3] at h ⊢; exact h
          · rw [if_neg q3] at h ⊢
            by_cases q4 : c = 120
            · rw [if_pos q4] at h ⊢
              cases e : hex2 r with
              | none => rw [e] at h; cases h
              | some x =>
                rw [e] at h
                simp only [Option.map_some, Option.some.injEq, Prod.mk.injEq] at h
                obtain ⟨rfl, hk⟩ := h
                obtain rfl : k = 2 := by omega
                match r, z, e, hy with
                | a :: a2 :: r', z, e, hy =>
                  match z, hy with
                  | [], hy => simp at hy
                  | [_], hy => simp at hy
                  | z1 :: z2 :: z', hy =>
                    simp at hy
                    obtain ⟨rfl, rfl⟩ := hy
                    have e2 : hex2 (a :: a2 :: z') = some x := e
                    rw [e2]; rfl
            · rw [if_neg q4] at h; cases h
/-- A quoted text that ends: what stands behind it doesn't matter. -/
theorem qd_ok : ∀ (f : Nat) (r : List Int) (off : Nat) (acc : List Int) (k : Int) (x : List Int) (n : Int) (len : Nat), qd f r off acc = .ok k x n len →
    ∀ (f' : Nat) (y : List Int), y.length < f' → y.take (len - off) = r.take (len - off) → qd f' y off acc = .ok k x n len
  | 0, _, _, _, _, _, _, _, h, _, _, _, _ => by cases h
  | _ + 1, [], _, _, _, _, _, _, h, _, _, _, _ => by cases h
  | f + 1, c :: r, off, acc, k, x, n, len, h, f', y, hf, hy => by
    have hl := (qd_len (f + 1) (c :: r) off acc).1 k x n len h
    obtain ⟨m, hm⟩ : ∃ m, len - off = m + 1 := ⟨len - off - 1, by omega⟩
    rw [hm] at hy
    cases y with
    | nil => simp at hy
    | cons d z =>
      simp only [List.take_succ_cons, List.cons.injEq] at hy
      obtain ⟨rfl, hy⟩ := hy
      obtain ⟨f', rfl⟩ : ∃ g, f' = g + 1 := ⟨f' - 1, by omega⟩
      simp only [List.length_cons] at hf
      rw [qd_cons] at h ⊢
      by_cases q1 : d = 34
      · rw [if_pos q1] at h ⊢; exact h
      · rw [if_neg q1] at h ⊢
        by_cases q2 : d = 92
        · rw [if_pos q2] at h ⊢
          cases ee : esc r with
          | none => rw [ee] at h; cases h
          | some bk =>
            obtain ⟨b, kk⟩ := bk
            rw [ee] at h
            have hr := esc_rng ee
            have hl2 := (qd_len f (r.drop kk) (off + 1 + kk) (acc ++ [b])).1 k x n len h
            have ez : esc z = some (b, kk) := esc_take ee z (by
              have := congrArg (List.take kk) hy
              rw [List.take_take, List.take_take, Nat.min_eq_left (by omega)] at this
              exact this.symm)
            rw [ez]
            refine qd_ok f (r.drop kk) (off + 1 + kk) (acc ++ [b]) k x n len h f' (z.drop kk) (by rw [List.length_drop]; omega) ?_
            have := congrArg (List.drop kk) hy
            rw [List.drop_take, List.drop_take] at this
            rw [show len - (off + 1 + kk) = m - kk by omega]
            exact this
        · rw [if_neg q2] at h ⊢
          by_cases q3 : d < 32 ∨ d = 127
          · rw [if_pos q3] at h; cases h
          · rw [if_neg q3] at h ⊢
            exact qd_ok f r (off + 1) (acc ++ [d]) k x n len h f' z (by omega) (by rw [show len - (off + 1) = m by omega]; exact hy)
end Go.Proofs.YtnikmcmkbjjcdaaGreatDoor
/-
  Tokens and texts: fronts, and longer ones.
-/
namespace Go.Proofs.YtnikmcmkbjjcdaaGreatDoor

theorem skG_none (x : ByteArray) : ∀ (l : List ByteArray) (i : Nat), (∀ t ∈ l, ¬ t = x) → skG i l x = 0
  | [], _, _ => rfl
  | t :: l, i, h => by
    show (if t = x then i else skG (i + 1) l x) = 0
    rw [if_neg (h t (by simp)), skG_none x l (i + 1) (fun u hu => h u (by simp [hu]))]
theorem sgF_congr {l l' : List Int} : ∀ m, (∀ i, i ≤ m → l.take i = l'.take i) → sgF l m = sgF l' m
  | 0, _ => rfl
  | m + 1, h => by
    show (if sk (ofL (l.take (m + 1))) = 0 then sgF l m else .ok (sk (ofL (l.take (m + 1))) : Nat) [] 0 (m + 1)) = (if sk (ofL (l'.take (m + 1))) = 0 then sgF l' m else .ok (sk (ofL (l'.take (m + 1))) : Nat) [] 0 (m + 1))
    rw [h (m + 1) (Nat.le_refl _), sgF_congr m (fun i hi => h i (by omega))]
theorem numt_congr {n : Nat} {l l' : List Int} (h : l.take n = l'.take n) : numt n l = numt n l' := by unfold numt; rw [h]
end Go.Proofs.YtnikmcmkbjjcdaaGreatDoor
/-
  PLAIN: the tokens of two texts with a line's end between them.
-/
namespace Go.Proofs.YtnikmcmkbjjcdaaGreatDoor
open Go.RowKit

theorem rl_nl5 : ∀ (l m : List Int), rl (l ++ 10 :: m) = rl l
  | [], m => by show rl (10 :: m) = 0; rw [rl_cons, if_neg (by decide)]
  | c :: l, m => by rw [List.cons_append, rl_cons, rl_cons, rl_nl5 l m]
theorem le_nl5 : ∀ (l m : List Int), le_ (l ++ 10 :: m) = le_ l
  | [], m => by show le_ (10 :: m) = 0; rw [le_cons, if_pos rfl]
  | c :: l, m => by rw [List.cons_append, le_cons, le_cons, le_nl5 l m]
theorem sign_nl5 : ∀ t ∈ signL, ¬ t.data.toList[1]? = some 10 := by decide
theorem sk_nl5 (c : Int) : sk (ofL [c, 10]) = 0 := skG_none _ _ _ fun t ht e => sign_nl5 t ht (by rw [e]; rfl)
theorem sgt_nl5 (c : Int) (r m : List Int) : sgt (c :: (r ++ 10 :: m)) = sgt (c :: r) := by
  unfold sgt
  cases r with
  | nil =>
    have e : min 2 (c :: ([] ++ 10 :: m)).length = 2 := by simp
    have e' : min 2 [c].length = 1 := by simp
    rw [e, e', sgF_no (m := 1) (by show sk (ofL [c, 10]) = 0; exact sk_nl5 c)]
    exact sgF_congr 1 fun i hi => by
      rcases i with _ | _ | i
      · rfl
      · rfl
      · omega
  | cons d r =>
    have e : min 2 (c :: (d :: r ++ 10 :: m)).length = 2 := by simp
    have e' : min 2 (c :: d :: r).length = 2 := by simp
    rw [e, e']
    exact sgF_congr 2 fun i hi => by
      rcases i with _ | _ | _ | i
      · rfl
      · rfl
      · rfl
      · omega
theorem tok_nl5 {c : Int} {r m : List Int} {k : Int} {x : List Int} {n : Int} {len : Nat} (h : tok (c :: r) = .ok k x n len) : tok (c :: (r ++ 10 :: m)) = .ok k x n len := by
  have e1 : c :: (r ++ 10 :: m) = (c :: r) ++ 10 :: m := rfl
  have hr : rl (c :: (r ++ 10 :: m)) = rl (c :: r) := by rw [e1, rl_nl5]
  have hr2 : rl (r ++ 10 :: m) = rl r := rl_nl5 r m
  have hle := rl_le (c :: r)
  have hle2 := rl_le r
  cases a : sml c with
  | true => rw [tok_small a] at h ⊢; rw [hr, e1, take_app_le _ _ _ hle]; exact h
  | false =>
    cases b : grt c with
    | true => rw [tok_great a b] at h ⊢; rw [hr, e1, take_app_le _ _ _ hle]; exact h
    | false =>
      by_cases q : c = 45
      · rw [tok_minus a b q] at h ⊢
        rw [hr2, e1, ← h]
        exact numt_congr (take_app_le _ _ _ (by simp only [List.length_cons]; omega))
      · cases d : dig c with
        | true =>
          rw [tok_dig a b q d] at h ⊢
          rw [hr, e1, ← h]
          exact numt_congr (take_app_le _ _ _ hle)
        | false =>
          by_cases q2 : c = 34
          · rw [tok_quote a b q d q2] at h ⊢
            have hl := (qd_len (r.length + 1) r 1 []).1 _ _ _ _ h
            exact qd_ok _ _ _ _ _ _ _ _ h _ _ (by omega) (take_app_le _ _ _ (by omega))
          · rw [tok_sign a b q d q2] at h ⊢
            rw [sgt_nl5]; exact h
/-- Behind a text that is cut well, the cutting goes on. -/
theorem ct_nl5 : ∀ (f : Nat) (l m : List Int) (off : Nat) (acc T : List Tk), l.length < f → ct f l off acc = (T, 0, 0) → ∀ f', (l ++ 10 :: m).length < f' → ∃ g, m.length < g ∧ ct f' (l ++ 10 :: m) off acc = ct g m (off + l.length + 1) T
  | 0, _, _, _, _, _, h, _, _, _ => by omega
  | f + 1, [], m, off, acc, T, _, h, f', hf => by
    simp only [List.nil_append, List.length_cons] at hf
    obtain ⟨f', rfl⟩ : ∃ g, f' = g + 1 := ⟨f' - 1, by omega⟩
    rw [ct_end] at h
    refine ⟨f', by omega, ?_⟩
    rw [List.nil_append, ct_cons, if_pos (by decide), (Prod.mk.inj h).1]
    rfl
  | f + 1, c :: r, m, off, acc, T, hl, h, f', hf => by
    simp only [List.length_cons] at hl
    simp only [List.cons_append, List.length_cons, List.length_append] at hf
    obtain ⟨f', rfl⟩ : ∃ g, f' = g + 1 := ⟨f' - 1, by omega⟩
    rw [ct_cons] at h
    rw [List.cons_append, ct_cons]
    by_cases q1 : c = 32 ∨ c = 9 ∨ c = 10 ∨ c = 13
    · rw [if_pos q1] at h ⊢
      obtain ⟨g, g1, g2⟩ := ct_nl5 f r m (off + 1) acc T (by omega) h f' (by simp only [List.length_append, List.length_cons]; omega)
      refine ⟨g, g1, ?_⟩
      rw [g2]
      congr 1
      simp only [List.length_cons]; omega
    · rw [if_neg q1] at h ⊢
      by_cases q2 : c = 37
      · rw [if_pos q2] at h ⊢
        have hle := le_le (c :: r)
        have hle1 : le_ (c :: r) = le_ r + 1 := by rw [le_cons, if_neg (by omega)]
        rw [← List.cons_append, le_nl5]
        obtain ⟨e, he'⟩ : ∃ e, le_ (c :: r) = e := ⟨_, rfl⟩
        rw [he'] at h hle hle1 ⊢
        simp only [List.length_cons] at hle
        have hdl : ((c :: r).drop e).length = r.length + 1 - e := by simp
        rw [drop_app_le _ _ _ (by simp only [List.length_cons]; exact hle)]
        obtain ⟨g, g1, g2⟩ := ct_nl5 f ((c :: r).drop e) m (off + e) acc T (by omega) h f' (by simp only [List.length_append, List.length_cons, hdl]; omega)
        refine ⟨g, g1, ?_⟩
        rw [g2, hdl]
        congr 1
        simp only [List.length_cons]; omega
      · rw [if_neg q2] at h ⊢
        cases et : tok (c :: r) with
        | bad e o =>
          rw [et] at h
          exact absurd (Prod.mk.inj (Prod.mk.inj h).2).1 ((tok_len c r).2 e o et)
        | ok k x n len =>
          have htl := (tok_len c r).1 k x n len et
          rw [et] at h
          rw [tok_nl5 et]
          have hdl : ((c :: r).drop len).length = r.length + 1 - len := by simp
          show ∃ g, _ ∧ ct f' ((c :: (r ++ 10 :: m)).drop len) (off + len) (acc ++ [⟨k, ofL x, n, off, (off + len : Nat)⟩]) = _
          rw [← List.cons_append, drop_app_le _ _ _ (by simp only [List.length_cons]; omega)]
          obtain ⟨g, g1, g2⟩ := ct_nl5 f ((c :: r).drop len) m (off + len) _ T (by omega) h f' (by simp only [List.length_append, List.length_cons, hdl]; omega)
          refine ⟨g, g1, ?_⟩
          rw [g2, hdl]
          congr 1
          simp only [List.length_cons]; omega
/-- Further on the tokens are the same, further on. -/
theorem ct_sh5 (D : Nat) (a0 : List Tk) : ∀ (f f' : Nat) (l : List Int) (off : Nat) (acc T : List Tk), l.length < f → l.length < f' → ct f l off acc = (T, 0, 0) → ct f' l (off + D) (a0 ++ acc.map (shT D)) = (a0 ++ T.map (shT D), 0, 0)
  | 0, _, _, _, _, _, h, _, _ => by omega
  | _, 0, _, _, _, _, _, h, _ => by omega
  | f + 1, f' + 1, [], off, acc, T, _, _, h => by
    rw [ct_end] at h ⊢
    rw [(Prod.mk.inj h).1]
  | f + 1, f' + 1, c :: r, off, acc, T, hl, hl', h => by
    simp only [List.length_cons] at hl hl'
    rw [ct_cons] at h ⊢
    by_cases q1 : c = 32 ∨ c = 9 ∨ c = 10 ∨ c = 13
    · rw [if_pos q1] at h ⊢
      rw [show off + D + 1 = off + 1 + D by omega]
      exact ct_sh5 D a0 f f' r (off + 1) acc T (by omega) (by omega) h
    · rw [if_neg q1] at h ⊢
      by_cases q2 : c = 37
      · rw [if_pos q2] at h ⊢
        have hle1 : le_ (c :: r) = le_ r + 1 := by rw [le_cons, if_neg (by omega)]
        obtain ⟨e, he'⟩ : ∃ e, le_ (c :: r) = e := ⟨_, rfl⟩
        rw [he'] at h hle1 ⊢
        have hdl : ((c :: r).drop e).length = r.length + 1 - e := by simp
        rw [show off + D + e = off + e + D by omega]
        exact ct_sh5 D a0 f f' _ (off + e) acc T (by omega) (by omega) h
      · rw [if_neg q2] at h ⊢
        cases et : tok (c :: r) with
        | bad e o =>
          rw [et] at h
          exact absurd (Prod.mk.inj (Prod.mk.inj h).2).1 ((tok_len c r).2 e o et)
        | ok k x n len =>
          have htl := (tok_len c r).1 k x n len et
          rw [et] at h
          have hdl : ((c :: r).drop len).length = r.length + 1 - len := by simp
          have := ct_sh5 D a0 f f' ((c :: r).drop len) (off + len) (acc ++ [⟨k, ofL x, n, off, (off + len : Nat)⟩]) T (by omega) (by omega) h
          rw [List.map_append, ← List.append_assoc] at this
          show ct f' ((c :: r).drop len) (off + D + len) (a0 ++ acc.map (shT D) ++ [⟨k, ofL x, n, ((off + D : Nat) : Int), ((off + D + len : Nat) : Int)⟩]) = _
          rw [show off + D + len = off + len + D by omega]
          have e3 : ([⟨k, ofL x, n, (off : Int), ((off + len : Nat) : Int)⟩] : List Tk).map (shT D) = [⟨k, ofL x, n, ((off + D : Nat) : Int), ((off + len + D : Nat) : Int)⟩] := by
            show [(⟨k, ofL x, n, (off : Int) + (D : Int), ((off + len : Nat) : Int) + (D : Int)⟩ : Tk)] = _
            rw [← Int.natCast_add, ← Int.natCast_add]
          rw [e3] at this
          exact this
theorem bl_app5 (s t : ByteArray) : blK (s ++ t) = blK s ++ blK t := by
  unfold blK
  rw [← List.map_append]
  have : (s ++ t).data = s.data ++ t.data := ByteArray.data_append
  rw [this, Array.toList_append]
/-- Two texts with a line's end between them. -/
def two_ (a b : ByteArray) : ByteArray := a ++ ⟨#[10]⟩ ++ b
theorem two_size (a b : ByteArray) : (two_ a b).size = b.size + (a.size + 1) := by
  unfold two_
  rw [ByteArray.size_append, ByteArray.size_append]
  show a.size + 1 + b.size = _
  omega
theorem cut_two5 {a b : ByteArray} {most : Int} {A B : List Tk} (hm : ((two_ a b).size : Int) ≤ most) (ha : cutL (blK a) most = (A, 0, 0)) (hb : cutL (blK b) most = (B, 0, 0)) : cutL (blK (two_ a b)) most = (A ++ B.map (shT (a.size + 1)), 0, 0) := by
  have hs := two_size a b
  have e0 : blK (two_ a b) = blK a ++ 10 :: blK b := by unfold two_; rw [bl_app5, bl_app5, List.append_assoc]; rfl
  unfold cutL at ha hb ⊢
  rw [bl_len] at ha hb ⊢
  rw [if_neg (by omega)] at ha hb ⊢
  rw [e0]
  obtain ⟨g, g1, g2⟩ := ct_nl5 _ (blK a) (blK b) 0 [] A (by rw [bl_len]; omega) ha ((two_ a b).size + 1) (by rw [← e0, bl_len]; omega)
  rw [g2, bl_len, Nat.zero_add]
  have := ct_sh5 (a.size + 1) A _ g (blK b) 0 [] B (by rw [bl_len]; omega) g1 hb
  rw [List.map_nil, List.append_nil, Nat.zero_add] at this
  exact this
end Go.Proofs.YtnikmcmkbjjcdaaGreatDoor
/-
  PLAIN: what is read of two texts laid together.
-/
namespace Go.Proofs.YtnikmcmkbjjcdaaGreatDoor
open Go.RowKit

theorem pg5_cut {s : ByteArray} {most : Int} {T : List Tk} (h : cutL (blK s) most = (T, 0, 0)) : pg5 s most = pp5 T s.size [] 0 := by
  unfold pg5 pp5
  rw [h]
  rfl
theorem two_front {a b : ByteArray} {most : Int} {A B : List Tk} (hm : ((two_ a b).size : Int) ≤ most) (ha : cutL (blK a) most = (A, 0, 0)) (hb : cutL (blK b) most = (B, 0, 0)) {e : Int × Int} (h : pg5 a most = .error e) : e.2 = (a.size : Int) ∨ pg5 (two_ a b) most = .error e := by
  have hc := cut_two5 hm ha hb
  have := front5 (A := A) (T := A ++ B.map (shT (a.size + 1))) ⟨_, rfl⟩ a.size (two_ a b).size A.length [] 0 (Nat.zero_le _) rfl
  rw [pg5_cut ha] at h
  rw [h] at this
  rw [pg5_cut hc]
  exact this
theorem two_back {a b : ByteArray} {most : Int} {A B : List Tk} (hm : ((two_ a b).size : Int) ≤ most) (ha : cutL (blK a) most = (A, 0, 0)) (hb : cutL (blK b) most = (B, 0, 0)) {ks : List Ck} (h : pg5 a most = .ok ks) : pg5 (two_ a b) most = acE ks (shE (a.size + 1) (pg5 b most)) := by
  have hc := cut_two5 hm ha hb
  have h1 := front5 (A := A) (T := A ++ B.map (shT (a.size + 1))) ⟨_, rfl⟩ a.size (two_ a b).size A.length [] 0 (Nat.zero_le _) rfl
  rw [pg5_cut ha] at h
  rw [h] at h1
  have h2 := back5 (A := A) (B := B) (T := A ++ B.map (shT (a.size + 1))) (D := a.size + 1) ⟨rfl⟩ b.size B.length ks [] 0 (Nat.zero_le _) rfl
  rw [List.append_nil, Nat.zero_add, ← two_size] at h2
  rw [pg5_cut hc, pg5_cut hb]
  exact h1.trans h2
end Go.Proofs.YtnikmcmkbjjcdaaGreatDoor
