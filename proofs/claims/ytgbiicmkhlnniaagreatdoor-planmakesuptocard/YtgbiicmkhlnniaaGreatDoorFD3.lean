import Derived.Test.YtgbiicmkhlnniaaGreatDoorFC2
import Derived.Test.YtgbiicmkhlnniaaGreatDoorOQ1
import Derived.Test.YtgbiicmkhlnniaaGreatDoorFD2
/-
  plan: the planner's states, as one goes through the joins. (Plain.)
-/
namespace Go.Proofs.YtgbiicmkhlnniaaGreatDoor
open Go.RowKit

/-- A term of the kind of variables is one. -/
def K39 (t : Tm) : Prop := t.k = 3 → t.var = true
theorem k39_cov {t : Tm} (h : t.cov = true) : K39 t := fun hk => by
  simp only [Tm.cov, Bool.or_eq_true] at h
  rcases h with h | h
  · simp only [Tm.con, decide_eq_true_eq] at h; omega
  · exact h
theorem k39_qual {t : Tm} (h : qualOk t = true) : K39 t := fun hk => by
  cases hv : t.var with
  | true => rfl
  | false =>
    have h2 : t.prin = false := by simp only [Tm.prin, decide_eq_false_iff_not]; omega
    simp [qualOk, hv, h2] at h
    rw [h] at hk; simp [zt] at hk
theorem val_pl {x : Ck} (h : Val0 x) : ∀ a ∈ x.1 :: x.2.1, ∀ t ∈ a.pl, K39 t := fun a ha t ht => by
  obtain ⟨-, -, h3, h4⟩ := err_zero' (h.e a ha)
  rcases List.mem_cons.1 ht with rfl | ht
  · exact k39_qual h3
  · exact k39_cov (h4 t ht)
theorem val_te {x : Ck} (h : Val0 x) : ∀ a ∈ x.2.2, K39 a.l ∧ K39 a.r := fun a ha => by
  have := h.t a ha
  simp only [Te.ok, Bool.and_eq_true] at this
  exact ⟨k39_cov this.2.1, k39_cov this.2.2⟩
theorem mt9_true {l : List Int} : ∀ {met : List Bool} {i : Nat}, met[i]? = some true → (mt9 met l)[i]? = some true := by
  induction l with
  | nil => intro met i h; exact h
  | cons v l ih =>
    intro met i h
    show (mt9 (met.set v.toNat true) l)[i]? = some true
    refine ih ?_
    rw [List.getElem?_set]
    have hi : i < met.length := (List.getElem?_eq_some_iff.1 h).1
    split
    · rename_i e; rw [e, if_pos hi]
    · exact h
theorem mt9_new {l : List Int} {v : Int} : ∀ {met : List Bool}, v ∈ l → v.toNat < met.length → (mt9 met l)[v.toNat]? = some true := by
  induction l with
  | nil => intro met h; cases h
  | cons u l ih =>
    intro met h hl
    show (mt9 (met.set u.toNat true) l)[v.toNat]? = some true
    by_cases e : v ∈ l
    · exact ih e (by rw [List.length_set]; exact hl)
    · have : v = u := by rcases List.mem_cons.1 h with h | h; exact h; exact absurd h e
      subst this
      refine mt9_true ?_
      rw [List.getElem?_set, if_pos rfl, if_pos hl]
theorem vs_mem {P : List Tm} {t : Tm} (ht : t ∈ P) (hv : t.var = true) : t.n ∈ vs P := by
  have key : ∀ (l : List Tm) (out : List Int), (∀ x ∈ out, x ∈ l.foldl vS out) ∧ ∀ t ∈ l, t.var = true → t.n ∈ l.foldl vS out := by
    intro l
    induction l with
    | nil => intro out; exact ⟨fun x hx => hx, fun t ht => by cases ht⟩
    | cons u l ih =>
      intro out
      obtain ⟨h1, h2⟩ := ih (vS out u)
      have h0 : ∀ x ∈ out, x ∈ vS out u := fun x hx => by unfold vS; split <;> (try split) <;> simp [hx]
      refine ⟨fun x hx => h1 x (h0 x hx), fun t ht hv => ?_⟩
      rcases List.mem_cons.1 ht with rfl | ht
      · refine h1 _ ?_
        unfold vS
        rw [if_pos hv]
        split
        · rename_i ha
          obtain ⟨y, hy, e⟩ := List.any_eq_true.1 ha
          rw [← of_decide_eq_true e]; exact hy
        · simp
      · exact h2 t ht hv
  exact (key P []).2 t ht hv
theorem kn9_mono {met : List Bool} {l : List Int} {t : Tm} (h : kn9 met t = true) : kn9 (mt9 met l) t = true := by
  unfold kn9 at *
  cases hv : t.var with
  | false => rfl
  | true =>
    rw [hv] at h
    simp only [Bool.not_true, Bool.false_or] at h ⊢
    cases hm : met[t.n.toNat]? with
    | none => rw [hm] at h; cases h
    | some b =>
      rw [hm] at h
      simp only [Option.getD_some] at h
      rw [h] at hm
      rw [mt9_true hm]; rfl
theorem tk9_mono {c : Cm} {met : List Bool} {n : Nat} {m : Int} (h : tk9 c met m = true) : tk9 c (jm9 c met n) m = true := by
  unfold tk9 at *
  split at h
  · simp only [Bool.and_eq_true] at h ⊢
    exact ⟨kn9_mono h.1, kn9_mono h.2⟩
  · cases h
/-- The tests that are not told yet. -/
def T9 (c : Cm) (met : List Bool) : List Int := (up9 c.tests.length).filter fun n => !tk9 c met n
theorem T9_next (c : Cm) (met : List Bool) (n : Nat) : jT9 c met (T9 c met) n = T9 c (jm9 c met n) := by
  unfold jT9 T9
  rw [List.filter_filter]
  refine List.filter_congr fun m _ => ?_
  cases h : tk9 c met m with
  | false => simp
  | true => rw [tk9_mono h]; rfl
/-- Joins as a plan tells them, from a state on. -/
def Pl9 (c : Cm) : List Bool → List Int → List Js9 → Prop
  | _, A, [] => A = []
  | met, A, j :: js => ∃ n : Nat, (n : Int) ∈ A ∧ j = jr9 c met (T9 c met) n ∧ Pl9 c (jm9 c met n) (jA9 A n) js
theorem pl9_pln (c : Cm) : ∀ (f : Nat) (met : List Bool) (A : List Int), A.length = f → A.Nodup → (∀ m ∈ A, ∃ i : Nat, m = (i : Int)) → Pl9 c met A (pln9 c f met A (T9 c met))
  | 0, met, A, h, _, _ => List.eq_nil_of_length_eq_zero h
  | f + 1, met, A, h, hn, hi => by
    have hne : A ≠ [] := fun e => by rw [e] at h; cases h
    have hm := mn9_mem c met hne
    obtain ⟨i, hi'⟩ := hi _ hm
    have he : ((mn9 c met A).toNat : Int) = mn9 c met A := by omega
    refine ⟨(mn9 c met A).toNat, by rw [he]; exact hm, rfl, ?_⟩
    rw [T9_next]
    refine pl9_pln c f _ _ ?_ (hn.filter _) fun m hm => hi m (List.mem_filter.1 hm).1
    have := jA9_len hn (show ((mn9 c met A).toNat : Int) ∈ A by rw [he]; exact hm)
    omega
theorem pl9_len {c : Cm} : ∀ (js : List Js9) (met : List Bool) (A : List Int), A.Nodup → Pl9 c met A js → js.length = A.length
  | [], met, A, _, h => by rw [show A = [] from h]; rfl
  | j :: js, met, A, hn, ⟨n, h1, _, h2⟩ => by
    have := pl9_len js _ _ (hn.filter _) h2
    have := jA9_len hn h1
    rw [List.length_cons]
    unfold jA9 at *
    omega
/-- A planner's state: what is met is what the atoms joined have. -/
structure Ps9 (c : Cm) (met : List Bool) (A : List Int) : Prop where
  ml : met.length = (dis c.vars).length
  nd : A.Nodup
  lo : ∀ m ∈ A, ∃ i : Nat, m = (i : Int) ∧ i < c.body.length
  vr : ∀ (k : Nat) (x : At × Value), c.body[k]? = some x → ¬ (k : Int) ∈ A → ∀ t ∈ x.1.pl, t.var = true → met[t.n.toNat]? = some true
theorem body_vn9 {c : Cm} (h : c.chk = 0) {k : Nat} {x : At × Value} (hx : c.body[k]? = some x) : Vn9 (dis c.vars).length x.1.pl :=
  chk_vn9 h fun _ ht => List.mem_append_left _ (List.mem_flatMap.2 ⟨x, List.mem_cons_of_mem _ (List.mem_of_getElem? hx), ht⟩)
theorem Ps9.next {c : Cm} {met : List Bool} {A : List Int} (hc : c.chk = 0) (h : Ps9 c met A) {n : Nat} (hn : (n : Int) ∈ A) : Ps9 c (jm9 c met n) (jA9 A n) := by
  refine ⟨by unfold jm9; rw [mt9_len]; exact h.ml, h.nd.filter _, fun m hm => h.lo m (List.mem_filter.1 hm).1, fun k x hx hk t ht hv => ?_⟩
  by_cases e : (k : Int) ∈ A
  · have hkn : (k : Int) = (n : Int) := by
      refine Decidable.byContradiction fun hne => hk (List.mem_filter.2 ⟨e, by simp [hne]⟩)
    have hkn : k = n := by omega
    subst hkn
    have hp : pls9 c k = x.1.pl := by unfold pls9; rw [hx]
    unfold jm9
    rw [hp]
    obtain ⟨i, hi, hl⟩ := body_vn9 hc hx t ht hv
    exact mt9_new (vs_mem ht hv) (by rw [h.ml, hi, Int.toNat_natCast]; exact hl)
  · exact mt9_true (h.vr k x hx e t ht hv)
theorem Ps9.start {c : Cm} : Ps9 c (List.replicate (dis c.vars).length false) (up9 c.body.length) :=
  ⟨List.length_replicate .., up9_nodup _, fun m hm => by
    obtain ⟨i, hi, rfl⟩ := List.mem_map.1 hm
    exact ⟨i, rfl, List.mem_range.1 hi⟩, fun k x hx hk => absurd (List.mem_map.2 ⟨k, List.mem_range.2 (List.getElem?_eq_some_iff.1 hx).1, rfl⟩) hk⟩
theorem pl9_js {c : Cm} {lead : Int} (h1 : -1 ≤ lead) (h2 : lead < c.body.length) : Pl9 c (List.replicate (dis c.vars).length false) (up9 c.body.length) (js9 c lead) := by
  have hi : ∀ m ∈ up9 c.body.length, ∃ i : Nat, m = (i : Int) := fun m hm => by
    obtain ⟨i, -, rfl⟩ := List.mem_map.1 hm
    exact ⟨i, rfl⟩
  unfold js9
  by_cases hl : lead = -1
  · rw [if_pos hl]
    exact pl9_pln c _ _ _ rfl (up9_nodup _) hi
  · rw [if_neg hl]
    obtain ⟨n, rfl⟩ : ∃ n : Nat, lead = (n : Int) := ⟨lead.toNat, by omega⟩
    rw [Int.toNat_natCast]
    have hm : (n : Int) ∈ up9 c.body.length := List.mem_map.2 ⟨n, List.mem_range.2 (by omega), rfl⟩
    refine ⟨n, hm, rfl, ?_⟩
    have e := T9_next c (List.replicate (dis c.vars).length false) n
    rw [show ts9 c = T9 c (List.replicate (dis c.vars).length false) from rfl, e]
    exact pl9_pln c _ _ _ rfl ((up9_nodup _).filter _) fun m hm => hi m (List.mem_filter.1 hm).1
end Go.Proofs.YtgbiicmkhlnniaaGreatDoor
/-
  ref 9: what the reference's Make picks is what the planner picks. (Plain.)
-/
namespace Go.Proofs.YtgbiicmkhlnniaaGreatDoor
open Go.RowKit

theorem err_val9 (a : At) : a.err = 0 ∨ a.err = 21 ∨ a.err = 22 ∨ a.err = 23 ∨ a.err = 24 := by
  unfold At.err; (repeat' split) <;> simp
theorem aErr9 : ∀ l : List (At × Value), (∀ x ∈ l, x.1.err = 0) ∨ aErr l = 21 ∨ aErr l = 22 ∨ aErr l = 23 ∨ aErr l = 24
  | [] => Or.inl fun x hx => by cases hx
  | x :: r => by
    unfold aErr
    split
    · rename_i e
      rcases aErr9 r with h | h
      · refine Or.inl fun y hy => ?_
        rcases List.mem_cons.1 hy with rfl | hy
        · exact e
        · exact h y hy
      · exact Or.inr h
    · rename_i e
      rcases err_val9 x.1 with h | h
      · exact absurd h e
      · exact Or.inr h
theorem var_same9 {s t : Tm} (hs : s.var = true) (ht : t.var = true) (h : s.n = t.n) : s = t := by
  simp only [Tm.var, decide_eq_true_eq] at hs ht
  obtain ⟨sk, sn, ss⟩ := s
  obtain ⟨tk, tn, ts⟩ := t
  simp only at hs ht h
  rw [h, hs.1, ht.1, hs.2.2, ht.2.2]
theorem chk_err9 {c : Cm} (h : c.chk = 0) : Val0 c.key := by
  have key := chkL_none c.rs (fun x hx => by
    simp only [Cm.rs, List.mem_cons, List.not_mem_nil, or_false] at hx
    rcases hx with rfl | rfl | rfl | rfl | rfl | rfl | rfl | rfl | rfl <;> simp) h
  have a21 := key (decide (aErr c.atoms = 21), 21) (by simp [Cm.rs])
  have a22 := key (decide (aErr c.atoms = 22), 22) (by simp [Cm.rs])
  have a23 := key (decide (aErr c.atoms = 23), 23) (by simp [Cm.rs])
  have a24 := key (decide (aErr c.atoms = 24), 24) (by simp [Cm.rs])
  have hb := key (badT c, 32) (by simp [Cm.rs])
  have hs := key (c.head.1.by_.var, 33) (by simp [Cm.rs])
  have hu := key (unb c, 34) (by simp [Cm.rs])
  simp only [decide_eq_false_iff_not] at a21 a22 a23 a24 hb hs hu
  have he : ∀ x ∈ c.atoms, x.1.err = 0 := by
    rcases aErr9 c.atoms with h | h | h | h | h
    · exact h
    · exact absurd h a21
    · exact absurd h a22
    · exact absurd h a23
    · exact absurd h a24
  have hl := chk_len9 h
  refine ⟨fun a ha => ?_, fun t ht => ?_, ?_, hl.2, hs, fun t ht hv => ?_⟩
  · rcases List.mem_cons.1 ha with rfl | ha
    · exact he c.head (List.mem_cons_self ..)
    · obtain ⟨x, hx, rfl⟩ := List.mem_map.1 (show a ∈ c.body.map Prod.fst from ha)
      exact he x (List.mem_cons_of_mem _ hx)
  · have := List.any_eq_false.1 hb t ht
    simpa using this
  · simpa [Cm.key, fsts] using hl.1
  · rw [unb_key, List.any_eq_false] at hu
    have := hu t.n (List.mem_map.2 ⟨t, List.mem_filter.2 ⟨ht, hv⟩, rfl⟩)
    simp only [Bool.not_eq_true, Bool.not_eq_false', decide_eq_true_eq] at this
    obtain ⟨u, hu1, e⟩ := List.mem_map.1 this
    obtain ⟨hu1, hu2⟩ := List.mem_filter.1 hu1
    rw [← var_same9 hu2 hv e]
    exact hu1
/-- The planner's state beside the reference's lists: the atoms joined, the variables, the tests asked. -/
structure Rl9 (c : Cm) (met : List Bool) (A O Vs K : List Int) : Prop where
  ps : Ps9 c met A
  ri : A.Pairwise (· < ·)
  o : ∀ k : Nat, k < c.body.length → ((k : Int) ∈ O ↔ ¬ (k : Int) ∈ A)
  ol : O.length + A.length = c.body.length
  v : ∀ i : Nat, i < (dis c.vars).length → met[i]? = some (decide ((i : Int) ∈ Vs))
  k : ∀ n : Nat, n < c.tests.length → ((n : Int) ∈ K ↔ (tk9 c met n = true ∧ tk9 c (List.replicate (dis c.vars).length false) n = false))
theorem kt9_eq {c : Cm} {met : List Bool} {A O Vs K : List Int} (h : Rl9 c met A O Vs K) {t : Tm} (hk : K39 t) (hv : Vn9 (dis c.vars).length [t]) : kt9 Vs t = kn9 met t := by
  unfold kt9 kn9
  cases hvt : t.var with
  | true =>
    obtain ⟨i, hi, hlt⟩ := hv t (by simp) hvt
    have h3 : t.k = 3 := by simp only [Tm.var, decide_eq_true_eq] at hvt; exact hvt.1
    rw [hi, h3, Int.toNat_natCast, h.v i hlt]
    rfl
  | false =>
    have h3 : ¬ t.k = 3 := fun h => by rw [hk h] at hvt; cases hvt
    simp [h3]
theorem kr9_eq {c : Cm} {met : List Bool} {A O Vs K : List Int} (h : Rl9 c met A O Vs K) (P : List Tm) (hk : ∀ t ∈ P, K39 t) (hv : Vn9 (dis c.vars).length P) : ∀ j, kr9 Vs P j = kc9 met P j
  | 0 => rfl
  | j + 1 => by
    rw [kr9, kc9, kr9_eq h P hk hv j]
    cases ht : P[j]? with
    | none => rfl
    | some t =>
      have hm := List.mem_of_getElem? ht
      rw [Option.map_some, Option.map_some, kt9_eq h (hk t hm) (fun u hu => by rw [List.mem_singleton.1 hu]; exact hv t hm)]
/-- What the reference has found among the atoms below i. -/
def nx9 (c : Cm) (met : List Bool) (A : List Int) (i : Nat) : Int := match A.filter (fun m => decide (m < (i : Int))) with
  | [] => -1
  | x :: l => mn9 c met (x :: l)
theorem flt9_succ {A : List Int} (h : A.Pairwise (· < ·)) (i : Nat) : A.filter (fun m => decide (m < ((i + 1 : Nat) : Int))) = A.filter (fun m => decide (m < (i : Int))) ++ if (i : Int) ∈ A then [(i : Int)] else [] := by
  induction A with
  | nil => simp
  | cons x A ih =>
    rw [List.pairwise_cons] at h
    have ih := ih h.2
    have hmem : ¬ x = (i : Int) → ((i : Int) ∈ x :: A ↔ (i : Int) ∈ A) := fun hne => by
      rw [List.mem_cons]
      exact ⟨fun e => e.elim (fun e => absurd e.symm hne) id, Or.inr⟩
    by_cases h1 : x < (i : Int)
    · have e1 : decide (x < ((i + 1 : Nat) : Int)) = true := decide_eq_true (by omega)
      have e2 : decide (x < (i : Int)) = true := decide_eq_true h1
      simp only [List.filter_cons, e1, e2, if_true, ih, List.cons_append, hmem (by omega)]
    · have hA : A.filter (fun m => decide (m < (i : Int))) = [] := List.filter_eq_nil_iff.2 fun y hy => by have := h.1 y hy; simp; omega
      have e2 : decide (x < (i : Int)) = false := decide_eq_false h1
      rw [hA] at ih
      by_cases h2 : x = (i : Int)
      · have hn : ¬ (i : Int) ∈ A := fun e => by have := h.1 _ e; omega
        rw [if_neg hn] at ih
        have e1 : decide (x < ((i + 1 : Nat) : Int)) = true := decide_eq_true (by omega)
        have hx : (i : Int) ∈ x :: A := by rw [h2]; exact List.mem_cons_self ..
        simp only [List.filter_cons, e1, e2, if_true, ih, hA, hx]
        rw [h2]; rfl
      · have e1 : decide (x < ((i + 1 : Nat) : Int)) = false := decide_eq_false (by omega)
        simp only [List.filter_cons, e1, e2, ih, hA, hmem h2]
        rfl
theorem mn9_snoc {c : Cm} {met : List Bool} {x y : Int} {l : List Int} : mn9 c met (x :: l ++ [y]) = bt9 c met (mn9 c met (x :: l)) y := by
  show List.foldl _ _ (l ++ [y]) = _
  rw [List.foldl_append]; rfl
theorem nx9_out {c : Cm} {met : List Bool} {A : List Int} (h : A.Pairwise (· < ·)) {i : Nat} (hi : ¬ (i : Int) ∈ A) : nx9 c met A (i + 1) = nx9 c met A i := by
  unfold nx9; rw [flt9_succ h, if_neg hi, List.append_nil]
theorem nx9_none {c : Cm} {met : List Bool} {A : List Int} {i : Nat} (hi : ∀ m ∈ A, ∃ k : Nat, m = (k : Int)) (h : nx9 c met A i < 0) : A.filter (fun m => decide (m < (i : Int))) = [] := by
  unfold nx9 at h
  split at h
  · assumption
  · rename_i x l e
    have hm := mn9_mem c met (A := x :: l) (by simp)
    rw [← e] at hm h
    obtain ⟨k, hk⟩ := hi _ (List.mem_filter.1 hm).1
    omega
theorem nx9_first {c : Cm} {met : List Bool} {A : List Int} (h : A.Pairwise (· < ·)) {i : Nat} (hi : (i : Int) ∈ A) (hn : A.filter (fun m => decide (m < (i : Int))) = []) : nx9 c met A (i + 1) = (i : Int) := by
  unfold nx9; rw [flt9_succ h, if_pos hi, hn]; rfl
theorem nx9_some {c : Cm} {met : List Bool} {A : List Int} {i : Nat} (hi : ∀ m ∈ A, ∃ k : Nat, m = (k : Int)) (h : ¬ nx9 c met A i < 0) : ∃ k : Nat, nx9 c met A i = (k : Int) ∧ (k : Int) ∈ A ∧ k < i := by
  unfold nx9 at h ⊢
  split at h
  · omega
  · rename_i x l e
    have hm := mn9_mem c met (A := x :: l) (by simp)
    rw [← e] at hm
    obtain ⟨h1, h2⟩ := List.mem_filter.1 hm
    obtain ⟨k, hk⟩ := hi _ h1
    rw [e] at hk hm h1 h2
    refine ⟨k, hk, by rw [← hk]; exact h1, ?_⟩
    rw [hk] at h2
    simpa using h2
theorem nx9_next {c : Cm} {met : List Bool} {A : List Int} (h : A.Pairwise (· < ·)) {i : Nat} (hi : (i : Int) ∈ A) (hn : ¬ nx9 c met A i < 0) : nx9 c met A (i + 1) = bt9 c met (nx9 c met A i) (i : Int) := by
  unfold nx9 at *
  rw [flt9_succ h, if_pos hi]
  split at hn
  · omega
  · rename_i x l e
    rw [e]
    show mn9 c met (x :: l ++ [(i : Int)]) = _
    rw [mn9_snoc]
theorem nx9_all {c : Cm} {met : List Bool} {A : List Int} {n : Nat} (h : ∀ m ∈ A, m < (n : Int)) (hA : A ≠ []) : nx9 c met A n = mn9 c met A := by
  unfold nx9
  rw [List.filter_eq_self.2 fun m hm => decide_eq_true (h m hm)]
  cases A with
  | nil => exact absurd rfl hA
  | cons x l => rfl
end Go.Proofs.YtgbiicmkhlnniaaGreatDoor
