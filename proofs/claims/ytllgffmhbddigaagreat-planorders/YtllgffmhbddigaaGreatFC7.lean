/-
  plan: what Make tells is what law 9's PlanOrders asks. (Plain.)
-/
import Derived.Test.YtllgffmhbddigaaGreatMP2
namespace Go.Proofs.YtllgffmhbddigaaGreat
open Go.RowKit

/-- A term of the kind of variables is one. -/
def K39 (t : Tm) : Prop := t.k = 3 → t.var = true
theorem k39_cov {t : Tm} (h : t.cov = true) : K39 t := fun hk => by
  simp only [Tm.cov, Bool.or_eq_true] at h
  rcases h with h | h
  · simp only [Tm.con, decide_eq_true_eq] at h; omega
  · exact h
theorem k39_qual {t : Tm} (h : qualOk t = true) : K39 t := fun hk => by
  cases hv : t.var with
  | true => rfl
  | false =>
    have h2 : t.prin = false := by simp only [Tm.prin, decide_eq_false_iff_not]; omega
    simp [qualOk, hv, h2] at h
    rw [h] at hk; simp [zt] at hk
theorem val_pl {x : Ck} (h : Val0 x) : ∀ a ∈ x.1 :: x.2.1, ∀ t ∈ a.pl, K39 t := fun a ha t ht => by
  obtain ⟨-, -, h3, h4⟩ := err_zero' (h.e a ha)
  rcases List.mem_cons.1 ht with rfl | ht
  · exact k39_qual h3
  · exact k39_cov (h4 t ht)
theorem val_te {x : Ck} (h : Val0 x) : ∀ a ∈ x.2.2, K39 a.l ∧ K39 a.r := fun a ha => by
  have := h.t a ha
  simp only [Te.ok, Bool.and_eq_true] at this
  exact ⟨k39_cov this.2.1, k39_cov this.2.2⟩
/-- The 72 bools of the law, out of the planner's. -/
def M9 (met : List Bool) : List Bool := met ++ List.replicate (72 - met.length) false
theorem M9_len {met : List Bool} (h : met.length ≤ 72) : (M9 met).length = 72 := by simp [M9]; omega
theorem M9_set {met : List Bool} {i : Nat} (h : i < met.length) : (M9 met).set i true = M9 (met.set i true) := by
  unfold M9
  rw [List.set_append_left _ _ h, List.length_set]
theorem kl9L_eq {met : List Bool} {t : Tm} (hk : K39 t) (hv : Vn9 met.length [t]) (hl : met.length ≤ 72) : kl9L (M9 met) t = kn9 met t := by
  unfold kl9L kn9
  cases hvt : t.var with
  | true =>
    obtain ⟨i, hi, hlt⟩ := hv t (by simp) hvt
    have h3 : t.k = 3 := by simp only [Tm.var, decide_eq_true_eq] at hvt; exact hvt.1
    rw [hi, h3]
    have e : (M9 met)[i]? = met[i]? := by unfold M9; rw [List.getElem?_append_left hlt]
    rw [Int.toNat_natCast, e]
    have h72 : (i : Int) < 72 := by omega
    simp [h72]
  | false =>
    have h3 : ¬ t.k = 3 := fun h => by rw [hk h] at hvt; cases hvt
    simp [h3]
theorem mt9_true {l : List Int} : ∀ {met : List Bool} {i : Nat}, met[i]? = some true → (mt9 met l)[i]? = some true := by
  induction l with
  | nil => intro met i h; exact h
  | cons v l ih =>
    intro met i h
    show (mt9 (met.set v.toNat true) l)[i]? = some true
    refine ih ?_
    rw [List.getElem?_set]
    have hi : i < met.length := (List.getElem?_eq_some_iff.1 h).1
    split
    · rename_i e; rw [e, if_pos hi]
    · exact h
theorem mt9_new {l : List Int} {v : Int} : ∀ {met : List Bool}, v ∈ l → v.toNat < met.length → (mt9 met l)[v.toNat]? = some true := by
  induction l with
  | nil => intro met h; cases h
  | cons u l ih =>
    intro met h hl
    show (mt9 (met.set u.toNat true) l)[v.toNat]? = some true
    by_cases e : v ∈ l
    · exact ih e (by rw [List.length_set]; exact hl)
    · have : v = u := by rcases List.mem_cons.1 h with h | h; exact h; exact absurd h e
      subst this
      refine mt9_true ?_
      rw [List.getElem?_set, if_pos rfl, if_pos hl]
theorem set_same {l : List Bool} {i : Nat} (h : l[i]? = some true) : l.set i true = l := by
  have hi : i < l.length := (List.getElem?_eq_some_iff.1 h).1
  refine List.ext_getElem? fun k => ?_
  rw [List.getElem?_set]
  split
  · rename_i e; first | rw [if_pos hi, ← e, h] | rw [← e, h]
  · rfl
theorem ml9_eq {met : List Bool} (hl : met.length ≤ 72) (P : List Tm) (hv : Vn9 met.length P) (hk : ∀ t ∈ P, K39 t) : ∀ j, j ≤ P.length → ml9 (M9 met) (P.take j) = M9 (mt9 met (vs (P.take j)))
  | 0, _ => by simp [ml9, vs, mt9]
  | j + 1, hj => by
    obtain ⟨t, ht⟩ : ∃ t, P[j]? = some t := ⟨P[j], List.getElem?_eq_getElem _⟩
    have hm : t ∈ P := List.mem_of_getElem? ht
    rw [ml9_take ht, vs_take _ _ _ ht, ml9_eq hl P hv hk j (by omega)]
    generalize hvs : vs (P.take j) = out
    unfold vS ms9
    cases hvt : t.var with
    | true =>
      obtain ⟨i, hi, hlt⟩ := hv t hm hvt
      have h3 : t.k = 3 := by simp only [Tm.var, decide_eq_true_eq] at hvt; exact hvt.1
      rw [if_pos ⟨h3, by omega, by have := hl; omega⟩, if_pos rfl, hi, Int.toNat_natCast]
      split
      · rename_i ha
        obtain ⟨u, hu, e⟩ := List.any_eq_true.1 ha
        have e : u = (i : Int) := of_decide_eq_true e
        subst e
        have hs := mt9_new (met := met) hu (by rw [Int.toNat_natCast]; exact hlt)
        rw [Int.toNat_natCast] at hs
        rw [M9_set (by rw [mt9_len]; exact hlt), set_same hs]
      · rw [mt9_snoc, Int.toNat_natCast, M9_set (by rw [mt9_len]; exact hlt)]
    | false =>
      have h3 : ¬ t.k = 3 := fun h => by rw [hk t hm h] at hvt; cases hvt
      simp [h3]
theorem ml9_all {met : List Bool} (hl : met.length ≤ 72) (P : List Tm) (hv : Vn9 met.length P) (hk : ∀ t ∈ P, K39 t) : ml9 (M9 met) P = M9 (mt9 met (vs P)) := by
  have := ml9_eq hl P hv hk P.length (Nat.le_refl _)
  rw [List.take_of_length_le (Nat.le_refl _)] at this
  exact this
theorem vs_mem {P : List Tm} {t : Tm} (ht : t ∈ P) (hv : t.var = true) : t.n ∈ vs P := by
  have key : ∀ (l : List Tm) (out : List Int), (∀ x ∈ out, x ∈ l.foldl vS out) ∧ ∀ t ∈ l, t.var = true → t.n ∈ l.foldl vS out := by
    intro l
    induction l with
    | nil => intro out; exact ⟨fun x hx => hx, fun t ht => by cases ht⟩
    | cons u l ih =>
      intro out
      obtain ⟨h1, h2⟩ := ih (vS out u)
      have h0 : ∀ x ∈ out, x ∈ vS out u := fun x hx => by unfold vS; split <;> (try split) <;> simp [hx]
      refine ⟨fun x hx => h1 x (h0 x hx), fun t ht hv => ?_⟩
      rcases List.mem_cons.1 ht with rfl | ht
      · refine h1 _ ?_
        unfold vS
        rw [if_pos hv]
        split
        · rename_i ha
          obtain ⟨y, hy, e⟩ := List.any_eq_true.1 ha
          rw [← of_decide_eq_true e]; exact hy
        · simp
      · exact h2 t ht hv
  exact (key P []).2 t ht hv
theorem cl9_eq {met : List Bool} (hl : met.length ≤ 72) (P : List Tm) (hv : Vn9 met.length P) (hk : ∀ t ∈ P, K39 t) : ∀ j, j ≤ P.length → cl9 (M9 met) P j = kc9 met P j
  | 0, _ => by simp [cl9, kc9]
  | j + 1, hj => by
    obtain ⟨t, ht⟩ : ∃ t, P[j]? = some t := ⟨P[j], List.getElem?_eq_getElem _⟩
    have hm : t ∈ P := List.mem_of_getElem? ht
    rw [cl9_succ ht, kc9, cl9_eq hl P hv hk j (by omega), ht, kl9L_eq (hk t hm) (fun u hu => by rw [List.mem_singleton.1 hu]; exact hv t hm) hl]
    rfl
theorem kn9_mono {met : List Bool} {l : List Int} {t : Tm} (h : kn9 met t = true) : kn9 (mt9 met l) t = true := by
  unfold kn9 at *
  cases hv : t.var with
  | false => rfl
  | true =>
    rw [hv] at h
    simp only [Bool.not_true, Bool.false_or] at h ⊢
    cases hm : met[t.n.toNat]? with
    | none => rw [hm] at h; cases h
    | some b =>
      rw [hm] at h
      simp only [Option.getD_some] at h
      rw [h] at hm
      rw [mt9_true hm]; rfl
theorem tk9_mono {c : Cm} {met : List Bool} {n : Nat} {m : Int} (h : tk9 c met m = true) : tk9 c (jm9 c met n) m = true := by
  unfold tk9 at *
  split at h
  · simp only [Bool.and_eq_true] at h ⊢
    exact ⟨kn9_mono h.1, kn9_mono h.2⟩
  · cases h
/-- The tests that are not told yet. -/
def T9 (c : Cm) (met : List Bool) : List Int := (up9 c.tests.length).filter fun n => !tk9 c met n
theorem T9_next (c : Cm) (met : List Bool) (n : Nat) : jT9 c met (T9 c met) n = T9 c (jm9 c met n) := by
  unfold jT9 T9
  rw [List.filter_filter]
  refine List.filter_congr fun m _ => ?_
  cases h : tk9 c met m with
  | false => simp
  | true => rw [tk9_mono h]; rfl
/-- Joins as a plan tells them, from a state on. -/
def Pl9 (c : Cm) : List Bool → List Int → List Js9 → Prop
  | _, A, [] => A = []
  | met, A, j :: js => ∃ n : Nat, (n : Int) ∈ A ∧ j = jr9 c met (T9 c met) n ∧ Pl9 c (jm9 c met n) (jA9 A n) js
theorem pl9_pln (c : Cm) : ∀ (f : Nat) (met : List Bool) (A : List Int), A.length = f → A.Nodup → (∀ m ∈ A, ∃ i : Nat, m = (i : Int)) → Pl9 c met A (pln9 c f met A (T9 c met))
  | 0, met, A, h, _, _ => List.eq_nil_of_length_eq_zero h
  | f + 1, met, A, h, hn, hi => by
    have hne : A ≠ [] := fun e => by rw [e] at h; cases h
    have hm := mn9_mem c met hne
    obtain ⟨i, hi'⟩ := hi _ hm
    have he : ((mn9 c met A).toNat : Int) = mn9 c met A := by omega
    refine ⟨(mn9 c met A).toNat, by rw [he]; exact hm, rfl, ?_⟩
    rw [T9_next]
    refine pl9_pln c f _ _ ?_ (hn.filter _) fun m hm => hi m (List.mem_filter.1 hm).1
    have := jA9_len hn (show ((mn9 c met A).toNat : Int) ∈ A by rw [he]; exact hm)
    omega
theorem pl9_len {c : Cm} : ∀ (js : List Js9) (met : List Bool) (A : List Int), A.Nodup → Pl9 c met A js → js.length = A.length
  | [], met, A, _, h => by rw [show A = [] from h]; rfl
  | j :: js, met, A, hn, ⟨n, h1, _, h2⟩ => by
    have := pl9_len js _ _ (hn.filter _) h2
    have := jA9_len hn h1
    rw [List.length_cons]
    unfold jA9 at *
    omega
/-- A planner's state: what is met is what the atoms joined have. -/
structure Ps9 (c : Cm) (met : List Bool) (A : List Int) : Prop where
  ml : met.length = (dis c.vars).length
  nd : A.Nodup
  lo : ∀ m ∈ A, ∃ i : Nat, m = (i : Int) ∧ i < c.body.length
  vr : ∀ (k : Nat) (x : At × Value), c.body[k]? = some x → ¬ (k : Int) ∈ A → ∀ t ∈ x.1.pl, t.var = true → met[t.n.toNat]? = some true
theorem body_vn9 {c : Cm} (h : c.chk = 0) {k : Nat} {x : At × Value} (hx : c.body[k]? = some x) : Vn9 (dis c.vars).length x.1.pl :=
  chk_vn9 h fun _ ht => List.mem_append_left _ (List.mem_flatMap.2 ⟨x, List.mem_cons_of_mem _ (List.mem_of_getElem? hx), ht⟩)
theorem Ps9.next {c : Cm} {met : List Bool} {A : List Int} (hc : c.chk = 0) (h : Ps9 c met A) {n : Nat} (hn : (n : Int) ∈ A) : Ps9 c (jm9 c met n) (jA9 A n) := by
  refine ⟨by unfold jm9; rw [mt9_len]; exact h.ml, h.nd.filter _, fun m hm => h.lo m (List.mem_filter.1 hm).1, fun k x hx hk t ht hv => ?_⟩
  by_cases e : (k : Int) ∈ A
  · have hkn : (k : Int) = (n : Int) := by
      refine Decidable.byContradiction fun hne => hk (List.mem_filter.2 ⟨e, by simp [hne]⟩)
    have hkn : k = n := by omega
    subst hkn
    have hp : pls9 c k = x.1.pl := by unfold pls9; rw [hx]
    unfold jm9
    rw [hp]
    obtain ⟨i, hi, hl⟩ := body_vn9 hc hx t ht hv
    exact mt9_new (vs_mem ht hv) (by rw [h.ml, hi, Int.toNat_natCast]; exact hl)
  · exact mt9_true (h.vr k x hx e t ht hv)
theorem Ps9.start {c : Cm} : Ps9 c (List.replicate (dis c.vars).length false) (up9 c.body.length) :=
  ⟨List.length_replicate .., up9_nodup _, fun m hm => by
    obtain ⟨i, hi, rfl⟩ := List.mem_map.1 hm
    exact ⟨i, rfl, List.mem_range.1 hi⟩, fun k x hx hk => absurd (List.mem_map.2 ⟨k, List.mem_range.2 (List.getElem?_eq_some_iff.1 hx).1, rfl⟩) hk⟩
theorem pl9_js {c : Cm} {lead : Int} (h1 : -1 ≤ lead) (h2 : lead < c.body.length) : Pl9 c (List.replicate (dis c.vars).length false) (up9 c.body.length) (js9 c lead) := by
  have hi : ∀ m ∈ up9 c.body.length, ∃ i : Nat, m = (i : Int) := fun m hm => by
    obtain ⟨i, -, rfl⟩ := List.mem_map.1 hm
    exact ⟨i, rfl⟩
  unfold js9
  by_cases hl : lead = -1
  · rw [if_pos hl]
    exact pl9_pln c _ _ _ rfl (up9_nodup _) hi
  · rw [if_neg hl]
    obtain ⟨n, rfl⟩ : ∃ n : Nat, lead = (n : Int) := ⟨lead.toNat, by omega⟩
    rw [Int.toNat_natCast]
    have hm : (n : Int) ∈ up9 c.body.length := List.mem_map.2 ⟨n, List.mem_range.2 (by omega), rfl⟩
    refine ⟨n, hm, rfl, ?_⟩
    have e := T9_next c (List.replicate (dis c.vars).length false) n
    rw [show ts9 c = T9 c (List.replicate (dis c.vars).length false) from rfl, e]
    exact pl9_pln c _ _ _ rfl ((up9_nodup _).filter _) fun m hm => hi m (List.mem_filter.1 hm).1
theorem js9_lead {c : Cm} {lead : Int} (h : 0 ≤ lead) : ∃ j js, js9 c lead = j :: js ∧ j.n = lead := by
  unfold js9
  rw [if_neg (by omega)]
  exact ⟨_, _, rfl, by simp [jr9]; omega⟩
end Go.Proofs.YtllgffmhbddigaaGreat
