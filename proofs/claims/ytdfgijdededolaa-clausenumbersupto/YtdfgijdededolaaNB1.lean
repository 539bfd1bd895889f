/-
  A clause renamed one to one: as many variables, the same numbering. (Plain.)
-/
import Derived.Test.YtdfgijdededolaaOQ1
import Derived.Test.YtdfgijdededolaaRF1
namespace Go.Proofs.Ytdfgijdededolaa
open Go.RowKit

/-- One to one on the variables of l, and no other term is touched. -/
structure Ren (f : Tm → Tm) (l : List Tm) : Prop where
  v : ∀ t ∈ l, t.var = true → (f t).var = true
  n : ∀ t ∈ l, t.var = false → f t = t
  i : ∀ t ∈ l, ∀ u ∈ l, t.var = true → u.var = true → f t = f u → t = u
theorem Ren.var {f : Tm → Tm} {l : List Tm} (h : Ren f l) {t : Tm} (ht : t ∈ l) : (f t).var = t.var := by
  cases hv : t.var
  · rw [h.n t ht hv]; exact hv
  · exact h.v t ht hv
theorem ren_filter {f : Tm → Tm} {l : List Tm} (h : Ren f l) : (l.map f).filter Tm.var = (l.filter Tm.var).map f := by
  rw [List.filter_map]
  congr 1
  exact List.filter_congr fun t ht => h.var ht
theorem ren_fold {f : Tm → Tm} : ∀ (l acc : List Tm), (∀ t, t ∈ l ∨ t ∈ acc → ∀ u, u ∈ l ∨ u ∈ acc → f t = f u → t = u) → (l.map f).foldl dstepT (acc.map f) = (l.foldl dstepT acc).map f
  | [], acc, _ => rfl
  | t :: l, acc, h => by
    rw [List.map_cons, List.foldl_cons, List.foldl_cons]
    have e : dstepT (acc.map f) (f t) = (dstepT acc t).map f := by
      unfold dstepT
      by_cases hm : t ∈ acc
      · rw [if_pos hm, if_pos (List.mem_map.2 ⟨t, hm, rfl⟩)]
      · rw [if_neg hm, if_neg (fun hx => by
          obtain ⟨u, hu, e⟩ := List.mem_map.1 hx
          exact hm (h u (Or.inr hu) t (Or.inl (by simp)) e ▸ hu))]
        simp
    rw [e]
    refine ren_fold l _ fun a ha b hb => h a ?_ b ?_
    · rcases ha with ha | ha
      · exact Or.inl (by simp [ha])
      · rcases dstepT_mem.1 ha with ha | rfl
        · exact Or.inr ha
        · exact Or.inl (by simp)
    · rcases hb with hb | hb
      · exact Or.inl (by simp [hb])
      · rcases dstepT_mem.1 hb with hb | rfl
        · exact Or.inr hb
        · exact Or.inl (by simp)
theorem ren_dis {f : Tm → Tm} {l : List Tm} (h : Ren f l) : disT (l.map f) = (disT l).map f := by
  unfold disT
  rw [ren_filter h]
  have := ren_fold (f := f) (l.filter Tm.var) [] fun t ht u hu e => by
    simp only [List.not_mem_nil, or_false, List.mem_filter] at ht hu
    exact h.i t ht.1 u hu.1 ht.2 hu.2 e
  exact this
theorem ren_ix {f : Tm → Tm} : ∀ {l : List Tm} {t : Tm}, (∀ u ∈ l, f u = f t → u = t) → ix (l.map f) (f t) = ix l t
  | [], _, _ => rfl
  | x :: l, t, h => by
    rw [List.map_cons, ix, ix]
    by_cases e : x = t
    · rw [if_pos e, if_pos (by rw [e])]
    · rw [if_neg e, if_neg (fun e2 => e (h x (by simp) e2)), ren_ix fun u hu => h u (by simp [hu])]
theorem ren_norm {f : Tm → Tm} {x : Ck} (h : Ren f (Ck.terms x)) : normC (mapC f x) = normC x := by
  unfold normC
  rw [mapC_comp, mapC_terms, ren_dis h]
  refine mapC_congr fun t ht => ?_
  unfold nmT
  cases hv : t.var
  · have h1 : ¬ t ∈ disT (Ck.terms x) := fun hm => by rw [(disT_mem.1 hm).2] at hv; cases hv
    have h2 : ¬ t ∈ (disT (Ck.terms x)).map f := fun hm => by
      obtain ⟨u, hu, e⟩ := List.mem_map.1 hm
      have := h.v u (disT_mem.1 hu).1 (disT_mem.1 hu).2
      rw [e, hv] at this; cases this
    rw [h.n t ht hv, if_neg h1, if_neg h2]
  · have hm : t ∈ disT (Ck.terms x) := disT_mem.2 ⟨ht, hv⟩
    rw [if_pos hm, if_pos (List.mem_map.2 ⟨t, hm, rfl⟩), ren_ix fun u hu e => h.i u (disT_mem.1 hu).1 t ht (disT_mem.1 hu).2 hv e]
theorem dis_lenT (l : List Tm) : (dis (vrs l)).length = (disT l).length := by rw [← disT_n, List.length_map]
theorem dis_fold_le : ∀ (l acc : List Int), (l.foldl dstep acc).length ≤ acc.length + l.length
  | [], acc => by simp
  | v :: l, acc => by
    rw [List.foldl_cons]
    have h1 := dis_fold_le l (dstep acc v)
    have h2 : (dstep acc v).length ≤ acc.length + 1 := by unfold dstep; split <;> simp
    simp only [List.length_cons]; omega
theorem dis_le (l : List Int) : (dis l).length ≤ l.length := by have := dis_fold_le l []; simpa [dis] using this
theorem ren_len {f : Tm → Tm} {x : Ck} (h : Ren f (Ck.terms x)) : (dis (vrs (Ck.terms (mapC f x)))).length = (dis (vrs (Ck.terms x))).length := by
  rw [dis_lenT, dis_lenT, mapC_terms, ren_dis h, List.length_map]
/-- Normal's numbering is one to one. -/
theorem nm_ren (x : Ck) : Ren (nmT (disT (Ck.terms x))) (Ck.terms x) := by
  refine ⟨fun t ht hv => (nmT_var _ _ fun u hu => (disT_mem.1 hu).2).trans hv, fun t ht hv => ?_, fun t ht u hu h1 h2 e => ?_⟩
  · unfold nmT; rw [if_neg (fun hm => by rw [(disT_mem.1 hm).2] at hv; cases hv)]
  · have m1 : t ∈ disT (Ck.terms x) := disT_mem.2 ⟨ht, h1⟩
    have m2 : u ∈ disT (Ck.terms x) := disT_mem.2 ⟨hu, h2⟩
    unfold nmT at e
    rw [if_pos m1, if_pos m2] at e
    simp only [Tm.mk.injEq, true_and, and_true] at e
    have e2 : ix (disT (Ck.terms x)) t = ix (disT (Ck.terms x)) u := by omega
    have g1 := ix_get m1
    have g2 := ix_get m2
    rw [e2, g2] at g1
    exact (Option.some.inj g1).symm
theorem norm_len (x : Ck) : (dis (vrs (Ck.terms (normC x)))).length = (dis (vrs (Ck.terms x))).length := ren_len (nm_ren x)
theorem norm_twice (x : Ck) : normC (normC x) = normC x := norm_id (norm_mis x)
/-- The variables that renamed gives. -/
def rnv (up : Int) (i : Nat) : Tm := ⟨3, 1000 + ((i : Int) * 7 + up) % 73, ⟨#[]⟩⟩
def rnvs (up : Int) (n : Nat) : List Tm := (List.range n).map (rnv up)
theorem rnvs_len (up : Int) (n : Nat) : (rnvs up n).length = n := by simp [rnvs]
theorem rnvs_get (up : Int) {n i : Nat} (h : i < n) : (rnvs up n)[i]? = some (rnv up i) := by simp [rnvs, h]
theorem rnvs_succ (up : Int) (n : Nat) : rnvs up (n + 1) = rnvs up n ++ [rnv up n] := by simp [rnvs, List.range_succ]
theorem rnv_var (up : Int) (i : Nat) : (rnv up i).var = true := by
  have := Int.emod_nonneg ((i : Int) * 7 + up) (show (73 : Int) ≠ 0 by omega)
  simp only [rnv, Tm.var, decide_eq_true_eq]
  exact ⟨trivial, by omega, trivial⟩
theorem rnv_rng (up : Int) (i : Nat) : 1000 ≤ (rnv up i).n ∧ (rnv up i).n < 1073 := by
  have := Int.emod_nonneg ((i : Int) * 7 + up) (show (73 : Int) ≠ 0 by omega)
  have := Int.emod_lt_of_pos ((i : Int) * 7 + up) (show (0 : Int) < 73 by omega)
  simp only [rnv]; omega
theorem rnv_inj {up : Int} {i j : Nat} (hi : i < 73) (hj : j < 73) (h : rnv up i = rnv up j) : i = j := by
  simp only [rnv, Tm.mk.injEq, true_and, and_true] at h
  omega
theorem ins_rn {up : Int} {n : Nat} {t : Tm} (h : t.var = true) (hn : t.n < n) : ins (rnvs up n) t = rnv up t.n.toNat := by
  unfold ins; rw [if_pos h, rnvs_get up (by have := var_nn h; omega)]; rfl
theorem rn_ren {x : Ck} {m : Nat} {up : Int} (hm : m ≤ 72) (h : ∀ t ∈ Ck.terms x, t.var = true → t.n < m) : Ren (ins (rnvs up m)) (Ck.terms x) := by
  refine ⟨fun t ht hv => by rw [ins_rn hv (h t ht hv)]; exact rnv_var _ _, fun t _ hv => ins_non hv, fun t ht u hu h1 h2 e => ?_⟩
  have b1 := h t ht h1
  have b2 := h u hu h2
  have c1 := var_nn h1
  have c2 := var_nn h2
  rw [ins_rn h1 b1, ins_rn h2 b2] at e
  have := rnv_inj (by omega) (by omega) e
  rw [var_eqQ h1, var_eqQ h2]
  have e3 : t.n = u.n := by omega
  rw [e3]
/-- Check of the renamed clause. -/
theorem ren_val {f : Tm → Tm} {x : Ck} (h : Ren f (Ck.terms x)) (hx : Val0 x) : Val0 (mapC f x) := by
  have hcov : ∀ t ∈ Ck.terms x, t.cov = true → (f t).cov = true := fun t ht hc => by
    cases hv : t.var
    · rw [h.n t ht hv]; exact hc
    · simp [Tm.cov, h.v t ht hv]
  have hq : ∀ t ∈ Ck.terms x, qualOk t = true → qualOk (f t) = true := fun t ht hc => by
    cases hv : t.var
    · rw [h.n t ht hv]; exact hc
    · simp [qualOk, h.v t ht hv]
  have he : ∀ a : At, (∀ t ∈ a.pl, t ∈ Ck.terms x) → a.err = 0 → (mapA f a).err = 0 := fun a hm ha => by
    obtain ⟨h1, h2, h3, h4⟩ := err_zero' ha
    refine err_zero h1 (by simpa [mapA] using h2) (hq _ (hm _ (by simp [At.pl])) h3) fun t ht => ?_
    obtain ⟨u, hu, rfl⟩ := List.mem_map.1 ht
    exact hcov u (hm u (by simp [At.pl, hu])) (h4 u hu)
  refine ⟨fun a ha => ?_, fun a ha => ?_, by simpa [mapC] using hx.bl, by simpa [mapC] using hx.tl, ?_, fun t ht hvt => ?_⟩
  · rcases List.mem_cons.1 ha with rfl | ha
    · exact he _ (fun t ht => by unfold Ck.terms; simp [ht]) (hx.e _ (by simp))
    · obtain ⟨b, hb, rfl⟩ := List.mem_map.1 ha
      exact he _ (fun t ht => List.mem_append_right _ (List.mem_append_left _ (List.mem_flatMap.2 ⟨b, hb, ht⟩))) (hx.e _ (by simp [hb]))
  · obtain ⟨b, hb, rfl⟩ := List.mem_map.1 ha
    have hm : ∀ t, t = b.l ∨ t = b.r → t ∈ Ck.terms x := fun t ht => List.mem_append_right _ (List.mem_append_right _ (List.mem_flatMap.2 ⟨b, hb, by simpa using ht⟩))
    have := hx.t b hb
    simp only [Te.ok, Bool.and_eq_true, mapE] at this ⊢
    exact ⟨this.1, hcov _ (hm _ (Or.inl rfl)) this.2.1, hcov _ (hm _ (Or.inr rfl)) this.2.2⟩
  · exact (h.var (t := x.1.by_) (by simp [Ck.terms, At.pl])).trans hx.h
  · have e : (mapC f x).1.pl ++ tls (mapC f x).2.2 = (x.1.pl ++ tls x.2.2).map f := by
      rw [List.map_append, mapC]; simp only [mapA_pl, tls_mapE]
    rw [e] at ht
    obtain ⟨u, hu, rfl⟩ := List.mem_map.1 ht
    have hut : u ∈ Ck.terms x := by
      unfold Ck.terms; rcases List.mem_append.1 hu with hu | hu <;> simp [hu]
    rw [h.var hut] at hvt
    have := hx.s u hu hvt
    have e2 : (mapC f x).2.1.flatMap At.pl = (x.2.1.flatMap At.pl).map f := by rw [mapC]; exact flat_mapA _ _
    rw [e2]
    exact List.mem_map.2 ⟨u, this, rfl⟩
theorem rn_chk {x : Ck} {m : Nat} {up : Int} {c : Cm} (hx : Val0 x) (hd : dis (vrs (Ck.terms x)) = ints m) (hm : m ≤ 72) (h0 : 0 < m) (h : ∀ t ∈ Ck.terms x, t.var = true → t.n < m) (hk : c.key = mapC (ins (rnvs up m)) x) : c.chk = 35 := by
  have hr := rn_ren (up := up) hm h
  have hv := ren_val hr hx
  have a1 := short_no (c := c) (by rw [hk]; exact hv.bl) (by rw [hk]; exact hv.tl)
  have a2 := aErr_ok (c := c) (by rw [hk]; exact hv.e)
  have a3 := badTk_no (c := c) (by rw [hk]; exact hv.t)
  have a4 : c.head.1.by_.var = false := by
    have : c.head.1 = (mapC (ins (rnvs up m)) x).1 := by have := congrArg (·.1) hk; exact this
    rw [this]; exact hv.h
  have a5 := unb_no2 (c := c) (by rw [hk]; exact hv.s)
  have a6 : mis 0 c.vars = true := by
    rw [mis_key, hk]
    have hall : ∀ v ∈ vrs (Ck.terms (mapC (ins (rnvs up m)) x)), 1000 ≤ v := fun v hv => by
      obtain ⟨t, ht, rfl⟩ := List.mem_map.1 hv
      obtain ⟨ht, hvt⟩ := List.mem_filter.1 ht
      rw [mapC_terms] at ht
      obtain ⟨u, hu, rfl⟩ := List.mem_map.1 ht
      rw [hr.var hu] at hvt
      rw [ins_rn hvt (h u hu hvt)]
      exact (rnv_rng _ _).1
    have hne : vrs (Ck.terms (mapC (ins (rnvs up m)) x)) ≠ [] := fun e => by
      have := ren_len hr
      rw [e, hd, ints_len] at this
      simp [dis] at this
      omega
    cases hc : vrs (Ck.terms (mapC (ins (rnvs up m)) x)) with
    | nil => exact absurd hc hne
    | cons v l =>
      have := hall v (by rw [hc]; simp)
      rw [mis, if_pos (by omega)]
  simp [Cm.chk, Cm.rs, chkL, a1, a2, a3, a4, a5, a6]
end Go.Proofs.Ytdfgijdededolaa
