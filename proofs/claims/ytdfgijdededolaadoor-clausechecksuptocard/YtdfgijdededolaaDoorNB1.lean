import Derived.Test.YtdfgijdededolaaDoorLD3
import Derived.Deep.RegionHeld3
import Derived.Deep.CutRange
import Derived.BigQuiet
import Derived.Test.YtdfgijdededolaaDoorOQ1
/-
  A clause that was lent, looked at. (Written by LD3.py.)
-/
namespace Go.Proofs.YtdfgijdededolaaDoor
open Go.RowKit
attribute [local go_sem ↓] Go.wp_at_zero Go.wp_at_succ

theorem run_eql_te (t u : Te) (w : World) (h : t = u) : (binOp .eql 41 t.v u.v).run Tryd.prog w = .ok (.bool true) w := by
  subst h
  obtain ⟨op, ⟨kl, ml, sl⟩, ⟨kr, mr, sr⟩⟩ := t
  go_simp
set_option maxRecDepth 20000 in
set_option maxHeartbeats 4000000 in
theorem keptC_any (d c : Cm) (base : Nat) (w : World) (h : c.ok w) (hd : Lent base w d) (hk : d.key = c.key) (hs : (Ck.terms c.key).length ≤ 4000000) (hB : BehOk w) :
    Calls Tryd.prog 12 #[d.v, c.v] w fun e w' => e = .returned (.bool true) ∧ Below w.heap.size w w' := by
  obtain ⟨s1, s2, s3, s4⟩ := cm_sizes hs
  have k1 : d.head.1 = c.head.1 := congrArg (fun k : Ck => k.1) hk
  have k2 : fsts d.body = fsts c.body := congrArg (fun k : Ck => k.2.1) hk
  have k3 : d.tests = c.tests := congrArg (fun k : Ck => k.2.2) hk
  have hdh := hd.h
  have hdt := hd.t
  rw [k1] at hdh
  rw [k3] at hdt
  have HK1 : Hid (∀ X : World, Below w.heap.size w X → Calls Tryd.prog 34 #[c.head.1.v d.head.2, c.head.1.v c.head.2] X fun e w' => e = .returned (.bool true) ∧ Below X.heap.size X w') := fun X hX => keptA_any c.head.1 d.head.2 c.head.2 base X (h.h.later hX) (hdh.later hX) (hB.later hX)
  have HK2 : Hid (∀ X : World, Below w.heap.size w X → Calls Tryd.prog 35 #[d.bv, c.bv] X fun e w' => e = .returned (.bool true) ∧ Below X.heap.size X w') := fun X hX => keptAs_any c.body d.body d.bv c.bv base X (h.b.later hX) (hd.b.later hX) k2 (hB.later hX)
  have HK3 : Hid (∀ X : World, Below w.heap.size w X → Calls Tryd.prog 31 #[d.tv, c.tv] X fun e w' => e = .returned (.bool true) ∧ Below X.heap.size X w') := fun X hX => by
    have := sameTests_any c.tests c.tests d.tv c.tv X ((hdt.es (by omega)).later hX) (h.t.later hX)
    rw [decide_eq_true rfl] at this; exact this
  have HT : Hid (LentE w base d.tv c.tests) := hdt
  have HB : Hid (BehOk w) := hB
  obtain ⟨g1, cap1, e1, -⟩ := hdh
  obtain ⟨⟨g2, cap2, e2, -⟩, -⟩ := hd.b
  obtain ⟨g3, cap3, e3, ho3⟩ := hdt
  have hcap := ownE_cap ho3
  rw [List.length_append, List.length_singleton] at hcap
  have HO3 : Hid (OwnE w base (.slice (some ⟨g3, 0, none⟩) (c.tests.length + 1) cap3) (c.tests ++ [bE])) := ho3
  obtain ⟨⟨a, hn, cap, h1⟩, ⟨a', cap', h2⟩, ⟨a'', cap'', h3⟩, -, -⟩ := h.shape
  have hb0 : CBlk ((w.alloc (.cells d.cs 30)).alloc (.cells c.cs 30)) w.heap.size d.cs 30 := (CBlk.new w d.cs 30).later (below1 _ _)
  have hb1 : CBlk ((w.alloc (.cells d.cs 30)).alloc (.cells c.cs 30)) (w.heap.size + 1) c.cs 30 := by
    have := CBlk.new (w.alloc (.cells d.cs 30)) c.cs 30
    rwa [show (w.alloc (.cells d.cs 30)).heap.size = w.heap.size + 1 by simp] at this
  have HC0 : Hid (CBlk ((w.alloc (.cells d.cs 30)).alloc (.cells c.cs 30)) w.heap.size d.cs 30) := hb0
  have HC1 : Hid (CBlk ((w.alloc (.cells d.cs 30)).alloc (.cells c.cs 30)) (w.heap.size + 1) c.cs 30) := hb1
  have he := fun X => run_eql_te ⟨903, ⟨0, 0, ⟨#[]⟩⟩, ⟨0, 0, ⟨#[]⟩⟩⟩ ⟨903, ⟨0, 0, ⟨#[]⟩⟩, ⟨0, 0, ⟨#[]⟩⟩⟩ X rfl
  clear h hd hk hs hB s1 s2 s4 hb0 hb1 ho3 k2
  obtain ⟨⟨dh, dv⟩, db, dbv, dt, dtv⟩ := d
  obtain ⟨⟨⟨⟨k, m, s⟩, nm, ls⟩, hx⟩, body, bv, tests, tv⟩ := c
  simp only at h1 h2 h3 e1 e2 e3 k1 k3 s3 hcap HK1 HK2 HK3 HO3
  subst h1 h2 h3 e1 e2 e3 k1 k3
  have i0 : (0 : Int) ≤ (dt.length : Int) := by omega
  have i1 : (dt.length : Int) < (dt.length : Int) + 1 := by omega
  have hcap' : (dt.length : Int) + 1 ≤ (cap3 : Int) := by omega
  go_enter Tryd.func12, Tryd.ntmps12
  go_wp2_with (first
    | (go_at_call 34; refine (HK1.out _ (below2 _ _ _)).mono ?_; rintro e w1 ⟨rfl, hb⟩; have HW1 : Hid (Below w.heap.size w w1) := below_step (below2 _ _ _) hb; have HD0 : Hid (CBlk w1 w.heap.size _ 30) := HC0.out.later hb; have HD1 : Hid (CBlk w1 (w.heap.size + 1) _ 30) := HC1.out.later hb; obtain ⟨c0, c1, c2, c3, c4, c5, c6⟩ := cseven HD0.out; obtain ⟨e0, e1, e2, e3, e4, e5, e6⟩ := cseven HD1.out; clear hb HC0 HC1)
    | (go_at_call 35; refine (HK2.out _ HW1.out).mono ?_; rintro e w2 ⟨rfl, hb⟩; have HW2 : Hid (Below w.heap.size w w2) := below_step HW1.out hb; have HE0 : Hid (CBlk w2 w.heap.size _ 30) := HD0.out.later hb; have HE1 : Hid (CBlk w2 (w.heap.size + 1) _ 30) := HD1.out.later hb; clear c0 c1 c2 c3 c4 c5 c6 e0 e1 e2 e3 e4 e5 e6; obtain ⟨c0, c1, c2, c3, c4, c5, c6⟩ := cseven HE0.out; obtain ⟨e0, e1, e2, e3, e4, e5, e6⟩ := cseven HE1.out; clear hb HD0 HD1 HW1)
    | (go_at_call 31; refine (HK3.out _ HW2.out).mono ?_; rintro e w3 ⟨rfl, hb⟩; have HW3 : Hid (Below w.heap.size w w3) := below_step HW2.out hb; have HF0 : Hid (CBlk w3 w.heap.size _ 30) := HE0.out.later hb; have HF1 : Hid (CBlk w3 (w.heap.size + 1) _ 30) := HE1.out.later hb; clear c0 c1 c2 c3 c4 c5 c6 e0 e1 e2 e3 e4 e5 e6; obtain ⟨c0, c1, c2, c3, c4, c5, c6⟩ := cseven HF0.out; obtain ⟨e0, e1, e2, e3, e4, e5, e6⟩ := cseven HF1.out; obtain ⟨-, -, -, -, -, b0, b1, b2, b3, b4, b5, b6⟩ := HB.out.later HW3.out; have hgl : (dt ++ [bE])[dt.length]? = some bE := (by simp); have hoL := HO3.out.later HW3.out; have q0 := hoL.cells dt.length _ hgl 0 (by omega); have q1 := hoL.cells dt.length _ hgl 1 (by omega); have q2 := hoL.cells dt.length _ hgl 2 (by omega); have q3 := hoL.cells dt.length _ hgl 3 (by omega); have q4 := hoL.cells dt.length _ hgl 4 (by omega); have q5 := hoL.cells dt.length _ hgl 5 (by omega); have q6 := hoL.cells dt.length _ hgl 6 (by omega); simp only [ecell, bE, zt, List.getElem?_cons_succ, List.getElem?_cons_zero, Nat.add_zero] at q0 q1 q2 q3 q4 q5 q6; clear hb HE0 HE1 HW2 hoL hgl))
  go_quiet (fail)
  go_wp2
  go_ret
  exact ⟨ret_b rfl, below_drewN HW3.out _⟩
end Go.Proofs.YtdfgijdededolaaDoor
/-
  A clause renamed one to one: as many variables, the same numbering. (Plain.)
-/
namespace Go.Proofs.YtdfgijdededolaaDoor
open Go.RowKit

/-- One to one on the variables of l, and no other term is touched. -/
structure Ren (f : Tm → Tm) (l : List Tm) : Prop where
  v : ∀ t ∈ l, t.var = true → (f t).var = true
  n : ∀ t ∈ l, t.var = false → f t = t
  i : ∀ t ∈ l, ∀ u ∈ l, t.var = true → u.var = true → f t = f u → t = u
theorem Ren.var {f : Tm → Tm} {l : List Tm} (h : Ren f l) {t : Tm} (ht : t ∈ l) : (f t).var = t.var := by
  cases hv : t.var
  · rw [h.n t ht hv]; exact hv
  · exact h.v t ht hv
theorem ren_filter {f : Tm → Tm} {l : List Tm} (h : Ren f l) : (l.map f).filter Tm.var = (l.filter Tm.var).map f := by
  rw [List.filter_map]
  congr 1
  exact List.filter_congr fun t ht => h.var ht
theorem ren_fold {f : Tm → Tm} : ∀ (l acc : List Tm), (∀ t, t ∈ l ∨ t ∈ acc → ∀ u, u ∈ l ∨ u ∈ acc → f t = f u → t = u) → (l.map f).foldl dstepT (acc.map f) = (l.foldl dstepT acc).map f
  | [], acc, _ => rfl
  | t :: l, acc, h => by
    rw [List.map_cons, List.foldl_cons, List.foldl_cons]
    have e : dstepT (acc.map f) (f t) = (dstepT acc t).map f := by
      unfold dstepT
      by_cases hm : t ∈ acc
      · rw [if_pos hm, if_pos (List.mem_map.2 ⟨t, hm, rfl⟩)]
      · rw [if_neg hm, if_neg (fun hx => by
          obtain ⟨u, hu, e⟩ := List.mem_map.1 hx
          exact hm (h u (Or.inr hu) t (Or.inl (by simp)) e ▸ hu))]
        simp
    rw [e]
    refine ren_fold l _ fun a ha b hb => h a ?_ b ?_
    · rcases ha with ha | ha
      · exact Or.inl (by simp [ha])
      · rcases dstepT_mem.1 ha with ha | rfl
        · exact Or.inr ha
        · exact Or.inl (by simp)
    · rcases hb with hb | hb
      · exact Or.inl (by simp [hb])
      · rcases dstepT_mem.1 hb with hb | rfl
        · exact Or.inr hb
        · exact Or.inl (by simp)
theorem ren_dis {f : Tm → Tm} {l : List Tm} (h : Ren f l) : disT (l.map f) = (disT l).map f := by
  unfold disT
  rw [ren_filter h]
  have := ren_fold (f := f) (l.filter Tm.var) [] fun t ht u hu e => by
    simp only [List.not_mem_nil, or_false, List.mem_filter] at ht hu
    exact h.i t ht.1 u hu.1 ht.2 hu.2 e
  exact this
theorem ren_ix {f : Tm → Tm} : ∀ {l : List Tm} {t : Tm}, (∀ u ∈ l, f u = f t → u = t) → ix (l.map f) (f t) = ix l t
  | [], _, _ => rfl
  | x :: l, t, h => by
    rw [List.map_cons, ix, ix]
    by_cases e : x = t
    · rw [if_pos e, if_pos (by rw [e])]
    · rw [if_neg e, if_neg (fun e2 => e (h x (by simp) e2)), ren_ix fun u hu => h u (by simp [hu])]
theorem ren_norm {f : Tm → Tm} {x : Ck} (h : Ren f (Ck.terms x)) : normC (mapC f x) = normC x := by
  unfold normC
  rw [mapC_comp, mapC_terms, ren_dis h]
  refine mapC_congr fun t ht => ?_
  unfold nmT
  cases hv : t.var
  · have h1 : ¬ t ∈ disT (Ck.terms x) := fun hm => by rw [(disT_mem.1 hm).2] at hv; cases hv
    have h2 : ¬ t ∈ (disT (Ck.terms x)).map f := fun hm => by
      obtain ⟨u, hu, e⟩ := List.mem_map.1 hm
      have := h.v u (disT_mem.1 hu).1 (disT_mem.1 hu).2
      rw [e, hv] at this; cases this
    rw [h.n t ht hv, if_neg h1, if_neg h2]
  · have hm : t ∈ disT (Ck.terms x) := disT_mem.2 ⟨ht, hv⟩
    rw [if_pos hm, if_pos (List.mem_map.2 ⟨t, hm, rfl⟩), ren_ix fun u hu e => h.i u (disT_mem.1 hu).1 t ht (disT_mem.1 hu).2 hv e]
theorem dis_lenT (l : List Tm) : (dis (vrs l)).length = (disT l).length := by rw [← disT_n, List.length_map]
theorem dis_fold_le : ∀ (l acc : List Int), (l.foldl dstep acc).length ≤ acc.length + l.length
  | [], acc => by simp
  | v :: l, acc => by
    rw [List.foldl_cons]
    have h1 := dis_fold_le l (dstep acc v)
    have h2 : (dstep acc v).length ≤ acc.length + 1 := by unfold dstep; split <;> simp
    simp only [List.length_cons]; omega
theorem dis_le (l : List Int) : (dis l).length ≤ l.length := by have := dis_fold_le l []; simpa [dis] using this
theorem ren_len {f : Tm → Tm} {x : Ck} (h : Ren f (Ck.terms x)) : (dis (vrs (Ck.terms (mapC f x)))).length = (dis (vrs (Ck.terms x))).length := by
  rw [dis_lenT, dis_lenT, mapC_terms, ren_dis h, List.length_map]
/-- Normal's numbering is one to one. -/
theorem nm_ren (x : Ck) : Ren (nmT (disT (Ck.terms x))) (Ck.terms x) := by
  refine ⟨fun t ht hv => (nmT_var _ _ fun u hu => (disT_mem.1 hu).2).trans hv, fun t ht hv => ?_, fun t ht u hu h1 h2 e => ?_⟩
  · unfold nmT; rw [if_neg (fun hm => by rw [(disT_mem.1 hm).2] at hv; cases hv)]
  · have m1 : t ∈ disT (Ck.terms x) := disT_mem.2 ⟨ht, h1⟩
    have m2 : u ∈ disT (Ck.terms x) := disT_mem.2 ⟨hu, h2⟩
    unfold nmT at e
    rw [if_pos m1, if_pos m2] at e
    simp only [Tm.mk.injEq, true_and, and_true] at e
    have e2 : ix (disT (Ck.terms x)) t = ix (disT (Ck.terms x)) u := by omega
    have g1 := ix_get m1
    have g2 := ix_get m2
    rw [e2, g2] at g1
    exact (Option.some.inj g1).symm
theorem norm_len (x : Ck) : (dis (vrs (Ck.terms (normC x)))).length = (dis (vrs (Ck.terms x))).length := ren_len (nm_ren x)
theorem norm_twice (x : Ck) : normC (normC x) = normC x := norm_id (norm_mis x)
/-- The variables that renamed gives. -/
def rnv (up : Int) (i : Nat) : Tm := ⟨3, 1000 + ((i : Int) * 7 + up) % 73, ⟨#[]⟩⟩
def rnvs (up : Int) (n : Nat) : List Tm := (List.range n).map (rnv up)
theorem rnvs_len (up : Int) (n : Nat) : (rnvs up n).length = n := by simp [rnvs]
theorem rnvs_get (up : Int) {n i : Nat} (h : i < n) : (rnvs up n)[i]? = some (rnv up i) := by simp [rnvs, h]
theorem rnvs_succ (up : Int) (n : Nat) : rnvs up (n + 1) = rnvs up n ++ [rnv up n] := by simp [rnvs, List.range_succ]
theorem rnv_var (up : Int) (i : Nat) : (rnv up i).var = true := by
  have := Int.emod_nonneg ((i : Int) * 7 + up) (show (73 : Int) ≠ 0 by omega)
  simp only [rnv, Tm.var, decide_eq_true_eq]
  exact ⟨trivial, by omega, trivial⟩
theorem rnv_rng (up : Int) (i : Nat) : 1000 ≤ (rnv up i).n ∧ (rnv up i).n < 1073 := by
  have := Int.emod_nonneg ((i : Int) * 7 + up) (show (73 : Int) ≠ 0 by omega)
  have := Int.emod_lt_of_pos ((i : Int) * 7 + up) (show (0 : Int) < 73 by omega)
  simp only [rnv]; omega
theorem rnv_inj {up : Int} {i j : Nat} (hi : i < 73) (hj : j < 73) (h : rnv up i = rnv up j) : i = j := by
  simp only [rnv, Tm.mk.injEq, true_and, and_true] at h
  omega
theorem ins_rn {up : Int} {n : Nat} {t : Tm} (h : t.var = true) (hn : t.n < n) : ins (rnvs up n) t = rnv up t.n.toNat := by
  unfold ins; rw [if_pos h, rnvs_get up (by have := var_nn h; omega)]; rfl
theorem rn_ren {x : Ck} {m : Nat} {up : Int} (hm : m ≤ 72) (h : ∀ t ∈ Ck.terms x, t.var = true → t.n < m) : Ren (ins (rnvs up m)) (Ck.terms x) := by
  refine ⟨fun t ht hv => by rw [ins_rn hv (h t ht hv)]; exact rnv_var _ _, fun t _ hv => ins_non hv, fun t ht u hu h1 h2 e => ?_⟩
  have b1 := h t ht h1
  have b2 := h u hu h2
  have c1 := var_nn h1
  have c2 := var_nn h2
  rw [ins_rn h1 b1, ins_rn h2 b2] at e
  have := rnv_inj (by omega) (by omega) e
  rw [var_eqQ h1, var_eqQ h2]
  have e3 : t.n = u.n := by omega
  rw [e3]
/-- Check of the renamed clause. -/
theorem ren_val {f : Tm → Tm} {x : Ck} (h : Ren f (Ck.terms x)) (hx : Val0 x) : Val0 (mapC f x) := by
  have hcov : ∀ t ∈ Ck.terms x, t.cov = true → (f t).cov = true := fun t ht hc => by
    cases hv : t.var
    · rw [h.n t ht hv]; exact hc
    · simp [Tm.cov, h.v t ht hv]
  have hq : ∀ t ∈ Ck.terms x, qualOk t = true → qualOk (f t) = true := fun t ht hc => by
    cases hv : t.var
    · rw [h.n t ht hv]; exact hc
    · simp [qualOk, h.v t ht hv]
  have he : ∀ a : At, (∀ t ∈ a.pl, t ∈ Ck.terms x) → a.err = 0 → (mapA f a).err = 0 := fun a hm ha => by
    obtain ⟨h1, h2, h3, h4⟩ := err_zero' ha
    refine err_zero h1 (by simpa [mapA] using h2) (hq _ (hm _ (by simp [At.pl])) h3) fun t ht => ?_
    obtain ⟨u, hu, rfl⟩ := List.mem_map.1 ht
    exact hcov u (hm u (by simp [At.pl, hu])) (h4 u hu)
  refine ⟨fun a ha => ?_, fun a ha => ?_, by simpa [mapC] using hx.bl, by simpa [mapC] using hx.tl, ?_, fun t ht hvt => ?_⟩
  · rcases List.mem_cons.1 ha with rfl | ha
    · exact he _ (fun t ht => by unfold Ck.terms; simp [ht]) (hx.e _ (by simp))
    · obtain ⟨b, hb, rfl⟩ := List.mem_map.1 ha
      exact he _ (fun t ht => List.mem_append_right _ (List.mem_append_left _ (List.mem_flatMap.2 ⟨b, hb, ht⟩))) (hx.e _ (by simp [hb]))
  · obtain ⟨b, hb, rfl⟩ := List.mem_map.1 ha
    have hm : ∀ t, t = b.l ∨ t = b.r → t ∈ Ck.terms x := fun t ht => List.mem_append_right _ (List.mem_append_right _ (List.mem_flatMap.2 ⟨b, hb, by simpa using ht⟩))
    have := hx.t b hb
    simp only [Te.ok, Bool.and_eq_true, mapE] at this ⊢
    exact ⟨this.1, hcov _ (hm _ (Or.inl rfl)) this.2.1, hcov _ (hm _ (Or.inr rfl)) this.2.2⟩
  · exact (h.var (t := x.1.by_) (by simp [Ck.terms, At.pl])).trans hx.h
  · have e : (mapC f x).1.pl ++ tls (mapC f x).2.2 = (x.1.pl ++ tls x.2.2).map f := by
      rw [List.map_append, mapC]; simp only [mapA_pl, tls_mapE]
    rw [e] at ht
    obtain ⟨u, hu, rfl⟩ := List.mem_map.1 ht
    have hut : u ∈ Ck.terms x := by
      unfold Ck.terms; rcases List.mem_append.1 hu with hu | hu <;> simp [hu]
    rw [h.var hut] at hvt
    have := hx.s u hu hvt
    have e2 : (mapC f x).2.1.flatMap At.pl = (x.2.1.flatMap At.pl).map f := by rw [mapC]; exact flat_mapA _ _
    rw [e2]
    exact List.mem_map.2 ⟨u, this, rfl⟩
theorem rn_chk {x : Ck} {m : Nat} {up : Int} {c : Cm} (hx : Val0 x) (hd : dis (vrs (Ck.terms x)) = ints m) (hm : m ≤ 72) (h0 : 0 < m) (h : ∀ t ∈ Ck.terms x, t.var = true → t.n < m) (hk : c.key = mapC (ins (rnvs up m)) x) : c.chk = 35 := by
  have hr := rn_ren (up := up) hm h
  have hv := ren_val hr hx
  have a1 := short_no (c := c) (by rw [hk]; exact hv.bl) (by rw [hk]; exact hv.tl)
  have a2 := aErr_ok (c := c) (by rw [hk]; exact hv.e)
  have a3 := badTk_no (c := c) (by rw [hk]; exact hv.t)
  have a4 : c.head.1.by_.var = false := by
    have : c.head.1 = (mapC (ins (rnvs up m)) x).1 := by have := congrArg (·.1) hk; exact this
    rw [this]; exact hv.h
  have a5 := unb_no2 (c := c) (by rw [hk]; exact hv.s)
  have a6 : mis 0 c.vars = true := by
    rw [mis_key, hk]
    have hall : ∀ v ∈ vrs (Ck.terms (mapC (ins (rnvs up m)) x)), 1000 ≤ v := fun v hv => by
      obtain ⟨t, ht, rfl⟩ := List.mem_map.1 hv
      obtain ⟨ht, hvt⟩ := List.mem_filter.1 ht
      rw [mapC_terms] at ht
      obtain ⟨u, hu, rfl⟩ := List.mem_map.1 ht
      rw [hr.var hu] at hvt
      rw [ins_rn hvt (h u hu hvt)]
      exact (rnv_rng _ _).1
    have hne : vrs (Ck.terms (mapC (ins (rnvs up m)) x)) ≠ [] := fun e => by
      have := ren_len hr
      rw [e, hd, ints_len] at this
      simp [dis] at this
      omega
    cases hc : vrs (Ck.terms (mapC (ins (rnvs up m)) x)) with
    | nil => exact absurd hc hne
    | cons v l =>
      have := hall v (by rw [hc]; simp)
      rw [mis, if_pos (by omega)]
  simp [Cm.chk, Cm.rs, chkL, a1, a2, a3, a4, a5, a6]
end Go.Proofs.YtdfgijdededolaaDoor
