import Derived.Test.YtdfgijdededolabGreatDoorCL12
import Derived.Test.YtdfgijdededolabGreatDoorCL22
import Derived.Test.YtdfgijdededolabGreatDoorCL5
import Derived.Test.YtdfgijdededolabGreatDoorB7
import Derived.Test.YtdfgijdededolabGreatDoorA1
import Derived.Laws.AppendOwnNone
import Derived.Laws.AppendOwn
/-
  Clauses as plain data: what Made makes; numbering. (Plain.)
-/
namespace Go.Proofs.YtdfgijdededolabGreatDoor
open Go.RowKit

/-- A clause as plain data. -/
abbrev Ck := At × List At × List Te
def Ck.terms (x : Ck) : List Tm := x.1.pl ++ (x.2.1.flatMap At.pl ++ tls x.2.2)
theorem key_terms (c : Cm) : c.terms = Ck.terms c.key := by
  rw [Cm.terms_eq, Ck.terms, Cm.key, flt, fsts, List.flatMap_map]; simp
def mapA (f : Tm → Tm) (a : At) : At := ⟨f a.by_, a.name, a.args.map f⟩
def mapE (f : Tm → Tm) (t : Te) : Te := ⟨t.op, f t.l, f t.r⟩
def mapC (f : Tm → Tm) (x : Ck) : Ck := (mapA f x.1, x.2.1.map (mapA f), x.2.2.map (mapE f))
theorem mapA_pl (f : Tm → Tm) (a : At) : (mapA f a).pl = a.pl.map f := rfl
theorem flat_mapA (f : Tm → Tm) (l : List At) : (l.map (mapA f)).flatMap At.pl = (l.flatMap At.pl).map f := by
  rw [List.flatMap_map, List.map_flatMap]; rfl
theorem tls_mapE (f : Tm → Tm) (l : List Te) : tls (l.map (mapE f)) = (tls l).map f := by
  unfold tls; rw [List.flatMap_map, List.map_flatMap]; rfl
theorem mapC_terms (f : Tm → Tm) (x : Ck) : Ck.terms (mapC f x) = (Ck.terms x).map f := by
  unfold Ck.terms mapC; simp only [mapA_pl, flat_mapA, tls_mapE, List.map_append]
theorem mapA_congr {f g : Tm → Tm} {a : At} (h : ∀ t ∈ a.pl, f t = g t) : mapA f a = mapA g a := by
  unfold mapA
  rw [h a.by_ (by simp [At.pl]), List.map_congr_left fun t ht => h t (by simp [At.pl, ht])]
theorem mapC_congr {f g : Tm → Tm} {x : Ck} (h : ∀ t ∈ Ck.terms x, f t = g t) : mapC f x = mapC g x := by
  unfold mapC
  have e1 : mapA f x.1 = mapA g x.1 := mapA_congr fun t ht => h t (by simp [Ck.terms, ht])
  have e2 : x.2.1.map (mapA f) = x.2.1.map (mapA g) := List.map_congr_left fun a ha => mapA_congr fun t ht => h t (List.mem_append_right _ (List.mem_append_left _ (List.mem_flatMap.2 ⟨a, ha, ht⟩)))
  have e3 : x.2.2.map (mapE f) = x.2.2.map (mapE g) := List.map_congr_left fun e he => by
    unfold mapE
    rw [h e.l, h e.r]
    · exact List.mem_append_right _ (List.mem_append_right _ (List.mem_flatMap.2 ⟨e, he, by simp⟩))
    · exact List.mem_append_right _ (List.mem_append_right _ (List.mem_flatMap.2 ⟨e, he, by simp⟩))
  rw [e1, e2, e3]
theorem mapA_id (a : At) : mapA (fun t => t) a = a := by cases a; simp [mapA]
theorem mapC_id (x : Ck) : mapC (fun t => t) x = x := by
  obtain ⟨h, b, t⟩ := x
  have e1 : (mapA fun t => t) = fun a => a := funext mapA_id
  have e2 : (mapE fun t => t) = fun a => a := funext fun a => by cases a; rfl
  simp [mapC, mapA_id, e1, e2]
theorem mapA_comp (f g : Tm → Tm) (a : At) : mapA f (mapA g a) = mapA (fun t => f (g t)) a := by simp [mapA, Function.comp_def]
theorem mapC_comp (f g : Tm → Tm) (x : Ck) : mapC f (mapC g x) = mapC (fun t => f (g t)) x := by
  simp [mapC, mapA_comp, mapE, Function.comp_def]
/-- A constant, an atom, a test out of any. -/
def cut64 (s : ByteArray) : ByteArray := s.extract 0 (min s.size 64)
def mkC (t : Tm) : Tm := if t.con = true then t else if t.k = 2 then ⟨2, 0, cut64 t.s⟩ else ⟨1, t.n, ⟨#[]⟩⟩
def fixT (t : Tm) : Tm := if t.var = true then t else mkC t
def nmP : ByteArray := ⟨#[112]⟩
def mkA (a : At) : At := ⟨if qualOk a.by_ = true then a.by_ else zt, if nameOk a.name = true then a.name else nmP, (a.args.take 8).map fixT⟩
def grd (t : Tm) : Tm := if t.k = 3 then ⟨1, t.n, ⟨#[]⟩⟩ else t
def sf (l : List Tm) (t : Tm) : Tm := if t ∈ l then t else grd t
def opF (o : Int) : Int := if o < 1 ∨ 4 < o then 1 + ((o.tmod 4) + 4).tmod 4 else o
def mkE (b : List Tm) (t : Te) : Te := ⟨opF t.op, sf b (fixT t.l), sf b (fixT t.r)⟩
theorem cut64_size (s : ByteArray) : (cut64 s).size ≤ 64 := by
  unfold cut64; rw [ByteArray.size_extract]; omega
theorem mkC_con (t : Tm) : (mkC t).con = true := by
  unfold mkC
  by_cases h : t.con = true
  · rw [if_pos h]; exact h
  · rw [if_neg h]
    by_cases h2 : t.k = 2
    · rw [if_pos h2]; simp [Tm.con, cut64_size]
    · rw [if_neg h2]; simp [Tm.con]
theorem fixT_cov (t : Tm) : (fixT t).cov = true := by
  unfold fixT
  by_cases h : t.var = true
  · rw [if_pos h]; simp [Tm.cov, h]
  · rw [if_neg h]; simp [Tm.cov, mkC_con]
theorem con_novar {t : Tm} (h : t.con = true) : t.var = false := by
  simp only [Tm.con, decide_eq_true_eq] at h
  simp only [Tm.var, decide_eq_false_iff_not]
  rintro ⟨h1, -⟩
  rcases h with ⟨h2, -⟩ | ⟨h2, -⟩ <;> omega
theorem sf_cov {b : List Tm} {t : Tm} (h : t.cov = true) : (sf b t).cov = true := by
  unfold sf
  by_cases hm : t ∈ b
  · rw [if_pos hm]; exact h
  · rw [if_neg hm]
    unfold grd
    by_cases h3 : t.k = 3
    · rw [if_pos h3]; simp [Tm.cov, Tm.con]
    · rw [if_neg h3]; exact h
theorem sf_var {b : List Tm} {t : Tm} (h : (sf b t).var = true) : sf b t ∈ b := by
  unfold sf at *
  by_cases hm : t ∈ b
  · rw [if_pos hm]; exact hm
  · rw [if_neg hm] at h
    unfold grd at h
    by_cases h3 : t.k = 3
    · rw [if_pos h3] at h; simp [Tm.var] at h
    · rw [if_neg h3] at h; simp only [Tm.var, decide_eq_true_eq] at h; exact absurd h.1 h3
theorem opF_ok (o : Int) : 1 ≤ opF o ∧ opF o ≤ 4 := by
  unfold opF
  by_cases h : o < 1 ∨ 4 < o
  · rw [if_pos h]
    have h1 := Int.tmod_lt_of_pos o (show (0 : Int) < 4 by omega)
    have h2 : -4 < o.tmod 4 := Int.lt_tmod_of_pos o (by omega)
    have h3 : ((o.tmod 4) + 4).tmod 4 = ((o.tmod 4) + 4) % 4 := Int.tmod_eq_emod_of_nonneg (by omega)
    rw [h3]; omega
  · rw [if_neg h]; omega
theorem mkE_ok (b : List Tm) (t : Te) : (mkE b t).ok = true := by
  have := opF_ok t.op
  simp [mkE, Te.ok, this, sf_cov, fixT_cov]
theorem err_zero {a : At} (h1 : nameOk a.name = true) (h2 : a.args.length ≤ 8) (h3 : qualOk a.by_ = true) (h4 : ∀ t ∈ a.args, t.cov = true) : a.err = 0 := by
  unfold At.err
  rw [if_neg (by rw [h1]; simp), if_neg (by omega), if_neg (by rw [h3]; simp), if_pos (by rw [List.all_eq_true]; exact h4)]
theorem err_zero' {a : At} (h : a.err = 0) : nameOk a.name = true ∧ a.args.length ≤ 8 ∧ qualOk a.by_ = true ∧ ∀ t ∈ a.args, t.cov = true := by
  unfold At.err at h
  split at h
  · cases h
  split at h
  · cases h
  split at h
  · cases h
  split at h
  · rename_i a1 a2 a3 a4
    exact ⟨by simpa using a1, by omega, by simpa using a3, by rwa [List.all_eq_true] at a4⟩
  · cases h
theorem qual_zt : qualOk zt = true := by simp [qualOk]
theorem mkA_err (hp : nameOk nmP = true) (a : At) : (mkA a).err = 0 := by
  refine err_zero ?_ ?_ ?_ ?_
  · unfold mkA; simp only
    split
    · assumption
    · exact hp
  · simp [mkA]; omega
  · unfold mkA; simp only
    split
    · assumption
    · exact qual_zt
  · intro t ht
    simp only [mkA, List.mem_map] at ht
    obtain ⟨u, -, rfl⟩ := ht
    exact fixT_cov u
/-- Terms, none twice. -/
def dstepT (acc : List Tm) (x : Tm) : List Tm := if x ∈ acc then acc else acc ++ [x]
def disT (l : List Tm) : List Tm := (l.filter Tm.var).foldl dstepT []
theorem dstepT_mem {acc : List Tm} {x y : Tm} : y ∈ dstepT acc x ↔ y ∈ acc ∨ y = x := by
  unfold dstepT
  by_cases h : x ∈ acc
  · rw [if_pos h]
    exact ⟨Or.inl, fun e => e.elim id fun e => e ▸ h⟩
  · rw [if_neg h]; simp
theorem foldT_mem : ∀ {l acc : List Tm} {y : Tm}, y ∈ l.foldl dstepT acc ↔ y ∈ acc ∨ y ∈ l
  | [], acc, y => by simp
  | x :: l, acc, y => by rw [List.foldl_cons, foldT_mem, dstepT_mem, List.mem_cons, or_assoc]
theorem disT_mem {l : List Tm} {y : Tm} : y ∈ disT l ↔ y ∈ l ∧ y.var = true := by
  unfold disT; rw [foldT_mem, List.mem_filter]; simp
theorem foldT_pre : ∀ (l acc : List Tm), acc <+: l.foldl dstepT acc
  | [], acc => List.prefix_rfl
  | x :: l, acc => by
    rw [List.foldl_cons]
    refine List.IsPrefix.trans ?_ (foldT_pre l _)
    unfold dstepT
    split
    · exact List.prefix_rfl
    · exact List.prefix_append _ _
/-- Where a term first stands. -/
def ix : List Tm → Tm → Nat
  | [], _ => 0
  | x :: l, t => if x = t then 0 else ix l t + 1
theorem ix_lt : ∀ {l : List Tm} {t : Tm}, t ∈ l → ix l t < l.length
  | x :: l, t, h => by
    rw [ix]
    by_cases e : x = t
    · rw [if_pos e]; simp
    · rw [if_neg e]
      have := ix_lt (l := l) (t := t) (by rcases List.mem_cons.1 h with h | h; exact absurd h.symm e; exact h)
      simp only [List.length_cons]; omega
theorem ix_app : ∀ {p q : List Tm} {t : Tm}, t ∈ p → ix (p ++ q) t = ix p t
  | x :: l, q, t, h => by
    rw [List.cons_append, ix, ix]
    by_cases e : x = t
    · rw [if_pos e, if_pos e]
    · rw [if_neg e, if_neg e, ix_app (by rcases List.mem_cons.1 h with h | h; exact absurd h.symm e; exact h)]
theorem ix_new : ∀ {p : List Tm} {t : Tm}, ¬ t ∈ p → ix (p ++ [t]) t = p.length
  | [], t, _ => by simp [ix]
  | x :: l, t, h => by
    rw [List.cons_append, ix, if_neg (fun e => h (by simp [e])), ix_new (fun e => h (by simp [e]))]; rfl
theorem ix_get : ∀ {l : List Tm} {t : Tm}, t ∈ l → l[ix l t]? = some t
  | x :: l, t, h => by
    rw [ix]
    by_cases e : x = t
    · rw [if_pos e]; simp [e]
    · rw [if_neg e, List.getElem?_cons_succ]; exact ix_get (by rcases List.mem_cons.1 h with h | h; exact absurd h.symm e; exact h)
theorem ix_at : ∀ {l : List Tm} {t : Tm} {j : Nat}, l[j]? = some t → (¬ t ∈ l.take j) → ix l t = j
  | x :: l, t, 0, h, _ => by simp at h; rw [ix, if_pos h]
  | x :: l, t, j + 1, h, hn => by
    rw [List.take_succ_cons, List.mem_cons, not_or] at hn
    rw [List.getElem?_cons_succ] at h
    rw [ix, if_neg (fun e => hn.1 e.symm), ix_at h hn.2]
def nmT (vs : List Tm) (t : Tm) : Tm := if t ∈ vs then ⟨3, (ix vs t : Nat), ⟨#[]⟩⟩ else t
def normC (x : Ck) : Ck := mapC (nmT (disT (Ck.terms x))) x
theorem idxOf_pre {p q : List Tm} {t : Tm} (h : p <+: q) (ht : t ∈ p) : ix q t = ix p t := by
  obtain ⟨r, rfl⟩ := h
  exact ix_app ht
theorem mis_idx : ∀ (l acc : List Tm), mis acc.length (l.map fun t => ((ix (l.foldl dstepT acc) t : Nat) : Int)) = false
  | [], _ => rfl
  | t :: r, acc => by
    rw [List.map_cons, List.foldl_cons]
    have hpre := foldT_pre r (dstepT acc t)
    have ih := mis_idx r (dstepT acc t)
    by_cases h : t ∈ acc
    · have e : dstepT acc t = acc := if_pos h
      rw [e] at hpre ih ⊢
      have e2 := idxOf_pre hpre h
      have e3 := ix_lt h
      rw [mis, if_neg (by rw [e2]; omega), if_neg (by rw [e2]; omega)]
      exact ih
    · have e : dstepT acc t = acc ++ [t] := if_neg h
      rw [e] at hpre ih ⊢
      have e2 := idxOf_pre hpre (t := t) (by simp)
      have e3 : ix (acc ++ [t]) t = acc.length := ix_new h
      rw [mis, if_neg (by rw [e2, e3]; omega), if_pos (by rw [e2, e3])]
      rw [List.length_append, List.length_singleton] at ih
      exact_mod_cast ih
theorem nmT_var (vs : List Tm) (t : Tm) (h : ∀ u ∈ vs, u.var = true) : (nmT vs t).var = t.var := by
  unfold nmT
  by_cases hm : t ∈ vs
  · rw [if_pos hm, h t hm]; simp [Tm.var]
  · rw [if_neg hm]
theorem norm_vars (x : Ck) : vrs (Ck.terms (normC x)) = ((Ck.terms x).filter Tm.var).map fun t => (ix (((Ck.terms x).filter Tm.var).foldl dstepT []) t : Int) := by
  unfold normC
  rw [mapC_terms, vrs, List.filter_map, List.map_map]
  have e : List.filter (Tm.var ∘ nmT (disT (Ck.terms x))) (Ck.terms x) = List.filter Tm.var (Ck.terms x) := List.filter_congr fun t ht => nmT_var _ _ (fun u hu => (disT_mem.1 hu).2)
  rw [e]
  refine List.map_congr_left fun t ht => ?_
  have hm : t ∈ disT (Ck.terms x) := disT_mem.2 (List.mem_filter.1 ht)
  simp only [Function.comp, nmT, if_pos hm]
  rfl
theorem norm_mis (x : Ck) : mis 0 (vrs (Ck.terms (normC x))) = false := by
  rw [norm_vars]; exact mis_idx _ []
/-- Valid but for the numbers. -/
structure Val0 (x : Ck) : Prop where
  e : ∀ a ∈ x.1 :: x.2.1, a.err = 0
  t : ∀ a ∈ x.2.2, a.ok = true
  bl : x.2.1.length ≤ 8
  tl : x.2.2.length ≤ 8
  h : x.1.by_.var = false
  s : ∀ t ∈ x.1.pl ++ tls x.2.2, t.var = true → t ∈ x.2.1.flatMap At.pl
theorem chk_zero {c : Cm} (h1 : ∀ a ∈ c.key.1 :: c.key.2.1, a.err = 0) (h2 : ∀ a ∈ c.key.2.2, a.ok = true) (h3 : c.key.2.1.length ≤ 8) (h4 : c.key.2.2.length ≤ 8) (h5 : c.key.1.by_.var = false)
    (h6 : ∀ t ∈ c.key.1.pl ++ tls c.key.2.2, t.var = true → t ∈ c.key.2.1.flatMap At.pl) (h7 : mis 0 (vrs (Ck.terms c.key)) = false) : c.chk = 0 := by
  have a1 : long c = false := by
    simp only [Cm.key, fsts, List.length_map] at h3 h4
    simp [long]; omega
  have a2 : aErr c.atoms = 0 := aErr_zero fun y hy => by
    rcases List.mem_cons.1 hy with rfl | hy
    · exact h1 _ (by simp [Cm.key])
    · exact h1 _ (by simp only [Cm.key, fsts, List.mem_cons, List.mem_map]; exact Or.inr ⟨y, hy, rfl⟩)
  have a3 : badT c = false := by
    unfold badT; rw [List.any_eq_false]; intro t ht; rw [h2 t ht]; simp
  have a5 : unb c = false := unb_no fun v hv => by
    have e1 : c.restC.vars = vrs c.restC.terms := rfl
    have e2 : c.bodyC.vars = vrs c.bodyC.terms := rfl
    rw [e1, restC_terms, vrs] at hv
    rw [e2, bodyC_terms, vrs]
    obtain ⟨t, ht, rfl⟩ := List.mem_map.1 hv
    obtain ⟨ht, hvt⟩ := List.mem_filter.1 ht
    have := h6 t ht hvt
    refine List.mem_map.2 ⟨t, List.mem_filter.2 ⟨List.mem_cons_of_mem _ ?_, hvt⟩, rfl⟩
    rw [flt]
    simpa [Cm.key, fsts, List.flatMap_map] using this
  have a6 : mis 0 c.vars = false := by
    have : c.vars = vrs c.terms := rfl
    rw [this, key_terms]; exact h7
  have a4 : c.head.1.by_.var = false := h5
  simp [Cm.chk, Cm.rs, chkL, a1, a2, a3, a4, a5, a6]
theorem nmT_cov {vs : List Tm} {t : Tm} (h : t.cov = true) : (nmT vs t).cov = true := by
  unfold nmT
  by_cases hm : t ∈ vs
  · rw [if_pos hm]; simp [Tm.cov, Tm.var]
  · rw [if_neg hm]; exact h
theorem nmT_qual {vs : List Tm} {t : Tm} (h : qualOk t = true) : qualOk (nmT vs t) = true := by
  unfold nmT
  by_cases hm : t ∈ vs
  · rw [if_pos hm]
    have : Tm.var ⟨3, (ix vs t : Nat), ⟨#[]⟩⟩ = true := by simp [Tm.var]
    simp [qualOk, this]
  · rw [if_neg hm]; exact h
theorem norm_val {x : Ck} (h : Val0 x) : Val0 (normC x) := by
  have hv : ∀ t ∈ Ck.terms x, (nmT (disT (Ck.terms x)) t).var = t.var := fun t ht => nmT_var _ _ (fun u hu => (disT_mem.1 hu).2)
  have he : ∀ a : At, a.err = 0 → (mapA (nmT (disT (Ck.terms x))) a).err = 0 := fun a ha => by
    obtain ⟨h1, h2, h3, h4⟩ := err_zero' ha
    refine err_zero h1 (by simpa [mapA] using h2) (nmT_qual h3) fun t ht => ?_
    obtain ⟨u, hu, rfl⟩ := List.mem_map.1 ht
    exact nmT_cov (h4 u hu)
  refine ⟨fun a ha => ?_, fun a ha => ?_, by simpa [normC, mapC] using h.bl, by simpa [normC, mapC] using h.tl, ?_, fun t ht hvt => ?_⟩
  · rcases List.mem_cons.1 ha with rfl | ha
    · exact he _ (h.e _ (by simp))
    · obtain ⟨b, hb, rfl⟩ := List.mem_map.1 ha
      exact he _ (h.e _ (by simp [hb]))
  · obtain ⟨b, hb, rfl⟩ := List.mem_map.1 ha
    have := h.t b hb
    simp only [Te.ok, Bool.and_eq_true, mapE] at this ⊢
    exact ⟨this.1, nmT_cov this.2.1, nmT_cov this.2.2⟩
  · exact (hv x.1.by_ (by simp [Ck.terms, At.pl])).trans h.h
  · have e : (normC x).1.pl ++ tls (normC x).2.2 = (x.1.pl ++ tls x.2.2).map (nmT (disT (Ck.terms x))) := by
      rw [List.map_append, normC, mapC]; simp only [mapA_pl, tls_mapE]
    rw [e] at ht
    obtain ⟨u, hu, rfl⟩ := List.mem_map.1 ht
    have hut : u ∈ Ck.terms x := by
      unfold Ck.terms; rcases List.mem_append.1 hu with hu | hu <;> simp [hu]
    rw [hv u hut] at hvt
    have := h.s u hu hvt
    have e2 : (normC x).2.1.flatMap At.pl = (x.2.1.flatMap At.pl).map (nmT (disT (Ck.terms x))) := by rw [normC, mapC]; exact flat_mapA _ _
    rw [e2]
    exact List.mem_map.2 ⟨u, this, rfl⟩
/-- What Made makes of a clause, ahead of its numbering and behind it. -/
def made0 (x : Ck) : Ck :=
  let b := (x.2.1.take 8).map mkA
  let h := mkA x.1
  (⟨if h.by_.k = 3 then zt else h.by_, h.name, h.args.map (sf (b.flatMap At.pl))⟩, b, (x.2.2.take 8).map (mkE (b.flatMap At.pl)))
def madeK (x : Ck) : Ck := normC (made0 x)
theorem made0_val (hp : nameOk nmP = true) (x : Ck) : Val0 (made0 x) := by
  refine ⟨fun a ha => ?_, fun a ha => ?_, by simp [made0]; omega, by simp [made0]; omega, ?_, fun t ht hv => ?_⟩
  · rcases List.mem_cons.1 ha with rfl | ha
    · obtain ⟨h1, h2, h3, h4⟩ := err_zero' (mkA_err hp x.1)
      refine err_zero h1 (by simpa [made0] using h2) ?_ fun t ht => ?_
      · simp only [made0]
        split
        · exact qual_zt
        · exact h3
      · obtain ⟨u, hu, rfl⟩ := List.mem_map.1 ht
        exact sf_cov (h4 u hu)
    · obtain ⟨b, hb, rfl⟩ := List.mem_map.1 ha
      exact mkA_err hp b
  · obtain ⟨b, hb, rfl⟩ := List.mem_map.1 ha
    exact mkE_ok _ _
  · simp only [made0]
    split
    · simp [Tm.var, zt]
    · rename_i h; simp [Tm.var, h]
  · rcases List.mem_append.1 ht with ht | ht
    · rcases List.mem_cons.1 ht with rfl | ht
      · exfalso
        simp only [made0] at hv
        split at hv
        · simp [Tm.var, zt] at hv
        · rename_i h; simp [Tm.var, h] at hv
      · obtain ⟨u, hu, rfl⟩ := List.mem_map.1 ht
        exact sf_var hv
    · obtain ⟨e, he, ht⟩ := List.mem_flatMap.1 ht
      obtain ⟨b, hb, rfl⟩ := List.mem_map.1 he
      simp only [mkE, List.mem_cons, List.not_mem_nil, or_false] at ht
      rcases ht with rfl | rfl <;> exact sf_var hv
theorem made_val (hp : nameOk nmP = true) (x : Ck) : Val0 (madeK x) := norm_val (made0_val hp x)
theorem made_chk (hp : nameOk nmP = true) {c : Cm} {x : Ck} (h : c.key = madeK x) : c.chk = 0 := by
  have hv := made_val hp x
  rw [← h] at hv
  exact chk_zero hv.e hv.t hv.bl hv.tl hv.h hv.s (by rw [h]; exact norm_mis _)
end Go.Proofs.YtdfgijdededolabGreatDoor
/-
  within, place, ground, safe, MadeConst.
-/
namespace Go.Proofs.YtdfgijdededolabGreatDoor
open Go.RowKit
attribute [local go_sem ↓] Go.wp_at_zero Go.wp_at_succ

set_option maxHeartbeats 1000000 in
theorem within_any (l : List Tm) (v : Value) (t : Tm) (w : World) (h : Ts w v l) :
    Calls Tryz.prog 134 #[v, t.v] w fun e w' => e = .returned (.bool (decide (t ∈ l))) ∧ Below w.heap.size w w' := by
  obtain ⟨ad, cap, rfl, hl, h⟩ := h
  obtain ⟨r, hr⟩ : ∃ r, decide (t ∈ l) = r := ⟨_, rfl⟩
  rw [hr]
  obtain ⟨k, n, s⟩ := t
  have HR : Hid (decide (Tm.mk k n s ∈ l) = r) := hr
  clear hr
  go_enter Tryz.func134, Tryz.ntmps134
  go_wp2
  have bx := Blk.new w #[.int .i64 k, .int .i64 n, .string s] 35
  have hbx := below1 w (.cells #[.int .i64 k, .int .i64 n, .string s] 35)
  have h' : l = [] ∨ ∃ b o, ad = some ⟨b, o, none⟩ ∧ TRow (w.alloc (.cells #[.int .i64 k, .int .i64 n, .string s] 35)) b o l := by
    rcases h with h | ⟨b, o, h1, h2⟩
    · exact Or.inl h
    · exact Or.inr ⟨b, o, h1, h2.later hbx⟩
  revert bx hbx h'
  generalize w.alloc (.cells #[.int .i64 k, .int .i64 n, .string s] 35) = X
  intro bx hbx h'
  clear h
  have HBX : Hid (Below w.heap.size w X) := hbx
  have BX : Hid (Blk X w.heap.size #[.int .i64 k, .int .i64 n, .string s] 35) := bx
  clear hbx bx
  go_loopg [5] l.length (fun g i wr => ∃ j : Nat, j + g = l.length ∧ i = .int .i64 j ∧ (¬ Tm.mk k n s ∈ l.take j) ∧ Below X.heap.size X wr)
  case atStart => exact ⟨0, by omega, rfl, by simp, Below.refl _ _⟩
  case round =>
    obtain ⟨j, hj, rfl, hno, hb⟩ := hrel
    have HN : Hid (¬ Tm.mk k n s ∈ l.take j) := hno
    clear hno
    cases gk with
    | succ g =>
      have hlt : (j : Int) < (l.length : Int) := by omega
      have j0 : (0 : Int) ≤ (j : Int) := by omega
      obtain ⟨u, hu⟩ : ∃ u, l[j]? = some u := ⟨_, List.getElem?_eq_getElem (by omega)⟩
      rcases h' with h | ⟨b1, o1, rfl, hb1, h⟩
      · subst h; simp at hj
      obtain ⟨p0, p1, p2⟩ := h j u hu
      rw [← hb.cell (p := ⟨b1, _, none⟩) hb1] at p0 p1 p2
      obtain ⟨q0, q1, q2, -, -, -⟩ := three (Blk.later (Hid.out BX) hb)
      have he := run_eql_tm u ⟨k, n, s⟩
      have HU : Hid (l[j]? = some u) := hu
      by_cases htu : u = ⟨k, n, s⟩
      · have HY : Hid (decide (Tm.mk k n s ∈ l) = true) := decide_eq_true (by rw [← htu]; exact List.mem_of_getElem? hu)
        rw [decide_eq_true htu] at he
        clear htu hu h
        obtain ⟨uk, un, us⟩ := u
        simp only at p0 p1 p2
        go_wp2
        go_quiet (fail)
        go_wp2
        go_ret
        exact ⟨ret_b (HY.out.symm.trans HR.out), below_step (Hid.out HBX) (below_drewN hb _)⟩
      · have HY : Hid (¬ Tm.mk k n s ∈ l.take (j + 1)) := by
          show ¬ _
          rw [List.take_add_one, hu]
          simp only [Option.toList_some, List.mem_append, List.mem_singleton, not_or]
          exact ⟨HN.out, fun e => htu e.symm⟩
        rw [decide_eq_false htu] at he
        clear htu hu h
        obtain ⟨uk, un, us⟩ := u
        simp only at p0 p1 p2
        go_wp2
        go_quiet (fail)
        go_wp2
        go_roundg g
        case measure => omega
        case rel => exact ⟨j + 1, by omega, by go_num, HY.out, below_drewN hb _⟩
    | zero =>
      obtain rfl : j = l.length := by omega
      have HY : Hid (decide (Tm.mk k n s ∈ l) = false) := decide_eq_false (by have := HN.out; rwa [List.take_length] at this)
      have hz : ¬ ((l.length : Int) < (l.length : Int)) := by omega
      clear h'
      go_wp2
      go_ret
      exact ⟨ret_b (HY.out.symm.trans HR.out), below_step (Hid.out HBX) hb⟩

/-- Where a term stands; -1: nowhere. -/
def plc (l : List Tm) (t : Tm) : Int := if t ∈ l then (ix l t : Int) else -1
theorem plc_at {l : List Tm} {t : Tm} {j : Nat} (h : l[j]? = some t) (hn : ¬ t ∈ l.take j) : plc l t = j := by
  unfold plc; rw [if_pos (List.mem_of_getElem? h), ix_at h hn]
theorem plc_no {l : List Tm} {t : Tm} (h : ¬ t ∈ l) : plc l t = -1 := if_neg h
set_option maxHeartbeats 1000000 in
theorem place3_any (l : List Tm) (v : Value) (t : Tm) (w : World) (h : Ts w v l) :
    Calls Tryz.prog 111 #[v, t.v] w fun e w' => e = .returned (.int .i64 (plc l t)) ∧ Below w.heap.size w w' := by
  obtain ⟨ad, cap, rfl, hl, h⟩ := h
  obtain ⟨r, hr⟩ : ∃ r, plc l t = r := ⟨_, rfl⟩
  rw [hr]
  obtain ⟨k, n, s⟩ := t
  have HR : Hid (plc l ⟨k, n, s⟩ = r) := hr
  clear hr
  go_enter Tryz.func111, Tryz.ntmps111
  go_wp2
  have bx := Blk.new w #[.int .i64 k, .int .i64 n, .string s] 35
  have hbx := below1 w (.cells #[.int .i64 k, .int .i64 n, .string s] 35)
  have h' : l = [] ∨ ∃ b o, ad = some ⟨b, o, none⟩ ∧ TRow (w.alloc (.cells #[.int .i64 k, .int .i64 n, .string s] 35)) b o l := by
    rcases h with h | ⟨b, o, h1, h2⟩
    · exact Or.inl h
    · exact Or.inr ⟨b, o, h1, h2.later hbx⟩
  revert bx hbx h'
  generalize w.alloc (.cells #[.int .i64 k, .int .i64 n, .string s] 35) = X
  intro bx hbx h'
  clear h
  have HBX : Hid (Below w.heap.size w X) := hbx
  have BX : Hid (Blk X w.heap.size #[.int .i64 k, .int .i64 n, .string s] 35) := bx
  clear hbx bx
  go_loopg [5] l.length (fun g i wr => ∃ j : Nat, j + g = l.length ∧ i = .int .i64 j ∧ (¬ Tm.mk k n s ∈ l.take j) ∧ Below X.heap.size X wr)
  case atStart => exact ⟨0, by omega, rfl, by simp, Below.refl _ _⟩
  case round =>
    obtain ⟨j, hj, rfl, hno, hb⟩ := hrel
    have HN : Hid (¬ Tm.mk k n s ∈ l.take j) := hno
    clear hno
    cases gk with
    | succ g =>
      have hlt : (j : Int) < (l.length : Int) := by omega
      have j0 : (0 : Int) ≤ (j : Int) := by omega
      obtain ⟨u, hu⟩ : ∃ u, l[j]? = some u := ⟨_, List.getElem?_eq_getElem (by omega)⟩
      rcases h' with h | ⟨b1, o1, rfl, hb1, h⟩
      · subst h; simp at hj
      obtain ⟨p0, p1, p2⟩ := h j u hu
      rw [← hb.cell (p := ⟨b1, _, none⟩) hb1] at p0 p1 p2
      obtain ⟨q0, q1, q2, -, -, -⟩ := three (Blk.later (Hid.out BX) hb)
      have he := run_eql_tm u ⟨k, n, s⟩
      have HU : Hid (l[j]? = some u) := hu
      by_cases htu : u = ⟨k, n, s⟩
      · have HY : Hid (plc l ⟨k, n, s⟩ = (j : Int)) := plc_at (by rw [← htu]; exact hu) HN.out
        rw [decide_eq_true htu] at he
        clear htu hu h
        obtain ⟨uk, un, us⟩ := u
        simp only at p0 p1 p2
        go_wp2
        go_quiet (fail)
        go_wp2
        go_ret
        exact ⟨ret_i (HY.out.symm.trans HR.out), below_step (Hid.out HBX) (below_drewN hb _)⟩
      · have HY : Hid (¬ Tm.mk k n s ∈ l.take (j + 1)) := by
          show ¬ _
          rw [List.take_add_one, hu]
          simp only [Option.toList_some, List.mem_append, List.mem_singleton, not_or]
          exact ⟨HN.out, fun e => htu e.symm⟩
        rw [decide_eq_false htu] at he
        clear htu hu h
        obtain ⟨uk, un, us⟩ := u
        simp only at p0 p1 p2
        go_wp2
        go_quiet (fail)
        go_wp2
        go_roundg g
        case measure => omega
        case rel => exact ⟨j + 1, by omega, by go_num, HY.out, below_drewN hb _⟩
    | zero =>
      obtain rfl : j = l.length := by omega
      have HY : Hid (plc l ⟨k, n, s⟩ = -1) := plc_no (by have := HN.out; rwa [List.take_length] at this)
      have hz : ¬ ((l.length : Int) < (l.length : Int)) := by omega
      clear h'
      go_wp2
      go_ret
      exact ⟨ret_i (HY.out.symm.trans HR.out), below_step (Hid.out HBX) hb⟩

end Go.Proofs.YtdfgijdededolabGreatDoor
/-
  Terms in memory that the call itself made; lent of the laws.
-/
namespace Go.Proofs.YtdfgijdededolabGreatDoor
open Go.RowKit

def Tm.cs (t : Tm) : List Value := [.int .i64 t.k, .int .i64 t.n, .string t.s]
def tcs (l : List Tm) : List Value := l.flatMap Tm.cs
theorem tcs_len (l : List Tm) : (tcs l).length = l.length * 3 := by
  induction l with
  | nil => rfl
  | cons d l ih => simp only [tcs, List.flatMap_cons, List.length_append, List.length_cons] at *; rw [ih]; simp [Tm.cs]; omega
theorem tcs_snoc (l : List Tm) (d : Tm) : tcs (l ++ [d]) = tcs l ++ d.cs := by simp [tcs]
theorem tcs_get (l : List Tm) (j : Nat) (d : Tm) (h : l[j]? = some d) (i : Nat) (hi : i < 3) : (tcs l)[j * 3 + i]? = d.cs[i]? := by
  induction l generalizing j with
  | nil => simp at h
  | cons e l ih =>
    rw [tcs, List.flatMap_cons]
    cases j with
    | zero =>
      simp only [List.getElem?_cons_zero, Option.some.injEq] at h
      subst h
      rw [List.getElem?_append_left (by simp [Tm.cs]; omega)]
      simp
    | succ j =>
      simp only [List.getElem?_cons_succ] at h
      rw [List.getElem?_append_right (by simp [Tm.cs]; omega)]
      have e1 : (j + 1) * 3 + i - (Tm.cs e).length = j * 3 + i := by simp [Tm.cs]; omega
      rw [e1]
      exact ih j h
/-- v holds the terms l, in a block of the call's own. -/
def OwnT (w : World) (base : Nat) (v : Value) (l : List Tm) : Prop := w.ownsRow base 35 3 v l.length (tcs l)
theorem ownT_cells {w : World} {base g cap n : Nat} {l : List Tm} (h : OwnT w base (.slice (some ⟨g, 0, none⟩) n cap) l) (j : Nat) (d : Tm) (hd : l[j]? = some d) :
    w.cell? ⟨g, j * 3, none⟩ = some (.int .i64 d.k) ∧ w.cell? ⟨g, j * 3 + 1, none⟩ = some (.int .i64 d.n) ∧ w.cell? ⟨g, j * 3 + 2, none⟩ = some (.string d.s) := by
  rcases h.2 with ⟨h, _⟩ | ⟨g', cap', cur, hv, hb, hg, hn, hc, hs, ht⟩
  · cases h
  · simp only [Value.slice.injEq, Option.some.injEq, Addr.mk.injEq] at hv
    obtain ⟨⟨rfl, -⟩, -, rfl⟩ := hv
    have hj := (List.getElem?_eq_some_iff.1 hd).1
    have key : ∀ i, i < 3 → w.cell? ⟨g, j * 3 + i, none⟩ = d.cs[i]? := fun i hi => by
      rw [cell_of_row _ _ _ _ _ _ hg, ← tcs_get l j d hd i hi, ← ht, List.getElem?_take_of_lt (by omega)]
      simp
    exact ⟨key 0 (by omega), key 1 (by omega), key 2 (by omega)⟩
theorem OwnT.lt {w : World} {base : Nat} {v : Value} {l : List Tm} (h : OwnT w base v l) : ∀ k, v.ownBlock = some k → base ≤ k ∧ k < w.heap.size := World.ownsRow.lt h
theorem OwnT.mono {w : World} {b b' : Nat} {v : Value} {l : List Tm} (h : OwnT w b v l) (hb : b' ≤ b) : OwnT w b' v l := by
  refine ⟨h.1, ?_⟩
  rcases h.2 with hn | ⟨g, cap, cur, hv, hbb, rest⟩
  · exact Or.inl hn
  · exact Or.inr ⟨g, cap, cur, hv, Nat.le_trans hb hbb, rest⟩
theorem OwnT.later {w w' : World} {base : Nat} {v : Value} {l : List Tm} (h : OwnT w base v l) (hb : Below w.heap.size w w') : OwnT w' base v l := by
  refine ⟨h.1, ?_⟩
  rcases h.2 with hn | ⟨g, cap, cur, hv, hbb, hg, rest⟩
  · exact Or.inl hn
  · exact Or.inr ⟨g, cap, cur, hv, hbb, (hb.block _ (Array.getElem?_eq_some_iff.1 hg).1).trans hg, rest⟩
theorem OwnT.set {w : World} {base G i : Nat} {a : Value} {v : Value} {l : List Tm} (h : OwnT w base v l) (hG : G < base) : OwnT (w.setCell ⟨G, i, none⟩ a) base v l := by
  refine ⟨h.1, ?_⟩
  rcases h.2 with hn | ⟨g, cap, cur, hv, hbb, hg, rest⟩
  · exact Or.inl hn
  · exact Or.inr ⟨g, cap, cur, hv, hbb, by rw [heap_setCell_other _ _ _ _ (show g ≠ G by omega)]; exact hg, rest⟩
/-- The mark behind a list of terms. -/
def mark : Tm := ⟨3, 901, ⟨#[109, 97, 114, 107]⟩⟩
def MarkOk (w : World) : Prop := 1 < w.heap.size ∧ w.cell? ⟨1, 0, none⟩ = some (.int .i64 3) ∧ w.cell? ⟨1, 1, none⟩ = some (.int .i64 901) ∧ w.cell? ⟨1, 2, none⟩ = some (.string ⟨#[109, 97, 114, 107]⟩)
theorem MarkOk.later {w w' : World} (h : MarkOk w) (hb : Below w.heap.size w w') : MarkOk w' :=
  ⟨Nat.lt_of_lt_of_le h.1 hb.size, by rw [hb.cell (p := ⟨1, _, none⟩) h.1]; exact h.2.1, by rw [hb.cell (p := ⟨1, _, none⟩) h.1]; exact h.2.2.1, by rw [hb.cell (p := ⟨1, _, none⟩) h.1]; exact h.2.2.2⟩
/-- A list of terms that came in: nil, or a slice with an address. -/
def TsO (w : World) (v : Value) (l : List Tm) : Prop := (v = .slice none 0 0 ∧ l = []) ∨ ∃ ad cap, v = .slice (some ad) l.length cap ∧ l.length * 32 ≤ 140737488351232 ∧ (l = [] ∨ ∃ b o, ad = ⟨b, o, none⟩ ∧ TRow w b o l)
theorem TsO.ts {w : World} {v : Value} {l : List Tm} (h : TsO w v l) : Ts w v l := by
  rcases h with ⟨rfl, rfl⟩ | ⟨ad, cap, rfl, hl, h⟩
  · exact ⟨none, 0, rfl, by simp, Or.inl rfl⟩
  · refine ⟨some ad, cap, rfl, by omega, ?_⟩
    rcases h with h | ⟨b, o, rfl, h⟩
    · exact Or.inl h
    · exact Or.inr ⟨b, o, rfl, h⟩
theorem TsO.later {w w' : World} {v : Value} {l : List Tm} (h : TsO w v l) (hb : Below w.heap.size w w') : TsO w' v l := by
  rcases h with h | ⟨ad, cap, h1, h2, h3⟩
  · exact Or.inl h
  · refine Or.inr ⟨ad, cap, h1, h2, ?_⟩
    rcases h3 with h3 | ⟨b, o, h3, h4⟩
    · exact Or.inl h3
    · exact Or.inr ⟨b, o, h3, h4.later hb⟩
theorem tcs_mem {l : List Tm} {u : Value} (h : u ∈ tcs l) : u.oneCell' = true := by
  simp only [tcs, List.mem_flatMap] at h
  obtain ⟨d, -, hu⟩ := h
  simp [Tm.cs] at hu
  rcases hu with rfl | rfl | rfl <;> rfl
theorem trow_get {w : World} {b o : Nat} {l : List Tm} (h : TRow w b o l) : ∀ j u, (tcs l)[j]? = some u → w.cell? ((⟨b, o, none⟩ : Addr).add j) = some u := fun j u hu => by
  have hj : j < l.length * 3 := by rw [← tcs_len]; exact (List.getElem?_eq_some_iff.1 hu).1
  have hq : j / 3 < l.length := by omega
  obtain ⟨d, hd⟩ : ∃ d, l[j / 3]? = some d := ⟨_, List.getElem?_eq_getElem hq⟩
  have hg := tcs_get l (j / 3) d hd (j % 3) (by omega)
  rw [show j / 3 * 3 + j % 3 = j by omega, hu] at hg
  have hc := h.2 _ _ hd
  have ha : (⟨b, o, none⟩ : Addr).add j = ⟨b, o + j / 3 * 3 + j % 3, none⟩ := by
    rw [Go.WideShapes.add_plain]; congr 1; omega
  rw [ha]
  have h4 : j % 3 = 0 ∨ j % 3 = 1 ∨ j % 3 = 2 := by omega
  rcases h4 with e | e | e <;> rw [e] at hg ⊢ <;> simp [Tm.cs] at hg <;> subst hg
  · exact hc.1
  · exact hc.2.1
  · exact hc.2.2
/-- The first terms of a longer list. -/
theorem ownT_pre {w : World} {base g cap : Nat} {s : List Tm} {d : Tm} (h : OwnT w base (.slice (some ⟨g, 0, none⟩) (s.length + 1) cap) (s ++ [d])) (hs : s.length < 1000000000000000000) : Ts w (.slice (some ⟨g, 0, none⟩) s.length cap) s := by
  have hlt : g < w.heap.size := (h.lt g rfl).2
  refine ⟨_, cap, rfl, hs, Or.inr ⟨g, 0, rfl, hlt, fun i t ht => ?_⟩⟩
  have hi := (List.getElem?_eq_some_iff.1 ht).1
  have := ownT_cells h i t (by rw [List.getElem?_append_left hi]; exact ht)
  simpa using this
theorem ownT_cap {w : World} {base g cap n : Nat} {l : List Tm} (h : OwnT w base (.slice (some ⟨g, 0, none⟩) n cap) l) : n ≤ cap := by
  rcases h.2 with ⟨h, _⟩ | ⟨g', c, cur, hv, _, _, hn, _⟩
  · cases h
  · simp only [Value.slice.injEq] at hv; omega
end Go.Proofs.YtdfgijdededolabGreatDoor
