import Derived.Test.YtelcoihmiglceaaGreatCL12
import Derived.Test.YtelcoihmiglceaaGreatCL22
import Derived.Test.YtelcoihmiglceaaGreatCL2
import Derived.Test.YtelcoihmiglceaaGreatRows
namespace Go.Proofs.YtelcoihmiglceaaGreat
open Go.RowKit

abbrev Ck := At × List At × List Te
def Ck.terms (x : Ck) : List Tm := x.1.pl ++ (x.2.1.flatMap At.pl ++ tls x.2.2)
theorem key_terms (c : Cm) : c.terms = Ck.terms c.key := by
 rw [Cm.terms_eq, Ck.terms, Cm.key, flt, fsts, List.flatMap_map]; simp
def mapA (f : Tm -> Tm) (a : At) : At := ⟨f a.by_, a.name, a.args.map f⟩
def mapE (f : Tm -> Tm) (t : Te) : Te := ⟨t.op, f t.l, f t.r⟩
def mapC (f : Tm -> Tm) (x : Ck) : Ck := (mapA f x.1, x.2.1.map (mapA f), x.2.2.map (mapE f))
theorem mapA_pl (f : Tm -> Tm) (a : At) : (mapA f a).pl = a.pl.map f := rfl
theorem flat_mapA (f : Tm -> Tm) (l : List At) : (l.map (mapA f)).flatMap At.pl = (l.flatMap At.pl).map f := by
 rw [List.flatMap_map, List.map_flatMap]; rfl
theorem tls_mapE (f : Tm -> Tm) (l : List Te) : tls (l.map (mapE f)) = (tls l).map f := by
 unfold tls; rw [List.flatMap_map, List.map_flatMap]; rfl
theorem mapC_terms (f : Tm -> Tm) (x : Ck) : Ck.terms (mapC f x) = (Ck.terms x).map f := by
 unfold Ck.terms mapC; simp only [mapA_pl, flat_mapA, tls_mapE, List.map_append]
theorem mapA_id (a : At) : mapA (fun t => t) a = a := by cases a; simp [mapA]
theorem mapC_id (x : Ck) : mapC (fun t => t) x = x := by
 obtain ⟨h, b, t⟩ := x
 have e1 : (mapA fun t => t) = fun a => a := funext mapA_id
 have e2 : (mapE fun t => t) = fun a => a := funext fun a => by cases a; rfl
 simp [mapC, mapA_id, e1, e2]
def cut64 (s : ByteArray) : ByteArray := s.extract 0 (min s.size 64)
def mkC (t : Tm) : Tm := if t.con = true then t else if t.k = 2 then ⟨2, 0, cut64 t.s⟩ else ⟨1, t.n, ⟨#[]⟩⟩
def fixT (t : Tm) : Tm := if t.var = true then t else mkC t
def nmP : ByteArray := ⟨#[112]⟩
def mkA (a : At) : At := ⟨if qualOk a.by_ = true then a.by_ else zt, if nameOk a.name = true then a.name else nmP, (a.args.take 8).map fixT⟩
def grd (t : Tm) : Tm := if t.k = 3 then ⟨1, t.n, ⟨#[]⟩⟩ else t
def sf (l : List Tm) (t : Tm) : Tm := if t ∈ l then t else grd t
def opF (o : Int) : Int := if o < 1 ∨ 4 < o then 1 + ((o.tmod 4) + 4).tmod 4 else o
def mkE (b : List Tm) (t : Te) : Te := ⟨opF t.op, sf b (fixT t.l), sf b (fixT t.r)⟩
theorem cut64_size (s : ByteArray) : (cut64 s).size <= 64 := by
 unfold cut64; rw [ByteArray.size_extract]; omega
theorem mkC_con (t : Tm) : (mkC t).con = true := by
 unfold mkC
 by_cases h : t.con = true
 ·rw [if_pos h]; exact h
 ·rw [if_neg h]
  by_cases h2 : t.k = 2
  ·rw [if_pos h2]; simp [Tm.con, cut64_size]
  ·rw [if_neg h2]; simp [Tm.con]
theorem fixT_cov (t : Tm) : (fixT t).cov = true := by
 unfold fixT
 by_cases h : t.var = true
 ·rw [if_pos h]; simp [Tm.cov, h]
 ·rw [if_neg h]; simp [Tm.cov, mkC_con]
theorem sf_cov {b : List Tm} {t : Tm} (h : t.cov = true) : (sf b t).cov = true := by
 unfold sf
 by_cases hm : t ∈ b
 ·rw [if_pos hm]; exact h
 ·rw [if_neg hm]
  unfold grd
  by_cases h3 : t.k = 3
  ·rw [if_pos h3]; simp [Tm.cov, Tm.con]
  ·rw [if_neg h3]; exact h
theorem sf_var {b : List Tm} {t : Tm} (h : (sf b t).var = true) : sf b t ∈ b := by
 unfold sf at *
 by_cases hm : t ∈ b
 ·rw [if_pos hm]; exact hm
 ·rw [if_neg hm] at h
  unfold grd at h
  by_cases h3 : t.k = 3
  ·rw [if_pos h3] at h; simp [Tm.var] at h
  ·rw [if_neg h3] at h; simp only [Tm.var, decide_eq_true_eq] at h; exact absurd h.1 h3
theorem opF_ok (o : Int) : 1 <= opF o /\ opF o <= 4 := by
 unfold opF
 by_cases h : o < 1 ∨ 4 < o
 ·rw [if_pos h]
  have h1 := Int.tmod_lt_of_pos o (show (0 : Int) < 4 by omega)
  have h2 : -4 < o.tmod 4 := Int.lt_tmod_of_pos o (by omega)
  have h3 : ((o.tmod 4) + 4).tmod 4 = ((o.tmod 4) + 4) % 4 := Int.tmod_eq_emod_of_nonneg (by omega)
  rw [h3]; omega
 ·rw [if_neg h]; omega
theorem mkE_ok (b : List Tm) (t : Te) : (mkE b t).ok = true := by
 have := opF_ok t.op
 simp [mkE, Te.ok, this, sf_cov, fixT_cov]
theorem err_zero {a : At} (h1 : nameOk a.name = true) (h2 : a.args.length <= 8) (h3 : qualOk a.by_ = true) (h4 : ∀ t ∈ a.args, t.cov = true) : a.err = 0 := by
 unfold At.err
 rw [if_neg (by rw [h1]; simp), if_neg (by omega), if_neg (by rw [h3]; simp), if_pos (by rw [List.all_eq_true]; exact h4)]
theorem err_zero' {a : At} (h : a.err = 0) : nameOk a.name = true /\ a.args.length <= 8 /\ qualOk a.by_ = true /\ ∀ t ∈ a.args, t.cov = true := by
 unfold At.err at h
 split at h
 ·cases h
 split at h
 ·cases h
 split at h
 ·cases h
 split at h
 ·rename_i a1 a2 a3 a4
  exact ⟨by simpa using a1, by omega, by simpa using a3, by rwa [List.all_eq_true] at a4⟩
 ·cases h
theorem qual_zt : qualOk zt = true := by simp [qualOk]
theorem mkA_err (hp : nameOk nmP = true) (a : At) : (mkA a).err = 0 := by
 refine err_zero ?_ ?_ ?_ ?_
 ·unfold mkA; simp only
  split
  ·assumption
  ·exact hp
 ·simp [mkA]; omega
 ·unfold mkA; simp only
  split
  ·assumption
  ·exact qual_zt
 ·intro t ht
  simp only [mkA, List.mem_map] at ht
  obtain ⟨u, -, rfl⟩ := ht
  exact fixT_cov u
def dstepT (acc : List Tm) (x : Tm) : List Tm := if x ∈ acc then acc else acc ++ [x]
def disT (l : List Tm) : List Tm := (l.filter Tm.var).foldl dstepT []
theorem dstepT_mem {acc : List Tm} {x y : Tm} : y ∈ dstepT acc x ↔ y ∈ acc ∨ y = x := by
 unfold dstepT
 by_cases h : x ∈ acc
 ·rw [if_pos h]
  exact ⟨Or.inl, fun e => e.elim id fun e => e ▸ h⟩
 ·rw [if_neg h]; simp
theorem foldT_mem : ∀ {l acc : List Tm} {y : Tm}, y ∈ l.foldl dstepT acc ↔ y ∈ acc ∨ y ∈ l
 | [], acc, y => by simp
 | x :: l, acc, y => by rw [List.foldl_cons, foldT_mem, dstepT_mem, List.mem_cons, or_assoc]
theorem disT_mem {l : List Tm} {y : Tm} : y ∈ disT l ↔ y ∈ l /\ y.var = true := by
 unfold disT; rw [foldT_mem, List.mem_filter]; simp
theorem foldT_pre : ∀ (l acc : List Tm), acc <+: l.foldl dstepT acc
 | [], acc => List.prefix_rfl
 | x :: l, acc => by
  rw [List.foldl_cons]
  refine List.IsPrefix.trans ?_ (foldT_pre l _)
  unfold dstepT
  split
  ·exact List.prefix_rfl
  ·exact List.prefix_append _ _
def ix : List Tm -> Tm -> Nat
 | [], _ => 0
 | x :: l, t => if x = t then 0 else ix l t + 1
theorem ix_lt : ∀ {l : List Tm} {t : Tm}, t ∈ l -> ix l t < l.length
 | x :: l, t, h => by
  rw [ix]
  by_cases e : x = t
  ·rw [if_pos e]; simp
  ·rw [if_neg e]
   have := ix_lt (l := l) (t := t) (by rcases List.mem_cons.1 h with h | h; exact absurd h.symm e; exact h)
   simp only [List.length_cons]; omega
theorem ix_app : ∀ {p q : List Tm} {t : Tm}, t ∈ p -> ix (p ++ q) t = ix p t
 | x :: l, q, t, h => by
  rw [List.cons_append, ix, ix]
  by_cases e : x = t
  ·rw [if_pos e, if_pos e]
  ·rw [if_neg e, if_neg e, ix_app (by rcases List.mem_cons.1 h with h | h; exact absurd h.symm e; exact h)]
theorem ix_new : ∀ {p : List Tm} {t : Tm}, ¬ t ∈ p -> ix (p ++ [t]) t = p.length
 | [], t, _ => by simp [ix]
 | x :: l, t, h => by
  rw [List.cons_append, ix, if_neg (fun e => h (by simp [e])), ix_new (fun e => h (by simp [e]))]; rfl
theorem ix_at : ∀ {l : List Tm} {t : Tm} {j : Nat}, l[j]? = some t -> (¬ t ∈ l.take j) -> ix l t = j
 | x :: l, t, 0, h, _ => by simp at h; rw [ix, if_pos h]
 | x :: l, t, j + 1, h, hn => by
  rw [List.take_succ_cons, List.mem_cons, not_or] at hn
  rw [List.getElem?_cons_succ] at h
  rw [ix, if_neg (fun e => hn.1 e.symm), ix_at h hn.2]
def nmT (vs : List Tm) (t : Tm) : Tm := if t ∈ vs then ⟨3, (ix vs t : Nat), ⟨#[]⟩⟩ else t
def normC (x : Ck) : Ck := mapC (nmT (disT (Ck.terms x))) x
theorem idxOf_pre {p q : List Tm} {t : Tm} (h : p <+: q) (ht : t ∈ p) : ix q t = ix p t := by
 obtain ⟨r, rfl⟩ := h
 exact ix_app ht
theorem mis_idx : ∀ (l acc : List Tm), mis acc.length (l.map fun t => ((ix (l.foldl dstepT acc) t : Nat) : Int)) = false
 | [], _ => rfl
 | t :: r, acc => by
  rw [List.map_cons, List.foldl_cons]
  have hpre := foldT_pre r (dstepT acc t)
  have ih := mis_idx r (dstepT acc t)
  by_cases h : t ∈ acc
  ·have e : dstepT acc t = acc := if_pos h
   rw [e] at hpre ih ⊢
   have e2 := idxOf_pre hpre h
   have e3 := ix_lt h
   rw [mis, if_neg (by rw [e2]; omega), if_neg (by rw [e2]; omega)]
   exact ih
  ·have e : dstepT acc t = acc ++ [t] := if_neg h
   rw [e] at hpre ih ⊢
   have e2 := idxOf_pre hpre (t := t) (by simp)
   have e3 : ix (acc ++ [t]) t = acc.length := ix_new h
   rw [mis, if_neg (by rw [e2, e3]; omega), if_pos (by rw [e2, e3])]
   rw [List.length_append, List.length_singleton] at ih
   exact_mod_cast ih
theorem nmT_var (vs : List Tm) (t : Tm) (h : ∀ u ∈ vs, u.var = true) : (nmT vs t).var = t.var := by
 unfold nmT
 by_cases hm : t ∈ vs
 ·rw [if_pos hm, h t hm]; simp [Tm.var]
 ·rw [if_neg hm]
theorem norm_vars (x : Ck) : vrs (Ck.terms (normC x)) = ((Ck.terms x).filter Tm.var).map fun t => (ix (((Ck.terms x).filter Tm.var).foldl dstepT []) t : Int) := by
 unfold normC
 rw [mapC_terms, vrs, List.filter_map, List.map_map]
 have e : List.filter (Tm.var ∘ nmT (disT (Ck.terms x))) (Ck.terms x) = List.filter Tm.var (Ck.terms x) := List.filter_congr fun t ht => nmT_var _ _ (fun u hu => (disT_mem.1 hu).2)
 rw [e]
 refine List.map_congr_left fun t ht => ?_
 have hm : t ∈ disT (Ck.terms x) := disT_mem.2 (List.mem_filter.1 ht)
 simp only [Function.comp, nmT, if_pos hm]
 rfl
theorem norm_mis (x : Ck) : mis 0 (vrs (Ck.terms (normC x))) = false := by
 rw [norm_vars]; exact mis_idx _ []
structure Val0 (x : Ck) : Prop where
 e : ∀ a ∈ x.1 :: x.2.1, a.err = 0
 t : ∀ a ∈ x.2.2, a.ok = true
 bl : x.2.1.length <= 8
 tl : x.2.2.length <= 8
 h : x.1.by_.var = false
 s : ∀ t ∈ x.1.pl ++ tls x.2.2, t.var = true -> t ∈ x.2.1.flatMap At.pl
theorem chk_zero {c : Cm} (h1 : ∀ a ∈ c.key.1 :: c.key.2.1, a.err = 0) (h2 : ∀ a ∈ c.key.2.2, a.ok = true) (h3 : c.key.2.1.length <= 8) (h4 : c.key.2.2.length <= 8) (h5 : c.key.1.by_.var = false)
  (h6 : ∀ t ∈ c.key.1.pl ++ tls c.key.2.2, t.var = true -> t ∈ c.key.2.1.flatMap At.pl) (h7 : mis 0 (vrs (Ck.terms c.key)) = false) : c.chk = 0 := by
 have a1 : long c = false := by
  simp only [Cm.key, fsts, List.length_map] at h3 h4
  simp [long]; omega
 have a2 : aErr c.atoms = 0 := aErr_zero fun y hy => by
  rcases List.mem_cons.1 hy with rfl | hy
  ·exact h1 _ (by simp [Cm.key])
  ·exact h1 _ (by simp only [Cm.key, fsts, List.mem_cons, List.mem_map]; exact Or.inr ⟨y, hy, rfl⟩)
 have a3 : badT c = false := by
  unfold badT; rw [List.any_eq_false]; intro t ht; rw [h2 t ht]; simp
 have a5 : unb c = false := unb_no fun v hv => by
  have e1 : c.restC.vars = vrs c.restC.terms := rfl
  have e2 : c.bodyC.vars = vrs c.bodyC.terms := rfl
  rw [e1, restC_terms, vrs] at hv
  rw [e2, bodyC_terms, vrs]
  obtain ⟨t, ht, rfl⟩ := List.mem_map.1 hv
  obtain ⟨ht, hvt⟩ := List.mem_filter.1 ht
  have := h6 t ht hvt
  refine List.mem_map.2 ⟨t, List.mem_filter.2 ⟨List.mem_cons_of_mem _ ?_, hvt⟩, rfl⟩
  rw [flt]
  simpa [Cm.key, fsts, List.flatMap_map] using this
 have a6 : mis 0 c.vars = false := by
  have : c.vars = vrs c.terms := rfl
  rw [this, key_terms]; exact h7
 have a4 : c.head.1.by_.var = false := h5
 simp [Cm.chk, Cm.rs, chkL, a1, a2, a3, a4, a5, a6]
theorem nmT_cov {vs : List Tm} {t : Tm} (h : t.cov = true) : (nmT vs t).cov = true := by
 unfold nmT
 by_cases hm : t ∈ vs
 ·rw [if_pos hm]; simp [Tm.cov, Tm.var]
 ·rw [if_neg hm]; exact h
theorem nmT_qual {vs : List Tm} {t : Tm} (h : qualOk t = true) : qualOk (nmT vs t) = true := by
 unfold nmT
 by_cases hm : t ∈ vs
 ·rw [if_pos hm]
  have : Tm.var ⟨3, (ix vs t : Nat), ⟨#[]⟩⟩ = true := by simp [Tm.var]
  simp [qualOk, this]
 ·rw [if_neg hm]; exact h
theorem norm_val {x : Ck} (h : Val0 x) : Val0 (normC x) := by
 have hv : ∀ t ∈ Ck.terms x, (nmT (disT (Ck.terms x)) t).var = t.var := fun t ht => nmT_var _ _ (fun u hu => (disT_mem.1 hu).2)
 have he : ∀ a : At, a.err = 0 -> (mapA (nmT (disT (Ck.terms x))) a).err = 0 := fun a ha => by
  obtain ⟨h1, h2, h3, h4⟩ := err_zero' ha
  refine err_zero h1 (by simpa [mapA] using h2) (nmT_qual h3) fun t ht => ?_
  obtain ⟨u, hu, rfl⟩ := List.mem_map.1 ht
  exact nmT_cov (h4 u hu)
 refine ⟨fun a ha => ?_, fun a ha => ?_, by simpa [normC, mapC] using h.bl, by simpa [normC, mapC] using h.tl, ?_, fun t ht hvt => ?_⟩
 ·rcases List.mem_cons.1 ha with rfl | ha
  ·exact he _ (h.e _ (by simp))
  ·obtain ⟨b, hb, rfl⟩ := List.mem_map.1 ha
   exact he _ (h.e _ (by simp [hb]))
 ·obtain ⟨b, hb, rfl⟩ := List.mem_map.1 ha
  have := h.t b hb
  simp only [Te.ok, Bool.and_eq_true, mapE] at this ⊢
  exact ⟨this.1, nmT_cov this.2.1, nmT_cov this.2.2⟩
 ·exact (hv x.1.by_ (by simp [Ck.terms, At.pl])).trans h.h
 ·have e : (normC x).1.pl ++ tls (normC x).2.2 = (x.1.pl ++ tls x.2.2).map (nmT (disT (Ck.terms x))) := by
   rw [List.map_append, normC, mapC]; simp only [mapA_pl, tls_mapE]
  rw [e] at ht
  obtain ⟨u, hu, rfl⟩ := List.mem_map.1 ht
  have hut : u ∈ Ck.terms x := by
   unfold Ck.terms; rcases List.mem_append.1 hu with hu | hu <;> simp [hu]
  rw [hv u hut] at hvt
  have := h.s u hu hvt
  have e2 : (normC x).2.1.flatMap At.pl = (x.2.1.flatMap At.pl).map (nmT (disT (Ck.terms x))) := by rw [normC, mapC]; exact flat_mapA _ _
  rw [e2]
  exact List.mem_map.2 ⟨u, this, rfl⟩
def made0 (x : Ck) : Ck :=
 let b := (x.2.1.take 8).map mkA
 let h := mkA x.1
 (⟨if h.by_.k = 3 then zt else h.by_, h.name, h.args.map (sf (b.flatMap At.pl))⟩, b, (x.2.2.take 8).map (mkE (b.flatMap At.pl)))
def madeK (x : Ck) : Ck := normC (made0 x)
theorem made0_val (hp : nameOk nmP = true) (x : Ck) : Val0 (made0 x) := by
 refine ⟨fun a ha => ?_, fun a ha => ?_, by simp [made0]; omega, by simp [made0]; omega, ?_, fun t ht hv => ?_⟩
 ·rcases List.mem_cons.1 ha with rfl | ha
  ·obtain ⟨h1, h2, h3, h4⟩ := err_zero' (mkA_err hp x.1)
   refine err_zero h1 (by simpa [made0] using h2) ?_ fun t ht => ?_
   ·simp only [made0]
    split
    ·exact qual_zt
    ·exact h3
   ·obtain ⟨u, hu, rfl⟩ := List.mem_map.1 ht
    exact sf_cov (h4 u hu)
  ·obtain ⟨b, hb, rfl⟩ := List.mem_map.1 ha
   exact mkA_err hp b
 ·obtain ⟨b, hb, rfl⟩ := List.mem_map.1 ha
  exact mkE_ok _ _
 ·simp only [made0]
  split
  ·simp [Tm.var, zt]
  ·rename_i h; simp [Tm.var, h]
 ·rcases List.mem_append.1 ht with ht | ht
  ·rcases List.mem_cons.1 ht with rfl | ht
   ·exfalso
    simp only [made0] at hv
    split at hv
    ·simp [Tm.var, zt] at hv
    ·rename_i h; simp [Tm.var, h] at hv
   ·obtain ⟨u, hu, rfl⟩ := List.mem_map.1 ht
    exact sf_var hv
  ·obtain ⟨e, he, ht⟩ := List.mem_flatMap.1 ht
   obtain ⟨b, hb, rfl⟩ := List.mem_map.1 he
   simp only [mkE, List.mem_cons, List.not_mem_nil, or_false] at ht
   rcases ht with rfl | rfl <;> exact sf_var hv
theorem made_val (hp : nameOk nmP = true) (x : Ck) : Val0 (madeK x) := norm_val (made0_val hp x)
theorem made_chk (hp : nameOk nmP = true) {c : Cm} {x : Ck} (h : c.key = madeK x) : c.chk = 0 := by
 have hv := made_val hp x
 rw [<- h] at hv
 exact chk_zero hv.e hv.t hv.bl hv.tl hv.h hv.s (by rw [h]; exact norm_mis _)
end Go.Proofs.YtelcoihmiglceaaGreat
namespace Go.Proofs.YtelcoihmiglceaaGreat
open Go.ChangeShapes Go.WideShapes Go.ChangeAt Go.RowKit Go.Joins Go.Deep

def WfT (t : Tm) : Prop := (Lit.int .i64 t.n).wf = true
theorem bulkN_pos {H : Type} (d : DataW H) : 1 <= Rows.uptoBulk d := by
 cases d with
 | lit l => cases l <;> simp [Rows.uptoBulk]
 | _ => simp [Rows.uptoBulk]
theorem bulkN_len {H : Type} (l : List (DataW H)) : l.length <= Rows.uptoBulkAll l := by
 induction l with
 | nil => simp
 | cons d r ih => have := bulkN_pos d; simp only [Rows.uptoBulkAll, List.length_cons]; omega
theorem bulkN_slice {H : Type} (l r : List (DataW H)) : l.length <= Rows.uptoBulk (.slice l r) := by
 have := bulkN_len l; simp only [Rows.uptoBulk]; omega
theorem bulkN_sum {H α : Type} (g : Nat -> List α) (D : Nat -> DataW H) : ∀ l : List Nat, (∀ i ∈ l, (g i).length <= Rows.uptoBulk (D i)) -> (l.flatMap g).length <= Rows.uptoBulkAll (l.map D)
 | [], _ => by simp
 | i :: l, h => by
  have h1 := h i (by simp)
  have h2 := bulkN_sum g D l fun j hj => h j (by simp [hj])
  rw [List.flatMap_cons, List.length_append, List.map_cons]
  simp only [Rows.uptoBulkAll]
  omega
set_option maxRecDepth 100000 in
theorem term_of_cellsB {H : Type} {enc : TypeId × Value -> H} {W : World} {base : Nat} {spare : Nat -> Bool} {held : Bool} {fuel : Nat} {cs : List Value} {x : DataW H × List MemPlace}
  (h : DataW.trod enc Tryz.prog W base spare held fuel 23 cs = some x) (hl : cs.length = 3) : ∃ t : Tm, cs = [.int .i64 t.k, .int .i64 t.n, .string t.s] /\ WfT t := by
 obtain ⟨c0, c1, c2, rfl⟩ := list3 hl
 obtain ⟨y0, y1, y2, n, -, -, h0, h1, h2⟩ := trod_struct3 Tryz.underlying23 h
 rw [Tryz.cellsInt] at h0 h1
 rw [Tryz.cellsString] at h2
 obtain ⟨k, e0, -, -⟩ := DataW.trod_int Tryz.underlying3 h0
 obtain ⟨m, e1, -, hwf⟩ := DataW.trod_int Tryz.underlying3 h1
 obtain ⟨s, e2, -, -⟩ := DataW.trod_string Tryz.underlying9 h2
 simp at e0 e1 e2
 subst e0 e1 e2
 exact ⟨⟨k, m, s⟩, rfl, hwf⟩
set_option maxRecDepth 100000 in
theorem open_termsB {H : Type} {enc : TypeId × Value -> H} {W : World} {base : Nat} {spare : Nat -> Bool} {held : Bool} {fuel : Nat} {cs : List Value} {x : DataW H × List MemPlace}
  (h : DataW.trod enc Tryz.prog W base spare held fuel 24 cs = some x) (hw : ∀ n ∈ x.1.weights Tryz.prog 24, n <= reachBytes) : ∃ v l, cs = [v] /\ Ts W v l /\ l.length <= Rows.uptoBulk x.1 /\ ∀ t ∈ l, WfT t := by
 rcases open_slice Tryz.underlying24 h with ⟨rfl, -⟩ | ⟨a, len, cap, m, n, D, Pl, rfl, hba, hlc, hcm, hm, hx, hel⟩
 ·exact ⟨_, [], rfl, ⟨none, 0, rfl, by simp, Or.inl rfl⟩, by simp, fun t ht => by cases ht⟩
 ·have hlen : len < 1000000000000000000 := by
   have := hw ((((List.range len).map D).length + ((List.range (m - len)).map fun j => D (len + j)).length) * Tryz.prog.bytesOf 23) (by rw [hx]; simp [DataW.weights, Tryz.underlying24])
   rw [Tryz.bytesTerm] at this
   simp only [List.length_map, List.length_range, reachBytes] at this
   omega
  rw [Tryz.cellsTerm] at hel
  have hlm : len <= m := by rw [hm]; split <;> omega
  have key : ∀ i : Nat, ∃ t : Tm, i < len -> WfT t /\ W.cell? (a.add (i * 3)) = some (.int .i64 t.k) /\ W.cell? ((a.add (i * 3)).add 1) = some (.int .i64 t.n) /\ W.cell? ((a.add (i * 3)).add 2) = some (.string t.s) := fun i => by
   by_cases hi : i < len
   ·obtain ⟨cs', h1, h2⟩ := hel i (by omega)
    obtain ⟨-, hl, hc⟩ := World.cells?_some h1
    obtain ⟨t, rfl, hwf⟩ := term_of_cellsB h2 hl
    exact ⟨t, fun _ => ⟨hwf, hc 0 (by omega), hc 1 (by omega), hc 2 (by omega)⟩⟩
   ·exact ⟨zt, fun h => absurd h hi⟩
  obtain ⟨f, hf⟩ := Classical.axiomOfChoice key
  refine ⟨_, (List.range len).map f, rfl, ⟨some a, cap, by simp, by simpa using hlen, ?_⟩, by rw [hx]; simpa using bulkN_slice ((List.range len).map D) _, fun t ht => by obtain ⟨i, hi, rfl⟩ := List.mem_map.1 ht; exact (hf i (List.mem_range.1 hi)).1⟩
  rcases Nat.eq_zero_or_pos len with h0 | h0
  ·left; subst h0; rfl
  ·right
   obtain ⟨b, off, spot⟩ := a
   have hspot : spot = none := by simpa [Addr.add] using World.cell?_spot (hf 0 h0).2.1
   subst hspot
   refine ⟨b, off, rfl, ?_, fun i t ht => ?_⟩
   ·exact World.block_lt_of_cell? W _ (by have := (hf 0 h0).2.1; simpa [Addr.add] using this)
   ·have hi : i < len := by have := (List.getElem?_eq_some_iff.1 ht).1; simpa using this
    have e : t = f i := by
     rw [List.getElem?_map, List.getElem?_range hi] at ht; simpa using ht.symm
    subst e
    have := (hf i hi).2
    rw [add_plain, add_plain, add_plain] at this
    exact this
set_option maxRecDepth 100000 in
theorem atom_of_cellsB {H : Type} {enc : TypeId × Value -> H} {W : World} {base : Nat} {spare : Nat -> Bool} {held : Bool} {fuel : Nat} {cs : List Value} {x : DataW H × List MemPlace}
  (hf : DataW.trod enc Tryz.prog W base spare held fuel 26 cs = some x) (hl : cs.length = 5) (hw : ∀ n ∈ x.1.weights Tryz.prog 26, n <= reachBytes) : ∃ a : At × Value, cs = [.int .i64 a.1.by_.k, .int .i64 a.1.by_.n, .string a.1.by_.s, .string a.1.name, a.2] /\ Ts W a.2 a.1.args /\ a.1.pl.length <= Rows.uptoBulk x.1 /\ ∀ t ∈ a.1.pl, WfT t := by
 obtain ⟨c0, c1, c2, c3, c4, rfl⟩ := list5 hl
 obtain ⟨y0, y1, y2, n, hd, -, h0, h1, h2⟩ := trod_struct3 Tryz.underlying26 hf
 rw [Tryz.cellsTerm] at h0
 rw [Tryz.cellsString] at h1
 rw [Tryz.cellsTerms] at h2
 obtain ⟨t, e0, ht⟩ := term_of_cellsB h0 (by simp)
 obtain ⟨s, e1, -, hs⟩ := DataW.trod_string Tryz.underlying9 h1
 obtain ⟨v, l, e2, hx, hbk, hwl⟩ := open_termsB h2 (fun m hm => by
  refine hw m ?_
  rw [hd, DataW.weights, Tryz.underlying26]
  exact DataW.weights_mem_each (j := 2) rfl rfl m hm)
 simp at e0 e1 e2
 obtain ⟨rfl, rfl, rfl⟩ := e0
 subst e1 e2
 refine ⟨(⟨t, s, l⟩, c4), rfl, hx, ?_, fun u hu => ?_⟩
 ·rw [hd]
  have := bulkN_pos y0.1
  simp only [Rows.uptoBulk, Rows.uptoBulkAll, At.pl, List.length_cons]
  omega
 ·rcases List.mem_cons.1 hu with rfl | hu
  ·exact ht
  ·exact hwl u hu
set_option maxRecDepth 100000 in
theorem test_of_cellsB {H : Type} {enc : TypeId × Value -> H} {W : World} {base : Nat} {spare : Nat -> Bool} {held : Bool} {fuel : Nat} {cs : List Value} {x : DataW H × List MemPlace}
  (hf : DataW.trod enc Tryz.prog W base spare held fuel 70 cs = some x) (hl : cs.length = 7) : ∃ t : Te, cs = [.int .i64 t.op, .int .i64 t.l.k, .int .i64 t.l.n, .string t.l.s, .int .i64 t.r.k, .int .i64 t.r.n, .string t.r.s] /\ 2 <= Rows.uptoBulk x.1 /\ WfT t.l /\ WfT t.r := by
 obtain ⟨c0, c1, c2, c3, c4, c5, c6, rfl⟩ := clist7 hl
 obtain ⟨y0, y1, y2, n, hd, -, h0, h1, h2⟩ := trod_struct3 Tryz.underlying70 hf
 rw [Tryz.cellsInt] at h0
 rw [Tryz.cellsTerm] at h1 h2
 obtain ⟨k, e0, -, -⟩ := DataW.trod_int Tryz.underlying3 h0
 obtain ⟨t, e1, w1⟩ := term_of_cellsB h1 (by simp)
 obtain ⟨u, e2, w2⟩ := term_of_cellsB h2 (by simp)
 simp at e0 e1 e2
 subst e0
 obtain ⟨rfl, rfl, rfl⟩ := e1
 obtain ⟨rfl, rfl, rfl⟩ := e2
 refine ⟨⟨k, t, u⟩, rfl, ?_, w1, w2⟩
 rw [hd]
 have := bulkN_pos y1.1
 have := bulkN_pos y2.1
 simp only [Rows.uptoBulk, Rows.uptoBulkAll]
 omega
set_option maxRecDepth 100000 in
theorem open_atomsB {H : Type} {enc : TypeId × Value -> H} {W : World} {base : Nat} {spare : Nat -> Bool} {held : Bool} {fuel : Nat} {cs : List Value} {x : DataW H × List MemPlace}
  (h : DataW.trod enc Tryz.prog W base spare held fuel 27 cs = some x) (hw : ∀ n ∈ x.1.weights Tryz.prog 27, n <= reachBytes) : ∃ v l, cs = [v] /\ As W v l /\ ((fsts l).flatMap At.pl).length <= Rows.uptoBulk x.1 /\ ∀ t ∈ (fsts l).flatMap At.pl, WfT t := by
 rcases open_slice Tryz.underlying27 h with ⟨rfl, -⟩ | ⟨a, len, cap, m, n, D, Pl, rfl, hba, hlc, hcm, hm, hx, hel⟩
 ·exact ⟨_, [], rfl, ⟨none, 0, rfl, by simp, Or.inl rfl, fun x hx => by cases hx⟩, by simp [fsts], fun t ht => by simp [fsts] at ht⟩
 ·have hlen : len < 1000000000000000000 := by
   have := hw ((((List.range len).map D).length + ((List.range (m - len)).map fun j => D (len + j)).length) * Tryz.prog.bytesOf 26) (by rw [hx]; simp [DataW.weights, Tryz.underlying27])
   rw [Tryz.bytesAtom] at this
   simp only [List.length_map, List.length_range, reachBytes] at this
   omega
  rw [Tryz.cellsAtom] at hel
  have hlm : len <= m := by rw [hm]; split <;> omega
  have key : ∀ i : Nat, ∃ t : At × Value, i < len -> (W.cell? (a.add (i * 5)) = some (.int .i64 t.1.by_.k) /\ W.cell? ((a.add (i * 5)).add 1) = some (.int .i64 t.1.by_.n) /\ W.cell? ((a.add (i * 5)).add 2) = some (.string t.1.by_.s) /\ W.cell? ((a.add (i * 5)).add 3) = some (.string t.1.name) /\ W.cell? ((a.add (i * 5)).add 4) = some t.2) /\ Ts W t.2 t.1.args /\ t.1.pl.length <= Rows.uptoBulk (D i) /\ ∀ u ∈ t.1.pl, WfT u := fun i => by
   by_cases hi : i < len
   ·obtain ⟨cs', h1, h2⟩ := hel i (by omega)
    obtain ⟨-, hl, hc⟩ := World.cells?_some h1
    obtain ⟨t, rfl, hts, hbk, hwf⟩ := atom_of_cellsB h2 hl (fun n hn => hw n (by
     rw [hx, DataW.weights, Tryz.underlying27]
     exact List.mem_cons_of_mem _ (List.mem_append.2 (Or.inl (weights_mem_all hn (List.mem_map.2 ⟨i, List.mem_range.2 hi, rfl⟩))))))
    exact ⟨t, fun _ => ⟨⟨hc 0 (by omega), hc 1 (by omega), hc 2 (by omega), hc 3 (by omega), hc 4 (by omega)⟩, hts, hbk, hwf⟩⟩
   ·exact ⟨(⟨zt, ⟨#[]⟩, []⟩, .slice none 0 0), fun h => absurd h hi⟩
  obtain ⟨f, hf⟩ := Classical.axiomOfChoice key
  have efl : (fsts ((List.range len).map f)).flatMap At.pl = (List.range len).flatMap fun i => (f i).1.pl := by simp [fsts, List.flatMap_map]
  refine ⟨_, (List.range len).map f, rfl, ⟨some a, cap, by simp, by simpa using hlen, ?_, fun x hx => ?_⟩, ?_, fun t ht => ?_⟩
  rotate_left 2
  ·rw [hx, efl]
   have := bulkN_sum (fun i => (f i).1.pl) D (List.range len) fun i hi => (hf i (List.mem_range.1 hi)).2.2.1
   simp only [Rows.uptoBulk]
   omega
  ·rw [efl] at ht
   obtain ⟨i, hi, ht⟩ := List.mem_flatMap.1 ht
   exact (hf i (List.mem_range.1 hi)).2.2.2 t ht
  ·rcases Nat.eq_zero_or_pos len with h0 | h0
   ·left; subst h0; rfl
   ·right
    obtain ⟨b, off, spot⟩ := a
    have hspot : spot = none := by simpa [Addr.add] using World.cell?_spot (hf 0 h0).1.1
    subst hspot
    refine ⟨b, off, rfl, ?_, fun i t ht => ?_⟩
    ·exact World.block_lt_of_cell? W _ (by have := (hf 0 h0).1.1; simpa [Addr.add] using this)
    ·have hi : i < len := by have := (List.getElem?_eq_some_iff.1 ht).1; simpa using this
     have e : t = f i := by
      rw [List.getElem?_map, List.getElem?_range hi] at ht; simpa using ht.symm
     subst e
     have := (hf i hi).1
     rw [add_plain, add_plain, add_plain, add_plain, add_plain] at this
     exact this
  ·obtain ⟨i, hi, rfl⟩ := List.mem_map.1 hx
   exact (hf i (List.mem_range.1 hi)).2.1
set_option maxRecDepth 100000 in
theorem open_testsB {H : Type} {enc : TypeId × Value -> H} {W : World} {base : Nat} {spare : Nat -> Bool} {held : Bool} {fuel : Nat} {cs : List Value} {x : DataW H × List MemPlace}
  (h : DataW.trod enc Tryz.prog W base spare held fuel 28 cs = some x) (hw : ∀ n ∈ x.1.weights Tryz.prog 28, n <= reachBytes) : ∃ v l, cs = [v] /\ Es W v l /\ (tls l).length <= Rows.uptoBulk x.1 /\ ∀ t ∈ tls l, WfT t := by
 rcases open_slice Tryz.underlying28 h with ⟨rfl, -⟩ | ⟨a, len, cap, m, n, D, Pl, rfl, hba, hlc, hcm, hm, hx, hel⟩
 ·exact ⟨_, [], rfl, ⟨none, 0, rfl, by simp, Or.inl rfl⟩, by simp [tls], fun t ht => by simp [tls] at ht⟩
 ·have hlen : len < 1000000000000000000 := by
   have := hw ((((List.range len).map D).length + ((List.range (m - len)).map fun j => D (len + j)).length) * Tryz.prog.bytesOf 70) (by rw [hx]; simp [DataW.weights, Tryz.underlying28])
   rw [Tryz.bytesTest] at this
   simp only [List.length_map, List.length_range, reachBytes] at this
   omega
  rw [Tryz.cellsTest3] at hel
  have hlm : len <= m := by rw [hm]; split <;> omega
  have key : ∀ i : Nat, ∃ t : Te, i < len -> (2 <= Rows.uptoBulk (D i) /\ WfT t.l /\ WfT t.r) /\ W.cell? (a.add (i * 7)) = some (.int .i64 t.op) /\ W.cell? ((a.add (i * 7)).add 1) = some (.int .i64 t.l.k) /\ W.cell? ((a.add (i * 7)).add 2) = some (.int .i64 t.l.n) /\ W.cell? ((a.add (i * 7)).add 3) = some (.string t.l.s) /\ W.cell? ((a.add (i * 7)).add 4) = some (.int .i64 t.r.k) /\ W.cell? ((a.add (i * 7)).add 5) = some (.int .i64 t.r.n) /\ W.cell? ((a.add (i * 7)).add 6) = some (.string t.r.s) := fun i => by
   by_cases hi : i < len
   ·obtain ⟨cs', h1, h2⟩ := hel i (by omega)
    obtain ⟨-, hl, hc⟩ := World.cells?_some h1
    obtain ⟨t, rfl, hbk⟩ := test_of_cellsB h2 hl
    exact ⟨t, fun _ => ⟨hbk, hc 0 (by omega), hc 1 (by omega), hc 2 (by omega), hc 3 (by omega), hc 4 (by omega), hc 5 (by omega), hc 6 (by omega)⟩⟩
   ·exact ⟨⟨0, zt, zt⟩, fun h => absurd h hi⟩
  obtain ⟨f, hf⟩ := Classical.axiomOfChoice key
  have efl : tls ((List.range len).map f) = (List.range len).flatMap fun i => [(f i).l, (f i).r] := by simp [tls, List.flatMap_map]
  refine ⟨_, (List.range len).map f, rfl, ⟨some a, cap, by simp, by simpa using hlen, ?_⟩, ?_, fun t ht => ?_⟩
  rotate_left 1
  ·rw [hx, efl]
   have := bulkN_sum (fun i => [(f i).l, (f i).r]) D (List.range len) fun i hi => (hf i (List.mem_range.1 hi)).1.1
   simp only [Rows.uptoBulk]
   omega
  ·rw [efl] at ht
   obtain ⟨i, hi, ht⟩ := List.mem_flatMap.1 ht
   simp only [List.mem_cons, List.not_mem_nil, or_false] at ht
   rcases ht with rfl | rfl
   ·exact (hf i (List.mem_range.1 hi)).1.2.1
   ·exact (hf i (List.mem_range.1 hi)).1.2.2
  rcases Nat.eq_zero_or_pos len with h0 | h0
  ·left; subst h0; rfl
  ·right
   obtain ⟨b, off, spot⟩ := a
   have hspot : spot = none := by simpa [Addr.add] using World.cell?_spot (hf 0 h0).2.1
   subst hspot
   refine ⟨b, off, rfl, ?_, fun i t ht => ?_⟩
   ·exact World.block_lt_of_cell? W _ (by have := (hf 0 h0).2.1; simpa [Addr.add] using this)
   ·have hi : i < len := by have := (List.getElem?_eq_some_iff.1 ht).1; simpa using this
    have e : t = f i := by
     rw [List.getElem?_map, List.getElem?_range hi] at ht; simpa using ht.symm
    subst e
    have := (hf i hi).2
    rw [add_plain, add_plain, add_plain, add_plain, add_plain, add_plain, add_plain] at this
    exact this
end Go.Proofs.YtelcoihmiglceaaGreat
