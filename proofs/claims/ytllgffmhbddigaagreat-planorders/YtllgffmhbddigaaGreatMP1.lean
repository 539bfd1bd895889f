import Derived.Test.YtllgffmhbddigaaGreatCL1
import Derived.Test.YtllgffmhbddigaaGreatB7
import Derived.Deep.RegionHeld3
import Derived.BigQuiet
import Derived.Test.YtllgffmhbddigaaGreatRA14
import Derived.Test.YtllgffmhbddigaaGreatCL12
/-
  Compare of tests and of lists. (Written by CL13.py.)
-/
namespace Go.Proofs.YtllgffmhbddigaaGreat
open Go.RowKit

theorem two_boxes {w w1 : World} {c d : Array Value} {t u : TypeId} (hb : Below ((w.alloc (.cells c t)).alloc (.cells d u)).heap.size ((w.alloc (.cells c t)).alloc (.cells d u)) w1) : CBlk w1 w.heap.size c t ∧ CBlk w1 (w.heap.size + 1) d u := by
  have h1 := ((CBlk.new w c t).later (below1 _ (.cells d u))).later hb
  have h2 := (CBlk.new (w.alloc (.cells c t)) d u).later hb
  rw [show (w.alloc (.cells c t)).heap.size = w.heap.size + 1 by simp] at h2
  exact ⟨h1, h2⟩
end Go.Proofs.YtllgffmhbddigaaGreat
/-
  terms, same of the laws.
-/
namespace Go.Proofs.YtllgffmhbddigaaGreat
open Go.RowKit
attribute [local go_sem ↓] Go.wp_at_zero Go.wp_at_succ

instance : DecidableEq At := fun a b => decidable_of_iff (a.by_ = b.by_ ∧ a.name = b.name ∧ a.args = b.args) (by cases a; cases b; simp)
end Go.Proofs.YtllgffmhbddigaaGreat
/-
  The same, of the laws: terms, atoms, tests, clauses. (Written by CL14.py.)
-/
namespace Go.Proofs.YtllgffmhbddigaaGreat
open Go.RowKit
attribute [local go_sem ↓] Go.wp_at_zero Go.wp_at_succ

def fsts (l : List (At × Value)) : List At := l.map (·.1)
end Go.Proofs.YtllgffmhbddigaaGreat
/-
  Clauses in their order, as plain mathematics. (Written by CL22.py.)
-/
namespace Go.Proofs.YtllgffmhbddigaaGreat

/-- What a clause is, wherever it lies. -/
def Cm.key (c : Cm) : At × List At × List Te := (c.head.1, fsts c.body, c.tests)
end Go.Proofs.YtllgffmhbddigaaGreat
/-
  Clauses as plain data: what Made makes; numbering. (Plain.)
-/
namespace Go.Proofs.YtllgffmhbddigaaGreat
open Go.RowKit

/-- A clause as plain data. -/
abbrev Ck := At × List At × List Te
def Ck.terms (x : Ck) : List Tm := x.1.pl ++ (x.2.1.flatMap At.pl ++ tls x.2.2)
theorem key_terms (c : Cm) : c.terms = Ck.terms c.key := by
  rw [Cm.terms_eq, Ck.terms, Cm.key, flt, fsts, List.flatMap_map]; simp
def mapA (f : Tm → Tm) (a : At) : At := ⟨f a.by_, a.name, a.args.map f⟩
def mapE (f : Tm → Tm) (t : Te) : Te := ⟨t.op, f t.l, f t.r⟩
def mapC (f : Tm → Tm) (x : Ck) : Ck := (mapA f x.1, x.2.1.map (mapA f), x.2.2.map (mapE f))
theorem mapA_pl (f : Tm → Tm) (a : At) : (mapA f a).pl = a.pl.map f := rfl
theorem flat_mapA (f : Tm → Tm) (l : List At) : (l.map (mapA f)).flatMap At.pl = (l.flatMap At.pl).map f := by
  rw [List.flatMap_map, List.map_flatMap]; rfl
theorem tls_mapE (f : Tm → Tm) (l : List Te) : tls (l.map (mapE f)) = (tls l).map f := by
  unfold tls; rw [List.flatMap_map, List.map_flatMap]; rfl
theorem mapC_terms (f : Tm → Tm) (x : Ck) : Ck.terms (mapC f x) = (Ck.terms x).map f := by
  unfold Ck.terms mapC; simp only [mapA_pl, flat_mapA, tls_mapE, List.map_append]
/-- A constant, an atom, a test out of any. -/
def cut64 (s : ByteArray) : ByteArray := s.extract 0 (min s.size 64)
def mkC (t : Tm) : Tm := if t.con = true then t else if t.k = 2 then ⟨2, 0, cut64 t.s⟩ else ⟨1, t.n, ⟨#[]⟩⟩
def fixT (t : Tm) : Tm := if t.var = true then t else mkC t
def nmP : ByteArray := ⟨#[112]⟩
def mkA (a : At) : At := ⟨if qualOk a.by_ = true then a.by_ else zt, if nameOk a.name = true then a.name else nmP, (a.args.take 8).map fixT⟩
def grd (t : Tm) : Tm := if t.k = 3 then ⟨1, t.n, ⟨#[]⟩⟩ else t
def sf (l : List Tm) (t : Tm) : Tm := if t ∈ l then t else grd t
def opF (o : Int) : Int := if o < 1 ∨ 4 < o then 1 + ((o.tmod 4) + 4).tmod 4 else o
def mkE (b : List Tm) (t : Te) : Te := ⟨opF t.op, sf b (fixT t.l), sf b (fixT t.r)⟩
theorem cut64_size (s : ByteArray) : (cut64 s).size ≤ 64 := by
  unfold cut64; rw [ByteArray.size_extract]; omega
theorem mkC_con (t : Tm) : (mkC t).con = true := by
  unfold mkC
  by_cases h : t.con = true
  · rw [if_pos h]; exact h
  · rw [if_neg h]
    by_cases h2 : t.k = 2
    · rw [if_pos h2]; simp [Tm.con, cut64_size]
    · rw [if_neg h2]; simp [Tm.con]
theorem fixT_cov (t : Tm) : (fixT t).cov = true := by
  unfold fixT
  by_cases h : t.var = true
  · rw [if_pos h]; simp [Tm.cov, h]
  · rw [if_neg h]; simp [Tm.cov, mkC_con]
theorem sf_cov {b : List Tm} {t : Tm} (h : t.cov = true) : (sf b t).cov = true := by
  unfold sf
  by_cases hm : t ∈ b
  · rw [if_pos hm]; exact h
  · rw [if_neg hm]
    unfold grd
    by_cases h3 : t.k = 3
    · rw [if_pos h3]; simp [Tm.cov, Tm.con]
    · rw [if_neg h3]; exact h
theorem sf_var {b : List Tm} {t : Tm} (h : (sf b t).var = true) : sf b t ∈ b := by
  unfold sf at *
  by_cases hm : t ∈ b
  · rw [if_pos hm]; exact hm
  · rw [if_neg hm] at h
    unfold grd at h
    by_cases h3 : t.k = 3
    · rw [if_pos h3] at h; simp [Tm.var] at h
    · rw [if_neg h3] at h; simp only [Tm.var, decide_eq_true_eq] at h; exact absurd h.1 h3
theorem opF_ok (o : Int) : 1 ≤ opF o ∧ opF o ≤ 4 := by
  unfold opF
  by_cases h : o < 1 ∨ 4 < o
  · rw [if_pos h]
    have h1 := Int.tmod_lt_of_pos o (show (0 : Int) < 4 by omega)
    have h2 : -4 < o.tmod 4 := Int.lt_tmod_of_pos o (by omega)
    have h3 : ((o.tmod 4) + 4).tmod 4 = ((o.tmod 4) + 4) % 4 := Int.tmod_eq_emod_of_nonneg (by omega)
    rw [h3]; omega
  · rw [if_neg h]; omega
theorem mkE_ok (b : List Tm) (t : Te) : (mkE b t).ok = true := by
  have := opF_ok t.op
  simp [mkE, Te.ok, this, sf_cov, fixT_cov]
theorem err_zero {a : At} (h1 : nameOk a.name = true) (h2 : a.args.length ≤ 8) (h3 : qualOk a.by_ = true) (h4 : ∀ t ∈ a.args, t.cov = true) : a.err = 0 := by
  unfold At.err
  rw [if_neg (by rw [h1]; simp), if_neg (by omega), if_neg (by rw [h3]; simp), if_pos (by rw [List.all_eq_true]; exact h4)]
theorem err_zero' {a : At} (h : a.err = 0) : nameOk a.name = true ∧ a.args.length ≤ 8 ∧ qualOk a.by_ = true ∧ ∀ t ∈ a.args, t.cov = true := by
  unfold At.err at h
  split at h
  · cases h
  split at h
  · cases h
  split at h
  · cases h
  split at h
  · rename_i a1 a2 a3 a4
    exact ⟨by simpa using a1, by omega, by simpa using a3, by rwa [List.all_eq_true] at a4⟩
  · cases h
theorem qual_zt : qualOk zt = true := by simp [qualOk]
theorem mkA_err (hp : nameOk nmP = true) (a : At) : (mkA a).err = 0 := by
  refine err_zero ?_ ?_ ?_ ?_
  · unfold mkA; simp only
    split
    · assumption
    · exact hp
  · simp [mkA]; omega
  · unfold mkA; simp only
    split
    · assumption
    · exact qual_zt
  · intro t ht
    simp only [mkA, List.mem_map] at ht
    obtain ⟨u, -, rfl⟩ := ht
    exact fixT_cov u
/-- Terms, none twice. -/
def dstepT (acc : List Tm) (x : Tm) : List Tm := if x ∈ acc then acc else acc ++ [x]
def disT (l : List Tm) : List Tm := (l.filter Tm.var).foldl dstepT []
theorem dstepT_mem {acc : List Tm} {x y : Tm} : y ∈ dstepT acc x ↔ y ∈ acc ∨ y = x := by
  unfold dstepT
  by_cases h : x ∈ acc
  · rw [if_pos h]
    exact ⟨Or.inl, fun e => e.elim id fun e => e ▸ h⟩
  · rw [if_neg h]; simp
theorem foldT_mem : ∀ {l acc : List Tm} {y : Tm}, y ∈ l.foldl dstepT acc ↔ y ∈ acc ∨ y ∈ l
  | [], acc, y => by simp
  | x :: l, acc, y => by rw [List.foldl_cons, foldT_mem, dstepT_mem, List.mem_cons, or_assoc]
theorem disT_mem {l : List Tm} {y : Tm} : y ∈ disT l ↔ y ∈ l ∧ y.var = true := by
  unfold disT; rw [foldT_mem, List.mem_filter]; simp
theorem foldT_pre : ∀ (l acc : List Tm), acc <+: l.foldl dstepT acc
  | [], acc => List.prefix_rfl
  | x :: l, acc => by
    rw [List.foldl_cons]
    refine List.IsPrefix.trans ?_ (foldT_pre l _)
    unfold dstepT
    split
    · exact List.prefix_rfl
    · exact List.prefix_append _ _
/-- Where a term first stands. -/
def ix : List Tm → Tm → Nat
  | [], _ => 0
  | x :: l, t => if x = t then 0 else ix l t + 1
theorem ix_lt : ∀ {l : List Tm} {t : Tm}, t ∈ l → ix l t < l.length
  | x :: l, t, h => by
    rw [ix]
    by_cases e : x = t
    · rw [if_pos e]; simp
    · rw [if_neg e]
      have := ix_lt (l := l) (t := t) (by rcases List.mem_cons.1 h with h | h; exact absurd h.symm e; exact h)
      simp only [List.length_cons]; omega
theorem ix_app : ∀ {p q : List Tm} {t : Tm}, t ∈ p → ix (p ++ q) t = ix p t
  | x :: l, q, t, h => by
    rw [List.cons_append, ix, ix]
    by_cases e : x = t
    · rw [if_pos e, if_pos e]
    · rw [if_neg e, if_neg e, ix_app (by rcases List.mem_cons.1 h with h | h; exact absurd h.symm e; exact h)]
theorem ix_new : ∀ {p : List Tm} {t : Tm}, ¬ t ∈ p → ix (p ++ [t]) t = p.length
  | [], t, _ => by simp [ix]
  | x :: l, t, h => by
    rw [List.cons_append, ix, if_neg (fun e => h (by simp [e])), ix_new (fun e => h (by simp [e]))]; rfl
theorem ix_at : ∀ {l : List Tm} {t : Tm} {j : Nat}, l[j]? = some t → (¬ t ∈ l.take j) → ix l t = j
  | x :: l, t, 0, h, _ => by simp at h; rw [ix, if_pos h]
  | x :: l, t, j + 1, h, hn => by
    rw [List.take_succ_cons, List.mem_cons, not_or] at hn
    rw [List.getElem?_cons_succ] at h
    rw [ix, if_neg (fun e => hn.1 e.symm), ix_at h hn.2]
def nmT (vs : List Tm) (t : Tm) : Tm := if t ∈ vs then ⟨3, (ix vs t : Nat), ⟨#[]⟩⟩ else t
def normC (x : Ck) : Ck := mapC (nmT (disT (Ck.terms x))) x
theorem idxOf_pre {p q : List Tm} {t : Tm} (h : p <+: q) (ht : t ∈ p) : ix q t = ix p t := by
  obtain ⟨r, rfl⟩ := h
  exact ix_app ht
theorem mis_idx : ∀ (l acc : List Tm), mis acc.length (l.map fun t => ((ix (l.foldl dstepT acc) t : Nat) : Int)) = false
  | [], _ => rfl
  | t :: r, acc => by
    rw [List.map_cons, List.foldl_cons]
    have hpre := foldT_pre r (dstepT acc t)
    have ih := mis_idx r (dstepT acc t)
    by_cases h : t ∈ acc
    · have e : dstepT acc t = acc := if_pos h
      rw [e] at hpre ih ⊢
      have e2 := idxOf_pre hpre h
      have e3 := ix_lt h
      rw [mis, if_neg (by rw [e2]; omega), if_neg (by rw [e2]; omega)]
      exact ih
    · have e : dstepT acc t = acc ++ [t] := if_neg h
      rw [e] at hpre ih ⊢
      have e2 := idxOf_pre hpre (t := t) (by simp)
      have e3 : ix (acc ++ [t]) t = acc.length := ix_new h
      rw [mis, if_neg (by rw [e2, e3]; omega), if_pos (by rw [e2, e3])]
      rw [List.length_append, List.length_singleton] at ih
      exact_mod_cast ih
theorem nmT_var (vs : List Tm) (t : Tm) (h : ∀ u ∈ vs, u.var = true) : (nmT vs t).var = t.var := by
  unfold nmT
  by_cases hm : t ∈ vs
  · rw [if_pos hm, h t hm]; simp [Tm.var]
  · rw [if_neg hm]
theorem norm_vars (x : Ck) : vrs (Ck.terms (normC x)) = ((Ck.terms x).filter Tm.var).map fun t => (ix (((Ck.terms x).filter Tm.var).foldl dstepT []) t : Int) := by
  unfold normC
  rw [mapC_terms, vrs, List.filter_map, List.map_map]
  have e : List.filter (Tm.var ∘ nmT (disT (Ck.terms x))) (Ck.terms x) = List.filter Tm.var (Ck.terms x) := List.filter_congr fun t ht => nmT_var _ _ (fun u hu => (disT_mem.1 hu).2)
  rw [e]
  refine List.map_congr_left fun t ht => ?_
  have hm : t ∈ disT (Ck.terms x) := disT_mem.2 (List.mem_filter.1 ht)
  simp only [Function.comp, nmT, if_pos hm]
  rfl
theorem norm_mis (x : Ck) : mis 0 (vrs (Ck.terms (normC x))) = false := by
  rw [norm_vars]; exact mis_idx _ []
/-- Valid but for the numbers. -/
structure Val0 (x : Ck) : Prop where
  e : ∀ a ∈ x.1 :: x.2.1, a.err = 0
  t : ∀ a ∈ x.2.2, a.ok = true
  bl : x.2.1.length ≤ 8
  tl : x.2.2.length ≤ 8
  h : x.1.by_.var = false
  s : ∀ t ∈ x.1.pl ++ tls x.2.2, t.var = true → t ∈ x.2.1.flatMap At.pl
theorem chk_zero {c : Cm} (h1 : ∀ a ∈ c.key.1 :: c.key.2.1, a.err = 0) (h2 : ∀ a ∈ c.key.2.2, a.ok = true) (h3 : c.key.2.1.length ≤ 8) (h4 : c.key.2.2.length ≤ 8) (h5 : c.key.1.by_.var = false)
    (h6 : ∀ t ∈ c.key.1.pl ++ tls c.key.2.2, t.var = true → t ∈ c.key.2.1.flatMap At.pl) (h7 : mis 0 (vrs (Ck.terms c.key)) = false) : c.chk = 0 := by
  have a1 : long c = false := by
    simp only [Cm.key, fsts, List.length_map] at h3 h4
    simp [long]; omega
  have a2 : aErr c.atoms = 0 := aErr_zero fun y hy => by
    rcases List.mem_cons.1 hy with rfl | hy
    · exact h1 _ (by simp [Cm.key])
    · exact h1 _ (by simp only [Cm.key, fsts, List.mem_cons, List.mem_map]; exact Or.inr ⟨y, hy, rfl⟩)
  have a3 : badT c = false := by
    unfold badT; rw [List.any_eq_false]; intro t ht; rw [h2 t ht]; simp
  have a5 : unb c = false := unb_no fun v hv => by
    have e1 : c.restC.vars = vrs c.restC.terms := rfl
    have e2 : c.bodyC.vars = vrs c.bodyC.terms := rfl
    rw [e1, restC_terms, vrs] at hv
    rw [e2, bodyC_terms, vrs]
    obtain ⟨t, ht, rfl⟩ := List.mem_map.1 hv
    obtain ⟨ht, hvt⟩ := List.mem_filter.1 ht
    have := h6 t ht hvt
    refine List.mem_map.2 ⟨t, List.mem_filter.2 ⟨List.mem_cons_of_mem _ ?_, hvt⟩, rfl⟩
    rw [flt]
    simpa [Cm.key, fsts, List.flatMap_map] using this
  have a6 : mis 0 c.vars = false := by
    have : c.vars = vrs c.terms := rfl
    rw [this, key_terms]; exact h7
  have a4 : c.head.1.by_.var = false := h5
  simp [Cm.chk, Cm.rs, chkL, a1, a2, a3, a4, a5, a6]
theorem nmT_cov {vs : List Tm} {t : Tm} (h : t.cov = true) : (nmT vs t).cov = true := by
  unfold nmT
  by_cases hm : t ∈ vs
  · rw [if_pos hm]; simp [Tm.cov, Tm.var]
  · rw [if_neg hm]; exact h
theorem nmT_qual {vs : List Tm} {t : Tm} (h : qualOk t = true) : qualOk (nmT vs t) = true := by
  unfold nmT
  by_cases hm : t ∈ vs
  · rw [if_pos hm]
    have : Tm.var ⟨3, (ix vs t : Nat), ⟨#[]⟩⟩ = true := by simp [Tm.var]
    simp [qualOk, this]
  · rw [if_neg hm]; exact h
theorem norm_val {x : Ck} (h : Val0 x) : Val0 (normC x) := by
  have hv : ∀ t ∈ Ck.terms x, (nmT (disT (Ck.terms x)) t).var = t.var := fun t ht => nmT_var _ _ (fun u hu => (disT_mem.1 hu).2)
  have he : ∀ a : At, a.err = 0 → (mapA (nmT (disT (Ck.terms x))) a).err = 0 := fun a ha => by
    obtain ⟨h1, h2, h3, h4⟩ := err_zero' ha
    refine err_zero h1 (by simpa [mapA] using h2) (nmT_qual h3) fun t ht => ?_
    obtain ⟨u, hu, rfl⟩ := List.mem_map.1 ht
    exact nmT_cov (h4 u hu)
  refine ⟨fun a ha => ?_, fun a ha => ?_, by simpa [normC, mapC] using h.bl, by simpa [normC, mapC] using h.tl, ?_, fun t ht hvt => ?_⟩
  · rcases List.mem_cons.1 ha with rfl | ha
    · exact he _ (h.e _ (by simp))
    · obtain ⟨b, hb, rfl⟩ := List.mem_map.1 ha
      exact he _ (h.e _ (by simp [hb]))
  · obtain ⟨b, hb, rfl⟩ := List.mem_map.1 ha
    have := h.t b hb
    simp only [Te.ok, Bool.and_eq_true, mapE] at this ⊢
    exact ⟨this.1, nmT_cov this.2.1, nmT_cov this.2.2⟩
  · exact (hv x.1.by_ (by simp [Ck.terms, At.pl])).trans h.h
  · have e : (normC x).1.pl ++ tls (normC x).2.2 = (x.1.pl ++ tls x.2.2).map (nmT (disT (Ck.terms x))) := by
      rw [List.map_append, normC, mapC]; simp only [mapA_pl, tls_mapE]
    rw [e] at ht
    obtain ⟨u, hu, rfl⟩ := List.mem_map.1 ht
    have hut : u ∈ Ck.terms x := by
      unfold Ck.terms; rcases List.mem_append.1 hu with hu | hu <;> simp [hu]
    rw [hv u hut] at hvt
    have := h.s u hu hvt
    have e2 : (normC x).2.1.flatMap At.pl = (x.2.1.flatMap At.pl).map (nmT (disT (Ck.terms x))) := by rw [normC, mapC]; exact flat_mapA _ _
    rw [e2]
    exact List.mem_map.2 ⟨u, this, rfl⟩
/-- What Made makes of a clause, ahead of its numbering and behind it. -/
def made0 (x : Ck) : Ck :=
  let b := (x.2.1.take 8).map mkA
  let h := mkA x.1
  (⟨if h.by_.k = 3 then zt else h.by_, h.name, h.args.map (sf (b.flatMap At.pl))⟩, b, (x.2.2.take 8).map (mkE (b.flatMap At.pl)))
def madeK (x : Ck) : Ck := normC (made0 x)
theorem made0_val (hp : nameOk nmP = true) (x : Ck) : Val0 (made0 x) := by
  refine ⟨fun a ha => ?_, fun a ha => ?_, by simp [made0]; omega, by simp [made0]; omega, ?_, fun t ht hv => ?_⟩
  · rcases List.mem_cons.1 ha with rfl | ha
    · obtain ⟨h1, h2, h3, h4⟩ := err_zero' (mkA_err hp x.1)
      refine err_zero h1 (by simpa [made0] using h2) ?_ fun t ht => ?_
      · simp only [made0]
        split
        · exact qual_zt
        · exact h3
      · obtain ⟨u, hu, rfl⟩ := List.mem_map.1 ht
        exact sf_cov (h4 u hu)
    · obtain ⟨b, hb, rfl⟩ := List.mem_map.1 ha
      exact mkA_err hp b
  · obtain ⟨b, hb, rfl⟩ := List.mem_map.1 ha
    exact mkE_ok _ _
  · simp only [made0]
    split
    · simp [Tm.var, zt]
    · rename_i h; simp [Tm.var, h]
  · rcases List.mem_append.1 ht with ht | ht
    · rcases List.mem_cons.1 ht with rfl | ht
      · exfalso
        simp only [made0] at hv
        split at hv
        · simp [Tm.var, zt] at hv
        · rename_i h; simp [Tm.var, h] at hv
      · obtain ⟨u, hu, rfl⟩ := List.mem_map.1 ht
        exact sf_var hv
    · obtain ⟨e, he, ht⟩ := List.mem_flatMap.1 ht
      obtain ⟨b, hb, rfl⟩ := List.mem_map.1 he
      simp only [mkE, List.mem_cons, List.not_mem_nil, or_false] at ht
      rcases ht with rfl | rfl <;> exact sf_var hv
theorem made_val (hp : nameOk nmP = true) (x : Ck) : Val0 (madeK x) := norm_val (made0_val hp x)
theorem made_chk (hp : nameOk nmP = true) {c : Cm} {x : Ck} (h : c.key = madeK x) : c.chk = 0 := by
  have hv := made_val hp x
  rw [← h] at hv
  exact chk_zero hv.e hv.t hv.bl hv.tl hv.h hv.s (by rw [h]; exact norm_mis _)
end Go.Proofs.YtllgffmhbddigaaGreat
