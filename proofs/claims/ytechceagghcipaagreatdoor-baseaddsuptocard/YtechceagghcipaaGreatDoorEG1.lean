import Derived.Test.YtechceagghcipaaGreatDoorEF9
namespace Go.Proofs.YtechceagghcipaaGreatDoor
open Go.RowKit

theorem mt8_ok {a f : At} (h : mt8 a f = true) : shB a f = true /\ fixOk a.pl f.pl = true := by
 unfold mt8 mRes at h
 split at h
 ·rename_i hm
  unfold mOk at hm
  simp only [Bool.and_eq_true] at hm
  exact ⟨hm.1.1, hm.1.2⟩
 ·cases h
theorem shB_pd8 {a f : At} (h : shB a f = true) : a.pd8 = f.pd8 := by
 unfold shB at h
 simp only [Bool.and_eq_true, beq_iff_eq] at h
 unfold At.pd8
 rw [toList_inj h.1, h.2]
theorem fixOk_at {p q : List Tm} (h : fixOk p q = true) {i : Nat} {t u : Tm} (ht : p[i]? = some t) (hu : q[i]? = some u) (hv : t.var = false) : t = u := by
 unfold fixOk at h
 have := List.all_eq_true.1 h (t, u) (List.mem_of_getElem? (i := i) (List.getElem?_zip_eq_some.2 ⟨ht, hu⟩))
 simpa [hv] using this
theorem zip_fx (T L : List Tm) : (fxC L).zip (fxK T L) = (L.zipIdx.filter fun x => !x.1.var).map fun x => ((x.2 : Int), (((ix8 T x.1).getD 0 : Nat) : Int)) := by
 have e : fxK T L = (L.zipIdx.filter fun x => !x.1.var).map fun x => (((ix8 T x.1).getD 0 : Nat) : Int) := by
  unfold fxK
  have e1 : (L.zipIdx.filter fun x => !x.1.var).map Prod.fst = L.filter fun t => !t.var := by
   have e3 : (fun x : Tm × Nat => !x.1.var) = (fun t : Tm => !t.var) ∘ Prod.fst := rfl
   rw [e3, <- List.filter_map, List.zipIdx_map_fst]
  rw [<- e1, List.map_map]
  rfl
 rw [e]
 unfold fxC
 exact List.zip_map'
theorem fits_of {T : List Tm} {a f : At} (hm : mt8 a f = true) (hl : a.pl.length = f.pl.length) : fits8 (fxC a.pl) (fxK T a.pl) (nm8 T f.pl) = true := by
 have hfx := (mt8_ok hm).2
 unfold fits8
 have e1 : (fxC a.pl).length = (fxK T a.pl).length := by
  unfold fxC fxK
  rw [List.length_map, List.length_map]
  have e3 : (fun x : Tm × Nat => !x.1.var) = (fun t : Tm => !t.var) ∘ Prod.fst := rfl
  have : (a.pl.filter fun t => !t.var) = (a.pl.zipIdx.filter fun x => !x.1.var).map Prod.fst := by rw [e3, <- List.filter_map, List.zipIdx_map_fst]
  rw [this, List.length_map]
 rw [decide_eq_true e1, Bool.true_and, zip_fx, List.all_eq_true]
 intro p hp
 obtain ⟨⟨t, i⟩, hx, rfl⟩ := List.mem_map.1 hp
 obtain ⟨h1, h2⟩ := List.mem_filter.1 hx
 have h3 := List.mem_zipIdx_iff_getElem?.1 h1
 have hi := (List.getElem?_eq_some_iff.1 h3).1
 obtain ⟨u, hu⟩ : ∃ u, f.pl[i]? = some u := ⟨_, List.getElem?_eq_getElem (by omega)⟩
 have e := fixOk_at hfx h3 hu (by simpa using h2)
 subst e
 simp only [decide_eq_true_eq]
 refine ⟨by omega, by rw [nm8_len]; omega, ?_⟩
 rw [Int.toNat_natCast]
 unfold nm8
 rw [List.getElem?_map, hu]
 rfl
section
variable {T : List Tm} {K : List Pd} {s : Pd -> St7}
theorem find_perm (h : In8 T K s) (parts : Int) (a : At) : (fo8 T K s parts a).Perm (((EL8 T K s).filter fun x => hp7 parts x.2 && mt8 a x.1).map Prod.fst) := by
 have hno : ∀ p ∈ K, p ≠ a.pd8 -> ((ep8 T s p).filter fun x => hp7 parts x.2 && mt8 a x.1) = [] := fun p hp hne => by
  rw [List.filter_eq_nil_iff]
  intro x hx hc
  obtain ⟨i, r, hr, rfl⟩ := mem_ep8.1 hx
  obtain ⟨n, h1, -, -, h4⟩ := h.ar p hp
  simp only [Bool.and_eq_true] at hc
  have := shB_pd8 (mt8_ok hc.2).1
  rw [pd8_at (h4 r (List.mem_of_getElem? hr)) h1] at this
  exact hne this.symm
 unfold EL8
 rw [List.filter_flatMap]
 by_cases hp : a.pd8 ∈ K
 ·have e1 : (K.flatMap fun p => (ep8 T s p).filter fun x => hp7 parts x.2 && mt8 a x.1).Perm ((ep8 T s a.pd8).filter fun x => hp7 parts x.2 && mt8 a x.1) := by
   have := fm_snoc8 (f := fun _ => ([] : List (At × Int))) (g := fun p => (ep8 T s p).filter fun x => hp7 parts x.2 && mt8 a x.1) (d := (ep8 T s a.pd8).filter fun x => hp7 parts x.2 && mt8 a x.1) hp h.nd (by simp) (fun q hq hne => hno q hq hne)
   have e0 : (K.flatMap fun _ => ([] : List (At × Int))) = [] := by rw [List.flatMap_eq_nil_iff]; intros; rfl
   rw [e0, List.nil_append] at this
   exact this
  refine List.Perm.trans ?_ (e1.map Prod.fst).symm
  have ho := h.ok _ hp
  obtain ⟨n, h1, -, h3, h4⟩ := h.ar _ hp
  have enn : n = a.args.length := by have : a.pd8.ar = (a.args.length : Int) := rfl; omega
  subst enn
  rw [ep8_filter ho (mt8 a) parts]
  have hrl : ∀ r ∈ (s a.pd8).rows, a.pl.length = (at8 T a.pd8.nm r).pl.length /\ nm8 T (at8 T a.pd8.nm r).pl = r /\ kn8 T (at8 T a.pd8.nm r).pl = true := fun r hr => by
   obtain ⟨k1, k2, k3, k4⟩ := (h4 r hr).at
   refine ⟨?_, k4, k3⟩
   show a.args.length + 1 = (at8 T a.pd8.nm r).args.length + 1
   rw [k2]
  cases hb : fxB T a.pl with
  | true =>
   have e2 : fo8 T K s parts a = ((fnd8 (s a.pd8) parts (fxC a.pl) (fxK T a.pl)).map (at8 T a.name)).filter (mt8 a) := if_pos ⟨hp, hb⟩
   rw [e2, List.filter_map]
   have e3 : a.pd8.nm = a.name := rfl
   rw [e3]
   refine List.Perm.map _ ?_
   unfold fnd8
   rw [rsel_eq ho]
   unfold rsel7
   rw [List.filter_filter, List.filter_filter]
   refine List.Perm.trans (List.Perm.filter _ (srt7_perm _)) ?_
   apply List.Perm.of_eq
   apply List.filter_congr
   intro r hr
   obtain ⟨k1, k2, k3⟩ := hrl r hr
   simp only [Function.comp]
   cases hmm : mt8 a (at8 T a.name r) with
   | false => simp
   | true =>
    have := fits_of (T := T) hmm k1
    rw [show nm8 T (at8 T a.name r).pl = r from k2] at this
    simp [this]
  | false =>
   have e2 : fo8 T K s parts a = [] := if_neg fun hc => by rw [hb] at hc; cases hc.2
   rw [e2]
   have : ((s a.pd8).rows.filter fun r => hp7 parts (part7 (s a.pd8) r) && mt8 a (at8 T a.pd8.nm r)) = [] := by
    rw [List.filter_eq_nil_iff]
    intro r hr hc
    simp only [Bool.and_eq_true] at hc
    obtain ⟨k1, k2, k3⟩ := hrl r hr
    have hfx := (mt8_ok hc.2).2
    have hk := List.all_eq_true.1 k3
    unfold fxB at hb
    rw [List.all_eq_false] at hb
    obtain ⟨t, ht, hv⟩ := hb
    simp only [Bool.or_eq_true, not_or, Bool.not_eq_true] at hv
    obtain ⟨i, hi⟩ := List.getElem?_of_mem ht
    obtain ⟨u, hu⟩ : ∃ u, (at8 T a.pd8.nm r).pl[i]? = some u := ⟨_, List.getElem?_eq_getElem (by have := (List.getElem?_eq_some_iff.1 hi).1; omega)⟩
    have e := fixOk_at hfx hi hu hv.1
    subst e
    have := hk t (List.mem_of_getElem? hu)
    rw [hv.2] at this
    cases this
   rw [this]
   exact List.Perm.refl _
 ·have e2 : fo8 T K s parts a = [] := if_neg fun hc => hp hc.1
  have e1 : (K.flatMap fun p => (ep8 T s p).filter fun x => hp7 parts x.2 && mt8 a x.1) = [] := by
   rw [List.flatMap_eq_nil_iff]
   exact fun p hq => hno p hq fun e => hp (e ▸ hq)
  rw [e2, e1]
  exact List.Perm.refl _
theorem preds_mem (h : In8 T K s) (p : Pd) : p ∈ K ↔ ∃ x ∈ EL8 T K s, x.1.pd8 = p := by
 constructor
 ·intro hp
  obtain ⟨n, h1, -, -, h4⟩ := h.ar p hp
  cases hr : (s p).rows with
  | nil => exact absurd hr (h.ne p hp)
  | cons r l =>
   have h0 : (s p).rows[0]? = some r := by rw [hr]; rfl
   exact ⟨(at8 T p.nm r, pi8 (s p) 0), List.mem_flatMap.2 ⟨p, hp, mem_ep8.2 ⟨0, r, h0, rfl⟩⟩, pd8_at (h4 r (List.mem_of_getElem? h0)) h1⟩
 ·rintro ⟨x, hx, rfl⟩
  obtain ⟨p, hp, hy⟩ := List.mem_flatMap.1 hx
  obtain ⟨i, r, hr, rfl⟩ := mem_ep8.1 hy
  obtain ⟨n, h1, -, -, h4⟩ := h.ar p hp
  rw [pd8_at (h4 r (List.mem_of_getElem? hr)) h1]
  exact hp
theorem K_len (h : In8 T K s) : K.length <= (EL8 T K s).length := by
 have : ∀ L : List Pd, (∀ p ∈ L, p ∈ K) -> L.length <= (L.flatMap (ep8 T s)).length := fun L => by
  induction L with
  | nil => intro _; simp
  | cons p L ih =>
   intro hL
   have h1 := ih fun q hq => hL q (by simp [hq])
   have h2 : (ep8 T s p).length = (s p).rows.length := by unfold ep8; simp
   have h3 := h.ne p (hL p (by simp))
   have h4 : 0 < (s p).rows.length := List.length_pos_iff.2 h3
   rw [List.flatMap_cons, List.length_append, List.length_cons]
   omega
 exact this K fun _ h => h
theorem rows_len (h : In8 T K s) {p : Pd} (hp : p ∈ K) : (s p).rows.length <= (EL8 T K s).length := by
 obtain ⟨a, b, rfl⟩ := List.append_of_mem hp
 unfold EL8
 have h2 : (ep8 T s p).length = (s p).rows.length := by unfold ep8; simp
 rw [List.flatMap_append, List.flatMap_cons, List.length_append, List.length_append]
 omega
end
end Go.Proofs.YtechceagghcipaaGreatDoor
