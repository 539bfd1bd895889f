import Derived.Test.YtechceagghcipabGreatDoorEF7
import Derived.Test.YtechceagghcipabGreatDoorB2
namespace Go.Proofs.YtechceagghcipabGreatDoor
open Go.RowKit
def pi8 (s : St7) (i : Nat) : Int := if i < s.nf then 1 else if i < s.xf then 2 else 4
def ep8 (T : List Tm) (s : Pd -> St7) (p : Pd) : List (At × Int) := (s p).rows.zipIdx.map fun x => (at8 T p.nm x.1, pi8 (s p) x.2)
def EL8 (T : List Tm) (K : List Pd) (s : Pd -> St7) : List (At × Int) := K.flatMap (ep8 T s)
structure In8 (T : List Tm) (K : List Pd) (s : Pd -> St7) : Prop where
 nd : K.Nodup
 ar : ∀ p ∈ K, ∃ n : Nat, p.ar = (n : Int) /\ n <= 100000000 /\ (s p).wd = 1 + n /\ ∀ r ∈ (s p).rows, RowOf T p.nm n r
 ne : ∀ p ∈ K, (s p).rows ≠ []
 ok : ∀ p ∈ K, (s p).Ok
 t : T.length <= 1000000000
section
variable {T : List Tm} {K : List Pd} {s : Pd -> St7}
theorem pd8_at {p : Pd} {n : Nat} {r : List Int} (h : RowOf T p.nm n r) (hp : p.ar = (n : Int)) : (at8 T p.nm r).pd8 = p := by
 obtain ⟨h1, h2, -⟩ := h.at
 unfold At.pd8
 rw [h1, h2, <- hp]
theorem mem_ep8 {p : Pd} {x : At × Int} : x ∈ ep8 T s p ↔ ∃ i r, (s p).rows[i]? = some r /\ x = (at8 T p.nm r, pi8 (s p) i) := by
 unfold ep8
 rw [List.mem_map]
 constructor
 ·rintro ⟨⟨r, i⟩, h, rfl⟩
  exact ⟨i, r, List.mem_zipIdx_iff_getElem?.1 h, rfl⟩
 ·rintro ⟨i, r, h, rfl⟩
  exact ⟨(r, i), List.mem_zipIdx_iff_getElem?.2 h, rfl⟩
theorem ep8_fst (p : Pd) : (ep8 T s p).map Prod.fst = (s p).rows.map (at8 T p.nm) := by
 unfold ep8
 rw [List.map_map]
 have : (Prod.fst ∘ fun x : List Int × Nat => (at8 T p.nm x.1, pi8 (s p) x.2)) = at8 T p.nm ∘ Prod.fst := rfl
 rw [this, <- List.map_map, List.zipIdx_map_fst]
theorem pi8_pos (s : St7) (i : Nat) : pi8 s i ≠ 0 /\ (pi8 s i = 1 ∨ pi8 s i = 2 ∨ pi8 s i = 4) := by
 unfold pi8
 split
 ·simp
 ·split <;> simp
theorem EL8_pos {x : At × Int} (h : x ∈ EL8 T K s) : x.2 = 1 ∨ x.2 = 2 ∨ x.2 = 4 := by
 obtain ⟨p, -, hx⟩ := List.mem_flatMap.1 h
 obtain ⟨i, r, -, rfl⟩ := mem_ep8.1 hx
 exact (pi8_pos _ _).2
theorem bpt8_mem (h : In8 T K s) (f : At) (q : Int) : (f, q) ∈ EL8 T K s ↔ q ≠ 0 /\ bpt8 T K s f = q := by
 constructor
 ·intro hm
  obtain ⟨p, hp, hx⟩ := List.mem_flatMap.1 hm
  obtain ⟨i, r, hr, e⟩ := mem_ep8.1 hx
  obtain ⟨n, h1, -, -, h4⟩ := h.ar p hp
  have hrr := List.mem_of_getElem? hr
  cases e
  refine ⟨(pi8_pos _ _).1, ?_⟩
  have ep := pd8_at (h4 r hrr) h1
  unfold bpt8
  rw [ep, if_pos ⟨hp, (h4 r hrr).at.2.2.1⟩, (h4 r hrr).at.2.2.2, part7_at (h.ok p hp) hr]
  rfl
 ·rintro ⟨hq, hb⟩
  unfold bpt8 at hb
  split at hb
  ·rename_i hc
   obtain ⟨hp, hkn⟩ := hc
   obtain ⟨n, h1, -, -, h4⟩ := h.ar _ hp
   have ho := h.ok _ hp
   cases hx : txi (s f.pd8).rows (tx (nm8 T f.pl)) with
   | none =>
    unfold part7 at hb
    rw [hx] at hb
    exact absurd hb.symm hq
   | some i =>
    obtain ⟨r, hr, hrt⟩ := txi_some hx
    have er : r = nm8 T f.pl := tx_inj (ho.w r (List.mem_of_getElem? hr)) (nm8_w h.t _) hrt
    subst er
    rw [part7_at ho hr] at hb
    have ea : at8 T f.pd8.nm (nm8 T f.pl) = f := at8_nm hkn
    exact List.mem_flatMap.2 ⟨f.pd8, hp, mem_ep8.2 ⟨i, _, hr, by rw [ea, <- hb]; rfl⟩⟩
  ·exact absurd hb.symm hq
theorem fits8_nil (r : List Int) : fits8 [] [] r = true := by simp [fits8]
theorem fnd8_nil {s : St7} (ho : s.Ok) (parts : Int) : (fnd8 s parts [] []).Perm (s.rows.filter fun r => hp7 parts (part7 s r)) := by
 unfold fnd8
 rw [List.filter_eq_self.2 fun r _ => fits8_nil r, rsel_eq ho]
 unfold rsel7
 exact (srt7_perm _).filter _
theorem ep8_filter {p : Pd} (ho : (s p).Ok) (P : At -> Bool) (parts : Int) : ((ep8 T s p).filter fun x => hp7 parts x.2 && P x.1).map Prod.fst = ((s p).rows.filter fun r => hp7 parts (part7 (s p) r) && P (at8 T p.nm r)).map (at8 T p.nm) := by
 unfold ep8
 rw [List.filter_map, List.map_map]
 have e1 : ((s p).rows.zipIdx.filter ((fun x : At × Int => hp7 parts x.2 && P x.1) ∘ fun x : List Int × Nat => (at8 T p.nm x.1, pi8 (s p) x.2))) = (s p).rows.zipIdx.filter fun x => hp7 parts (part7 (s p) x.1) && P (at8 T p.nm x.1) := by
  apply List.filter_congr
  rintro ⟨r, i⟩ hx
  have := part7_at ho (List.mem_zipIdx_iff_getElem?.1 hx)
  simp only [Function.comp]
  rw [this]
  rfl
 have e2 : ((Prod.fst ∘ fun x : List Int × Nat => (at8 T p.nm x.1, pi8 (s p) x.2))) = at8 T p.nm ∘ Prod.fst := rfl
 rw [e1, e2, <- List.map_map]
 congr 1
 have e3 : (fun x : List Int × Nat => hp7 parts (part7 (s p) x.1) && P (at8 T p.nm x.1)) = (fun r => hp7 parts (part7 (s p) r) && P (at8 T p.nm r)) ∘ Prod.fst := rfl
 rw [e3, <- List.filter_map, List.zipIdx_map_fst]
theorem facts_perm (h : In8 T K s) (parts : Int) : (K.flatMap (fcp8 T s parts)).Perm (((EL8 T K s).filter fun x => hp7 parts x.2).map Prod.fst) := by
 unfold EL8
 rw [List.filter_flatMap, List.map_flatMap]
 have e : ∀ p ∈ K, (fcp8 T s parts p).Perm (((ep8 T s p).filter fun x => hp7 parts x.2).map Prod.fst) := fun p hp => by
  have := ep8_filter (T := T) (h.ok p hp) (fun _ => true) parts
  simp only [Bool.and_true] at this
  rw [this]
  exact (fnd8_nil (h.ok p hp) parts).map _
 clear h
 induction K with
 | nil => exact List.Perm.refl _
 | cons p K ih =>
  rw [List.flatMap_cons, List.flatMap_cons]
  exact (e p (by simp)).append (ih fun q hq => e q (by simp [hq]))
theorem len_sum (h : In8 T K s) (parts : Int) : sm8 (fun p => len7 (s p) parts) K = ((((EL8 T K s).filter fun x => hp7 parts x.2).length : Nat) : Int) := by
 have e := (facts_perm h parts).length_eq
 rw [List.length_map] at e
 rw [<- e]
 have ho := h.ok
 clear h e
 induction K with
 | nil => rfl
 | cons p K ih =>
  rw [sm8, List.flatMap_cons, List.length_append, ih fun q hq => ho q (by simp [hq]), rsel_len (ho p (by simp))]
  have : (fcp8 T s parts p).length = (rsel7 (s p) parts).length := by
   unfold fcp8
   rw [List.length_map]
   unfold fnd8
   rw [List.filter_eq_self.2 fun r _ => fits8_nil r, rsel_eq (ho p (by simp))]
  rw [this]
  omega
theorem fm_congr8 {α β : Type} {f g : α -> List β} : ∀ {K : List α}, (∀ p ∈ K, f p = g p) -> K.flatMap f = K.flatMap g
 | [], _ => rfl
 | p :: K, h => by rw [List.flatMap_cons, List.flatMap_cons, h p (by simp), fm_congr8 fun q hq => h q (by simp [hq])]
def tE8 (q : Int) : Int := if q = 4 then 2 else if q = 2 then 1 else q
theorem turn_EL8 (h : In8 T K s) : EL8 T K (tn8 K s) = (EL8 T K s).map fun x => (x.1, tE8 x.2) := by
 unfold EL8
 rw [List.map_flatMap]
 refine fm_congr8 fun p hp => ?_
 have e : tn8 K s p = Turn7 (s p) := if_pos hp
 unfold ep8
 rw [e, List.map_map]
 show (s p).rows.zipIdx.map _ = _
 apply List.map_congr_left
 rintro ⟨r, i⟩ hx
 have hi := (List.getElem?_eq_some_iff.1 (List.mem_zipIdx_iff_getElem?.1 hx)).1
 have ha := (h.ok p hp).a
 simp only [Function.comp]
 congr 1
 unfold pi8 Turn7 tE8
 simp only
 by_cases h1 : i < (s p).nf
 ·rw [if_pos (by omega : i < (s p).xf), if_pos h1]; simp
 ·rw [if_neg h1]
  by_cases h2 : i < (s p).xf
  ·rw [if_pos h2, if_pos h2]; simp
  ·rw [if_neg h2, if_neg h2, if_pos hi]; simp
theorem turn_In8 (h : In8 T K s) : In8 T K (tn8 K s) := by
 have e : ∀ p ∈ K, tn8 K s p = Turn7 (s p) := fun p hp => if_pos hp
 refine ⟨h.nd, fun p hp => ?_, fun p hp => ?_, fun p hp => ?_, h.t⟩
 ·rw [e p hp]; exact h.ar p hp
 ·rw [e p hp]; exact h.ne p hp
 ·rw [e p hp]; exact turn_ok7 (h.ok p hp)
end
end Go.Proofs.YtechceagghcipabGreatDoor
namespace Go.Proofs.YtechceagghcipabGreatDoor
open Go.RowKit
theorem kn8_ens {T L : List Tm} (M : List Tm) (h : kn8 T L = true) : kn8 (ens8 T M) L = true /\ nm8 (ens8 T M) L = nm8 T L := by
 have h' := List.all_eq_true.1 h
 refine ⟨List.all_eq_true.2 fun t ht => ?_, ?_⟩
 ·obtain ⟨i, hi⟩ := Option.isSome_iff_exists.1 (h' t ht)
  rw [ens8_keep M T hi]
  rfl
 ·unfold nm8
  apply List.map_congr_left
  intro t ht
  obtain ⟨i, hi⟩ := Option.isSome_iff_exists.1 (h' t ht)
  rw [ens8_keep M T hi, hi]
theorem kn8_self (T L : List Tm) : kn8 (ens8 T L) L = true := List.all_eq_true.2 fun t ht => by
 obtain ⟨i, hi⟩ := ens8_mem L T t ht
 rw [hi]
 rfl
theorem RowOf.up {T : List Tm} {nm : ByteArray} {n : Nat} {r : List Int} (h : RowOf T nm n r) (M : List Tm) : RowOf (ens8 T M) nm n r /\ at8 (ens8 T M) nm r = at8 T nm r := by
 obtain ⟨a, rfl, rfl, h1, rfl⟩ := h
 obtain ⟨k1, k2⟩ := kn8_ens M h1
 refine ⟨⟨a, rfl, rfl, k1, k2.symm⟩, ?_⟩
 rw [at8_nm h1, <- k2, at8_nm k1]
theorem RowOf.self (T : List Tm) (f : At) : RowOf (ens8 T f.pl) f.name f.args.length (nm8 (ens8 T f.pl) f.pl) /\ at8 (ens8 T f.pl) f.name (nm8 (ens8 T f.pl) f.pl) = f := ⟨⟨f, rfl, rfl, kn8_self T f.pl, rfl⟩, at8_nm (kn8_self T f.pl)⟩
theorem fm_snoc8 {α β : Type} {f g : α -> List β} {p : α} {d : List β} {K : List α} (hp : p ∈ K) (hn : K.Nodup) (h1 : g p = f p ++ d) (h2 : ∀ q ∈ K, q ≠ p -> g q = f q) : (K.flatMap g).Perm (K.flatMap f ++ d) := by
 obtain ⟨a, b, rfl⟩ := List.append_of_mem hp
 rw [List.nodup_append] at hn
 obtain ⟨-, hb, hab⟩ := hn
 have hb' := List.nodup_cons.1 hb
 have ea : a.flatMap g = a.flatMap f := fm_congr8 fun q hq => h2 q (by simp [hq]) fun e => hab q hq p (by simp) e
 have eb : b.flatMap g = b.flatMap f := fm_congr8 fun q hq => h2 q (by simp [hq]) fun e => hb'.1 (e ▸ hq)
 rw [List.flatMap_append, List.flatMap_append, List.flatMap_cons, List.flatMap_cons, h1, ea, eb]
 simp only [List.append_assoc]
 exact (List.perm_append_comm.append_left _).append_left _
def aE8 (E : List (At × Int)) (f : At) : List (At × Int) := if f ∈ E.map Prod.fst then E else E ++ [(f, 4)]
section
variable {T : List Tm} {K : List Pd} {s s' : Pd -> St7}
theorem add_mem (h : In8 T K s) (f : At) : nm8 (ens8 T f.pl) f.pl ∈ (st8 K s f.pd8 f.args.length).rows ↔ f ∈ (EL8 T K s).map Prod.fst := by
 constructor
 ·intro hm
  by_cases hp : f.pd8 ∈ K
  ·have e : st8 K s f.pd8 f.args.length = s f.pd8 := if_pos hp
   rw [e] at hm
   obtain ⟨n, h1, -, -, h4⟩ := h.ar _ hp
   have hu := (h4 _ hm).up f.pl
   have e2 : at8 T f.pd8.nm (nm8 (ens8 T f.pl) f.pl) = f := by rw [<- hu.2]; exact (RowOf.self T f).2
   unfold EL8
   rw [List.map_flatMap]
   exact List.mem_flatMap.2 ⟨f.pd8, hp, by rw [ep8_fst]; exact List.mem_map.2 ⟨_, hm, e2⟩⟩
  ·have e : st8 K s f.pd8 f.args.length = New7 (1 + f.args.length) := if_neg hp
   rw [e] at hm
   cases hm
 ·intro hm
  unfold EL8 at hm
  rw [List.map_flatMap] at hm
  obtain ⟨p, hp, hx⟩ := List.mem_flatMap.1 hm
  rw [ep8_fst] at hx
  obtain ⟨r, hr, hf⟩ := List.mem_map.1 hx
  obtain ⟨n, h1, -, -, h4⟩ := h.ar p hp
  have epd := pd8_at (h4 r hr) h1
  rw [hf] at epd
  have e : st8 K s f.pd8 f.args.length = s f.pd8 := if_pos (by rw [epd]; exact hp)
  have hat := (h4 r hr).at
  rw [hf] at hat
  rw [e, epd, (kn8_ens f.pl hat.2.2.1).2, hat.2.2.2]
  exact hr
theorem add_EL8 (h : In8 T K s) (f : At) (hn : f.args.length <= 100000000) (ht : T.length + f.pl.length <= 1000000000) (hc : (st8 K s f.pd8 f.args.length).rows.length < 10000000000) (hs : s' f.pd8 = ad7 (st8 K s f.pd8 f.args.length) (nm8 (ens8 T f.pl) f.pl)) (ho : ∀ q, q ≠ f.pd8 -> s' q = s q) :
  In8 (ens8 T f.pl) (ky8 K f.pd8) s' /\ (EL8 (ens8 T f.pl) (ky8 K f.pd8) s').Perm (aE8 (EL8 T K s) f) := by
 have htl : (ens8 T f.pl).length <= 1000000000 := Nat.le_trans (ens8_len f.pl T) ht
 have hw := nm8_w htl f.pl
 have hlen : (nm8 (ens8 T f.pl) f.pl).length = 1 + f.args.length := by rw [nm8_len]; simp [At.pl]; omega
 have hold : ∀ q ∈ K, ep8 (ens8 T f.pl) s q = ep8 T s q := fun q hq => by
  obtain ⟨n, -, -, -, h4⟩ := h.ar q hq
  unfold ep8
  apply List.map_congr_left
  rintro ⟨r, i⟩ hx
  rw [((h4 r (List.mem_of_getElem? (List.mem_zipIdx_iff_getElem?.1 hx))).up f.pl).2]
 have hoth : ∀ q ∈ K, q ≠ f.pd8 -> ep8 (ens8 T f.pl) s' q = ep8 T s q := fun q hq hne => by rw [<- hold q hq]; unfold ep8; rw [ho q hne]
 have hself := RowOf.self T f
 have hmem := add_mem h f
 by_cases hp : f.pd8 ∈ K
 ·have e1 : ky8 K f.pd8 = K := if_pos hp
  have e2 : st8 K s f.pd8 f.args.length = s f.pd8 := if_pos hp
  rw [e2] at hs hmem hc
  obtain ⟨n, h1, h2, h3, h4⟩ := h.ar _ hp
  have enn : n = f.args.length := by have : f.pd8.ar = (f.args.length : Int) := rfl; omega
  subst enn
  have hwd : (nm8 (ens8 T f.pl) f.pl).length = (s f.pd8).wd := by rw [hlen, h3]
  have hok : (s' f.pd8).Ok := by rw [hs]; exact ad7_ok (h.ok _ hp) hwd hw (by omega) hc
  rw [e1]
  refine ⟨⟨h.nd, fun q hq => ?_, fun q hq => ?_, fun q hq => ?_, htl⟩, ?_⟩
  ·by_cases e : q = f.pd8
   ·subst e
    refine ⟨_, h1, h2, by rw [hs, (ad7_wd _ _).1]; exact h3, fun r hr => ?_⟩
    rw [hs, ad7_mem] at hr
    rcases hr with hr | rfl
    ·exact ((h4 r hr).up f.pl).1
    ·exact hself.1
   ·obtain ⟨n, k1, k2, k3, k4⟩ := h.ar q hq
    rw [ho q e]
    exact ⟨n, k1, k2, k3, fun r hr => ((k4 r hr).up f.pl).1⟩
  ·by_cases e : q = f.pd8
   ·rw [e, hs]
    intro e0
    have := (ad7_mem (s f.pd8) (nm8 (ens8 T f.pl) f.pl) (nm8 (ens8 T f.pl) f.pl)).2 (Or.inr rfl)
    rw [e0] at this
    cases this
   ·rw [ho q e]; exact h.ne q hq
  ·by_cases e : q = f.pd8
   ·rw [e]; exact hok
   ·rw [ho q e]; exact h.ok q hq
  ·unfold aE8
   by_cases hm : nm8 (ens8 T f.pl) f.pl ∈ (s f.pd8).rows
   ·rw [if_pos (hmem.1 hm)]
    have e3 : s' f.pd8 = s f.pd8 := by rw [hs]; exact if_pos hm
    have : EL8 (ens8 T f.pl) K s' = EL8 T K s := fm_congr8 fun q hq => by
     by_cases e : q = f.pd8
     ·rw [<- hold q hq]; unfold ep8; rw [e, e3]
     ·exact hoth q hq e
    rw [this]
   ·rw [if_neg fun hc' => hm (hmem.2 hc')]
    have e3 : s' f.pd8 = Add7 (s f.pd8) (nm8 (ens8 T f.pl) f.pl) := by rw [hs]; exact if_neg hm
    refine fm_snoc8 hp h.nd ?_ hoth
    rw [<- hold _ hp]
    unfold ep8
    rw [e3]
    show ((s f.pd8).rows ++ [nm8 (ens8 T f.pl) f.pl]).zipIdx.map _ = _
    rw [List.zipIdx_append, List.map_append]
    congr 1
    have e4 : f.pd8.nm = f.name := rfl
    simp only [List.zipIdx_singleton, List.map_cons, List.map_nil, Nat.zero_add, e4, hself.2]
    congr 2
    unfold pi8 Add7
    have := (h.ok _ hp).a
    have := (h.ok _ hp).b
    simp only
    rw [if_neg (by omega), if_neg (by omega)]
 ·have e1 : ky8 K f.pd8 = K ++ [f.pd8] := if_neg hp
  have e2 : st8 K s f.pd8 f.args.length = New7 (1 + f.args.length) := if_neg hp
  rw [e2] at hs hmem hc
  have e3 : s' f.pd8 = Add7 (New7 (1 + f.args.length)) (nm8 (ens8 T f.pl) f.pl) := by rw [hs]; exact if_neg (by simp [New7])
  have hne : ∀ q ∈ K, q ≠ f.pd8 := fun q hq e => hp (e ▸ hq)
  have hok0 : (New7 (1 + f.args.length)).Ok := ⟨by simp [New7], (fun r hr => by cases hr), (fun r hr => by cases hr), Nat.le_refl _, Nat.le_refl _, by simp [New7], (fun h => absurd rfl h), by simp [New7]; omega⟩
  have hok : (s' f.pd8).Ok := by rw [hs]; exact ad7_ok hok0 hlen hw (by simp [New7]; omega) (by simp [New7])
  rw [e1]
  refine ⟨⟨List.nodup_append.2 ⟨h.nd, by simp, fun a ha b hb => by rw [List.mem_singleton] at hb; rw [hb]; exact hne a ha⟩, fun q hq => ?_, fun q hq => ?_, fun q hq => ?_, htl⟩, ?_⟩
  ·rcases List.mem_append.1 hq with hq | hq
   ·obtain ⟨n, k1, k2, k3, k4⟩ := h.ar q hq
    rw [ho q (hne q hq)]
    exact ⟨n, k1, k2, k3, fun r hr => ((k4 r hr).up f.pl).1⟩
   ·rw [List.mem_singleton] at hq
    subst hq
    refine ⟨f.args.length, rfl, hn, by rw [e3]; rfl, fun r hr => ?_⟩
    rw [e3] at hr
    have er : r = nm8 (ens8 T f.pl) f.pl := by simpa [Add7, New7] using hr
    rw [er]
    exact hself.1
  ·rcases List.mem_append.1 hq with hq | hq
   ·rw [ho q (hne q hq)]; exact h.ne q hq
   ·rw [List.mem_singleton] at hq
    subst hq
    rw [e3]
    simp [Add7, New7]
  ·rcases List.mem_append.1 hq with hq | hq
   ·rw [ho q (hne q hq)]; exact h.ok q hq
   ·rw [List.mem_singleton] at hq
    subst hq
    exact hok
  ·unfold aE8
   rw [if_neg fun hc' => by have := hmem.2 hc'; cases this]
   unfold EL8
   rw [List.flatMap_append, fm_congr8 fun q hq => hoth q hq (hne q hq)]
   refine List.Perm.append_left _ ?_
   rw [List.flatMap_singleton]
   unfold ep8
   rw [e3]
   have e4 : f.pd8.nm = f.name := rfl
   simp only [Add7, New7, List.nil_append, List.zipIdx_singleton, List.map_cons, List.map_nil, e4, hself.2]
   exact List.Perm.refl _
end
end Go.Proofs.YtechceagghcipabGreatDoor
namespace Go.Proofs.YtechceagghcipabGreatDoor
open Go.RowKit
theorem mt8_ok {a f : At} (h : mt8 a f = true) : shB a f = true /\ fixOk a.pl f.pl = true := by
 unfold mt8 mRes at h
 split at h
 ·rename_i hm
  unfold mOk at hm
  simp only [Bool.and_eq_true] at hm
  exact ⟨hm.1.1, hm.1.2⟩
 ·cases h
theorem shB_pd8 {a f : At} (h : shB a f = true) : a.pd8 = f.pd8 := by
 unfold shB at h
 simp only [Bool.and_eq_true, beq_iff_eq] at h
 unfold At.pd8
 rw [toList_inj h.1, h.2]
theorem fixOk_at {p q : List Tm} (h : fixOk p q = true) {i : Nat} {t u : Tm} (ht : p[i]? = some t) (hu : q[i]? = some u) (hv : t.var = false) : t = u := by
 unfold fixOk at h
 have := List.all_eq_true.1 h (t, u) (List.mem_of_getElem? (i := i) (List.getElem?_zip_eq_some.2 ⟨ht, hu⟩))
 simpa [hv] using this
theorem zip_fx (T L : List Tm) : (fxC L).zip (fxK T L) = (L.zipIdx.filter fun x => !x.1.var).map fun x => ((x.2 : Int), (((ix8 T x.1).getD 0 : Nat) : Int)) := by
 have e : fxK T L = (L.zipIdx.filter fun x => !x.1.var).map fun x => (((ix8 T x.1).getD 0 : Nat) : Int) := by
  unfold fxK
  have e1 : (L.zipIdx.filter fun x => !x.1.var).map Prod.fst = L.filter fun t => !t.var := by
   have e3 : (fun x : Tm × Nat => !x.1.var) = (fun t : Tm => !t.var) ∘ Prod.fst := rfl
   rw [e3, <- List.filter_map, List.zipIdx_map_fst]
  rw [<- e1, List.map_map]
  rfl
 rw [e]
 unfold fxC
 exact List.zip_map'
theorem fits_of {T : List Tm} {a f : At} (hm : mt8 a f = true) (hl : a.pl.length = f.pl.length) : fits8 (fxC a.pl) (fxK T a.pl) (nm8 T f.pl) = true := by
 have hfx := (mt8_ok hm).2
 unfold fits8
 have e1 : (fxC a.pl).length = (fxK T a.pl).length := by
  unfold fxC fxK
  rw [List.length_map, List.length_map]
  have e3 : (fun x : Tm × Nat => !x.1.var) = (fun t : Tm => !t.var) ∘ Prod.fst := rfl
  have : (a.pl.filter fun t => !t.var) = (a.pl.zipIdx.filter fun x => !x.1.var).map Prod.fst := by rw [e3, <- List.filter_map, List.zipIdx_map_fst]
  rw [this, List.length_map]
 rw [decide_eq_true e1, Bool.true_and, zip_fx, List.all_eq_true]
 intro p hp
 obtain ⟨⟨t, i⟩, hx, rfl⟩ := List.mem_map.1 hp
 obtain ⟨h1, h2⟩ := List.mem_filter.1 hx
 have h3 := List.mem_zipIdx_iff_getElem?.1 h1
 have hi := (List.getElem?_eq_some_iff.1 h3).1
 obtain ⟨u, hu⟩ : ∃ u, f.pl[i]? = some u := ⟨_, List.getElem?_eq_getElem (by omega)⟩
 have e := fixOk_at hfx h3 hu (by simpa using h2)
 subst e
 simp only [decide_eq_true_eq]
 refine ⟨by omega, by rw [nm8_len]; omega, ?_⟩
 rw [Int.toNat_natCast]
 unfold nm8
 rw [List.getElem?_map, hu]
 rfl
section
variable {T : List Tm} {K : List Pd} {s : Pd -> St7}
theorem find_perm (h : In8 T K s) (parts : Int) (a : At) : (fo8 T K s parts a).Perm (((EL8 T K s).filter fun x => hp7 parts x.2 && mt8 a x.1).map Prod.fst) := by
 have hno : ∀ p ∈ K, p ≠ a.pd8 -> ((ep8 T s p).filter fun x => hp7 parts x.2 && mt8 a x.1) = [] := fun p hp hne => by
  rw [List.filter_eq_nil_iff]
  intro x hx hc
  obtain ⟨i, r, hr, rfl⟩ := mem_ep8.1 hx
  obtain ⟨n, h1, -, -, h4⟩ := h.ar p hp
  simp only [Bool.and_eq_true] at hc
  have := shB_pd8 (mt8_ok hc.2).1
  rw [pd8_at (h4 r (List.mem_of_getElem? hr)) h1] at this
  exact hne this.symm
 unfold EL8
 rw [List.filter_flatMap]
 by_cases hp : a.pd8 ∈ K
 ·have e1 : (K.flatMap fun p => (ep8 T s p).filter fun x => hp7 parts x.2 && mt8 a x.1).Perm ((ep8 T s a.pd8).filter fun x => hp7 parts x.2 && mt8 a x.1) := by
   have := fm_snoc8 (f := fun _ => ([] : List (At × Int))) (g := fun p => (ep8 T s p).filter fun x => hp7 parts x.2 && mt8 a x.1) (d := (ep8 T s a.pd8).filter fun x => hp7 parts x.2 && mt8 a x.1) hp h.nd (by simp) (fun q hq hne => hno q hq hne)
   have e0 : (K.flatMap fun _ => ([] : List (At × Int))) = [] := by rw [List.flatMap_eq_nil_iff]; intros; rfl
   rw [e0, List.nil_append] at this
   exact this
  refine List.Perm.trans ?_ (e1.map Prod.fst).symm
  have ho := h.ok _ hp
  obtain ⟨n, h1, -, h3, h4⟩ := h.ar _ hp
  have enn : n = a.args.length := by have : a.pd8.ar = (a.args.length : Int) := rfl; omega
  subst enn
  rw [ep8_filter ho (mt8 a) parts]
  have hrl : ∀ r ∈ (s a.pd8).rows, a.pl.length = (at8 T a.pd8.nm r).pl.length /\ nm8 T (at8 T a.pd8.nm r).pl = r /\ kn8 T (at8 T a.pd8.nm r).pl = true := fun r hr => by
   obtain ⟨k1, k2, k3, k4⟩ := (h4 r hr).at
   refine ⟨?_, k4, k3⟩
   show a.args.length + 1 = (at8 T a.pd8.nm r).args.length + 1
   rw [k2]
  cases hb : fxB T a.pl with
  | true =>
   have e2 : fo8 T K s parts a = ((fnd8 (s a.pd8) parts (fxC a.pl) (fxK T a.pl)).map (at8 T a.name)).filter (mt8 a) := if_pos ⟨hp, hb⟩
   rw [e2, List.filter_map]
   have e3 : a.pd8.nm = a.name := rfl
   rw [e3]
   refine List.Perm.map _ ?_
   unfold fnd8
   rw [rsel_eq ho]
   unfold rsel7
   rw [List.filter_filter, List.filter_filter]
   refine List.Perm.trans (List.Perm.filter _ (srt7_perm _)) ?_
   apply List.Perm.of_eq
   apply List.filter_congr
   intro r hr
   obtain ⟨k1, k2, k3⟩ := hrl r hr
   simp only [Function.comp]
   cases hmm : mt8 a (at8 T a.name r) with
   | false => simp
   | true =>
    have := fits_of (T := T) hmm k1
    rw [show nm8 T (at8 T a.name r).pl = r from k2] at this
    simp [this]
  | false =>
   have e2 : fo8 T K s parts a = [] := if_neg fun hc => by rw [hb] at hc; cases hc.2
   rw [e2]
   have : ((s a.pd8).rows.filter fun r => hp7 parts (part7 (s a.pd8) r) && mt8 a (at8 T a.pd8.nm r)) = [] := by
    rw [List.filter_eq_nil_iff]
    intro r hr hc
    simp only [Bool.and_eq_true] at hc
    obtain ⟨k1, k2, k3⟩ := hrl r hr
    have hfx := (mt8_ok hc.2).2
    have hk := List.all_eq_true.1 k3
    unfold fxB at hb
    rw [List.all_eq_false] at hb
    obtain ⟨t, ht, hv⟩ := hb
    simp only [Bool.or_eq_true, not_or, Bool.not_eq_true] at hv
    obtain ⟨i, hi⟩ := List.getElem?_of_mem ht
    obtain ⟨u, hu⟩ : ∃ u, (at8 T a.pd8.nm r).pl[i]? = some u := ⟨_, List.getElem?_eq_getElem (by have := (List.getElem?_eq_some_iff.1 hi).1; omega)⟩
    have e := fixOk_at hfx hi hu hv.1
    subst e
    have := hk t (List.mem_of_getElem? hu)
    rw [hv.2] at this
    cases this
   rw [this]
   exact List.Perm.refl _
 ·have e2 : fo8 T K s parts a = [] := if_neg fun hc => hp hc.1
  have e1 : (K.flatMap fun p => (ep8 T s p).filter fun x => hp7 parts x.2 && mt8 a x.1) = [] := by
   rw [List.flatMap_eq_nil_iff]
   exact fun p hq => hno p hq fun e => hp (e ▸ hq)
  rw [e2, e1]
  exact List.Perm.refl _
theorem preds_mem (h : In8 T K s) (p : Pd) : p ∈ K ↔ ∃ x ∈ EL8 T K s, x.1.pd8 = p := by
 constructor
 ·intro hp
  obtain ⟨n, h1, -, -, h4⟩ := h.ar p hp
  cases hr : (s p).rows with
  | nil => exact absurd hr (h.ne p hp)
  | cons r l =>
   have h0 : (s p).rows[0]? = some r := by rw [hr]; rfl
   exact ⟨(at8 T p.nm r, pi8 (s p) 0), List.mem_flatMap.2 ⟨p, hp, mem_ep8.2 ⟨0, r, h0, rfl⟩⟩, pd8_at (h4 r (List.mem_of_getElem? h0)) h1⟩
 ·rintro ⟨x, hx, rfl⟩
  obtain ⟨p, hp, hy⟩ := List.mem_flatMap.1 hx
  obtain ⟨i, r, hr, rfl⟩ := mem_ep8.1 hy
  obtain ⟨n, h1, -, -, h4⟩ := h.ar p hp
  rw [pd8_at (h4 r (List.mem_of_getElem? hr)) h1]
  exact hp
theorem K_len (h : In8 T K s) : K.length <= (EL8 T K s).length := by
 have : ∀ L : List Pd, (∀ p ∈ L, p ∈ K) -> L.length <= (L.flatMap (ep8 T s)).length := fun L => by
  induction L with
  | nil => intro _; simp
  | cons p L ih =>
   intro hL
   have h1 := ih fun q hq => hL q (by simp [hq])
   have h2 : (ep8 T s p).length = (s p).rows.length := by unfold ep8; simp
   have h3 := h.ne p (hL p (by simp))
   have h4 : 0 < (s p).rows.length := List.length_pos_iff.2 h3
   rw [List.flatMap_cons, List.length_append, List.length_cons]
   omega
 exact this K fun _ h => h
theorem rows_len (h : In8 T K s) {p : Pd} (hp : p ∈ K) : (s p).rows.length <= (EL8 T K s).length := by
 obtain ⟨a, b, rfl⟩ := List.append_of_mem hp
 unfold EL8
 have h2 : (ep8 T s p).length = (s p).rows.length := by unfold ep8; simp
 rw [List.flatMap_append, List.flatMap_cons, List.length_append, List.length_append]
 omega
end
end Go.Proofs.YtechceagghcipabGreatDoor
