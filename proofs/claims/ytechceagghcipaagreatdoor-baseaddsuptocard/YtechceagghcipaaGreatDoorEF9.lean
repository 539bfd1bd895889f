import Derived.Test.YtechceagghcipaaGreatDoorEF8
namespace Go.Proofs.YtechceagghcipaaGreatDoor
open Go.RowKit

theorem kn8_ens {T L : List Tm} (M : List Tm) (h : kn8 T L = true) : kn8 (ens8 T M) L = true /\ nm8 (ens8 T M) L = nm8 T L := by
 have h' := List.all_eq_true.1 h
 refine ⟨List.all_eq_true.2 fun t ht => ?_, ?_⟩
 ·obtain ⟨i, hi⟩ := Option.isSome_iff_exists.1 (h' t ht)
  rw [ens8_keep M T hi]
  rfl
 ·unfold nm8
  apply List.map_congr_left
  intro t ht
  obtain ⟨i, hi⟩ := Option.isSome_iff_exists.1 (h' t ht)
  rw [ens8_keep M T hi, hi]
theorem kn8_self (T L : List Tm) : kn8 (ens8 T L) L = true := List.all_eq_true.2 fun t ht => by
 obtain ⟨i, hi⟩ := ens8_mem L T t ht
 rw [hi]
 rfl
theorem RowOf.up {T : List Tm} {nm : ByteArray} {n : Nat} {r : List Int} (h : RowOf T nm n r) (M : List Tm) : RowOf (ens8 T M) nm n r /\ at8 (ens8 T M) nm r = at8 T nm r := by
 obtain ⟨a, rfl, rfl, h1, rfl⟩ := h
 obtain ⟨k1, k2⟩ := kn8_ens M h1
 refine ⟨⟨a, rfl, rfl, k1, k2.symm⟩, ?_⟩
 rw [at8_nm h1, <- k2, at8_nm k1]
theorem RowOf.self (T : List Tm) (f : At) : RowOf (ens8 T f.pl) f.name f.args.length (nm8 (ens8 T f.pl) f.pl) /\ at8 (ens8 T f.pl) f.name (nm8 (ens8 T f.pl) f.pl) = f := ⟨⟨f, rfl, rfl, kn8_self T f.pl, rfl⟩, at8_nm (kn8_self T f.pl)⟩
theorem fm_snoc8 {α β : Type} {f g : α -> List β} {p : α} {d : List β} {K : List α} (hp : p ∈ K) (hn : K.Nodup) (h1 : g p = f p ++ d) (h2 : ∀ q ∈ K, q ≠ p -> g q = f q) : (K.flatMap g).Perm (K.flatMap f ++ d) := by
 obtain ⟨a, b, rfl⟩ := List.append_of_mem hp
 rw [List.nodup_append] at hn
 obtain ⟨-, hb, hab⟩ := hn
 have hb' := List.nodup_cons.1 hb
 have ea : a.flatMap g = a.flatMap f := fm_congr8 fun q hq => h2 q (by simp [hq]) fun e => hab q hq p (by simp) e
 have eb : b.flatMap g = b.flatMap f := fm_congr8 fun q hq => h2 q (by simp [hq]) fun e => hb'.1 (e ▸ hq)
 rw [List.flatMap_append, List.flatMap_append, List.flatMap_cons, List.flatMap_cons, h1, ea, eb]
 simp only [List.append_assoc]
 exact (List.perm_append_comm.append_left _).append_left _
def aE8 (E : List (At × Int)) (f : At) : List (At × Int) := if f ∈ E.map Prod.fst then E else E ++ [(f, 4)]
section
variable {T : List Tm} {K : List Pd} {s s' : Pd -> St7}
theorem add_mem (h : In8 T K s) (f : At) : nm8 (ens8 T f.pl) f.pl ∈ (st8 K s f.pd8 f.args.length).rows ↔ f ∈ (EL8 T K s).map Prod.fst := by
 constructor
 ·intro hm
  by_cases hp : f.pd8 ∈ K
  ·have e : st8 K s f.pd8 f.args.length = s f.pd8 := if_pos hp
   rw [e] at hm
   obtain ⟨n, h1, -, -, h4⟩ := h.ar _ hp
   have hu := (h4 _ hm).up f.pl
   have e2 : at8 T f.pd8.nm (nm8 (ens8 T f.pl) f.pl) = f := by rw [<- hu.2]; exact (RowOf.self T f).2
   unfold EL8
   rw [List.map_flatMap]
   exact List.mem_flatMap.2 ⟨f.pd8, hp, by rw [ep8_fst]; exact List.mem_map.2 ⟨_, hm, e2⟩⟩
  ·have e : st8 K s f.pd8 f.args.length = New7 (1 + f.args.length) := if_neg hp
   rw [e] at hm
   cases hm
 ·intro hm
  unfold EL8 at hm
  rw [List.map_flatMap] at hm
  obtain ⟨p, hp, hx⟩ := List.mem_flatMap.1 hm
  rw [ep8_fst] at hx
  obtain ⟨r, hr, hf⟩ := List.mem_map.1 hx
  obtain ⟨n, h1, -, -, h4⟩ := h.ar p hp
  have epd := pd8_at (h4 r hr) h1
  rw [hf] at epd
  have e : st8 K s f.pd8 f.args.length = s f.pd8 := if_pos (by rw [epd]; exact hp)
  have hat := (h4 r hr).at
  rw [hf] at hat
  rw [e, epd, (kn8_ens f.pl hat.2.2.1).2, hat.2.2.2]
  exact hr
theorem add_EL8 (h : In8 T K s) (f : At) (hn : f.args.length <= 100000000) (ht : T.length + f.pl.length <= 1000000000) (hc : (st8 K s f.pd8 f.args.length).rows.length < 10000000000) (hs : s' f.pd8 = ad7 (st8 K s f.pd8 f.args.length) (nm8 (ens8 T f.pl) f.pl)) (ho : ∀ q, q ≠ f.pd8 -> s' q = s q) :
  In8 (ens8 T f.pl) (ky8 K f.pd8) s' /\ (EL8 (ens8 T f.pl) (ky8 K f.pd8) s').Perm (aE8 (EL8 T K s) f) := by
 have htl : (ens8 T f.pl).length <= 1000000000 := Nat.le_trans (ens8_len f.pl T) ht
 have hw := nm8_w htl f.pl
 have hlen : (nm8 (ens8 T f.pl) f.pl).length = 1 + f.args.length := by rw [nm8_len]; simp [At.pl]; omega
 have hold : ∀ q ∈ K, ep8 (ens8 T f.pl) s q = ep8 T s q := fun q hq => by
  obtain ⟨n, -, -, -, h4⟩ := h.ar q hq
  unfold ep8
  apply List.map_congr_left
  rintro ⟨r, i⟩ hx
  rw [((h4 r (List.mem_of_getElem? (List.mem_zipIdx_iff_getElem?.1 hx))).up f.pl).2]
 have hoth : ∀ q ∈ K, q ≠ f.pd8 -> ep8 (ens8 T f.pl) s' q = ep8 T s q := fun q hq hne => by rw [<- hold q hq]; unfold ep8; rw [ho q hne]
 have hself := RowOf.self T f
 have hmem := add_mem h f
 by_cases hp : f.pd8 ∈ K
 ·have e1 : ky8 K f.pd8 = K := if_pos hp
  have e2 : st8 K s f.pd8 f.args.length = s f.pd8 := if_pos hp
  rw [e2] at hs hmem hc
  obtain ⟨n, h1, h2, h3, h4⟩ := h.ar _ hp
  have enn : n = f.args.length := by have : f.pd8.ar = (f.args.length : Int) := rfl; omega
  subst enn
  have hwd : (nm8 (ens8 T f.pl) f.pl).length = (s f.pd8).wd := by rw [hlen, h3]
  have hok : (s' f.pd8).Ok := by rw [hs]; exact ad7_ok (h.ok _ hp) hwd hw (by omega) hc
  rw [e1]
  refine ⟨⟨h.nd, fun q hq => ?_, fun q hq => ?_, fun q hq => ?_, htl⟩, ?_⟩
  ·by_cases e : q = f.pd8
   ·subst e
    refine ⟨_, h1, h2, by rw [hs, (ad7_wd _ _).1]; exact h3, fun r hr => ?_⟩
    rw [hs, ad7_mem] at hr
    rcases hr with hr | rfl
    ·exact ((h4 r hr).up f.pl).1
    ·exact hself.1
   ·obtain ⟨n, k1, k2, k3, k4⟩ := h.ar q hq
    rw [ho q e]
    exact ⟨n, k1, k2, k3, fun r hr => ((k4 r hr).up f.pl).1⟩
  ·by_cases e : q = f.pd8
   ·rw [e, hs]
    intro e0
    have := (ad7_mem (s f.pd8) (nm8 (ens8 T f.pl) f.pl) (nm8 (ens8 T f.pl) f.pl)).2 (Or.inr rfl)
    rw [e0] at this
    cases this
   ·rw [ho q e]; exact h.ne q hq
  ·by_cases e : q = f.pd8
   ·rw [e]; exact hok
   ·rw [ho q e]; exact h.ok q hq
  ·unfold aE8
   by_cases hm : nm8 (ens8 T f.pl) f.pl ∈ (s f.pd8).rows
   ·rw [if_pos (hmem.1 hm)]
    have e3 : s' f.pd8 = s f.pd8 := by rw [hs]; exact if_pos hm
    have : EL8 (ens8 T f.pl) K s' = EL8 T K s := fm_congr8 fun q hq => by
     by_cases e : q = f.pd8
     ·rw [<- hold q hq]; unfold ep8; rw [e, e3]
     ·exact hoth q hq e
    rw [this]
   ·rw [if_neg fun hc' => hm (hmem.2 hc')]
    have e3 : s' f.pd8 = Add7 (s f.pd8) (nm8 (ens8 T f.pl) f.pl) := by rw [hs]; exact if_neg hm
    refine fm_snoc8 hp h.nd ?_ hoth
    rw [<- hold _ hp]
    unfold ep8
    rw [e3]
    show ((s f.pd8).rows ++ [nm8 (ens8 T f.pl) f.pl]).zipIdx.map _ = _
    rw [List.zipIdx_append, List.map_append]
    congr 1
    have e4 : f.pd8.nm = f.name := rfl
    simp only [List.zipIdx_singleton, List.map_cons, List.map_nil, Nat.zero_add, e4, hself.2]
    congr 2
    unfold pi8 Add7
    have := (h.ok _ hp).a
    have := (h.ok _ hp).b
    simp only
    rw [if_neg (by omega), if_neg (by omega)]
 ·have e1 : ky8 K f.pd8 = K ++ [f.pd8] := if_neg hp
  have e2 : st8 K s f.pd8 f.args.length = New7 (1 + f.args.length) := if_neg hp
  rw [e2] at hs hmem hc
  have e3 : s' f.pd8 = Add7 (New7 (1 + f.args.length)) (nm8 (ens8 T f.pl) f.pl) := by rw [hs]; exact if_neg (by simp [New7])
  have hne : ∀ q ∈ K, q ≠ f.pd8 := fun q hq e => hp (e ▸ hq)
  have hok0 : (New7 (1 + f.args.length)).Ok := ⟨by simp [New7], (fun r hr => by cases hr), (fun r hr => by cases hr), Nat.le_refl _, Nat.le_refl _, by simp [New7], (fun h => absurd rfl h), by simp [New7]; omega⟩
  have hok : (s' f.pd8).Ok := by rw [hs]; exact ad7_ok hok0 hlen hw (by simp [New7]; omega) (by simp [New7])
  rw [e1]
  refine ⟨⟨List.nodup_append.2 ⟨h.nd, by simp, fun a ha b hb => by rw [List.mem_singleton] at hb; rw [hb]; exact hne a ha⟩, fun q hq => ?_, fun q hq => ?_, fun q hq => ?_, htl⟩, ?_⟩
  ·rcases List.mem_append.1 hq with hq | hq
   ·obtain ⟨n, k1, k2, k3, k4⟩ := h.ar q hq
    rw [ho q (hne q hq)]
    exact ⟨n, k1, k2, k3, fun r hr => ((k4 r hr).up f.pl).1⟩
   ·rw [List.mem_singleton] at hq
    subst hq
    refine ⟨f.args.length, rfl, hn, by rw [e3]; rfl, fun r hr => ?_⟩
    rw [e3] at hr
    have er : r = nm8 (ens8 T f.pl) f.pl := by simpa [Add7, New7] using hr
    rw [er]
    exact hself.1
  ·rcases List.mem_append.1 hq with hq | hq
   ·rw [ho q (hne q hq)]; exact h.ne q hq
   ·rw [List.mem_singleton] at hq
    subst hq
    rw [e3]
    simp [Add7, New7]
  ·rcases List.mem_append.1 hq with hq | hq
   ·rw [ho q (hne q hq)]; exact h.ok q hq
   ·rw [List.mem_singleton] at hq
    subst hq
    exact hok
  ·unfold aE8
   rw [if_neg fun hc' => by have := hmem.2 hc'; cases this]
   unfold EL8
   rw [List.flatMap_append, fm_congr8 fun q hq => hoth q hq (hne q hq)]
   refine List.Perm.append_left _ ?_
   rw [List.flatMap_singleton]
   unfold ep8
   rw [e3]
   have e4 : f.pd8.nm = f.name := rfl
   simp only [Add7, New7, List.nil_append, List.zipIdx_singleton, List.map_cons, List.map_nil, e4, hself.2]
   exact List.Perm.refl _
end
end Go.Proofs.YtechceagghcipaaGreatDoor
