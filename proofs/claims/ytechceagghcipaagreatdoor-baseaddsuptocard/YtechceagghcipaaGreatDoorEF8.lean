import Derived.Test.YtechceagghcipaaGreatDoorEF7
import Derived.Test.YtechceagghcipaaGreatDoorRA31
namespace Go.Proofs.YtechceagghcipaaGreatDoor
open Go.RowKit

def pi8 (s : St7) (i : Nat) : Int := if i < s.nf then 1 else if i < s.xf then 2 else 4
def ep8 (T : List Tm) (s : Pd -> St7) (p : Pd) : List (At × Int) := (s p).rows.zipIdx.map fun x => (at8 T p.nm x.1, pi8 (s p) x.2)
def EL8 (T : List Tm) (K : List Pd) (s : Pd -> St7) : List (At × Int) := K.flatMap (ep8 T s)
structure In8 (T : List Tm) (K : List Pd) (s : Pd -> St7) : Prop where
 nd : K.Nodup
 ar : ∀ p ∈ K, ∃ n : Nat, p.ar = (n : Int) /\ n <= 100000000 /\ (s p).wd = 1 + n /\ ∀ r ∈ (s p).rows, RowOf T p.nm n r
 ne : ∀ p ∈ K, (s p).rows ≠ []
 ok : ∀ p ∈ K, (s p).Ok
 t : T.length <= 1000000000
section
variable {T : List Tm} {K : List Pd} {s : Pd -> St7}
theorem pd8_at {p : Pd} {n : Nat} {r : List Int} (h : RowOf T p.nm n r) (hp : p.ar = (n : Int)) : (at8 T p.nm r).pd8 = p := by
 obtain ⟨h1, h2, -⟩ := h.at
 unfold At.pd8
 rw [h1, h2, <- hp]
theorem mem_ep8 {p : Pd} {x : At × Int} : x ∈ ep8 T s p ↔ ∃ i r, (s p).rows[i]? = some r /\ x = (at8 T p.nm r, pi8 (s p) i) := by
 unfold ep8
 rw [List.mem_map]
 constructor
 ·rintro ⟨⟨r, i⟩, h, rfl⟩
  exact ⟨i, r, List.mem_zipIdx_iff_getElem?.1 h, rfl⟩
 ·rintro ⟨i, r, h, rfl⟩
  exact ⟨(r, i), List.mem_zipIdx_iff_getElem?.2 h, rfl⟩
theorem ep8_fst (p : Pd) : (ep8 T s p).map Prod.fst = (s p).rows.map (at8 T p.nm) := by
 unfold ep8
 rw [List.map_map]
 have : (Prod.fst ∘ fun x : List Int × Nat => (at8 T p.nm x.1, pi8 (s p) x.2)) = at8 T p.nm ∘ Prod.fst := rfl
 rw [this, <- List.map_map, List.zipIdx_map_fst]
theorem pi8_pos (s : St7) (i : Nat) : pi8 s i ≠ 0 /\ (pi8 s i = 1 ∨ pi8 s i = 2 ∨ pi8 s i = 4) := by
 unfold pi8
 split
 ·simp
 ·split <;> simp
theorem EL8_pos {x : At × Int} (h : x ∈ EL8 T K s) : x.2 = 1 ∨ x.2 = 2 ∨ x.2 = 4 := by
 obtain ⟨p, -, hx⟩ := List.mem_flatMap.1 h
 obtain ⟨i, r, -, rfl⟩ := mem_ep8.1 hx
 exact (pi8_pos _ _).2
theorem bpt8_mem (h : In8 T K s) (f : At) (q : Int) : (f, q) ∈ EL8 T K s ↔ q ≠ 0 /\ bpt8 T K s f = q := by
 constructor
 ·intro hm
  obtain ⟨p, hp, hx⟩ := List.mem_flatMap.1 hm
  obtain ⟨i, r, hr, e⟩ := mem_ep8.1 hx
  obtain ⟨n, h1, -, -, h4⟩ := h.ar p hp
  have hrr := List.mem_of_getElem? hr
  cases e
  refine ⟨(pi8_pos _ _).1, ?_⟩
  have ep := pd8_at (h4 r hrr) h1
  unfold bpt8
  rw [ep, if_pos ⟨hp, (h4 r hrr).at.2.2.1⟩, (h4 r hrr).at.2.2.2, part7_at (h.ok p hp) hr]
  rfl
 ·rintro ⟨hq, hb⟩
  unfold bpt8 at hb
  split at hb
  ·rename_i hc
   obtain ⟨hp, hkn⟩ := hc
   obtain ⟨n, h1, -, -, h4⟩ := h.ar _ hp
   have ho := h.ok _ hp
   cases hx : txi (s f.pd8).rows (tx (nm8 T f.pl)) with
   | none =>
    unfold part7 at hb
    rw [hx] at hb
    exact absurd hb.symm hq
   | some i =>
    obtain ⟨r, hr, hrt⟩ := txi_some hx
    have er : r = nm8 T f.pl := tx_inj (ho.w r (List.mem_of_getElem? hr)) (nm8_w h.t _) hrt
    subst er
    rw [part7_at ho hr] at hb
    have ea : at8 T f.pd8.nm (nm8 T f.pl) = f := at8_nm hkn
    exact List.mem_flatMap.2 ⟨f.pd8, hp, mem_ep8.2 ⟨i, _, hr, by rw [ea, <- hb]; rfl⟩⟩
  ·exact absurd hb.symm hq
theorem fits8_nil (r : List Int) : fits8 [] [] r = true := by simp [fits8]
theorem fnd8_nil {s : St7} (ho : s.Ok) (parts : Int) : (fnd8 s parts [] []).Perm (s.rows.filter fun r => hp7 parts (part7 s r)) := by
 unfold fnd8
 rw [List.filter_eq_self.2 fun r _ => fits8_nil r, rsel_eq ho]
 unfold rsel7
 exact (srt7_perm _).filter _
theorem ep8_filter {p : Pd} (ho : (s p).Ok) (P : At -> Bool) (parts : Int) : ((ep8 T s p).filter fun x => hp7 parts x.2 && P x.1).map Prod.fst = ((s p).rows.filter fun r => hp7 parts (part7 (s p) r) && P (at8 T p.nm r)).map (at8 T p.nm) := by
 unfold ep8
 rw [List.filter_map, List.map_map]
 have e1 : ((s p).rows.zipIdx.filter ((fun x : At × Int => hp7 parts x.2 && P x.1) ∘ fun x : List Int × Nat => (at8 T p.nm x.1, pi8 (s p) x.2))) = (s p).rows.zipIdx.filter fun x => hp7 parts (part7 (s p) x.1) && P (at8 T p.nm x.1) := by
  apply List.filter_congr
  rintro ⟨r, i⟩ hx
  have := part7_at ho (List.mem_zipIdx_iff_getElem?.1 hx)
  simp only [Function.comp]
  rw [this]
  rfl
 have e2 : ((Prod.fst ∘ fun x : List Int × Nat => (at8 T p.nm x.1, pi8 (s p) x.2))) = at8 T p.nm ∘ Prod.fst := rfl
 rw [e1, e2, <- List.map_map]
 congr 1
 have e3 : (fun x : List Int × Nat => hp7 parts (part7 (s p) x.1) && P (at8 T p.nm x.1)) = (fun r => hp7 parts (part7 (s p) r) && P (at8 T p.nm r)) ∘ Prod.fst := rfl
 rw [e3, <- List.filter_map, List.zipIdx_map_fst]
theorem facts_perm (h : In8 T K s) (parts : Int) : (K.flatMap (fcp8 T s parts)).Perm (((EL8 T K s).filter fun x => hp7 parts x.2).map Prod.fst) := by
 unfold EL8
 rw [List.filter_flatMap, List.map_flatMap]
 have e : ∀ p ∈ K, (fcp8 T s parts p).Perm (((ep8 T s p).filter fun x => hp7 parts x.2).map Prod.fst) := fun p hp => by
  have := ep8_filter (T := T) (h.ok p hp) (fun _ => true) parts
  simp only [Bool.and_true] at this
  rw [this]
  exact (fnd8_nil (h.ok p hp) parts).map _
 clear h
 induction K with
 | nil => exact List.Perm.refl _
 | cons p K ih =>
  rw [List.flatMap_cons, List.flatMap_cons]
  exact (e p (by simp)).append (ih fun q hq => e q (by simp [hq]))
theorem len_sum (h : In8 T K s) (parts : Int) : sm8 (fun p => len7 (s p) parts) K = ((((EL8 T K s).filter fun x => hp7 parts x.2).length : Nat) : Int) := by
 have e := (facts_perm h parts).length_eq
 rw [List.length_map] at e
 rw [<- e]
 have ho := h.ok
 clear h e
 induction K with
 | nil => rfl
 | cons p K ih =>
  rw [sm8, List.flatMap_cons, List.length_append, ih fun q hq => ho q (by simp [hq]), rsel_len (ho p (by simp))]
  have : (fcp8 T s parts p).length = (rsel7 (s p) parts).length := by
   unfold fcp8
   rw [List.length_map]
   unfold fnd8
   rw [List.filter_eq_self.2 fun r _ => fits8_nil r, rsel_eq (ho p (by simp))]
  rw [this]
  omega
theorem fm_congr8 {α β : Type} {f g : α -> List β} : ∀ {K : List α}, (∀ p ∈ K, f p = g p) -> K.flatMap f = K.flatMap g
 | [], _ => rfl
 | p :: K, h => by rw [List.flatMap_cons, List.flatMap_cons, h p (by simp), fm_congr8 fun q hq => h q (by simp [hq])]
def tE8 (q : Int) : Int := if q = 4 then 2 else if q = 2 then 1 else q
theorem turn_EL8 (h : In8 T K s) : EL8 T K (tn8 K s) = (EL8 T K s).map fun x => (x.1, tE8 x.2) := by
 unfold EL8
 rw [List.map_flatMap]
 refine fm_congr8 fun p hp => ?_
 have e : tn8 K s p = Turn7 (s p) := if_pos hp
 unfold ep8
 rw [e, List.map_map]
 show (s p).rows.zipIdx.map _ = _
 apply List.map_congr_left
 rintro ⟨r, i⟩ hx
 have hi := (List.getElem?_eq_some_iff.1 (List.mem_zipIdx_iff_getElem?.1 hx)).1
 have ha := (h.ok p hp).a
 simp only [Function.comp]
 congr 1
 unfold pi8 Turn7 tE8
 simp only
 by_cases h1 : i < (s p).nf
 ·rw [if_pos (by omega : i < (s p).xf), if_pos h1]; simp
 ·rw [if_neg h1]
  by_cases h2 : i < (s p).xf
  ·rw [if_pos h2, if_pos h2]; simp
  ·rw [if_neg h2, if_neg h2, if_pos hi]; simp
theorem turn_In8 (h : In8 T K s) : In8 T K (tn8 K s) := by
 have e : ∀ p ∈ K, tn8 K s p = Turn7 (s p) := fun p hp => if_pos hp
 refine ⟨h.nd, fun p hp => ?_, fun p hp => ?_, fun p hp => ?_, h.t⟩
 ·rw [e p hp]; exact h.ar p hp
 ·rw [e p hp]; exact h.ne p hp
 ·rw [e p hp]; exact turn_ok7 (h.ok p hp)
end
end Go.Proofs.YtechceagghcipaaGreatDoor
