import Derived.Test.YtechceagghcipaaGreatEH6
/-
  law 8: what is in order and has no fact twice rises.
-/
namespace Go.Proofs.YtechceagghcipaaGreat
open Go.RowKit

theorem srtC8_rises {Q : List (At × Nat)} (h : srtC8 Q) (hn : (Q.map Prod.fst).Nodup) : ∀ (i : Nat) x y, (Q.map enc8)[i]? = some x → (Q.map enc8)[i + 1]? = some y → x.1.cmp y.1 < 0 := fun i x y hx hy => by
  rw [List.getElem?_map] at hx hy
  obtain ⟨a, ha, rfl⟩ := Option.map_eq_some_iff.1 hx
  obtain ⟨b, hb, rfl⟩ := Option.map_eq_some_iff.1 hy
  obtain ⟨hi, rfl⟩ := List.getElem?_eq_some_iff.1 ha
  obtain ⟨hj, rfl⟩ := List.getElem?_eq_some_iff.1 hb
  have h1 := List.pairwise_iff_getElem.1 h i (i + 1) hi hj (by omega)
  have h2 : Q[i].1 ≠ Q[i + 1].1 := by
    rw [List.nodup_iff_pairwise_ne, List.pairwise_map] at hn
    exact List.pairwise_iff_getElem.1 hn i (i + 1) hi hj (by omega)
  have h3 : Q[i].1.cmp Q[i + 1].1 ≠ 0 := fun e => h2 (ord_at.zero _ _ e)
  show Q[i].1.cmp Q[i + 1].1 < 0
  omega
/-- What a call that gathers facts answers, seen as a list in memory that rises. -/
theorem AL8.rises {V : World} {base : Nat} {fv : Value} {Q : List (At × Nat)} (h : AL8 V base fv Q) (hs : srtC8 Q) (hn : (Q.map Prod.fst).Nodup) (hl : Q.length ≤ 1000000000) : Calls Tryz.prog 10 #[fv] V fun e Y' => e = .returned (.bool true) ∧ Below V.heap.size V Y' :=
  rises8_yes (Q.map enc8) fv V (h.as hl) (srtC8_rises hs hn) (by rw [List.length_map]; exact hl)
theorem filter_fst_nd {E : List (At × Int)} (h : (E.map Prod.fst).Nodup) (p : At × Int → Bool) : ((E.filter p).map Prod.fst).Nodup := by
  rw [List.nodup_iff_pairwise_ne, List.pairwise_map] at h ⊢
  exact h.filter p
/-- Where a fact of the items lies. -/
theorem pl8_get {l : List It8} {f : At} {q : Int} (h : (f, q) ∈ Ei l) (hn : ((Ei l).map Prod.fst).Nodup) : ∃ (i : Nat) (x : It8), l[i]? = some x ∧ x.1.1 = f ∧ x.2 = q ∧ pl8 l f = (i : Int) := by
  obtain ⟨x, hx, e⟩ := List.mem_map.1 (show (f, q) ∈ l.map fun x => (x.1.1, x.2) from h)
  obtain ⟨i, hi, rfl⟩ := List.getElem_of_mem hx
  simp only [Prod.mk.injEq] at e
  refine ⟨i, l[i], List.getElem?_eq_getElem hi, e.1, e.2, pl8_at (List.getElem?_eq_getElem hi) e.1 fun j hj y hy he => ?_⟩
  obtain ⟨hjl, rfl⟩ := List.getElem?_eq_some_iff.1 hy
  unfold Ei at hn
  rw [List.map_map, List.nodup_iff_pairwise_ne, List.pairwise_map] at hn
  exact List.pairwise_iff_getElem.1 hn j i hjl hi hj (he.trans e.1.symm)
end Go.Proofs.YtechceagghcipaaGreat
/-
  law 8: BaseParts: what is plain.
-/
namespace Go.Proofs.YtechceagghcipaaGreat
open Go.RowKit

/-- How many of the first k items lie in these parts. -/
def pc8 (l : List It8) (parts : Int) (k : Nat) : Nat := ((Ei (l.take k)).filter fun x => hp7 parts x.2).length
theorem pc8_step {l : List It8} {parts : Int} {k : Nat} {x : It8} (h : l[k]? = some x) : pc8 l parts (k + 1) = pc8 l parts k + if hp7 parts x.2 = true then 1 else 0 := by
  unfold pc8
  rw [List.take_add_one, h, Ei_app, List.filter_append, List.length_append]
  congr 1
  by_cases hp : hp7 parts x.2 = true
  · simp [Ei, hp]
  · have : hp7 parts x.2 = false := by simpa using hp
    simp [Ei, this]
theorem Ei_mem {l : List It8} {k : Nat} {x : It8} (h : l[k]? = some x) : (x.1.1, x.2) ∈ Ei l := List.mem_map.2 ⟨x, List.mem_of_getElem? h, rfl⟩
theorem sz8_mem {E : List (At × Int)} {x : At × Int} (h : x ∈ E) : x.1.pl.length ≤ sz8 E := by
  obtain ⟨s, t, rfl⟩ := List.append_of_mem h
  simp [sz8]
  omega
/-- Two predicates one behind the other. -/
theorem srt8P_next {P : List Pd} (h : srt8P P) (hn : P.Nodup) {i : Nat} {p q : Pd} (hp : P[i]? = some p) (hq : P[i + 1]? = some q) : (p.nm ≠ q.nm ∧ M.sgL p.nm.toList q.nm.toList = -1) ∨ (p.nm = q.nm ∧ p.ar < q.ar) := by
  obtain ⟨hi, rfl⟩ := List.getElem?_eq_some_iff.1 hp
  obtain ⟨hj, rfl⟩ := List.getElem?_eq_some_iff.1 hq
  have h1 := List.pairwise_iff_getElem.1 h i (i + 1) hi hj (by omega)
  have h2 : P[i] ≠ P[i + 1] := List.pairwise_iff_getElem.1 (List.nodup_iff_pairwise_ne.1 hn) i (i + 1) hi hj (by omega)
  have h3 : cmpP P[i] P[i + 1] ≠ 0 := fun e => h2 (ord_pd.zero _ _ e)
  have h4 := M.sgL_rng P[i].nm.toList P[i + 1].nm.toList
  by_cases hs : M.sgL P[i].nm.toList P[i + 1].nm.toList = 0
  · right
    simp only [cmpP, hs, ne_eq, not_true_eq_false, if_false] at h1 h3
    refine ⟨toList_inj ((M.sgL_zero _ _).1 hs), ?_⟩
    revert h1 h3
    unfold M.sgI
    repeat' split
    all_goals omega
  · left
    simp only [cmpP, if_pos hs] at h1 h3
    exact ⟨fun e => hs ((M.sgL_zero _ _).2 (by rw [e])), by omega⟩
instance decPd8 : DecidableEq Pd := fun p q => decidable_of_iff (p.nm = q.nm ∧ p.ar = q.ar) ⟨fun h => Pd.ext' h.1 h.2, fun h => by subst h; exact ⟨rfl, rfl⟩⟩
/-- Has one of the first k items this predicate? -/
def so8 (l : List It8) (k : Nat) (p : Pd) : Bool := (l.take k).any fun x => decide (x.1.1.pd8 = p)
theorem so8_step {l : List It8} {k : Nat} {p : Pd} {x : It8} (h : l[k]? = some x) : so8 l (k + 1) p = (so8 l k p || decide (x.1.1.pd8 = p)) := by
  unfold so8
  rw [List.take_add_one, h, List.any_append]
  simp
theorem so8_all {l : List It8} {p : Pd} (h : ∃ x ∈ Ei l, x.1.pd8 = p) : so8 l l.length p = true := by
  obtain ⟨y, hy, e⟩ := h
  obtain ⟨x, hx, rfl⟩ := List.mem_map.1 hy
  unfold so8
  rw [List.take_length, List.any_eq_true]
  exact ⟨x, hx, by simpa using e⟩
/-- Is this predicate one of the first k? -/
def th8 (P : List Pd) (k : Nat) (p : Pd) : Bool := (P.take k).any fun q => decide (p = q)
theorem th8_step {P : List Pd} {k : Nat} {p q : Pd} (h : P[k]? = some q) : th8 P (k + 1) p = (th8 P k p || decide (p = q)) := by
  unfold th8
  rw [List.take_add_one, h, List.any_append]
  simp
theorem th8_all {P : List Pd} {p : Pd} (h : p ∈ P) : th8 P P.length p = true := by
  unfold th8
  rw [List.take_length, List.any_eq_true]
  exact ⟨p, h, by simp⟩
theorem nodup_len8 {α : Type} [DecidableEq α] : ∀ (l m : List α), l.Nodup → (∀ u ∈ l, u ∈ m) → l.length ≤ m.length := by
  intro l
  induction l with
  | nil => intro m _ _; exact Nat.zero_le _
  | cons a l ih =>
    intro m h hs
    rw [List.nodup_cons] at h
    have hm : a ∈ m := hs a List.mem_cons_self
    have := ih (m.erase a) h.2 fun u hu => (List.mem_erase_of_ne (a := u) (b := a) (fun e => h.1 (by rw [← e]; exact hu))).2 (hs u (List.mem_cons_of_mem _ hu))
    rw [List.length_erase_of_mem hm] at this
    have := List.length_pos_of_mem hm
    rw [List.length_cons]
    omega
end Go.Proofs.YtechceagghcipaaGreat
