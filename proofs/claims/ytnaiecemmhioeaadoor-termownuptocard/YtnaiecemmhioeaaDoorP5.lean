/-
  The binding that the classes say: it makes the pairs one, and every binding that does goes through it.
-/
import Derived.Test.YtnaiecemmhioeaaDoorP4
import Derived.Test.YtnaiecemmhioeaaDoorP2
namespace Go.Proofs.YtnaiecemmhioeaaDoor
open Go.RowKit

theorem var_eta {t : Tm} (h : t.var = true) : t = ⟨3, t.n, ⟨#[]⟩⟩ := by
  obtain ⟨k, n, s⟩ := t
  simp only [Tm.var, decide_eq_true_eq] at h
  obtain ⟨rfl, -, rfl⟩ := h
  rfl
theorem bnd_mem {T : List Tm} {rt : Nat → Nat} {j : Nat} {d : Bd} : d ∈ bnd T rt j ↔ ∃ i t x, i < j ∧ T[i]? = some t ∧ T[rt i]? = some x ∧ t.var = true ∧ ¬ x = t ∧ d = ⟨t.n, x⟩ := by
  unfold bnd
  rw [List.mem_flatMap]
  constructor
  · rintro ⟨i, hi, hd⟩
    unfold bnd1 at hd
    cases h1 : T[i]? with
    | none => rw [h1] at hd; cases hd
    | some t =>
      cases h2 : T[rt i]? with
      | none => rw [h1, h2] at hd; cases hd
      | some x =>
        rw [h1, h2] at hd
        simp only at hd
        split at hd
        · rename_i hh
          exact ⟨i, t, x, List.mem_range.1 hi, h1, h2, hh.1, hh.2, List.mem_singleton.1 hd⟩
        · cases hd
  · rintro ⟨i, t, x, hi, h1, h2, h3, h4, rfl⟩
    refine ⟨i, List.mem_range.2 hi, ?_⟩
    unfold bnd1
    rw [h1, h2]
    simp only
    rw [if_pos ⟨h3, h4⟩]
    exact List.mem_singleton.2 rfl
theorem bnd_nd {T : List Tm} {rt : Nat → Nat} (hn : ∀ (i j : Nat) (t : Tm), T[i]? = some t → T[j]? = some t → i = j) (j : Nat) : nd (bnd T rt j) := by
  induction j with
  | zero => exact List.Pairwise.nil
  | succ j ih =>
    rw [bnd_succ]
    refine List.pairwise_append.2 ⟨ih, ?_, fun a ha b hb => ?_⟩
    · have := bnd1_len T rt j
      match h : bnd1 T rt j, this with
      | [], _ => exact List.Pairwise.nil
      | [d], _ => exact List.pairwise_singleton _ _
    · obtain ⟨i, t, x, hi, h1, h2, h3, h4, rfl⟩ := bnd_mem.1 ha
      have hb2 : b ∈ bnd T rt (j + 1) := by rw [bnd_succ]; exact List.mem_append_right _ hb
      have hb3 : ∃ u y, T[j]? = some u ∧ u.var = true ∧ b = ⟨u.n, y⟩ := by
        unfold bnd1 at hb
        cases e1 : T[j]? with
        | none => rw [e1] at hb; cases hb
        | some u =>
          cases e2 : T[rt j]? with
          | none => rw [e1, e2] at hb; cases hb
          | some y =>
            rw [e1, e2] at hb
            simp only at hb
            split at hb
            · rename_i hh
              exact ⟨u, y, rfl, hh.1, List.mem_singleton.1 hb⟩
            · cases hb
      obtain ⟨u, y, e1, e2, rfl⟩ := hb3
      intro e
      simp only at e
      have htu : t = u := by rw [var_eta h3, var_eta e2, e]
      subst htu
      have := hn i j t h1 e1
      omega
/-- What the classes make of a term. -/
theorem says_class {r : List (Tm × Tm)} {T : List Tm} {rt : Nat → Nat} {out : List Bd} (h : LJ r T rt) (hp : out.Perm (bnd T rt T.length)) :
    (∀ (i : Nat) (t : Tm), T[i]? = some t → T[rt i]? = some (become out t)) ∧ (∀ t : Tm, (∀ i : Nat, ¬ T[i]? = some t) → become out t = t) := by
  have hnd := bnd_nd (rt := rt) h.nd T.length
  have hlk : ∀ x, look out x = look (bnd T rt T.length) x := look_perm hnd hp
  refine ⟨fun i t hi => ?_, fun t ht => ?_⟩
  · have hil := (List.getElem?_eq_some_iff.1 hi).1
    have hrl := h.rng i hil
    obtain ⟨x, hx⟩ : ∃ x, T[rt i]? = some x := ⟨_, List.getElem?_eq_getElem hrl⟩
    rw [hx]
    congr 1
    cases hv : t.var with
    | false => rw [become_not _ _ hv]; exact ((h.canon i t x hi hx).1 hv).symm
    | true =>
      unfold become
      rw [if_pos hv, hlk]
      by_cases hxt : x = t
      · have : look (bnd T rt T.length) t.n = none := by
          cases e : look (bnd T rt T.length) t.n with
          | none => rfl
          | some q =>
            obtain ⟨i', t', x', -, h1, h2, h3, h4, h5⟩ := bnd_mem.1 (mem_look e)
            have hn : t.n = t'.n := congrArg Bd.x h5
            have htt : t' = t := by rw [var_eta h3, var_eta hv, hn]
            subst htt
            have := h.nd i' i _ h1 hi
            subst this
            rw [hx] at h2
            exact absurd (by rw [← Option.some.inj h2]; exact hxt) h4
        rw [this, hxt]; rfl
      · have hm : (⟨t.n, x⟩ : Bd) ∈ bnd T rt T.length := bnd_mem.2 ⟨i, t, x, hil, hi, hx, hv, hxt, rfl⟩
        rw [look_mem hnd hm]; rfl
  · cases hv : t.var with
    | false => exact become_not _ _ hv
    | true =>
      unfold become
      rw [if_pos hv, hlk]
      cases e : look (bnd T rt T.length) t.n with
      | none => rfl
      | some q =>
        obtain ⟨i', t', x', -, h1, h2, h3, h4, h5⟩ := bnd_mem.1 (mem_look e)
        have hn : t.n = t'.n := congrArg Bd.x h5
        have htt : t' = t := by rw [var_eta h3, var_eta hv, hn]
        subst htt
        exact absurd h1 (ht i')
theorem class_one {r : List (Tm × Tm)} {T : List Tm} {rt : Nat → Nat} {out : List Bd} (h : LJ r T rt) (hp : out.Perm (bnd T rt T.length)) : ∀ y ∈ r, become out y.1 = become out y.2 := by
  intro y hy
  obtain ⟨h1, -⟩ := says_class h hp
  rcases h.sound y hy with e | ⟨i, k, hi, hk, hr⟩
  · rw [e]
  · have a := h1 i _ hi
    have b := h1 k _ hk
    rw [hr, b] at a
    exact (Option.some.inj a).symm
theorem class_through {r : List (Tm × Tm)} {T : List Tm} {rt : Nat → Nat} {out : List Bd} (h : LJ r T rt) (hp : out.Perm (bnd T rt T.length)) (f : Tm → Tm) (hf : Makes f r) (t : Tm) : f (become out t) = f t := by
  obtain ⟨h1, h2⟩ := says_class h hp
  by_cases ht : ∃ i : Nat, T[i]? = some t
  · obtain ⟨i, hi⟩ := ht
    exact (h.comp f hf i t _ hi (h1 i t hi)).symm
  · rw [h2 t (fun i hi => ht ⟨i, hi⟩)]
/-- Two bindings of classes of the same pairs (one way round or the other) say the same. -/
theorem class_same {r r' : List (Tm × Tm)} {T T' : List Tm} {rt rt' : Nat → Nat} {out out' : List Bd} (h : LJ r T rt) (h' : LJ r' T' rt') (hp : out.Perm (bnd T rt T.length)) (hp' : out'.Perm (bnd T' rt' T'.length))
    (hrr : ∀ f, Makes f r ↔ Makes f r') (t : Tm) : become out t = become out' t := by
  have hm : Makes (become out) r := ⟨fun t ht => become_not _ _ ht, class_one h hp⟩
  have hm' : Makes (become out') r' := ⟨fun t ht => become_not _ _ ht, class_one h' hp'⟩
  have e1 : become out' (become out t) = become out' t := class_through h hp _ ((hrr _).2 hm') t
  have e2 : become out (become out' t) = become out t := class_through h' hp' _ ((hrr _).1 hm) t
  have can : ∀ {r : List (Tm × Tm)} {T : List Tm} {rt : Nat → Nat} {out : List Bd}, LJ r T rt → out.Perm (bnd T rt T.length) → ∀ w : Tm, (become out w).var = true → w.var = true ∧ (become out w).n ≤ w.n := fun {r T rt out} h hp w hw => by
    obtain ⟨h1, h2⟩ := says_class h hp
    by_cases ht : ∃ i : Nat, T[i]? = some w
    · obtain ⟨i, hi⟩ := ht
      exact (h.canon i w _ hi (h1 i w hi)).2 hw
    · have := h2 w (fun i hi => ht ⟨i, hi⟩)
      rw [this] at hw ⊢
      exact ⟨hw, Int.le_refl _⟩
  cases hv : (become out t).var with
  | false =>
    rw [become_not out' _ hv] at e1
    exact e1
  | true =>
    cases hv' : (become out' t).var with
    | false =>
      rw [become_not out _ hv'] at e2
      exact e2.symm
    | true =>
      have a := (can h hp (become out' t) (by rw [e2]; exact hv)).2
      have b := (can h' hp' (become out t) (by rw [e1]; exact hv')).2
      rw [e2] at a
      rw [e1] at b
      rw [var_eta hv, var_eta hv', Int.le_antisymm a b]
end Go.Proofs.YtnaiecemmhioeaaDoor
