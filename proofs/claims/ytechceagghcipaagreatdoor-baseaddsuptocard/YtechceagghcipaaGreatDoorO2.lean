import Derived.Test.YtechceagghcipaaGreatDoorB7
namespace Go.Proofs.YtechceagghcipaaGreatDoor
open Go.RowKit
attribute [local go_sem ↓] Go.wp_at_zero Go.wp_at_succ

theorem drop_eq_step (a b : List Tm) (i : Nat) (t u : Tm) (ht : a[i]? = some t) (hu : b[i]? = some u) : (a.drop i = b.drop i) ↔ (t = u /\ a.drop (i + 1) = b.drop (i + 1)) := by
 obtain ⟨h1, rfl⟩ := List.getElem?_eq_some_iff.1 ht
 obtain ⟨h2, rfl⟩ := List.getElem?_eq_some_iff.1 hu
 rw [List.drop_eq_getElem_cons h1, List.drop_eq_getElem_cons h2, List.cons.injEq]
instance : DecidableEq At := fun a b => decidable_of_iff (a.by_ = b.by_ /\ a.name = b.name /\ a.args = b.args) (by cases a; cases b; simp)
end Go.Proofs.YtechceagghcipaaGreatDoor
