import Derived.Test.YtechceagghcipaaGreatDoorB7
namespace Go.Proofs.YtechceagghcipaaGreatDoor
open Go.RowKit
attribute [local go_sem ↓] Go.wp_at_zero Go.wp_at_succ

def cmpL : List Tm -> List Tm -> Int
 | x :: xs, y :: ys => if x.cmp y ≠ 0 then x.cmp y else cmpL xs ys
 | _, _ => 0
def At.cmp (a b : At) : Int := if a.name.toList ≠ b.name.toList then M.sgL a.name.toList b.name.toList else if a.args.length ≠ b.args.length then M.sgI a.args.length b.args.length else cmpL a.pl b.pl
theorem cmpL_ne (p a : List Tm) (i : Nat) (t u : Tm) (ht : p[i]? = some t) (hu : a[i]? = some u) (h : ¬ t.cmp u = 0) : cmpL (p.drop i) (a.drop i) = t.cmp u := by
 obtain ⟨h1, rfl⟩ := List.getElem?_eq_some_iff.1 ht
 obtain ⟨h2, rfl⟩ := List.getElem?_eq_some_iff.1 hu
 rw [List.drop_eq_getElem_cons h1, List.drop_eq_getElem_cons h2, cmpL, if_pos h]
theorem cmpL_eq (p a : List Tm) (i : Nat) (t u : Tm) (ht : p[i]? = some t) (hu : a[i]? = some u) (h : t.cmp u = 0) : cmpL (p.drop i) (a.drop i) = cmpL (p.drop (i + 1)) (a.drop (i + 1)) := by
 obtain ⟨h1, rfl⟩ := List.getElem?_eq_some_iff.1 ht
 obtain ⟨h2, rfl⟩ := List.getElem?_eq_some_iff.1 hu
 rw [List.drop_eq_getElem_cons h1, List.drop_eq_getElem_cons h2, cmpL, if_neg (by simpa using h)]
end Go.Proofs.YtechceagghcipaaGreatDoor
