import Derived.Test.YtechceagghcipaaGreatDoorEH2
namespace Go.Proofs.YtechceagghcipaaGreatDoor
open Go.RowKit

abbrev It8 := (At × Value) × Int
def icell (x : It8) : List Value := acell x.1 ++ [.int .i64 x.2]
def ic6 (l : List It8) : List Value := l.flatMap icell
theorem ic6_len (l : List It8) : (ic6 l).length = l.length * 6 := by
 induction l with
 | nil => rfl
 | cons d l ih => simp only [ic6, List.flatMap_cons, List.length_append, List.length_cons] at *; rw [ih]; simp [icell, acell]; omega
theorem ic6_app (l m : List It8) : ic6 (l ++ m) = ic6 l ++ ic6 m := by simp [ic6]
theorem ic6_get (l : List It8) (j : Nat) (d : It8) (h : l[j]? = some d) (i : Nat) (hi : i < 6) : (ic6 l)[j * 6 + i]? = (icell d)[i]? := by
 induction l generalizing j with
 | nil => simp at h
 | cons e l ih =>
  rw [ic6, List.flatMap_cons]
  cases j with
  | zero =>
   simp only [List.getElem?_cons_zero, Option.some.injEq] at h
   subst h
   rw [List.getElem?_append_left (by simp [icell, acell]; omega)]
   simp
  | succ j =>
   simp only [List.getElem?_cons_succ] at h
   rw [List.getElem?_append_right (by simp [icell, acell]; omega)]
   have e1 : (j + 1) * 6 + i - (icell e).length = j * 6 + i := by simp [icell, acell]; omega
   rw [e1]
   exact ih j h
theorem ic6_set : ∀ (l : List It8) (j : Nat) (x : It8) (q : Int), l[j]? = some x -> ic6 (l.set j (x.1, q)) = (ic6 l).set (j * 6 + 5) (.int .i64 q)
 | a :: l, 0, x, q, h => by simp at h; subst h; simp [ic6, icell, acell]
 | a :: l, j + 1, x, q, h => by
  rw [List.getElem?_cons_succ] at h
  have ih := ic6_set l j x q h
  have e : ∀ m : List It8, ic6 (a :: m) = icell a ++ ic6 m := fun m => by simp [ic6]
  have hc : (icell a).length = 6 := rfl
  rw [List.set_cons_succ, e, e, ih, List.set_append_right _ _ (by omega), hc]
  rw [show (j + 1) * 6 + 5 - 6 = j * 6 + 5 by omega]
end Go.Proofs.YtechceagghcipaaGreatDoor
