import Derived.Test.YtechceagghcipaaGreatDoorEG4
namespace Go.Proofs.YtechceagghcipaaGreatDoor
open Go.RowKit

def sz8 (E : List (At × Int)) : Nat := (E.map fun x => x.1.pl.length).sum
theorem sz8_perm {E F : List (At × Int)} (h : E.Perm F) : sz8 E = sz8 F := (h.map _).sum_nat
theorem sz8_add (E : List (At × Int)) (f : At) : sz8 (aE8 E f) = if f ∈ E.map Prod.fst then sz8 E else sz8 E + f.pl.length := by
 unfold aE8
 split
 ·rfl
 ·simp [sz8]
theorem sz8_len (E : List (At × Int)) : E.length <= sz8 E := by
 induction E with
 | nil => simp [sz8]
 | cons x E ih =>
  have : 1 <= x.1.pl.length := by simp [At.pl]
  simp only [sz8, List.map_cons, List.sum_cons, List.length_cons] at ih ⊢
  omega
theorem sz8_map (E : List (At × Int)) (k : Int -> Int) : sz8 (E.map fun x => (x.1, k x.2)) = sz8 E := by simp [sz8, Function.comp_def]
end Go.Proofs.YtechceagghcipaaGreatDoor
