import Derived.Test.YtechceagghcipaaGreatDoorEG5
namespace Go.Proofs.YtechceagghcipaaGreatDoor
open Go.RowKit

section
variable {w0 : World} {g h m n : Nat} {X A B : Nat -> Prop} {E F : List (At × Int)} {Y Y' : World}
section
variable {tb : Nat}
end
end
theorem srt8P_eq {P Q : List Pd} (h1 : srt8P P) (h2 : srt8P Q) (n1 : P.Nodup) (n2 : Q.Nodup) (hm : ∀ p, p ∈ P ↔ p ∈ Q) : P = Q :=
 List.Perm.eq_of_pairwise (le := fun a b : Pd => cmpP a b <= 0) (fun x y _ _ h1 h2 => ord_pd.zero x y (by have := ord_pd.neg x y; omega)) h1 h2 ((List.perm_ext_iff_of_nodup n1 n2).2 hm)
theorem AL8.as {V : World} {base : Nat} {fv : Value} {Q : List (At × Nat)} (h : AL8 V base fv Q) (hl : Q.length <= 1000000000) : As V fv (Q.map enc8) := by
 refine h.o.a.as (by rw [List.length_map]; omega) fun x hx => ?_
 obtain ⟨y, hy, rfl⟩ := List.mem_map.1 hx
 obtain ⟨k1, -, k3⟩ := h.t y hy
 exact TBlk.ts rfl (by omega) k1
end Go.Proofs.YtechceagghcipaaGreatDoor
