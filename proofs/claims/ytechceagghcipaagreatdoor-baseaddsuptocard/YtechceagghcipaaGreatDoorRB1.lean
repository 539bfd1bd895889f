import Derived.Test.YtechceagghcipaaGreatDoorRB0
namespace Go.Proofs.YtechceagghcipaaGreatDoor
open Go.RowKit Go.Shelf

structure RZ (w : World) (X : Nat -> Prop) (g m : Nat) (s : St7) (F S : Nat -> Prop) (E : Nat) (W : World) (F' : Nat -> Prop) : Prop where
 r : RM W g F' S (m + 1) s
 d : ∀ b, F' b -> (F b ∨ w.heap.size + 2 <= b) /\ b < E
 f : Fr (fun b => F b ∨ X b) w W
 e : w.heap.size + 2 <= E
 z : E <= W.heap.size
section
variable {n : Nat}
end
theorem RM.up {w : World} {g : Nat} {F S : Nat -> Prop} {m m' : Nat} {s : St7} (h : RM w g F S m s) (hm : m <= m') : RM w g F S m' s := by
 obtain ⟨rv, rvs, mp, mx, nx, t, f, hn, h⟩ := h
 exact ⟨rv, rvs, mp, mx, nx, t, f, Nat.le_trans hn hm, h⟩
theorem nat7_of {wd : Nat} {l : List (Int × Int)} (h : ∀ p ∈ l, col7 wd p.1 = true) : nat7 (l.map fun p => p.1.toNat) = l.map Prod.fst := by
 unfold nat7
 rw [List.map_map]
 apply List.map_congr_left
 intro p hp
 have := h p hp
 rw [col7, decide_eq_true_eq] at this
 simp only [Function.comp]
 omega
theorem unq7_len {z l : List (Int × Int)} (h : unq7 z l) : l.length <= z.length := by
 obtain ⟨l', hp, -, rfl⟩ := h
 rw [<- hp.length_eq]
 unfold Go.Lib.compact Go.Lib.compactUpTo
 rw [List.length_map]
 exact Nat.le_trans (List.length_filter_le ..) (by simp)
section
variable {n : Nat}
def fnd8 (s : St7) (parts : Int) (cols keys : List Int) : List (List Int) := (srt7 (sel7 s parts [] [])).filter (fits8 cols keys)
theorem fnd8_mem {s : St7} {parts : Int} {cols keys : List Int} : ∀ x ∈ fnd8 s parts cols keys, x ∈ s.rows := fun x hx => sel_mem x ((srt7_perm _).mem_iff.1 (List.mem_filter.1 hx).1)
end
end Go.Proofs.YtechceagghcipaaGreatDoor
