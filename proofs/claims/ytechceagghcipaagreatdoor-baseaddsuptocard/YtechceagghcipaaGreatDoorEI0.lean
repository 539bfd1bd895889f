import Derived.Test.YtechceagghcipaaGreatDoorEH6
namespace Go.Proofs.YtechceagghcipaaGreatDoor
open Go.RowKit

def pc8 (l : List It8) (parts : Int) (k : Nat) : Nat := ((Ei (l.take k)).filter fun x => hp7 parts x.2).length
theorem pc8_step {l : List It8} {parts : Int} {k : Nat} {x : It8} (h : l[k]? = some x) : pc8 l parts (k + 1) = pc8 l parts k + if hp7 parts x.2 = true then 1 else 0 := by
 unfold pc8
 rw [List.take_add_one, h, Ei_app, List.filter_append, List.length_append]
 congr 1
 by_cases hp : hp7 parts x.2 = true
 ·simp [Ei, hp]
 ·have : hp7 parts x.2 = false := by simpa using hp
  simp [Ei, this]
theorem Ei_mem {l : List It8} {k : Nat} {x : It8} (h : l[k]? = some x) : (x.1.1, x.2) ∈ Ei l := List.mem_map.2 ⟨x, List.mem_of_getElem? h, rfl⟩
instance decPd8 : DecidableEq Pd := fun p q => decidable_of_iff (p.nm = q.nm /\ p.ar = q.ar) ⟨fun h => Pd.ext' h.1 h.2, fun h => by subst h; exact ⟨rfl, rfl⟩⟩
theorem nodup_len8 {α : Type} [DecidableEq α] : ∀ (l m : List α), l.Nodup -> (∀ u ∈ l, u ∈ m) -> l.length <= m.length := by
 intro l
 induction l with
 | nil => intro m _ _; exact Nat.zero_le _
 | cons a l ih =>
  intro m h hs
  rw [List.nodup_cons] at h
  have hm : a ∈ m := hs a List.mem_cons_self
  have := ih (m.erase a) h.2 fun u hu => (List.mem_erase_of_ne (a := u) (b := a) (fun e => h.1 (by rw [<- e]; exact hu))).2 (hs u (List.mem_cons_of_mem _ hu))
  rw [List.length_erase_of_mem hm] at this
  have := List.length_pos_of_mem hm
  rw [List.length_cons]
  omega
end Go.Proofs.YtechceagghcipaaGreatDoor
