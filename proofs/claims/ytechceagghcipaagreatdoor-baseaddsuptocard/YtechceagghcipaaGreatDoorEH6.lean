import Derived.Test.YtechceagghcipaaGreatDoorEH4
import Derived.Test.YtechceagghcipaaGreatDoorEH5
namespace Go.Proofs.YtechceagghcipaaGreatDoor
open Go.RowKit
attribute [local go_sem ↓] Go.wp_at_zero Go.wp_at_succ

def Kd8 (l : List It8) : Prop := ∀ x ∈ l, (∀ t ∈ x.1.1.pl, KeyT t) /\ KeyP x.1.1.pd8
def zo8 (Os : List Op8) : Nat := (Os.map Op8.sz).sum
theorem zo8_take (P : List Op8) (j : Nat) (p) (h : P[j]? = some p) : zo8 (P.take (j + 1)) = zo8 (P.take j) + p.a.1.pl.length := by
 unfold zo8
 rw [List.take_add_one, h, List.map_append, List.sum_append]
 simp [Op8.sz]
theorem zo8_le (P : List Op8) (j : Nat) : zo8 (P.take j) <= zo8 P := by
 have : zo8 P = zo8 (P.take j) + zo8 (P.drop j) := by
  unfold zo8
  rw [<- List.sum_append, <- List.map_append, List.take_append_drop]
 omega
end Go.Proofs.YtechceagghcipaaGreatDoor
