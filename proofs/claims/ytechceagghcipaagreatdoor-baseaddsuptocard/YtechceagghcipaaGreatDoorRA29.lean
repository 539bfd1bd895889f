import Derived.Test.YtechceagghcipaaGreatDoorRA27
namespace Go.Proofs.YtechceagghcipaaGreatDoor
open Go.RowKit
attribute [local go_sem ↓] Go.wp_at_zero Go.wp_at_succ

theorem low7 {w wr w' : World} {F : Nat -> Prop} (h3 : Below w.heap.size w wr) (h : Fr F wr w') (hd : ∀ b, F b -> w.heap.size <= b) : Below w.heap.size w w' := h3.trans ((h.mono (Q := fun b => w.heap.size <= b) fun b _ hF => hd b hF).low h3.size)
end Go.Proofs.YtechceagghcipaaGreatDoor
