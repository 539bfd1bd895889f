import Derived.Test.YtechceagghcipaaGreatDoorEG6
namespace Go.Proofs.YtechceagghcipaaGreatDoor
open Go.RowKit
attribute [local go_sem ↓] Go.wp_at_zero Go.wp_at_succ

theorem As.get8 {w : World} {la : Option Addr} {l : List (At × Value)} {n cap k : Nat} {x : At × Value} (h : As w (.slice la n cap) l) (hx : l[k]? = some x) :
  ∃ lb lo xa xc, la = some ⟨lb, lo, none⟩ /\ x.2 = .slice xa x.1.args.length xc /\ ∀ Y : World, Below w.heap.size w Y -> Y.cell? ⟨lb, lo + k * 5, none⟩ = some (.int .i64 x.1.by_.k) /\ Y.cell? ⟨lb, lo + k * 5 + 1, none⟩ = some (.int .i64 x.1.by_.n) /\ Y.cell? ⟨lb, lo + k * 5 + 2, none⟩ = some (.string x.1.by_.s) /\ Y.cell? ⟨lb, lo + k * 5 + 3, none⟩ = some (.string x.1.name) /\ Y.cell? ⟨lb, lo + k * 5 + 4, none⟩ = some x.2 := by
 obtain ⟨a, c, e, -, hr, ht⟩ := h
 cases e
 rcases hr with hr | ⟨lb, lo, rfl, hlr⟩
 ·rw [hr] at hx; simp at hx
 obtain ⟨a0, a1, a2, a3, a4⟩ := (hlr.2 k x hx)
 obtain ⟨xa, xc, hsh, -⟩ := ht x (List.mem_of_getElem? hx)
 exact ⟨lb, lo, xa, xc, rfl, hsh, fun Y hY => ⟨cell_step hY hlr.1 a0, cell_step hY hlr.1 a1, cell_step hY hlr.1 a2, cell_step hY hlr.1 a3, cell_step hY hlr.1 a4⟩⟩
end Go.Proofs.YtechceagghcipaaGreatDoor
