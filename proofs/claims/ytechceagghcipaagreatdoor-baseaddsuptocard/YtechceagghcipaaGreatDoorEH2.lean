import Derived.Test.YtechceagghcipaaGreatDoorEH1
namespace Go.Proofs.YtechceagghcipaaGreatDoor
open Go.RowKit
attribute [local go_sem ↓] Go.wp_at_zero Go.wp_at_succ

def IRow (w : World) (b o : Nat) (l : List ((At × Value) × Int)) : Prop :=
 b < w.heap.size /\ ∀ (i : Nat) x, l[i]? = some x -> (w.cell? ⟨b, o + i * 6, none⟩ = some (.int .i64 x.1.1.by_.k) /\ w.cell? ⟨b, o + i * 6 + 1, none⟩ = some (.int .i64 x.1.1.by_.n) /\ w.cell? ⟨b, o + i * 6 + 2, none⟩ = some (.string x.1.1.by_.s) /\ w.cell? ⟨b, o + i * 6 + 3, none⟩ = some (.string x.1.1.name) /\ w.cell? ⟨b, o + i * 6 + 4, none⟩ = some x.1.2) /\ w.cell? ⟨b, o + i * 6 + 5, none⟩ = some (.int .i64 x.2)
def Is8 (w : World) (v : Value) (l : List ((At × Value) × Int)) : Prop :=
 ∃ a cap, v = .slice a l.length cap /\ (l = [] ∨ ∃ b o, a = some ⟨b, o, none⟩ /\ IRow w b o l) /\ ∀ x ∈ l, Ts w x.1.2 x.1.1.args
theorem Is8.get {w : World} {la : Option Addr} {l : List ((At × Value) × Int)} {n cap k : Nat} {x : (At × Value) × Int} (h : Is8 w (.slice la n cap) l) (hx : l[k]? = some x) :
  ∃ lb lo xa xc, la = some ⟨lb, lo, none⟩ /\ x.1.2 = .slice xa x.1.1.args.length xc /\ ∀ Y : World, Below w.heap.size w Y -> (Y.cell? ⟨lb, lo + k * 6, none⟩ = some (.int .i64 x.1.1.by_.k) /\ Y.cell? ⟨lb, lo + k * 6 + 1, none⟩ = some (.int .i64 x.1.1.by_.n) /\ Y.cell? ⟨lb, lo + k * 6 + 2, none⟩ = some (.string x.1.1.by_.s) /\ Y.cell? ⟨lb, lo + k * 6 + 3, none⟩ = some (.string x.1.1.name) /\ Y.cell? ⟨lb, lo + k * 6 + 4, none⟩ = some x.1.2) /\ Y.cell? ⟨lb, lo + k * 6 + 5, none⟩ = some (.int .i64 x.2) := by
 obtain ⟨a, c, e, hr, ht⟩ := h
 cases e
 rcases hr with hr | ⟨lb, lo, rfl, hlr⟩
 ·rw [hr] at hx; simp at hx
 obtain ⟨⟨a0, a1, a2, a3, a4⟩, a5⟩ := (hlr.2 k x hx)
 obtain ⟨xa, xc, hsh, -⟩ := ht x (List.mem_of_getElem? hx)
 exact ⟨lb, lo, xa, xc, rfl, hsh, fun Y hY => ⟨⟨cell_step hY hlr.1 a0, cell_step hY hlr.1 a1, cell_step hY hlr.1 a2, cell_step hY hlr.1 a3, cell_step hY hlr.1 a4⟩, cell_step hY hlr.1 a5⟩⟩
end Go.Proofs.YtechceagghcipaaGreatDoor
