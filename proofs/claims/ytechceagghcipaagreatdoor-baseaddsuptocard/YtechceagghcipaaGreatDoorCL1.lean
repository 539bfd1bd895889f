import Derived.Test.YtechceagghcipaaGreatDoorD1
namespace Go.Proofs.YtechceagghcipaaGreatDoor
open Go.RowKit

def ARow (w : World) (b o : Nat) (l : List (At × Value)) : Prop :=
 b < w.heap.size /\ ∀ i x, l[i]? = some x -> w.cell? ⟨b, o + i * 5, none⟩ = some (.int .i64 x.1.by_.k) /\ w.cell? ⟨b, o + i * 5 + 1, none⟩ = some (.int .i64 x.1.by_.n) /\ w.cell? ⟨b, o + i * 5 + 2, none⟩ = some (.string x.1.by_.s) ∧
  w.cell? ⟨b, o + i * 5 + 3, none⟩ = some (.string x.1.name) /\ w.cell? ⟨b, o + i * 5 + 4, none⟩ = some x.2
def As (w : World) (v : Value) (l : List (At × Value)) : Prop :=
 ∃ a cap, v = .slice a l.length cap /\ l.length < 1000000000000000000 /\ (l = [] ∨ ∃ b o, a = some ⟨b, o, none⟩ /\ ARow w b o l) /\ ∀ x ∈ l, Ts w x.2 x.1.args
def ERow (w : World) (b o : Nat) (l : List Te) : Prop :=
 b < w.heap.size /\ ∀ i (t : Te), l[i]? = some t -> w.cell? ⟨b, o + i * 7, none⟩ = some (.int .i64 t.op) /\ w.cell? ⟨b, o + i * 7 + 1, none⟩ = some (.int .i64 t.l.k) /\ w.cell? ⟨b, o + i * 7 + 2, none⟩ = some (.int .i64 t.l.n) /\ w.cell? ⟨b, o + i * 7 + 3, none⟩ = some (.string t.l.s) ∧
  w.cell? ⟨b, o + i * 7 + 4, none⟩ = some (.int .i64 t.r.k) /\ w.cell? ⟨b, o + i * 7 + 5, none⟩ = some (.int .i64 t.r.n) /\ w.cell? ⟨b, o + i * 7 + 6, none⟩ = some (.string t.r.s)
def Es (w : World) (v : Value) (l : List Te) : Prop :=
 ∃ a cap, v = .slice a l.length cap /\ l.length < 1000000000000000000 /\ (l = [] ∨ ∃ b o, a = some ⟨b, o, none⟩ /\ ERow w b o l)
theorem ARow.later {w w' : World} {b o l} (h : ARow w b o l) (hb : Below w.heap.size w w') : ARow w' b o l :=
 ⟨Nat.lt_of_lt_of_le h.1 hb.size, fun i x hx => by
  have := h.2 i x hx
  rw [hb.cell (p := ⟨b, _, none⟩) h.1, hb.cell (p := ⟨b, _, none⟩) h.1, hb.cell (p := ⟨b, _, none⟩) h.1, hb.cell (p := ⟨b, _, none⟩) h.1, hb.cell (p := ⟨b, _, none⟩) h.1]; exact this⟩
def CBlk (W : World) (g : Nat) (c : Array Value) (t : TypeId) : Prop := W.heap[g]? = some (.cells c t (0, 0))
theorem CBlk.lt {W : World} {g : Nat} {c : Array Value} {t : TypeId} (h : CBlk W g c t) : g < W.heap.size := (Array.getElem?_eq_some_iff.1 h).1
theorem CBlk.later {W W' : World} {g : Nat} {c : Array Value} {t : TypeId} (h : CBlk W g c t) (hb : Below W.heap.size W W') : CBlk W' g c t := (hb.block _ h.lt).trans h
theorem CBlk.new (W : World) (c : Array Value) (t : TypeId) : CBlk (W.alloc (.cells c t)) W.heap.size c t := heap_alloc_new _ _
end Go.Proofs.YtechceagghcipaaGreatDoor
