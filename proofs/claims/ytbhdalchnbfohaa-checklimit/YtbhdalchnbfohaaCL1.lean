/-
  Clauses in memory.
-/
import Derived.Test.YtbhdalchnbfohaaD1
namespace Go.Proofs.Ytbhdalchnbfohaa
open Go.RowKit

/-- Atoms in memory, each with the value of its list. -/
def ARow (w : World) (b o : Nat) (l : List (At × Value)) : Prop :=
  b < w.heap.size ∧ ∀ i x, l[i]? = some x → w.cell? ⟨b, o + i * 5, none⟩ = some (.int .i64 x.1.by_.k) ∧ w.cell? ⟨b, o + i * 5 + 1, none⟩ = some (.int .i64 x.1.by_.n) ∧ w.cell? ⟨b, o + i * 5 + 2, none⟩ = some (.string x.1.by_.s) ∧
    w.cell? ⟨b, o + i * 5 + 3, none⟩ = some (.string x.1.name) ∧ w.cell? ⟨b, o + i * 5 + 4, none⟩ = some x.2
def As (w : World) (v : Value) (l : List (At × Value)) : Prop :=
  ∃ a cap, v = .slice a l.length cap ∧ l.length < 1000000000000000000 ∧ (l = [] ∨ ∃ b o, a = some ⟨b, o, none⟩ ∧ ARow w b o l) ∧ ∀ x ∈ l, Ts w x.2 x.1.args
def ERow (w : World) (b o : Nat) (l : List Te) : Prop :=
  b < w.heap.size ∧ ∀ i (t : Te), l[i]? = some t → w.cell? ⟨b, o + i * 7, none⟩ = some (.int .i64 t.op) ∧ w.cell? ⟨b, o + i * 7 + 1, none⟩ = some (.int .i64 t.l.k) ∧ w.cell? ⟨b, o + i * 7 + 2, none⟩ = some (.int .i64 t.l.n) ∧ w.cell? ⟨b, o + i * 7 + 3, none⟩ = some (.string t.l.s) ∧
    w.cell? ⟨b, o + i * 7 + 4, none⟩ = some (.int .i64 t.r.k) ∧ w.cell? ⟨b, o + i * 7 + 5, none⟩ = some (.int .i64 t.r.n) ∧ w.cell? ⟨b, o + i * 7 + 6, none⟩ = some (.string t.r.s)
def Es (w : World) (v : Value) (l : List Te) : Prop :=
  ∃ a cap, v = .slice a l.length cap ∧ l.length < 1000000000000000000 ∧ (l = [] ∨ ∃ b o, a = some ⟨b, o, none⟩ ∧ ERow w b o l)
theorem ARow.later {w w' : World} {b o l} (h : ARow w b o l) (hb : Below w.heap.size w w') : ARow w' b o l :=
  ⟨Nat.lt_of_lt_of_le h.1 hb.size, fun i x hx => by
    have := h.2 i x hx
    rw [hb.cell (p := ⟨b, _, none⟩) h.1, hb.cell (p := ⟨b, _, none⟩) h.1, hb.cell (p := ⟨b, _, none⟩) h.1, hb.cell (p := ⟨b, _, none⟩) h.1, hb.cell (p := ⟨b, _, none⟩) h.1]; exact this⟩
theorem ERow.later {w w' : World} {b o l} (h : ERow w b o l) (hb : Below w.heap.size w w') : ERow w' b o l :=
  ⟨Nat.lt_of_lt_of_le h.1 hb.size, fun i x hx => by
    have := h.2 i x hx
    rw [hb.cell (p := ⟨b, _, none⟩) h.1, hb.cell (p := ⟨b, _, none⟩) h.1, hb.cell (p := ⟨b, _, none⟩) h.1, hb.cell (p := ⟨b, _, none⟩) h.1, hb.cell (p := ⟨b, _, none⟩) h.1, hb.cell (p := ⟨b, _, none⟩) h.1, hb.cell (p := ⟨b, _, none⟩) h.1]; exact this⟩
theorem As.later {w w' : World} {v l} (h : As w v l) (hb : Below w.heap.size w w') : As w' v l := by
  obtain ⟨a, cap, rfl, hl, h, ht⟩ := h
  refine ⟨a, cap, rfl, hl, ?_, fun x hx => (ht x hx).later hb⟩
  rcases h with h | ⟨b, o, rfl, h⟩
  · exact Or.inl h
  · exact Or.inr ⟨b, o, rfl, h.later hb⟩
theorem Es.later {w w' : World} {v l} (h : Es w v l) (hb : Below w.heap.size w w') : Es w' v l := by
  obtain ⟨a, cap, rfl, hl, h⟩ := h
  refine ⟨a, cap, rfl, hl, ?_⟩
  rcases h with h | ⟨b, o, rfl, h⟩
  · exact Or.inl h
  · exact Or.inr ⟨b, o, rfl, h.later hb⟩
/-- A clause as it lies in memory: its atoms and tests, and the values of its lists. -/
structure Cm where
  head : At × Value
  body : List (At × Value)
  bv : Value
  tests : List Te
  tv : Value
abbrev Cm.v (c : Cm) : Value := .agg #[.int .i64 c.head.1.by_.k, .int .i64 c.head.1.by_.n, .string c.head.1.by_.s, .string c.head.1.name, c.head.2, c.bv, c.tv]
abbrev Cm.cs (c : Cm) : Array Value := #[.int .i64 c.head.1.by_.k, .int .i64 c.head.1.by_.n, .string c.head.1.by_.s, .string c.head.1.name, c.head.2, c.bv, c.tv]
structure Cm.ok (w : World) (c : Cm) : Prop where
  h : Ts w c.head.2 c.head.1.args
  b : As w c.bv c.body
  t : Es w c.tv c.tests
theorem Cm.ok.later {w w' : World} {c : Cm} (h : c.ok w) (hb : Below w.heap.size w w') : c.ok w' := ⟨h.h.later hb, h.b.later hb, h.t.later hb⟩
theorem Cm.ok.shape {w : World} {c : Cm} (h : c.ok w) : (∃ a n cap, c.head.2 = .slice a n cap) ∧ (∃ a cap, c.bv = .slice a c.body.length cap) ∧ (∃ a cap, c.tv = .slice a c.tests.length cap) ∧ c.body.length < 1000000000000000000 ∧ c.tests.length < 1000000000000000000 := by
  obtain ⟨⟨a, cap, h1, -⟩, ⟨a', cap', h2, h4, -⟩, ⟨a'', cap'', h3, h5, -⟩⟩ := h
  exact ⟨⟨a, _, cap, h1⟩, ⟨a', cap', h2⟩, ⟨a'', cap'', h3⟩, h4, h5⟩
/-- Its atoms, its terms, its variables, in the order of their places. -/
def Cm.atoms (c : Cm) : List (At × Value) := c.head :: c.body
def Cm.terms (c : Cm) : List Tm := (c.atoms.flatMap fun x => x.1.pl) ++ c.tests.flatMap fun t => [t.l, t.r]
def Cm.vars (c : Cm) : List Int := (c.terms.filter Tm.var).map (·.n)
/-- Block g holds these cells. -/
def CBlk (W : World) (g : Nat) (c : Array Value) (t : TypeId) : Prop := W.heap[g]? = some (.cells c t (0, 0))
theorem CBlk.lt {W : World} {g : Nat} {c : Array Value} {t : TypeId} (h : CBlk W g c t) : g < W.heap.size := (Array.getElem?_eq_some_iff.1 h).1
theorem CBlk.later {W W' : World} {g : Nat} {c : Array Value} {t : TypeId} (h : CBlk W g c t) (hb : Below W.heap.size W W') : CBlk W' g c t := (hb.block _ h.lt).trans h
theorem CBlk.new (W : World) (c : Array Value) (t : TypeId) : CBlk (W.alloc (.cells c t)) W.heap.size c t := heap_alloc_new _ _
theorem cseven {w : World} {g : Nat} {a b c d e f i : Value} {t : TypeId} (h : CBlk w g #[a, b, c, d, e, f, i] t) :
    w.cell? ⟨g, 0, none⟩ = some a ∧ w.cell? ⟨g, 1, none⟩ = some b ∧ w.cell? ⟨g, 2, none⟩ = some c ∧ w.cell? ⟨g, 3, none⟩ = some d ∧ w.cell? ⟨g, 4, none⟩ = some e ∧ w.cell? ⟨g, 5, none⟩ = some f ∧ w.cell? ⟨g, 6, none⟩ = some i :=
  ⟨cell_of_row _ _ _ _ _ _ h, cell_of_row _ _ _ _ _ _ h, cell_of_row _ _ _ _ _ _ h, cell_of_row _ _ _ _ _ _ h, cell_of_row _ _ _ _ _ _ h, cell_of_row _ _ _ _ _ _ h, cell_of_row _ _ _ _ _ _ h⟩
end Go.Proofs.Ytbhdalchnbfohaa
