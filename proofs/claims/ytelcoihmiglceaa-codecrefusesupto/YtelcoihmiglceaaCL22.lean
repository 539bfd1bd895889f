import Derived.Test.YtelcoihmiglceaaB7
import Derived.Test.YtelcoihmiglceaaCL24
import Derived.Deep.RegionHeld3
import Derived.BigQuiet
/-
  CompareAtoms.
-/
namespace Go.Proofs.Ytelcoihmiglceaa
open Go.RowKit
attribute [local go_sem ↓] Go.wp_at_zero Go.wp_at_succ

def cmpL : List Tm → List Tm → Int
  | x :: xs, y :: ys => if x.cmp y ≠ 0 then x.cmp y else cmpL xs ys
  | _, _ => 0
def At.cmp (a b : At) : Int := if a.name.toList ≠ b.name.toList then M.sgL a.name.toList b.name.toList else if a.args.length ≠ b.args.length then M.sgI a.args.length b.args.length else cmpL a.pl b.pl
end Go.Proofs.Ytelcoihmiglceaa
/-
  replace, ApplyTest.
-/
namespace Go.Proofs.Ytelcoihmiglceaa
open Go.RowKit
attribute [local go_sem ↓] Go.wp_at_zero Go.wp_at_succ

def BoxB (w W : World) (c d : Array Value) (t t' : TypeId) : Prop := W.heap[w.heap.size]? = some (.cells c t (0, 0)) ∧ W.heap[w.heap.size + 1]? = some (.cells d t' (0, 0)) ∧ Below w.heap.size w W
theorem BoxB.start (w : World) (c d : Array Value) (t t' : TypeId) : BoxB w ((w.alloc (.cells c t)).alloc (.cells d t')) c d t t' := ⟨heap_alloc2_old _ _ _, heap_alloc2_new _ _ _, below2 _ _ _⟩
theorem BoxB.later {w W W' : World} {c d : Array Value} {t t' : TypeId} (h : BoxB w W c d t t') (hb : Below W.heap.size W W') : BoxB w W' c d t t' :=
  ⟨(hb.block _ (Array.getElem?_eq_some_iff.1 h.1).1).trans h.1, (hb.block _ (Array.getElem?_eq_some_iff.1 h.2.1).1).trans h.2.1, h.2.2.trans (hb.mono h.2.2.size)⟩
theorem BoxB.lt {w W : World} {c d : Array Value} {t t' : TypeId} (h : BoxB w W c d t t') : w.heap.size + 1 < W.heap.size := (Array.getElem?_eq_some_iff.1 h.2.1).1
theorem seven {w : World} {x : Nat} {a b c d e f g : Value} {ty : TypeId} (h : w.heap[x]? = some (.cells #[a, b, c, d, e, f, g] ty (0, 0))) :
    (w.cell? ⟨x, 0, none⟩ = some a ∧ w.cell? ⟨x, 1, none⟩ = some b ∧ w.cell? ⟨x, 2, none⟩ = some c ∧ w.cell? ⟨x, 3, none⟩ = some d ∧ w.cell? ⟨x, 4, none⟩ = some e ∧ w.cell? ⟨x, 5, none⟩ = some f ∧ w.cell? ⟨x, 6, none⟩ = some g) ∧
    (w.frozen? ⟨x, 0, none⟩ = false ∧ w.frozen? ⟨x, 1, none⟩ = false ∧ w.frozen? ⟨x, 2, none⟩ = false ∧ w.frozen? ⟨x, 3, none⟩ = false ∧ w.frozen? ⟨x, 4, none⟩ = false ∧ w.frozen? ⟨x, 5, none⟩ = false ∧ w.frozen? ⟨x, 6, none⟩ = false) :=
  ⟨⟨cell_of_row _ _ _ _ _ _ h, cell_of_row _ _ _ _ _ _ h, cell_of_row _ _ _ _ _ _ h, cell_of_row _ _ _ _ _ _ h, cell_of_row _ _ _ _ _ _ h, cell_of_row _ _ _ _ _ _ h, cell_of_row _ _ _ _ _ _ h⟩,
   ⟨frozen_of_row _ _ _ _ _ h, frozen_of_row _ _ _ _ _ h, frozen_of_row _ _ _ _ _ h, frozen_of_row _ _ _ _ _ h, frozen_of_row _ _ _ _ _ h, frozen_of_row _ _ _ _ _ h, frozen_of_row _ _ _ _ _ h⟩⟩
end Go.Proofs.Ytelcoihmiglceaa
/-
  hearsaylaw02.TermDecides, for every two terms.
-/
namespace Go.Proofs.Ytelcoihmiglceaa
open Go.RowKit
attribute [local go_sem ↓] Go.wp_at_zero Go.wp_at_succ

def x4 : Tm := ⟨3, 4, ⟨#[]⟩⟩
end Go.Proofs.Ytelcoihmiglceaa
/-
  Compare of tests and of lists. (Written by CL13.py.)
-/
namespace Go.Proofs.Ytelcoihmiglceaa
open Go.RowKit

def cmpG {α : Type} (f : α → α → Int) : List α → List α → Int
  | x :: p, y :: q => if f x y = 0 then cmpG f p q else f x y
  | _, _ => 0
def cmpGL {α : Type} (f : α → α → Int) (p q : List α) : Int := if p.length = q.length then cmpG f p q else M.sgI p.length q.length
def cmpX (x y : At × Value) : Int := x.1.cmp y.1
def Te.cmp (t u : Te) : Int := if M.sgI t.op u.op ≠ 0 then M.sgI t.op u.op else if t.l.cmp u.l ≠ 0 then t.l.cmp u.l else t.r.cmp u.r
end Go.Proofs.Ytelcoihmiglceaa
/-
  terms, same of the laws.
-/
namespace Go.Proofs.Ytelcoihmiglceaa
open Go.RowKit
attribute [local go_sem ↓] Go.wp_at_zero Go.wp_at_succ

instance : DecidableEq At := fun a b => decidable_of_iff (a.by_ = b.by_ ∧ a.name = b.name ∧ a.args = b.args) (by cases a; cases b; simp)
end Go.Proofs.Ytelcoihmiglceaa
/-
  The same, of the laws: terms, atoms, tests, clauses. (Written by CL14.py.)
-/
namespace Go.Proofs.Ytelcoihmiglceaa
open Go.RowKit
attribute [local go_sem ↓] Go.wp_at_zero Go.wp_at_succ

def fsts (l : List (At × Value)) : List At := l.map (·.1)
end Go.Proofs.Ytelcoihmiglceaa
/-
  Compare and SameClause of clauses. (Written by CL15.py.)
-/
namespace Go.Proofs.Ytelcoihmiglceaa
open Go.RowKit

def Cm.cmp (c d : Cm) : Int := if c.head.1.cmp d.head.1 ≠ 0 then c.head.1.cmp d.head.1 else if cmpGL cmpX c.body d.body ≠ 0 then cmpGL cmpX c.body d.body else cmpGL Te.cmp c.tests d.tests
def Cm.same (c d : Cm) : Bool := decide (c.head.1 = d.head.1) && (decide (fsts c.body = fsts d.body) && decide (c.tests = d.tests))
end Go.Proofs.Ytelcoihmiglceaa
/-
  Clauses in their order, as plain mathematics. (Written by CL22.py.)
-/
namespace Go.Proofs.Ytelcoihmiglceaa

/-- What a clause is, wherever it lies. -/
def Cm.key (c : Cm) : At × List At × List Te := (c.head.1, fsts c.body, c.tests)
end Go.Proofs.Ytelcoihmiglceaa
