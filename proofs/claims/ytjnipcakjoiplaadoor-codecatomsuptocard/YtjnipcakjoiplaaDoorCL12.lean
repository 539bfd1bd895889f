import Derived.Test.YtjnipcakjoiplaaDoorB7
import Derived.Test.YtjnipcakjoiplaaDoorW2
import Derived.Maps.OwnIn
import Derived.Maps.AppendAt
import Derived.Deep.RegionHeld3
import Derived.Laws.EntriesVeiled
/-
  atomsError, misnumbered.
-/
namespace Go.Proofs.YtjnipcakjoiplaaDoor
open Go.RowKit Go.Shelf
attribute [local go_sem] Oper.semAt_some

def aErr : List (At × Value) → Int
  | [] => 0
  | x :: r => if x.1.err = 0 then aErr r else x.1.err
theorem CBlk.put {W : World} {B E : Nat} {c : Array Value} {t : TypeId} (h : CBlk W B c t) (o : Obj) (hne : B ≠ E) : CBlk (W.putObj E o) B c t := (World.putObj_heap_other hne).trans h
theorem CBlk.set {W : World} {B : Nat} {c : Array Value} {t : TypeId} (h : CBlk W B c t) (i : Nat) (v : Value) : CBlk (W.setCell ⟨B, i, none⟩ v) B (c.setIfInBounds i v) t := heap_setCell_same _ _ _ _ _ _ h
theorem CBlk.off {W : World} {B G i : Nat} {c : Array Value} {t : TypeId} {v : Value} (h : CBlk W B c t) (hne : B ≠ G) : CBlk (W.setCell ⟨G, i, none⟩ v) B c t := by
  unfold CBlk; rw [heap_setCell_other _ _ _ _ hne]; exact h
end Go.Proofs.YtjnipcakjoiplaaDoor
/-
  variableSet.
-/
namespace Go.Proofs.YtjnipcakjoiplaaDoor
open Go.RowKit Go.Shelf
attribute [local go_sem] Oper.semAt_some

/-- The set of these numbers, as a datum. -/
def sv (l : List Int) : DataW Unit := Maps.setOf (.agg []) (l.map (Lit.int .i64))
def SetOk (X : World) (b : Nat) (l : List Int) : Prop := X.ownsMap Tryd.prog 3 (unitElem (H := Unit)) b l.length (sv l)
theorem SetOk.grown {X Y : World} {b : Nat} {l : List Int} {row : Option Nat} (h : SetOk X b l) (hg : X.grownBy Y row) (hr : some b ≠ row) : SetOk Y b l := h.kept hg hr
theorem SetOk.later {X Y : World} {b : Nat} {l : List Int} (h : SetOk X b l) (hb : Below X.heap.size X Y) : SetOk Y b l := h.grown (below_grown hb) (by simp)
end Go.Proofs.YtjnipcakjoiplaaDoor
/-
  misnumbered.
-/
namespace Go.Proofs.YtjnipcakjoiplaaDoor
open Go.RowKit Go.Shelf
attribute [local go_sem] Oper.semAt_some

def mis : Int → List Int → Bool
  | _, [] => false
  | n, v :: r => if n < v then true else mis (if v = n then n + 1 else n) r
end Go.Proofs.YtjnipcakjoiplaaDoor
/-
  unboundVariable.
-/
namespace Go.Proofs.YtjnipcakjoiplaaDoor
open Go.RowKit Go.Shelf
attribute [local go_sem] Oper.semAt_some

/-- The clause with its body alone, and with all else. -/
def Cm.bodyC (c : Cm) : Cm := ⟨(⟨⟨0, 0, ⟨#[]⟩⟩, ⟨#[]⟩, []⟩, .slice none 0 0), c.body, c.bv, [], .slice none 0 0⟩
def Cm.restC (c : Cm) : Cm := ⟨c.head, [], .slice none 0 0, c.tests, c.tv⟩
theorem Cm.ok.bodyC {w : World} {c : Cm} (h : c.ok w) : c.bodyC.ok w := ⟨⟨none, 0, rfl, by simp [Cm.bodyC], Or.inl rfl⟩, h.b, ⟨none, 0, rfl, by simp [Cm.bodyC], Or.inl rfl⟩⟩
theorem Cm.ok.restC {w : World} {c : Cm} (h : c.ok w) : c.restC.ok w := ⟨h.h, ⟨none, 0, rfl, by simp [Cm.restC], Or.inl rfl, fun x hx => by simp [Cm.restC] at hx⟩, h.t⟩
def unb (c : Cm) : Bool := c.restC.vars.any fun v => !decide (v ∈ c.bodyC.vars)
end Go.Proofs.YtjnipcakjoiplaaDoor
/-
  The checks, one by one. (Written by CL10.py.)
-/
namespace Go.Proofs.YtjnipcakjoiplaaDoor
open Go.RowKit Go.Shelf

def long (c : Cm) : Bool := decide (8 < c.body.length) || decide (8 < c.tests.length)
end Go.Proofs.YtjnipcakjoiplaaDoor
/-
  wrongTest, checks, Check. (Written by CL11.py.)
-/
namespace Go.Proofs.YtjnipcakjoiplaaDoor
open Go.RowKit Go.Shelf

def badT (c : Cm) : Bool := c.tests.any fun t => !t.ok
end Go.Proofs.YtjnipcakjoiplaaDoor
/-
  Check. (Written by CL12.py.)
-/
namespace Go.Proofs.YtjnipcakjoiplaaDoor
open Go.RowKit Go.Shelf

def Cm.rs (c : Cm) : List (Bool × Int) := [(long c, 31), (decide (aErr c.atoms = 21), 21), (decide (aErr c.atoms = 22), 22), (decide (aErr c.atoms = 23), 23), (decide (aErr c.atoms = 24), 24), (badT c, 32), (c.head.1.by_.var, 33), (unb c, 34), (mis 0 c.vars, 35)]
/-- All its numbers are such, and there aren't more terms than there can be. -/
structure Cm.wf (c : Cm) : Prop where
  n : ∀ t ∈ c.terms, t.var = true → (Lit.int .i64 t.n).wf = true
  l : c.terms.length < 4000000000000000000
theorem mem_vrs {l : List Tm} {v : Int} (h : v ∈ vrs l) : ∃ t ∈ l, t.var = true ∧ t.n = v := by
  unfold vrs at h
  obtain ⟨t, ht, rfl⟩ := List.mem_map.1 h
  obtain ⟨h1, h2⟩ := List.mem_filter.1 ht
  exact ⟨t, h1, h2, rfl⟩
theorem vrs_len (l : List Tm) : (vrs l).length ≤ l.length := by
  unfold vrs; rw [List.length_map]; exact List.length_filter_le _ _
theorem Cm.wf.vars {c : Cm} (h : c.wf) : (∀ v ∈ c.vars, (Lit.int .i64 v).wf = true) ∧ c.vars.length < 4000000000000000000 :=
  ⟨fun v hv => by obtain ⟨t, ht, hvt, rfl⟩ := mem_vrs (l := c.terms) hv; exact h.n t ht hvt, Nat.lt_of_le_of_lt (vrs_len c.terms) h.l⟩
end Go.Proofs.YtjnipcakjoiplaaDoor
