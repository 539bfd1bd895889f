import Derived.Test.YtjnipcakjoiplaaDoorCL14
import Derived.Test.YtjnipcakjoiplaaDoorO2
import Derived.Test.YtjnipcakjoiplaaDoorCL12
/-
  Compare and SameClause of clauses. (Written by CL15.py.)
-/
namespace Go.Proofs.YtjnipcakjoiplaaDoor
open Go.RowKit

def Cm.cmp (c d : Cm) : Int := if c.head.1.cmp d.head.1 ≠ 0 then c.head.1.cmp d.head.1 else if cmpGL cmpX c.body d.body ≠ 0 then cmpGL cmpX c.body d.body else cmpGL Te.cmp c.tests d.tests
def Cm.same (c d : Cm) : Bool := decide (c.head.1 = d.head.1) && (decide (fsts c.body = fsts d.body) && decide (c.tests = d.tests))
end Go.Proofs.YtjnipcakjoiplaaDoor
/-
  Clauses in their order, as plain mathematics. (Written by CL22.py.)
-/
namespace Go.Proofs.YtjnipcakjoiplaaDoor

/-- What a clause is, wherever it lies. -/
def Cm.key (c : Cm) : At × List At × List Te := (c.head.1, fsts c.body, c.tests)
end Go.Proofs.YtjnipcakjoiplaaDoor
/-
  Clauses as plain data: what Made makes; numbering. (Plain.)
-/
namespace Go.Proofs.YtjnipcakjoiplaaDoor
open Go.RowKit

/-- A clause as plain data. -/
abbrev Ck := At × List At × List Te
def Ck.terms (x : Ck) : List Tm := x.1.pl ++ (x.2.1.flatMap At.pl ++ tls x.2.2)
def mapA (f : Tm → Tm) (a : At) : At := ⟨f a.by_, a.name, a.args.map f⟩
def mapE (f : Tm → Tm) (t : Te) : Te := ⟨t.op, f t.l, f t.r⟩
def mapC (f : Tm → Tm) (x : Ck) : Ck := (mapA f x.1, x.2.1.map (mapA f), x.2.2.map (mapE f))
end Go.Proofs.YtjnipcakjoiplaaDoor
