import Derived.Test.YtbhdalchnbfohaaCL14
import Derived.Test.YtbhdalchnbfohaaO2
import Derived.Test.YtbhdalchnbfohaaB7
import Derived.Test.YtbhdalchnbfohaaCL12
/-
  Compare and SameClause of clauses. (Written by CL15.py.)
-/
namespace Go.Proofs.Ytbhdalchnbfohaa
open Go.RowKit

def Cm.same (c d : Cm) : Bool := decide (c.head.1 = d.head.1) && (decide (fsts c.body = fsts d.body) && decide (c.tests = d.tests))
end Go.Proofs.Ytbhdalchnbfohaa
/-
  Clauses in their order, as plain mathematics. (Written by CL22.py.)
-/
namespace Go.Proofs.Ytbhdalchnbfohaa

/-- What a clause is, wherever it lies. -/
def Cm.key (c : Cm) : At × List At × List Te := (c.head.1, fsts c.body, c.tests)
end Go.Proofs.Ytbhdalchnbfohaa
/-
  Clauses as plain data: what Made makes; numbering. (Plain.)
-/
namespace Go.Proofs.Ytbhdalchnbfohaa
open Go.RowKit

/-- A clause as plain data. -/
abbrev Ck := At × List At × List Te
def Ck.terms (x : Ck) : List Tm := x.1.pl ++ (x.2.1.flatMap At.pl ++ tls x.2.2)
theorem key_terms (c : Cm) : c.terms = Ck.terms c.key := by
  rw [Cm.terms_eq, Ck.terms, Cm.key, flt, fsts, List.flatMap_map]; simp
def mapA (f : Tm → Tm) (a : At) : At := ⟨f a.by_, a.name, a.args.map f⟩
def mapE (f : Tm → Tm) (t : Te) : Te := ⟨t.op, f t.l, f t.r⟩
def mapC (f : Tm → Tm) (x : Ck) : Ck := (mapA f x.1, x.2.1.map (mapA f), x.2.2.map (mapE f))
theorem err_zero' {a : At} (h : a.err = 0) : nameOk a.name = true ∧ a.args.length ≤ 8 ∧ qualOk a.by_ = true ∧ ∀ t ∈ a.args, t.cov = true := by
  unfold At.err at h
  split at h
  · cases h
  split at h
  · cases h
  split at h
  · cases h
  split at h
  · rename_i a1 a2 a3 a4
    exact ⟨by simpa using a1, by omega, by simpa using a3, by rwa [List.all_eq_true] at a4⟩
  · cases h
/-- Terms, none twice. -/
def dstepT (acc : List Tm) (x : Tm) : List Tm := if x ∈ acc then acc else acc ++ [x]
def disT (l : List Tm) : List Tm := (l.filter Tm.var).foldl dstepT []
theorem dstepT_mem {acc : List Tm} {x y : Tm} : y ∈ dstepT acc x ↔ y ∈ acc ∨ y = x := by
  unfold dstepT
  by_cases h : x ∈ acc
  · rw [if_pos h]
    exact ⟨Or.inl, fun e => e.elim id fun e => e ▸ h⟩
  · rw [if_neg h]; simp
end Go.Proofs.Ytbhdalchnbfohaa
