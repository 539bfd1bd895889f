/-
  No cell of these rows narrows 'for every input' (looked for: loops, veiled, ifaces, maps, wideKeys, modest, calm, conditions, laid).
  DERIVED. THE GIVEN ROWS OF THIS SEAT. 5 by the template 'for every input the law returns true; each argument reads behind the call as it read before'; 0 by the template 'total and deterministic' (their statements: YtdfgijdededolaaTotals.lean).
  GIVEN WITH THE SEED: the statements are not yours to turn. If you find one false, say at which input.
  Laid BY PROGRAM, IN A SANDBOX (cutbox-rows.mjs): the forced cells as the released guide's own fill.sh prints them over the translation 9c81e5e980599d08… (all of the seat's roots in one cut). By AI agents, Wed Nov 11 2026. No macro, syntax, notation, axiom, sorry.
-/
import Derived.Test.YtdfgijdededolaaChecked
import GoSem.Claim
import GoSem.ClaimJoined
import GoSem.ClaimMapViews
import Derived.JoinedTies
import Derived.KernelRfl
namespace Go.Proofs.Ytdfgijdededolaa
/- THE CELL 'sum', in the pinned program and in every row, IS THE sha256 OF THE DUMP (.gsa) THAT YtdfgijdededolaaProg.lean LOADS. Nothing in Lean hashes anything: it is a label: what it is worth is what the hold of that sum in a sandbox is worth. -/
noncomputable def Try.pinned : Pinned := { name := "ytdfgijdededolaa", sum := "9c81e5e980599d08325dd815d9366ca2332d01a2133c38044e2f456579475eb5", checked := Try.checked }
namespace Rows
def none {H : Type} : Left H := { results := [], args := [] }

/-- 'hearsaylaw03.ClauseRefuses': WHATEVER THE INPUT: true; the input reads as it did. -/
def clauseRefusesSpec : ChangeSpec := { name := "clauseRefuses", fn := fun _ => fun
  | [d1, d2] => { results := [.lit (.bool true)], args := [d1, d2] }
  | _ => none }
def clauseRefusesRow : OpenClaim := { program := "ytdfgijdededolaa", sum := "9c81e5e980599d08325dd815d9366ca2332d01a2133c38044e2f456579475eb5", func := "hearsay/hearsaylaw03.ClauseRefuses", spec := "clauseRefuses", unfollowed := true, recurses := true, apart := false }
def ClauseRefusesSaid : Prop := clauseRefusesRow.holds Try.pinned (OpenSpec.ofChange clauseRefusesSpec)

/-- ITS FALSE NEIGHBOUR: 'it returns false'. Refute it at one input. -/
def clauseRefusesWrong : ChangeSpec := { name := "clauseRefuses", fn := fun _ => fun
  | [d1, d2] => { results := [.lit (.bool false)], args := [d1, d2] }
  | _ => none }
def ClauseRefusesWrongFalsely : Prop := clauseRefusesRow.holds Try.pinned (OpenSpec.ofChange clauseRefusesWrong)

/-- 'hearsaylaw03.ClauseTotal': WHATEVER THE INPUT: true; the input reads as it did. -/
def clauseTotalSpec : ChangeSpec := { name := "clauseTotal", fn := fun _ => fun
  | [d1, d2, d3] => { results := [.lit (.bool true)], args := [d1, d2, d3] }
  | _ => none }
def clauseTotalRow : OpenClaim := { program := "ytdfgijdededolaa", sum := "9c81e5e980599d08325dd815d9366ca2332d01a2133c38044e2f456579475eb5", func := "hearsay/hearsaylaw03.ClauseTotal", spec := "clauseTotal", unfollowed := true, recurses := true, apart := false }
def ClauseTotalSaid : Prop := clauseTotalRow.holds Try.pinned (OpenSpec.ofChange clauseTotalSpec)

/-- ITS FALSE NEIGHBOUR: 'it returns false'. Refute it at one input. -/
def clauseTotalWrong : ChangeSpec := { name := "clauseTotal", fn := fun _ => fun
  | [d1, d2, d3] => { results := [.lit (.bool false)], args := [d1, d2, d3] }
  | _ => none }
def ClauseTotalWrongFalsely : Prop := clauseTotalRow.holds Try.pinned (OpenSpec.ofChange clauseTotalWrong)

/-- 'hearsaylaw03.ClauseNumbers': WHATEVER THE INPUT: true; the input reads as it did. -/
def clauseNumbersSpec : ChangeSpec := { name := "clauseNumbers", fn := fun _ => fun
  | [d1, d2] => { results := [.lit (.bool true)], args := [d1, d2] }
  | _ => none }
def clauseNumbersRow : OpenClaim := { program := "ytdfgijdededolaa", sum := "9c81e5e980599d08325dd815d9366ca2332d01a2133c38044e2f456579475eb5", func := "hearsay/hearsaylaw03.ClauseNumbers", spec := "clauseNumbers", unfollowed := true, recurses := true, apart := false }
def ClauseNumbersSaid : Prop := clauseNumbersRow.holds Try.pinned (OpenSpec.ofChange clauseNumbersSpec)

/-- ITS FALSE NEIGHBOUR: 'it returns false'. Refute it at one input. -/
def clauseNumbersWrong : ChangeSpec := { name := "clauseNumbers", fn := fun _ => fun
  | [d1, d2] => { results := [.lit (.bool false)], args := [d1, d2] }
  | _ => none }
def ClauseNumbersWrongFalsely : Prop := clauseNumbersRow.holds Try.pinned (OpenSpec.ofChange clauseNumbersWrong)

/-- 'hearsaylaw03.ClauseLeaves': WHATEVER THE INPUT: true; the input reads as it did. -/
def clauseLeavesSpec : ChangeSpec := { name := "clauseLeaves", fn := fun _ => fun
  | [d1, d2, d3] => { results := [.lit (.bool true)], args := [d1, d2, d3] }
  | _ => none }
def clauseLeavesRow : OpenClaim := { program := "ytdfgijdededolaa", sum := "9c81e5e980599d08325dd815d9366ca2332d01a2133c38044e2f456579475eb5", func := "hearsay/hearsaylaw03.ClauseLeaves", spec := "clauseLeaves", unfollowed := true, recurses := true, apart := false }
def ClauseLeavesSaid : Prop := clauseLeavesRow.holds Try.pinned (OpenSpec.ofChange clauseLeavesSpec)

/-- ITS FALSE NEIGHBOUR: 'it returns false'. Refute it at one input. -/
def clauseLeavesWrong : ChangeSpec := { name := "clauseLeaves", fn := fun _ => fun
  | [d1, d2, d3] => { results := [.lit (.bool false)], args := [d1, d2, d3] }
  | _ => none }
def ClauseLeavesWrongFalsely : Prop := clauseLeavesRow.holds Try.pinned (OpenSpec.ofChange clauseLeavesWrong)

/-- 'hearsaylaw03.ClauseQuotes': WHATEVER THE INPUT: true; the input reads as it did. -/
def clauseQuotesSpec : ChangeSpec := { name := "clauseQuotes", fn := fun _ => fun
  | [d1, d2, d3] => { results := [.lit (.bool true)], args := [d1, d2, d3] }
  | _ => none }
def clauseQuotesRow : OpenClaim := { program := "ytdfgijdededolaa", sum := "9c81e5e980599d08325dd815d9366ca2332d01a2133c38044e2f456579475eb5", func := "hearsay/hearsaylaw03.ClauseQuotes", spec := "clauseQuotes", unfollowed := true, recurses := true, apart := false }
def ClauseQuotesSaid : Prop := clauseQuotesRow.holds Try.pinned (OpenSpec.ofChange clauseQuotesSpec)

/-- ITS FALSE NEIGHBOUR: 'it returns false'. Refute it at one input. -/
def clauseQuotesWrong : ChangeSpec := { name := "clauseQuotes", fn := fun _ => fun
  | [d1, d2, d3] => { results := [.lit (.bool false)], args := [d1, d2, d3] }
  | _ => none }
def ClauseQuotesWrongFalsely : Prop := clauseQuotesRow.holds Try.pinned (OpenSpec.ofChange clauseQuotesWrong)

/- THE SECOND FORM. 'bulk': how many values and letters a reading holds, each counted each time it is reached (what is shared counts as often as it is met; a slice's spare places count too). A statement '..UptoSaid' is the law's where the arguments, and the package variables that the reading takes, are together of bulk at most 1048576: NARROWER than '..Said'. Prove '..Said' where nothing that the law and all that it calls make is longer than what came in: it says more and counts as full. Else prove '..UptoSaid'. A law counts once. -/
mutual
def uptoBulk {H : Type} : DataW H → Nat
  | .lit (.string bytes) => bytes.length + 1
  | .lit _ => 1
  | .nil => 1
  | .ptr d => uptoBulk d + 1
  | .slice elems spare => uptoBulkAll elems + uptoBulkAll spare + 1
  | .agg parts => uptoBulkAll parts + 1
  | .iface _ d => uptoBulk d + 1
  | .map entries => uptoBulkEntries entries + 1
  | .held _ => 1
def uptoBulkAll {H : Type} : List (DataW H) → Nat
  | [] => 0
  | d :: r => uptoBulk d + uptoBulkAll r
def uptoBulkEntries {H : Type} : List (Lit × DataW H) → Nat
  | [] => 0
  | x :: r => uptoBulkEntry x + uptoBulkEntries r
def uptoBulkEntry {H : Type} : Lit × DataW H → Nat
  | (.string bytes, d) => bytes.length + uptoBulk d + 1
  | (_, d) => uptoBulk d + 1
 end
def uptoSmall : (H : Type) → List (DataW H) → Bool := fun _ ds => decide (uptoBulkAll ds ≤ 1048576)
def OpenSpec.upto (s : _root_.Go.ChangeSpec) : _root_.Go.OpenSpec := { _root_.Go.OpenSpec.ofChange s with cond := some uptoSmall }

/-- 'hearsaylaw03.ClauseRefuses', WHERE WHAT IT READS IS OF BULK AT MOST 1048576: true; the input reads as it did. -/
def clauseRefusesUptoRow : OpenClaim := { program := "ytdfgijdededolaa", sum := "9c81e5e980599d08325dd815d9366ca2332d01a2133c38044e2f456579475eb5", func := "hearsay/hearsaylaw03.ClauseRefuses", spec := "clauseRefuses", unfollowed := true, recurses := true, apart := false, narrowed := true }
def ClauseRefusesUptoSaid : Prop := clauseRefusesUptoRow.holds Try.pinned (OpenSpec.upto clauseRefusesSpec)

/-- 'hearsaylaw03.ClauseTotal', WHERE WHAT IT READS IS OF BULK AT MOST 1048576: true; the input reads as it did. -/
def clauseTotalUptoRow : OpenClaim := { program := "ytdfgijdededolaa", sum := "9c81e5e980599d08325dd815d9366ca2332d01a2133c38044e2f456579475eb5", func := "hearsay/hearsaylaw03.ClauseTotal", spec := "clauseTotal", unfollowed := true, recurses := true, apart := false, narrowed := true }
def ClauseTotalUptoSaid : Prop := clauseTotalUptoRow.holds Try.pinned (OpenSpec.upto clauseTotalSpec)

/-- 'hearsaylaw03.ClauseNumbers', WHERE WHAT IT READS IS OF BULK AT MOST 1048576: true; the input reads as it did. -/
def clauseNumbersUptoRow : OpenClaim := { program := "ytdfgijdededolaa", sum := "9c81e5e980599d08325dd815d9366ca2332d01a2133c38044e2f456579475eb5", func := "hearsay/hearsaylaw03.ClauseNumbers", spec := "clauseNumbers", unfollowed := true, recurses := true, apart := false, narrowed := true }
def ClauseNumbersUptoSaid : Prop := clauseNumbersUptoRow.holds Try.pinned (OpenSpec.upto clauseNumbersSpec)

/-- 'hearsaylaw03.ClauseLeaves', WHERE WHAT IT READS IS OF BULK AT MOST 1048576: true; the input reads as it did. -/
def clauseLeavesUptoRow : OpenClaim := { program := "ytdfgijdededolaa", sum := "9c81e5e980599d08325dd815d9366ca2332d01a2133c38044e2f456579475eb5", func := "hearsay/hearsaylaw03.ClauseLeaves", spec := "clauseLeaves", unfollowed := true, recurses := true, apart := false, narrowed := true }
def ClauseLeavesUptoSaid : Prop := clauseLeavesUptoRow.holds Try.pinned (OpenSpec.upto clauseLeavesSpec)

/-- 'hearsaylaw03.ClauseQuotes', WHERE WHAT IT READS IS OF BULK AT MOST 1048576: true; the input reads as it did. -/
def clauseQuotesUptoRow : OpenClaim := { program := "ytdfgijdededolaa", sum := "9c81e5e980599d08325dd815d9366ca2332d01a2133c38044e2f456579475eb5", func := "hearsay/hearsaylaw03.ClauseQuotes", spec := "clauseQuotes", unfollowed := true, recurses := true, apart := false, narrowed := true }
def ClauseQuotesUptoSaid : Prop := clauseQuotesUptoRow.holds Try.pinned (OpenSpec.upto clauseQuotesSpec)

end Rows
end Go.Proofs.Ytdfgijdededolaa
