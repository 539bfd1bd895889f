import Derived.Test.YtbhdalchnbfohaaCL17
import Derived.Test.YtbhdalchnbfohaaCL5
import Derived.Test.YtbhdalchnbfohaaCL12
/-
  replaced, with what copies each term. (Written by CL18.py.)
-/
namespace Go.Proofs.Ytbhdalchnbfohaa
open Go.RowKit
attribute [local go_sem ↓] Go.wp_at_zero Go.wp_at_succ

def zcs : Array Value := #[.int .i64 0, .int .i64 0, .string ⟨#[]⟩, .string ⟨#[]⟩, .slice none 0 0, .slice none 0 0, .slice none 0 0]
theorem fsts_get {l : List (At × Value)} {j : Nat} {x : At × Value} (h : l[j]? = some x) : (fsts l)[j]? = some x.1 := by unfold fsts; rw [List.getElem?_map, h]; rfl
theorem fsts_app (l m : List (At × Value)) : fsts (l ++ m) = fsts l ++ fsts m := by simp [fsts]
end Go.Proofs.Ytbhdalchnbfohaa
/-
  Quote, of a clause that may be quoted. (Written by CL20.py.)
-/
namespace Go.Proofs.Ytbhdalchnbfohaa
open Go.RowKit
attribute [local go_sem ↓] Go.wp_at_zero Go.wp_at_succ

theorem CBlk.froz {w : World} {g i : Nat} {c : Array Value} {t : TypeId} (h : CBlk w g c t) : w.frozen? ⟨g, i, none⟩ = false := frozen_of_row _ _ _ _ _ h

end Go.Proofs.Ytbhdalchnbfohaa
