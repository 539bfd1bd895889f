import Derived.Test.YtechceagghcipaaGreatDoorP1
import Derived.Test.YtechceagghcipaaGreatDoorV2
import Derived.Test.YtechceagghcipaaGreatDoorD2
namespace Go.Proofs.YtechceagghcipaaGreatDoor
open Go.RowKit

theorem become_not (s : List Bd) (t : Tm) (h : t.var = false) : become s t = t := by
 unfold become; rw [h]; rfl
theorem fix_made (s : List Bd) (pl : List Tm) : fixOk pl (pl.map (become s)) = true := by
 induction pl with
 | nil => rfl
 | cons t pl ih =>
  simp only [fixOk, List.map_cons, List.zip_cons_cons, List.all_cons] at ih ⊢
  rw [ih, Bool.and_true]
  cases h : t.var with
  | true => rfl
  | false => simp [become_not s t h]
def At.made (s : List Bd) (p : At) : At := ⟨become s p.by_, p.name, p.args.map (become s)⟩
theorem made_pl (s : List Bd) (p : At) : (p.made s).pl = p.pl.map (become s) := rfl
end Go.Proofs.YtechceagghcipaaGreatDoor
