import Derived.Laws.AppendOwnNone
import Derived.Laws.AppendOwn
import Derived.Test.YtechceagghcipaaGreatDoorB7
namespace Go.Proofs.YtechceagghcipaaGreatDoor
open Go.RowKit

def BsO (w : World) (v : Value) (l : List Bd) : Prop := (v = .slice none 0 0 /\ l = []) ∨ ∃ ad cap, v = .slice (some ad) l.length cap /\ l.length * 40 <= 140737488351232 /\ (l = [] ∨ ∃ b o, ad = ⟨b, o, none⟩ /\ BRow w b o l)
theorem bcs_mem {l : List Bd} {u : Value} (h : u ∈ bcs l) : u.oneCell' = true := by
 simp only [bcs, List.mem_flatMap] at h
 obtain ⟨d, -, hu⟩ := h
 simp [Bd.cs] at hu
 rcases hu with rfl | rfl | rfl | rfl <;> rfl
theorem brow_get {w : World} {b o : Nat} {l : List Bd} (h : BRow w b o l) : ∀ j u, (bcs l)[j]? = some u -> w.cell? ((⟨b, o, none⟩ : Addr).add j) = some u := fun j u hu => by
 have hj : j < l.length * 4 := by rw [<- bcs_len]; exact (List.getElem?_eq_some_iff.1 hu).1
 have hq : j / 4 < l.length := by omega
 obtain ⟨d, hd⟩ : ∃ d, l[j / 4]? = some d := ⟨_, List.getElem?_eq_getElem hq⟩
 have hg := bcs_get l (j / 4) d hd (j % 4) (by omega)
 rw [show j / 4 * 4 + j % 4 = j by omega, hu] at hg
 have hc := h.2 _ _ hd
 have ha : (⟨b, o, none⟩ : Addr).add j = ⟨b, o + j / 4 * 4 + j % 4, none⟩ := by
  rw [Go.WideShapes.add_plain]; congr 1; omega
 rw [ha]
 have h4 : j % 4 = 0 ∨ j % 4 = 1 ∨ j % 4 = 2 ∨ j % 4 = 3 := by omega
 rcases h4 with e | e | e | e <;> rw [e] at hg ⊢ <;> simp [Bd.cs] at hg <;> subst hg
 ·exact hc.1
 ·exact hc.2.1
 ·exact hc.2.2.1
 ·exact hc.2.2.2
end Go.Proofs.YtechceagghcipaaGreatDoor
