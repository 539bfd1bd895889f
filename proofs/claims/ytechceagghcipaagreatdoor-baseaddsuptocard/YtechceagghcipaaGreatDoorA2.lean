import Derived.Test.YtechceagghcipaaGreatDoorA1
import Derived.Test.YtechceagghcipaaGreatDoorL1
namespace Go.Proofs.YtechceagghcipaaGreatDoor
open Go.RowKit
attribute [local go_sem ↓] Go.wp_at_zero Go.wp_at_succ

theorem TBlk.own {w : World} {B g : Nat} {l : List Tm} {n : Nat} (hn : n = l.length) (hl : n <= 4398046511104) (hB : B <= g) (h : TBlk w g l n) : OwnT w B (.slice (some ⟨g, 0, none⟩) n n) l := by
 subst hn
 obtain ⟨C, h1, h2, h3⟩ := h
 refine ⟨tcs_len l, Or.inr ⟨g, l.length, C, rfl, hB, h1, Nat.le_refl _, by unfold maxLen; omega, h2, ?_⟩⟩
 rw [List.take_of_length_le (by rw [Array.length_toList, h2]; exact Nat.le_refl _)]
 apply List.ext_getElem?
 intro j
 by_cases hj : j < l.length * 3
 ·have hq : j / 3 < l.length := by omega
  obtain ⟨d, hd⟩ : ∃ d, l[j / 3]? = some d := ⟨_, List.getElem?_eq_getElem hq⟩
  have hg := tcs_get l (j / 3) d hd (j % 3) (by omega)
  rw [show j / 3 * 3 + j % 3 = j by omega] at hg
  obtain ⟨a, b, c⟩ := h3 (j / 3) d hq hd
  rw [hg, Array.getElem?_toList]
  have h4 : j % 3 = 0 ∨ j % 3 = 1 ∨ j % 3 = 2 := by omega
  rcases h4 with e | e | e
  ·rw [e, show j = j / 3 * 3 by omega, a]; rfl
  ·rw [e, show j = j / 3 * 3 + 1 by omega, b]; rfl
  ·rw [e, show j = j / 3 * 3 + 2 by omega, c]; rfl
 ·rw [List.getElem?_eq_none (by rw [Array.length_toList]; omega), List.getElem?_eq_none (by rw [tcs_len]; omega)]
end Go.Proofs.YtechceagghcipaaGreatDoor
