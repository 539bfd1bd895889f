import Derived.Test.YtbhdalchnbfohaaL1
import Derived.Test.YtbhdalchnbfohaaCL27
import Derived.Test.YtbhdalchnbfohaaMP1
import Derived.Test.YtbhdalchnbfohaaBK
import Derived.Test.YtbhdalchnbfohaaB5
import Derived.Test.YtbhdalchnbfohaaB2
import Derived.Deep.RegionHeld3
import Derived.Test.YtbhdalchnbfohaaW2
import Derived.Deep.CutRange
/-
  safe, MadeConst; lists of terms appended; atomTerms.
-/
namespace Go.Proofs.Ytbhdalchnbfohaa
open Go.RowKit
attribute [local go_sem ↓] Go.wp_at_zero Go.wp_at_succ

/-- A list of terms in memory that is nil, or has a place. -/
def TsP (w : World) (v : Value) (l : List Tm) : Prop := (v = .slice none 0 0 ∧ l = []) ∨ ∃ ad cap, v = .slice (some ad) l.length cap ∧ (l = [] ∨ ∃ b o, ad = ⟨b, o, none⟩ ∧ TRow w b o l)
theorem TsP.ts {w : World} {v : Value} {l : List Tm} (h : TsP w v l) (hl : l.length < 1000000000000000000) : Ts w v l := by
  rcases h with ⟨rfl, rfl⟩ | ⟨ad, cap, rfl, h2⟩
  · exact ⟨none, 0, rfl, by simp, Or.inl rfl⟩
  · refine ⟨some ad, cap, rfl, hl, ?_⟩
    rcases h2 with h2 | ⟨b, o, rfl, h3⟩
    · exact Or.inl h2
    · exact Or.inr ⟨b, o, rfl, h3⟩
theorem OwnT.tsP {w : World} {base : Nat} {v : Value} {l : List Tm} (h : OwnT w base v l) : TsP w v l := by
  have hh := h
  rcases h.2 with ⟨rfl, hn⟩ | ⟨g, cap, cur, rfl, hb, hg, -⟩
  · exact Or.inl ⟨rfl, List.length_eq_zero_iff.1 hn⟩
  · refine Or.inr ⟨_, cap, rfl, Or.inr ⟨g, 0, rfl, (Array.getElem?_eq_some_iff.1 hg).1, fun i t ht => ?_⟩⟩
    simpa using ownT_cells hh i t ht
theorem grown_below3 {w w' : World} {base : Nat} {v : Value} (hg : w.grownBy w' v.ownBlock) (h : ∀ k, v.ownBlock = some k → base ≤ k) (hb : base ≤ w.heap.size) : Below base w w' :=
  (Below.refl _ _).grown hg hb h
end Go.Proofs.Ytbhdalchnbfohaa
/-
  bodyTerms, testTerms, Terms. (Written by MD5.py.)
-/
namespace Go.Proofs.Ytbhdalchnbfohaa
open Go.RowKit
attribute [local go_sem ↓] Go.wp_at_zero Go.wp_at_succ

theorem tls_len (l : List Te) : (tls l).length = l.length * 2 := by
  induction l with
  | nil => rfl
  | cons a l ih => unfold tls at ih ⊢; rw [List.flatMap_cons, List.length_append, ih]; simp; omega
end Go.Proofs.Ytbhdalchnbfohaa
