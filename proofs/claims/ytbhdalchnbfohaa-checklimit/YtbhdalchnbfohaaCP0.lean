/-
  Lists of clauses in memory, for a seat without the sort. (Written by CP0.py.)
-/
import Derived.Test.YtbhdalchnbfohaaMP1
import Derived.Laws.AppendOwn
import Derived.Lib.SliceRun
import Derived.Test.YtbhdalchnbfohaaCL20
import Derived.Test.YtbhdalchnbfohaaMD8
import Derived.Deep.RegionHeld3
import Derived.BigQuiet
namespace Go.Proofs.Ytbhdalchnbfohaa
open Go.RowKit

def Cm.csl (c : Cm) : List Value := c.cs.toList
def ccs (l : List Cm) : List Value := l.flatMap Cm.csl
theorem ccs_get (l : List Cm) (j : Nat) (d : Cm) (h : l[j]? = some d) (i : Nat) (hi : i < 7) : (ccs l)[j * 7 + i]? = d.csl[i]? := by
  induction l generalizing j with
  | nil => simp at h
  | cons e l ih =>
    have hl : e.csl.length = 7 := rfl
    have ec : ccs (e :: l) = e.csl ++ ccs l := by simp [ccs]
    cases j with
    | zero =>
      simp at h
      subst h
      rw [ec, Nat.zero_mul, Nat.zero_add, List.getElem?_append_left (by omega)]
    | succ j =>
      rw [List.getElem?_cons_succ] at h
      rw [ec, List.getElem?_append_right (by omega), hl, show (j + 1) * 7 + i - 7 = j * 7 + i by omega]
      exact ih j h
def CRow (w : World) (b o : Nat) (l : List Cm) : Prop := b < w.heap.size ∧ ∀ (i : Nat) (c : Cm), l[i]? = some c → ∀ (k : Nat) (u : Value), c.csl[k]? = some u → w.cell? ⟨b, o + i * 7 + k, none⟩ = some u
theorem CRow.later {w w' : World} {b o : Nat} {l : List Cm} (h : CRow w b o l) (hb : Below w.heap.size w w') : CRow w' b o l :=
  ⟨Nat.lt_of_lt_of_le h.1 hb.size, fun i c hc k u hu => by rw [hb.cell (p := ⟨b, _, none⟩) h.1]; exact h.2 i c hc k u hu⟩
structure CsP (w : World) (v : Value) (l : List Cm) : Prop where
  m : (v = .slice none 0 0 ∧ l = []) ∨ ∃ ad cap, v = .slice (some ad) l.length cap ∧ (l = [] ∨ ∃ b o, ad = ⟨b, o, none⟩ ∧ CRow w b o l)
  ok : ∀ c ∈ l, c.ok w
theorem CsP.later {w w' : World} {v : Value} {l : List Cm} (h : CsP w v l) (hb : Below w.heap.size w w') : CsP w' v l := by
  refine ⟨?_, fun c hc => (h.ok c hc).later hb⟩
  rcases h.m with h | ⟨ad, cap, h1, h2⟩
  · exact Or.inl h
  · refine Or.inr ⟨ad, cap, h1, ?_⟩
    rcases h2 with h2 | ⟨b, o, h2, h3⟩
    · exact Or.inl h2
    · exact Or.inr ⟨b, o, h2, h3.later hb⟩
theorem CRow.seven {w : World} {b o j : Nat} {l : List Cm} {c : Cm} (h : CRow w b o l) (hc : l[j]? = some c) :
    w.cell? ⟨b, o + j * 7, none⟩ = some (.int .i64 c.head.1.by_.k) ∧ w.cell? ⟨b, o + j * 7 + 1, none⟩ = some (.int .i64 c.head.1.by_.n) ∧ w.cell? ⟨b, o + j * 7 + 2, none⟩ = some (.string c.head.1.by_.s) ∧ w.cell? ⟨b, o + j * 7 + 3, none⟩ = some (.string c.head.1.name) ∧
      w.cell? ⟨b, o + j * 7 + 4, none⟩ = some c.head.2 ∧ w.cell? ⟨b, o + j * 7 + 5, none⟩ = some c.bv ∧ w.cell? ⟨b, o + j * 7 + 6, none⟩ = some c.tv :=
  ⟨h.2 j c hc 0 _ rfl, h.2 j c hc 1 _ rfl, h.2 j c hc 2 _ rfl, h.2 j c hc 3 _ rfl, h.2 j c hc 4 _ rfl, h.2 j c hc 5 _ rfl, h.2 j c hc 6 _ rfl⟩
theorem CsP.form {w : World} {v : Value} {l : List Cm} (h : CsP w v l) : ∃ a cap, v = .slice a l.length cap := by
  rcases h.m with ⟨rfl, rfl⟩ | ⟨ad, cap, rfl, -⟩
  · exact ⟨none, 0, rfl⟩
  · exact ⟨_, cap, rfl⟩
theorem conj7 {a b c d e f g : Prop} (h1 : a) (h2 : b) (h3 : c) (h4 : d) (h5 : e) (h6 : f) (h7 : g) : Hid (a ∧ b ∧ c ∧ d ∧ e ∧ f ∧ g) := ⟨h1, h2, h3, h4, h5, h6, h7⟩
end Go.Proofs.Ytbhdalchnbfohaa
