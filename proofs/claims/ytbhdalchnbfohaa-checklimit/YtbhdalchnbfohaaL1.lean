/-
  Terms in memory that the call itself made; lent of the laws.
-/
import Derived.Test.YtbhdalchnbfohaaA1
import Derived.Laws.AppendOwnNone
import Derived.Laws.AppendOwn
namespace Go.Proofs.Ytbhdalchnbfohaa
open Go.RowKit

def Tm.cs (t : Tm) : List Value := [.int .i64 t.k, .int .i64 t.n, .string t.s]
def tcs (l : List Tm) : List Value := l.flatMap Tm.cs
theorem tcs_len (l : List Tm) : (tcs l).length = l.length * 3 := by
  induction l with
  | nil => rfl
  | cons d l ih => simp only [tcs, List.flatMap_cons, List.length_append, List.length_cons] at *; rw [ih]; simp [Tm.cs]; omega
theorem tcs_get (l : List Tm) (j : Nat) (d : Tm) (h : l[j]? = some d) (i : Nat) (hi : i < 3) : (tcs l)[j * 3 + i]? = d.cs[i]? := by
  induction l generalizing j with
  | nil => simp at h
  | cons e l ih =>
    rw [tcs, List.flatMap_cons]
    cases j with
    | zero =>
      simp only [List.getElem?_cons_zero, Option.some.injEq] at h
      subst h
      rw [List.getElem?_append_left (by simp [Tm.cs]; omega)]
      simp
    | succ j =>
      simp only [List.getElem?_cons_succ] at h
      rw [List.getElem?_append_right (by simp [Tm.cs]; omega)]
      have e1 : (j + 1) * 3 + i - (Tm.cs e).length = j * 3 + i := by simp [Tm.cs]; omega
      rw [e1]
      exact ih j h
/-- v holds the terms l, in a block of the call's own. -/
def OwnT (w : World) (base : Nat) (v : Value) (l : List Tm) : Prop := w.ownsRow base 27 3 v l.length (tcs l)
theorem ownT_cells {w : World} {base g cap n : Nat} {l : List Tm} (h : OwnT w base (.slice (some ⟨g, 0, none⟩) n cap) l) (j : Nat) (d : Tm) (hd : l[j]? = some d) :
    w.cell? ⟨g, j * 3, none⟩ = some (.int .i64 d.k) ∧ w.cell? ⟨g, j * 3 + 1, none⟩ = some (.int .i64 d.n) ∧ w.cell? ⟨g, j * 3 + 2, none⟩ = some (.string d.s) := by
  rcases h.2 with ⟨h, _⟩ | ⟨g', cap', cur, hv, hb, hg, hn, hc, hs, ht⟩
  · cases h
  · simp only [Value.slice.injEq, Option.some.injEq, Addr.mk.injEq] at hv
    obtain ⟨⟨rfl, -⟩, -, rfl⟩ := hv
    have hj := (List.getElem?_eq_some_iff.1 hd).1
    have key : ∀ i, i < 3 → w.cell? ⟨g, j * 3 + i, none⟩ = d.cs[i]? := fun i hi => by
      rw [cell_of_row _ _ _ _ _ _ hg, ← tcs_get l j d hd i hi, ← ht, List.getElem?_take_of_lt (by omega)]
      simp
    exact ⟨key 0 (by omega), key 1 (by omega), key 2 (by omega)⟩
end Go.Proofs.Ytbhdalchnbfohaa
