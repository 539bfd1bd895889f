/-
  Lists of atoms and of tests that a call makes by append. (Written by MD8.py.)
-/
import Derived.Test.YtjnipcakjoiplaaDoorMD6
namespace Go.Proofs.YtjnipcakjoiplaaDoor
open Go.RowKit
attribute [local go_sem ↓] Go.wp_at_zero Go.wp_at_succ

def acell (x : At × Value) : List Value := [.int .i64 x.1.by_.k, .int .i64 x.1.by_.n, .string x.1.by_.s, .string x.1.name, x.2]
def acs (l : List (At × Value)) : List Value := l.flatMap acell
theorem acs_get (l : List (At × Value)) (j : Nat) (d : (At × Value)) (h : l[j]? = some d) (i : Nat) (hi : i < 5) : (acs l)[j * 5 + i]? = (acell d)[i]? := by
  induction l generalizing j with
  | nil => simp at h
  | cons e l ih =>
    rw [acs, List.flatMap_cons]
    cases j with
    | zero =>
      simp only [List.getElem?_cons_zero, Option.some.injEq] at h
      subst h
      rw [List.getElem?_append_left (by simp [acell]; omega)]
      simp
    | succ j =>
      simp only [List.getElem?_cons_succ] at h
      rw [List.getElem?_append_right (by simp [acell]; omega)]
      have e1 : (j + 1) * 5 + i - (acell e).length = j * 5 + i := by simp [acell]; omega
      rw [e1]
      exact ih j h
def OwnA (w : World) (base : Nat) (v : Value) (l : List (At × Value)) : Prop := w.ownsRow base 26 5 v l.length (acs l)
theorem OwnA.later {w w' : World} {base : Nat} {v : Value} {l : List (At × Value)} (h : OwnA w base v l) (hb : Below w.heap.size w w') : OwnA w' base v l := by
  refine ⟨h.1, ?_⟩
  rcases h.2 with hn | ⟨g, cap, cur, hv, hbb, hg, rest⟩
  · exact Or.inl hn
  · exact Or.inr ⟨g, cap, cur, hv, hbb, (hb.block g (Array.getElem?_eq_some_iff.1 hg).1).trans hg, rest⟩
theorem OwnA.mono {w : World} {b b' : Nat} {v : Value} {l : List (At × Value)} (h : OwnA w b v l) (hb : b' ≤ b) : OwnA w b' v l := by
  refine ⟨h.1, ?_⟩
  rcases h.2 with hn | ⟨g, cap, cur, hv, hbb, rest⟩
  · exact Or.inl hn
  · exact Or.inr ⟨g, cap, cur, hv, Nat.le_trans hb hbb, rest⟩
theorem OwnA.nil (w : World) (base : Nat) : OwnA w base (.slice none 0 0) [] := World.ownsRow_nil _ _ _ _
theorem OwnA.lt {w : World} {base : Nat} {v : Value} {l : List (At × Value)} (h : OwnA w base v l) : ∀ k, v.ownBlock = some k → base ≤ k ∧ k < w.heap.size := World.ownsRow.lt h
theorem OwnA.off {w : World} {base G i : Nat} {a : Value} {v : Value} {l : List (At × Value)} (h : OwnA w base v l) (hG : ∀ k, v.ownBlock = some k → k ≠ G) : OwnA (w.setCell ⟨G, i, none⟩ a) base v l := by
  refine ⟨h.1, ?_⟩
  rcases h.2 with hn | ⟨g, cap, cur, hv, hbb, hg, rest⟩
  · exact Or.inl hn
  · exact Or.inr ⟨g, cap, cur, hv, hbb, by rw [heap_setCell_other _ _ _ _ (hG g (by rw [hv]; rfl))]; exact hg, rest⟩
theorem OwnA.set {w : World} {base G i : Nat} {a : Value} {v : Value} {l : List (At × Value)} (h : OwnA w base v l) (hG : G < base) : OwnA (w.setCell ⟨G, i, none⟩ a) base v l := h.off fun k hk => by have := (h.lt k hk).1; omega
theorem OwnA.grown {w w' : World} {base : Nat} {v : Value} {l : List (At × Value)} {row : Option Nat} (h : OwnA w base v l) (hg : w.grownBy w' row) (hne : ∀ k, v.ownBlock = some k → row ≠ some k) : OwnA w' base v l := by
  refine ⟨h.1, ?_⟩
  rcases h.2 with hn | ⟨g, cap, cur, hv, hbb, hgg, rest⟩
  · exact Or.inl hn
  · exact Or.inr ⟨g, cap, cur, hv, hbb, (hg.block g (Array.getElem?_eq_some_iff.1 hgg).1 (fun e => hne g (by rw [hv]; rfl) e.symm)).trans hgg, rest⟩
theorem OwnA.form {w : World} {base : Nat} {v : Value} {l : List (At × Value)} (h : OwnA w base v l) : ∃ a cap, v = .slice a l.length cap := by
  rcases h.2 with ⟨rfl, hn⟩ | ⟨g, cap, cur, hv, -⟩
  · exact ⟨none, 0, by rw [hn]⟩
  · exact ⟨_, cap, hv⟩
theorem OwnA.cells {w : World} {base g cap n : Nat} {l : List (At × Value)} (h : OwnA w base (.slice (some ⟨g, 0, none⟩) n cap) l) (j : Nat) (d : (At × Value)) (hd : l[j]? = some d) (i : Nat) (hi : i < 5) : w.cell? ⟨g, j * 5 + i, none⟩ = (acell d)[i]? := by
  rcases h.2 with ⟨h, _⟩ | ⟨g', cap', cur, hv, hb, hg, hn, hc, hs, ht⟩
  · cases h
  · simp only [Value.slice.injEq, Option.some.injEq, Addr.mk.injEq] at hv
    obtain ⟨⟨rfl, -⟩, -, rfl⟩ := hv
    have hj := (List.getElem?_eq_some_iff.1 hd).1
    rw [cell_of_row _ _ _ _ _ _ hg, ← acs_get l j d hd i hi, ← ht, List.getElem?_take_of_lt (by omega)]
    simp
theorem OwnT.grown {w w' : World} {base : Nat} {v : Value} {l : List Tm} {row : Option Nat} (h : OwnT w base v l) (hg : w.grownBy w' row) (hne : ∀ k, v.ownBlock = some k → row ≠ some k) : OwnT w' base v l := by
  refine ⟨h.1, ?_⟩
  rcases h.2 with hn | ⟨g, cap, cur, hv, hbb, hgg, rest⟩
  · exact Or.inl hn
  · exact Or.inr ⟨g, cap, cur, hv, hbb, (hg.block g (Array.getElem?_eq_some_iff.1 hgg).1 (fun e => hne g (by rw [hv]; rfl) e.symm)).trans hgg, rest⟩
end Go.Proofs.YtjnipcakjoiplaaDoor
