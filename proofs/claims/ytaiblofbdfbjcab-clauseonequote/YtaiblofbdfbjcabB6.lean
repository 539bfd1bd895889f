/-
  Binds in memory that the call itself made; firstBinds.
-/
import Derived.Test.YtaiblofbdfbjcabE1
import Derived.Deep.AppendLies
import Derived.WalkMore
import Derived.Deep.LoopGhost
namespace Go.Proofs.Ytaiblofbdfbjcab
open Go.RowKit

def Bd.cs (d : Bd) : List Value := [.int .i64 d.x, .int .i64 d.to.k, .int .i64 d.to.n, .string d.to.s]
def bcs (l : List Bd) : List Value := l.flatMap Bd.cs
theorem bcs_len (l : List Bd) : (bcs l).length = l.length * 4 := by
  induction l with
  | nil => rfl
  | cons d l ih => simp only [bcs, List.flatMap_cons, List.length_append, List.length_cons] at *; rw [ih]; simp [Bd.cs]; omega
theorem bcs_snoc (l : List Bd) (d : Bd) : bcs (l ++ [d]) = bcs l ++ d.cs := by simp [bcs]
theorem bcs_get (l : List Bd) (j : Nat) (d : Bd) (h : l[j]? = some d) (i : Nat) (hi : i < 4) : (bcs l)[j * 4 + i]? = d.cs[i]? := by
  induction l generalizing j with
  | nil => simp at h
  | cons e l ih =>
    rw [bcs, List.flatMap_cons]
    cases j with
    | zero =>
      simp only [List.getElem?_cons_zero, Option.some.injEq] at h
      subst h
      rw [List.getElem?_append_left (by simp [Bd.cs]; omega)]
      simp
    | succ j =>
      simp only [List.getElem?_cons_succ] at h
      rw [List.getElem?_append_right (by simp [Bd.cs]; omega)]
      have e1 : (j + 1) * 4 + i - (Bd.cs e).length = j * 4 + i := by simp [Bd.cs]; omega
      rw [e1]
      exact ih j h
def hasX (l : List Bd) (x : Int) : Bool := l.any fun d => decide (d.x = x)
/-- Each number's first bind. -/
def fbS (l : List Bd) (d : Bd) : List Bd := if hasX l d.x then l else l ++ [d]
def fb (s : List Bd) : List Bd := s.foldl fbS []
theorem fb_take (s : List Bd) (k : Nat) (d : Bd) (h : s[k]? = some d) : fb (s.take (k + 1)) = fbS (fb (s.take k)) d := by
  obtain ⟨hk, rfl⟩ := List.getElem?_eq_some_iff.1 h
  rw [List.take_succ_eq_append_getElem hk, fb, List.foldl_append]; rfl
theorem fbS_len (l : List Bd) (d : Bd) : (fbS l d).length ≤ l.length + 1 := by unfold fbS; split <;> simp
theorem fb_len (s : List Bd) : (fb s).length ≤ s.length := by
  have : ∀ s l, (List.foldl fbS l s).length ≤ l.length + s.length := by
    intro s
    induction s with
    | nil => intro l; simp
    | cons d s ih => intro l; have := ih (fbS l d); have := fbS_len l d; simp only [List.foldl_cons, List.length_cons]; omega
  have := this s []
  simpa [fb] using this
theorem hasX_no (l : List Bd) (x : Int) (j : Nat) (d : Bd) (h : l[j]? = some d) (hn : hasX (l.take j) x = false) (hd : ¬ d.x = x) : hasX (l.take (j + 1)) x = false := by
  obtain ⟨hk, rfl⟩ := List.getElem?_eq_some_iff.1 h
  rw [List.take_succ_eq_append_getElem hk, hasX, List.any_append]
  rw [hasX] at hn
  rw [hn]; simpa using hd
theorem hasX_yes (l : List Bd) (x : Int) (j : Nat) (d : Bd) (h : l[j]? = some d) (hd : d.x = x) : hasX l x = true := by
  obtain ⟨hk, rfl⟩ := List.getElem?_eq_some_iff.1 h
  simp only [hasX, List.any_eq_true, decide_eq_true_eq]; exact ⟨_, List.getElem_mem hk, hd⟩

theorem four {w : World} {g : Nat} {a b c d : Value} {t : TypeId} (h : w.heap[g]? = some (.cells #[a, b, c, d] t (0, 0))) :
    w.cell? ⟨g, 0, none⟩ = some a ∧ w.cell? ⟨g, 1, none⟩ = some b ∧ w.cell? ⟨g, 2, none⟩ = some c ∧ w.cell? ⟨g, 3, none⟩ = some d :=
  ⟨cell_of_row _ _ _ _ _ _ h, cell_of_row _ _ _ _ _ _ h, cell_of_row _ _ _ _ _ _ h, cell_of_row _ _ _ _ _ _ h⟩
end Go.Proofs.Ytaiblofbdfbjcab
