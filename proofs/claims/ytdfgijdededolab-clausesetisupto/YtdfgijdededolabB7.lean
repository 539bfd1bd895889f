import Derived.Test.YtdfgijdededolabCL1
import Derived.Deep.AppendLies
import Derived.WalkMore
import Derived.Deep.LoopGhost
import Derived.Deep.CutRange
/-
  Binds in memory that the call itself made; firstBinds.
-/
namespace Go.Proofs.Ytdfgijdededolab
open Go.RowKit

def Bd.cs (d : Bd) : List Value := [.int .i64 d.x, .int .i64 d.to.k, .int .i64 d.to.n, .string d.to.s]
def bcs (l : List Bd) : List Value := l.flatMap Bd.cs
theorem bcs_len (l : List Bd) : (bcs l).length = l.length * 4 := by
  induction l with
  | nil => rfl
  | cons d l ih => simp only [bcs, List.flatMap_cons, List.length_append, List.length_cons] at *; rw [ih]; simp [Bd.cs]; omega
theorem bcs_snoc (l : List Bd) (d : Bd) : bcs (l ++ [d]) = bcs l ++ d.cs := by simp [bcs]
theorem bcs_get (l : List Bd) (j : Nat) (d : Bd) (h : l[j]? = some d) (i : Nat) (hi : i < 4) : (bcs l)[j * 4 + i]? = d.cs[i]? := by
  induction l generalizing j with
  | nil => simp at h
  | cons e l ih =>
    rw [bcs, List.flatMap_cons]
    cases j with
    | zero =>
      simp only [List.getElem?_cons_zero, Option.some.injEq] at h
      subst h
      rw [List.getElem?_append_left (by simp [Bd.cs]; omega)]
      simp
    | succ j =>
      simp only [List.getElem?_cons_succ] at h
      rw [List.getElem?_append_right (by simp [Bd.cs]; omega)]
      have e1 : (j + 1) * 4 + i - (Bd.cs e).length = j * 4 + i := by simp [Bd.cs]; omega
      rw [e1]
      exact ih j h
def hasX (l : List Bd) (x : Int) : Bool := l.any fun d => decide (d.x = x)
/-- Each number's first bind. -/
def fbS (l : List Bd) (d : Bd) : List Bd := if hasX l d.x then l else l ++ [d]
def fb (s : List Bd) : List Bd := s.foldl fbS []
theorem fb_take (s : List Bd) (k : Nat) (d : Bd) (h : s[k]? = some d) : fb (s.take (k + 1)) = fbS (fb (s.take k)) d := by
  obtain ⟨hk, rfl⟩ := List.getElem?_eq_some_iff.1 h
  rw [List.take_succ_eq_append_getElem hk, fb, List.foldl_append]; rfl
theorem fbS_len (l : List Bd) (d : Bd) : (fbS l d).length ≤ l.length + 1 := by unfold fbS; split <;> simp
theorem fb_len (s : List Bd) : (fb s).length ≤ s.length := by
  have : ∀ s l, (List.foldl fbS l s).length ≤ l.length + s.length := by
    intro s
    induction s with
    | nil => intro l; simp
    | cons d s ih => intro l; have := ih (fbS l d); have := fbS_len l d; simp only [List.foldl_cons, List.length_cons]; omega
  have := this s []
  simpa [fb] using this
theorem hasX_no (l : List Bd) (x : Int) (j : Nat) (d : Bd) (h : l[j]? = some d) (hn : hasX (l.take j) x = false) (hd : ¬ d.x = x) : hasX (l.take (j + 1)) x = false := by
  obtain ⟨hk, rfl⟩ := List.getElem?_eq_some_iff.1 h
  rw [List.take_succ_eq_append_getElem hk, hasX, List.any_append]
  rw [hasX] at hn
  rw [hn]; simpa using hd
theorem hasX_yes (l : List Bd) (x : Int) (j : Nat) (d : Bd) (h : l[j]? = some d) (hd : d.x = x) : hasX l x = true := by
  obtain ⟨hk, rfl⟩ := List.getElem?_eq_some_iff.1 h
  simp only [hasX, List.any_eq_true, decide_eq_true_eq]; exact ⟨_, List.getElem_mem hk, hd⟩

theorem four {w : World} {g : Nat} {a b c d : Value} {t : TypeId} (h : w.heap[g]? = some (.cells #[a, b, c, d] t (0, 0))) :
    w.cell? ⟨g, 0, none⟩ = some a ∧ w.cell? ⟨g, 1, none⟩ = some b ∧ w.cell? ⟨g, 2, none⟩ = some c ∧ w.cell? ⟨g, 3, none⟩ = some d :=
  ⟨cell_of_row _ _ _ _ _ _ h, cell_of_row _ _ _ _ _ _ h, cell_of_row _ _ _ _ _ _ h, cell_of_row _ _ _ _ _ _ h⟩
end Go.Proofs.Ytdfgijdededolab
/-
  Match.
-/
namespace Go.Proofs.Ytdfgijdededolab
open Go.RowKit
attribute [local go_sem ↓] Go.wp_at_zero Go.wp_at_succ

def srt (l : List Bd) : Prop := l.Pairwise fun a b => a.x ≤ b.x
def mGo : List Bd → List (Tm × Tm) → Option (List Bd)
  | out, [] => some out
  | out, x :: r => if x.1.var then (match look out x.1.n with
      | some q => if q = x.2 then mGo out r else none
      | none => mGo (out ++ [⟨x.1.n, x.2⟩]) r) else mGo out r
def mOk (p a : At) : Bool := shB p a && fixOk p.pl a.pl && !(p.by_.var && decide (a.by_.k = 0))
def mRes (p a : At) (s : List Bd) : Option (List Bd) := if mOk p a then mGo (fb s) (p.pl.zip a.pl) else none
theorem zip_drop (p a : List Tm) (i : Nat) (t u : Tm) (ht : p[i]? = some t) (hu : a[i]? = some u) : (p.zip a).drop i = (t, u) :: (p.zip a).drop (i + 1) := by
  have hz : (p.zip a)[i]? = some (t, u) := by rw [List.getElem?_zip_eq_some]; exact ⟨ht, hu⟩
  obtain ⟨hk, e⟩ := List.getElem?_eq_some_iff.1 hz
  rw [List.drop_eq_getElem_cons hk, e]
theorem pl_len (a : At) : a.pl.length = a.args.length + 1 := by simp [At.pl]
theorem balloc {w W : World} {o : Obj} (h : Below w.heap.size w W) : Below w.heap.size w (W.alloc o) := h.alloc h.size _
theorem bset {w W : World} {G i : Nat} {a : Value} (h : Below w.heap.size w W) (hg : w.heap.size ≤ G) : Below w.heap.size w (W.setCell ⟨G, i, none⟩ a) := h.setCell hg _
theorem store3 {W : World} {G : Nat} {a b c a' b' c' : Value} {t : TypeId} (h : W.heap[G]? = some (.cells #[a, b, c] t (0, 0))) :
    (((W.setCell ⟨G, 0, none⟩ a').setCell ⟨G, 1, none⟩ b').setCell ⟨G, 2, none⟩ c').heap[G]? = some (.cells #[a', b', c'] t (0, 0)) := by
  have h1 := heap_setCell_same _ _ 0 _ _ a' h
  have h2 := heap_setCell_same _ _ 1 _ _ b' h1
  exact heap_setCell_same _ _ 2 _ _ c' h2
theorem store3_other {W : World} {G k : Nat} {o : Obj} (a' b' c' : Value) (hk : k ≠ G) (h : W.heap[k]? = some o) :
    (((W.setCell ⟨G, 0, none⟩ a').setCell ⟨G, 1, none⟩ b').setCell ⟨G, 2, none⟩ c').heap[k]? = some o := by
  rw [heap_setCell_other _ _ _ _ hk, heap_setCell_other _ _ _ _ hk, heap_setCell_other _ _ _ _ hk]; exact h
/-- The two atoms' boxes, as Match lays them. -/
def Box2 (w W : World) (c d : Array Value) : Prop := W.heap[w.heap.size]? = some (.cells c 26 (0, 0)) ∧ W.heap[w.heap.size + 1]? = some (.cells d 26 (0, 0)) ∧ Below w.heap.size w W
theorem Box2.start (w : World) (c d : Array Value) : Box2 w ((w.alloc (.cells c 26)).alloc (.cells d 26)) c d := ⟨heap_alloc2_old _ _ _, heap_alloc2_new _ _ _, below2 _ _ _⟩
theorem Box2.later {w W W' : World} {c d : Array Value} (h : Box2 w W c d) (hb : Below W.heap.size W W') : Box2 w W' c d :=
  ⟨(hb.block _ (Array.getElem?_eq_some_iff.1 h.1).1).trans h.1, (hb.block _ (Array.getElem?_eq_some_iff.1 h.2.1).1).trans h.2.1, h.2.2.trans (hb.mono h.2.2.size)⟩
theorem Box2.lt {w W : World} {c d : Array Value} (h : Box2 w W c d) : w.heap.size + 1 < W.heap.size := (Array.getElem?_eq_some_iff.1 h.2.1).1
theorem Box2.cells {w W : World} {a b c d e a' b' c' d' e' : Value} (h : Box2 w W #[a, b, c, d, e] #[a', b', c', d', e']) :
    (W.cell? ⟨w.heap.size, 0, none⟩ = some a ∧ W.cell? ⟨w.heap.size, 1, none⟩ = some b ∧ W.cell? ⟨w.heap.size, 2, none⟩ = some c ∧ W.cell? ⟨w.heap.size, 3, none⟩ = some d ∧ W.cell? ⟨w.heap.size, 4, none⟩ = some e) ∧
    (W.cell? ⟨w.heap.size + 1, 0, none⟩ = some a' ∧ W.cell? ⟨w.heap.size + 1, 1, none⟩ = some b' ∧ W.cell? ⟨w.heap.size + 1, 2, none⟩ = some c' ∧ W.cell? ⟨w.heap.size + 1, 3, none⟩ = some d' ∧ W.cell? ⟨w.heap.size + 1, 4, none⟩ = some e') := ⟨five h.1, five h.2.1⟩
end Go.Proofs.Ytdfgijdededolab
