/-
  Match.
-/
import Derived.Test.YtaiblofbdfbjcabB5
import Derived.Test.YtaiblofbdfbjcabB6
import Derived.Deep.CutRange
namespace Go.Proofs.Ytaiblofbdfbjcab
open Go.RowKit
attribute [local go_sem ↓] Go.wp_at_zero Go.wp_at_succ

def srt (l : List Bd) : Prop := l.Pairwise fun a b => a.x ≤ b.x
def mGo : List Bd → List (Tm × Tm) → Option (List Bd)
  | out, [] => some out
  | out, x :: r => if x.1.var then (match look out x.1.n with
      | some q => if q = x.2 then mGo out r else none
      | none => mGo (out ++ [⟨x.1.n, x.2⟩]) r) else mGo out r
def mOk (p a : At) : Bool := shB p a && fixOk p.pl a.pl && !(p.by_.var && decide (a.by_.k = 0))
def mRes (p a : At) (s : List Bd) : Option (List Bd) := if mOk p a then mGo (fb s) (p.pl.zip a.pl) else none
theorem zip_drop (p a : List Tm) (i : Nat) (t u : Tm) (ht : p[i]? = some t) (hu : a[i]? = some u) : (p.zip a).drop i = (t, u) :: (p.zip a).drop (i + 1) := by
  have hz : (p.zip a)[i]? = some (t, u) := by rw [List.getElem?_zip_eq_some]; exact ⟨ht, hu⟩
  obtain ⟨hk, e⟩ := List.getElem?_eq_some_iff.1 hz
  rw [List.drop_eq_getElem_cons hk, e]
theorem pl_len (a : At) : a.pl.length = a.args.length + 1 := by simp [At.pl]
theorem balloc {w W : World} {o : Obj} (h : Below w.heap.size w W) : Below w.heap.size w (W.alloc o) := h.alloc h.size _
theorem bset {w W : World} {G i : Nat} {a : Value} (h : Below w.heap.size w W) (hg : w.heap.size ≤ G) : Below w.heap.size w (W.setCell ⟨G, i, none⟩ a) := h.setCell hg _
theorem store3 {W : World} {G : Nat} {a b c a' b' c' : Value} {t : TypeId} (h : W.heap[G]? = some (.cells #[a, b, c] t (0, 0))) :
    (((W.setCell ⟨G, 0, none⟩ a').setCell ⟨G, 1, none⟩ b').setCell ⟨G, 2, none⟩ c').heap[G]? = some (.cells #[a', b', c'] t (0, 0)) := by
  have h1 := heap_setCell_same _ _ 0 _ _ a' h
  have h2 := heap_setCell_same _ _ 1 _ _ b' h1
  exact heap_setCell_same _ _ 2 _ _ c' h2
theorem store3_other {W : World} {G k : Nat} {o : Obj} (a' b' c' : Value) (hk : k ≠ G) (h : W.heap[k]? = some o) :
    (((W.setCell ⟨G, 0, none⟩ a').setCell ⟨G, 1, none⟩ b').setCell ⟨G, 2, none⟩ c').heap[k]? = some o := by
  rw [heap_setCell_other _ _ _ _ hk, heap_setCell_other _ _ _ _ hk, heap_setCell_other _ _ _ _ hk]; exact h
/-- The two atoms' boxes, as Match lays them. -/
def Box2 (w W : World) (c d : Array Value) : Prop := W.heap[w.heap.size]? = some (.cells c 26 (0, 0)) ∧ W.heap[w.heap.size + 1]? = some (.cells d 26 (0, 0)) ∧ Below w.heap.size w W
theorem Box2.start (w : World) (c d : Array Value) : Box2 w ((w.alloc (.cells c 26)).alloc (.cells d 26)) c d := ⟨heap_alloc2_old _ _ _, heap_alloc2_new _ _ _, below2 _ _ _⟩
theorem Box2.later {w W W' : World} {c d : Array Value} (h : Box2 w W c d) (hb : Below W.heap.size W W') : Box2 w W' c d :=
  ⟨(hb.block _ (Array.getElem?_eq_some_iff.1 h.1).1).trans h.1, (hb.block _ (Array.getElem?_eq_some_iff.1 h.2.1).1).trans h.2.1, h.2.2.trans (hb.mono h.2.2.size)⟩
theorem Box2.lt {w W : World} {c d : Array Value} (h : Box2 w W c d) : w.heap.size + 1 < W.heap.size := (Array.getElem?_eq_some_iff.1 h.2.1).1
theorem Box2.cells {w W : World} {a b c d e a' b' c' d' e' : Value} (h : Box2 w W #[a, b, c, d, e] #[a', b', c', d', e']) :
    (W.cell? ⟨w.heap.size, 0, none⟩ = some a ∧ W.cell? ⟨w.heap.size, 1, none⟩ = some b ∧ W.cell? ⟨w.heap.size, 2, none⟩ = some c ∧ W.cell? ⟨w.heap.size, 3, none⟩ = some d ∧ W.cell? ⟨w.heap.size, 4, none⟩ = some e) ∧
    (W.cell? ⟨w.heap.size + 1, 0, none⟩ = some a' ∧ W.cell? ⟨w.heap.size + 1, 1, none⟩ = some b' ∧ W.cell? ⟨w.heap.size + 1, 2, none⟩ = some c' ∧ W.cell? ⟨w.heap.size + 1, 3, none⟩ = some d' ∧ W.cell? ⟨w.heap.size + 1, 4, none⟩ = some e') := ⟨five h.1, five h.2.1⟩
end Go.Proofs.Ytaiblofbdfbjcab
