import Derived.Test.YtjnipcakjoiplaaDoorCL17
import Derived.Test.YtjnipcakjoiplaaDoorCL12
/-
  replaced, with what copies each term. (Written by CL18.py.)
-/
namespace Go.Proofs.YtjnipcakjoiplaaDoor
open Go.RowKit
attribute [local go_sem ↓] Go.wp_at_zero Go.wp_at_succ

def Cm.hcs (c : Cm) (M1 : Nat) : Array Value := #[.int .i64 c.head.1.by_.k, .int .i64 c.head.1.by_.n, .string c.head.1.by_.s, .string c.head.1.name, .slice (some ⟨M1, 0, none⟩) c.head.1.args.length c.head.1.args.length]
end Go.Proofs.YtjnipcakjoiplaaDoor
/-
  copied; unqualified; what a clause quoted is. (Written by CL19.py.)
-/
namespace Go.Proofs.YtjnipcakjoiplaaDoor
open Go.RowKit
attribute [local go_sem ↓] Go.wp_at_zero Go.wp_at_succ

/-- Cells of an atom's qualifier set anew. -/
abbrev Aby (w : World) (g k : Nat) (t : Tm) : World := ((w.setCell ⟨g, k * 5, none⟩ (.int .i64 t.k)).setCell ⟨g, k * 5 + 1, none⟩ (.int .i64 t.n)).setCell ⟨g, k * 5 + 2, none⟩ (.string t.s)
theorem ABlk.by_ {w : World} {g n k : Nat} {l : List (At × Value)} {x : At × Value} (h : ABlk w g n l) (hx : l[k]? = some x) (hk : k < n) (t : Tm) : ABlk (Aby w g k t) g n (l.set k (⟨t, x.1.name, x.1.args⟩, x.2)) := by
  obtain ⟨C, h1, h2, h3⟩ := h
  have e0 := heap_setCell_same _ _ (k * 5) _ _ (.int .i64 t.k) h1
  have e1 := heap_setCell_same _ _ (k * 5 + 1) _ _ (.int .i64 t.n) e0
  have e2 := heap_setCell_same _ _ (k * 5 + 2) _ _ (.string t.s) e1
  refine ⟨_, e2, by simp [h2], fun i u hu => ?_⟩
  by_cases hik : i = k
  · subst hik
    have hlt : i < l.length := (List.getElem?_eq_some_iff.1 hx).1
    rw [List.getElem?_set_self hlt] at hu
    obtain rfl := Option.some.inj hu
    obtain ⟨q0, q1, q2, q3, q4⟩ := h3 i x hx
    refine ⟨?_, ?_, ?_, ?_, ?_⟩
    · simp [Array.getElem?_setIfInBounds, h2]; omega
    · simp [Array.getElem?_setIfInBounds, h2]; omega
    · simp [Array.getElem?_setIfInBounds, h2]; omega
    · rw [Array.getElem?_setIfInBounds_ne (by omega), Array.getElem?_setIfInBounds_ne (by omega), Array.getElem?_setIfInBounds_ne (by omega)]; exact q3
    · rw [Array.getElem?_setIfInBounds_ne (by omega), Array.getElem?_setIfInBounds_ne (by omega), Array.getElem?_setIfInBounds_ne (by omega)]; exact q4
  · rw [List.getElem?_set_ne (fun e => hik e.symm)] at hu
    obtain ⟨q0, q1, q2, q3, q4⟩ := h3 i u hu
    refine ⟨?_, ?_, ?_, ?_, ?_⟩ <;> rw [Array.getElem?_setIfInBounds_ne (by omega), Array.getElem?_setIfInBounds_ne (by omega), Array.getElem?_setIfInBounds_ne (by omega)] <;> assumption
end Go.Proofs.YtjnipcakjoiplaaDoor
/-
  Quote, of a clause that may be quoted. (Written by CL20.py.)
-/
namespace Go.Proofs.YtjnipcakjoiplaaDoor
open Go.RowKit
attribute [local go_sem ↓] Go.wp_at_zero Go.wp_at_succ

/-- An atom quoted. -/
def qa (u : ByteArray) (x : At) : At := if x.by_ = zt then ⟨⟨2, 0, u⟩, x.name, x.args⟩ else x
theorem ABlk.froz {w : World} {g n i : Nat} {l : List (At × Value)} (h : ABlk w g n l) : w.frozen? ⟨g, i, none⟩ = false := by
  obtain ⟨C, h1, -⟩ := h
  exact frozen_of_row _ _ _ _ _ h1
theorem CBlk.froz {w : World} {g i : Nat} {c : Array Value} {t : TypeId} (h : CBlk w g c t) : w.frozen? ⟨g, i, none⟩ = false := frozen_of_row _ _ _ _ _ h

end Go.Proofs.YtjnipcakjoiplaaDoor
/-
  What Instance makes of a term.
-/
namespace Go.Proofs.YtjnipcakjoiplaaDoor
open Go.RowKit
attribute [local go_sem ↓] Go.wp_at_zero Go.wp_at_succ

/-- The list of values in its box. -/
def VB (w : World) (P : Nat) (v : Value) (vs : List Tm) : Prop := CBlk w P #[v] 24 ∧ Ts w v vs
theorem VB.later {w w' : World} {P : Nat} {v : Value} {vs : List Tm} (h : VB w P v vs) (hb : Below w.heap.size w w') : VB w' P v vs := ⟨h.1.later hb, h.2.later hb⟩
end Go.Proofs.YtjnipcakjoiplaaDoor
