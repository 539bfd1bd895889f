/-
  What Instance makes of a term.
-/
import Derived.Test.YtaiblofbdfbjcabCL20
namespace Go.Proofs.Ytaiblofbdfbjcab
open Go.RowKit
attribute [local go_sem ↓] Go.wp_at_zero Go.wp_at_succ

/-- The list of values in its box. -/
def VB (w : World) (P : Nat) (v : Value) (vs : List Tm) : Prop := CBlk w P #[v] 24 ∧ Ts w v vs
theorem VB.later {w w' : World} {P : Nat} {v : Value} {vs : List Tm} (h : VB w P v vs) (hb : Below w.heap.size w w') : VB w' P v vs := ⟨h.1.later hb, h.2.later hb⟩
def ins (vs : List Tm) (t : Tm) : Tm := if t.var = true then (vs[t.n.toNat]?).getD t else t
theorem cone {w : World} {g : Nat} {a : Value} {t : TypeId} (h : CBlk w g #[a] t) : w.cell? ⟨g, 0, none⟩ = some a := cell_of_row _ _ _ _ _ _ h
theorem two3 (w : World) (t : Tm) : CBlk ((w.alloc (.cells #[.int .i64 t.k, .int .i64 t.n, .string t.s] 23)).alloc (.cells #[.int .i64 0, .int .i64 0, .string ⟨#[]⟩] 23)) w.heap.size #[.int .i64 t.k, .int .i64 t.n, .string t.s] 23 ∧
    CBlk ((w.alloc (.cells #[.int .i64 t.k, .int .i64 t.n, .string t.s] 23)).alloc (.cells #[.int .i64 0, .int .i64 0, .string ⟨#[]⟩] 23)) (w.heap.size + 1) #[.int .i64 0, .int .i64 0, .string ⟨#[]⟩] 23 := by
  have x2 := CBlk.new (w.alloc (.cells #[.int .i64 t.k, .int .i64 t.n, .string t.s] 23)) #[.int .i64 0, .int .i64 0, .string ⟨#[]⟩] 23
  rw [show (w.alloc (.cells #[.int .i64 t.k, .int .i64 t.n, .string t.s] 23)).heap.size = w.heap.size + 1 by simp] at x2
  exact ⟨(CBlk.new w _ _).later (below1 _ _), x2⟩
end Go.Proofs.Ytaiblofbdfbjcab
