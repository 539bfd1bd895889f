import Derived.Test.YtdfgijdededolabCL1
import Derived.Test.YtdfgijdededolabB7
/-
  replace, ApplyTest.
-/
namespace Go.Proofs.Ytdfgijdededolab
open Go.RowKit
attribute [local go_sem ↓] Go.wp_at_zero Go.wp_at_succ

/-- What a term becomes. -/
def become (s : List Bd) (t : Tm) : Tm := if t.var then (look s t.n).getD t else t
def BoxB (w W : World) (c d : Array Value) (t t' : TypeId) : Prop := W.heap[w.heap.size]? = some (.cells c t (0, 0)) ∧ W.heap[w.heap.size + 1]? = some (.cells d t' (0, 0)) ∧ Below w.heap.size w W
theorem BoxB.start (w : World) (c d : Array Value) (t t' : TypeId) : BoxB w ((w.alloc (.cells c t)).alloc (.cells d t')) c d t t' := ⟨heap_alloc2_old _ _ _, heap_alloc2_new _ _ _, below2 _ _ _⟩
theorem BoxB.later {w W W' : World} {c d : Array Value} {t t' : TypeId} (h : BoxB w W c d t t') (hb : Below W.heap.size W W') : BoxB w W' c d t t' :=
  ⟨(hb.block _ (Array.getElem?_eq_some_iff.1 h.1).1).trans h.1, (hb.block _ (Array.getElem?_eq_some_iff.1 h.2.1).1).trans h.2.1, h.2.2.trans (hb.mono h.2.2.size)⟩
theorem BoxB.lt {w W : World} {c d : Array Value} {t t' : TypeId} (h : BoxB w W c d t t') : w.heap.size + 1 < W.heap.size := (Array.getElem?_eq_some_iff.1 h.2.1).1
def applyTe (s : List Bd) (t : Te) : Te := ⟨t.op, become s t.l, become s t.r⟩
theorem seven {w : World} {x : Nat} {a b c d e f g : Value} {ty : TypeId} (h : w.heap[x]? = some (.cells #[a, b, c, d, e, f, g] ty (0, 0))) :
    (w.cell? ⟨x, 0, none⟩ = some a ∧ w.cell? ⟨x, 1, none⟩ = some b ∧ w.cell? ⟨x, 2, none⟩ = some c ∧ w.cell? ⟨x, 3, none⟩ = some d ∧ w.cell? ⟨x, 4, none⟩ = some e ∧ w.cell? ⟨x, 5, none⟩ = some f ∧ w.cell? ⟨x, 6, none⟩ = some g) ∧
    (w.frozen? ⟨x, 0, none⟩ = false ∧ w.frozen? ⟨x, 1, none⟩ = false ∧ w.frozen? ⟨x, 2, none⟩ = false ∧ w.frozen? ⟨x, 3, none⟩ = false ∧ w.frozen? ⟨x, 4, none⟩ = false ∧ w.frozen? ⟨x, 5, none⟩ = false ∧ w.frozen? ⟨x, 6, none⟩ = false) :=
  ⟨⟨cell_of_row _ _ _ _ _ _ h, cell_of_row _ _ _ _ _ _ h, cell_of_row _ _ _ _ _ _ h, cell_of_row _ _ _ _ _ _ h, cell_of_row _ _ _ _ _ _ h, cell_of_row _ _ _ _ _ _ h, cell_of_row _ _ _ _ _ _ h⟩,
   ⟨frozen_of_row _ _ _ _ _ h, frozen_of_row _ _ _ _ _ h, frozen_of_row _ _ _ _ _ h, frozen_of_row _ _ _ _ _ h, frozen_of_row _ _ _ _ _ h, frozen_of_row _ _ _ _ _ h, frozen_of_row _ _ _ _ _ h⟩⟩
theorem cell_stepB {B : Nat} {w' w3 : World} {b o : Nat} {v : Value} (h3 : Below B w' w3) (hb : b < B) (hc : w'.cell? ⟨b, o, none⟩ = some v) : w3.cell? ⟨b, o, none⟩ = some v := by
  rw [h3.cell (p := ⟨b, o, none⟩) hb]; exact hc
end Go.Proofs.Ytdfgijdededolab
/-
  sortBinds of at most one bind; first.
-/
namespace Go.Proofs.Ytdfgijdededolab
open Go.RowKit

set_option maxRecDepth 100000 in
theorem len64_tiny (n : Int) (h : n = 0 ∨ n = 1) (w : World) : Calls Try.prog 82 #[.int .u64 n] w fun e w' => (∃ m : Int, e = .returned (.int .i64 m)) ∧ w' = w := by
  rcases h with rfl | rfl
  · go_enter Try.func82, Try.ntmps82
    go_wp2
    go_ret
    exact ⟨⟨_, rfl⟩, rfl⟩
  · go_enter Try.func82, Try.ntmps82
    go_wp2
    go_ret
    exact ⟨⟨_, rfl⟩, rfl⟩
theorem len_tiny (n : Nat) (h : n ≤ 1) (w : World) : Calls Try.prog 57 #[.int .u64 n] w fun e w' => (∃ m : Int, e = .returned (.int .i64 m)) ∧ w' = w := by
  have hn : (n : Int) = 0 ∨ (n : Int) = 1 := by omega
  have HN : Hid ((n : Int) = 0 ∨ (n : Int) = 1) := hn
  clear hn h
  go_enter Try.func57, Try.ntmps57
  go_wp2_with (go_at_call 82; refine (len64_tiny _ HN.out _).mono ?_; rintro e w1 ⟨⟨m, rfl⟩, rfl⟩)
  go_ret
  exact ⟨⟨_, rfl⟩, rfl⟩
end Go.Proofs.Ytdfgijdededolab
/-
  first.
-/
namespace Go.Proofs.Ytdfgijdededolab
open Go.RowKit

theorem ts_block {w : World} {g : Nat} {t : Tm} {ty : TypeId} (h : w.heap[g]? = some (.cells #[.int .i64 t.k, .int .i64 t.n, .string t.s] ty (0, 0))) : Ts w (.slice (some ⟨g, 0, none⟩) 1 1) [t] := by
  refine ⟨_, 1, rfl, by simp, Or.inr ⟨g, 0, rfl, (Array.getElem?_eq_some_iff.1 h).1, ?_⟩⟩
  intro i u hu
  match i, hu with
  | 0, hu =>
    simp only [List.getElem?_cons_zero, Option.some.injEq] at hu
    subst hu
    have := three h
    exact ⟨this.1, this.2.1, this.2.2.1⟩
def tX : Tm := ⟨3, 0, ⟨#[]⟩⟩
def tF : Tm := ⟨1, 5, ⟨#[]⟩⟩
def aX : At := ⟨zt, ⟨#[112]⟩, [tX]⟩
def aF : At := ⟨zt, ⟨#[112]⟩, [tF]⟩
theorem mres_first : mRes aX aF [] = some [⟨0, tF⟩] := by
  simp [mRes, mOk, shB, fixOk, At.pl, aX, aF, tX, tF, zt, Tm.var, fb, mGo, look]
theorem heap4a (w : World) (A B C D : Obj) : ((((w.alloc A).alloc B).alloc C).alloc D).heap[w.heap.size + 2]? = some C := by
  have e : w.heap.size + 2 = ((w.alloc A).alloc B).heap.size := by simp
  rw [e]; exact heap_alloc2_old _ _ _
theorem heap4b (w : World) (A B C D : Obj) : ((((w.alloc A).alloc B).alloc C).alloc D).heap[w.heap.size + 3]? = some D := by
  have e : w.heap.size + 3 = ((w.alloc A).alloc B).heap.size + 1 := by simp
  rw [e]; exact heap_alloc2_new _ _ _
theorem heap4c (w : World) (A B C D : Obj) : ((((w.alloc A).alloc B).alloc C).alloc D).heap[w.heap.size + 1]? = some B := by
  rw [Below.heap_alloc _ _ _ (by simp), Below.heap_alloc _ _ _ (by simp)]; exact heap_alloc2_new _ _ _
end Go.Proofs.Ytdfgijdededolab
/-
  hearsaylaw02.TermDecides, for every two terms.
-/
namespace Go.Proofs.Ytdfgijdededolab
open Go.RowKit
attribute [local go_sem ↓] Go.wp_at_zero Go.wp_at_succ

theorem sgI_neg (a b : Int) : M.sgI b a = - M.sgI a b := by unfold M.sgI; repeat' split
                                                            all_goals omega
theorem cmp_neg (a b : Tm) : b.cmp a = - a.cmp b := by
  unfold Tm.cmp
  by_cases h1 : a.k = b.k
  · by_cases h2 : a.n = b.n
    · simp [h1, h2]; exact M.sgL_neg _ _
    · have h2' : ¬ b.n = a.n := fun e => h2 e.symm
      simp [h1, h2, h2']; exact sgI_neg _ _
  · have h1' : ¬ b.k = a.k := fun e => h1 e.symm
    simp [h1, h1']; exact sgI_neg _ _
theorem con_var (t : Tm) (h : t.con = true) : t.var = false := by
  unfold Tm.con at h; unfold Tm.var
  simp only [decide_eq_true_eq, decide_eq_false_iff_not] at *
  omega
def x4 : Tm := ⟨3, 4, ⟨#[]⟩⟩
theorem x4_con : x4.con = false := by decide
theorem x4_var : x4.var = true := by simp [x4, Tm.var]
theorem apply_x4 (l r : Tm) (h : r.con = true) : applyTe [⟨4, l⟩] ⟨4, x4, r⟩ = ⟨4, l, r⟩ := by
  unfold applyTe become
  rw [x4_var, con_var r h]; simp [look, x4]
theorem bs_one {w : World} {g : Nat} {d : Bd} {ty : TypeId} (h : w.heap[g]? = some (.cells #[.int .i64 d.x, .int .i64 d.to.k, .int .i64 d.to.n, .string d.to.s] ty (0, 0))) : Bs w (.slice (some ⟨g, 0, none⟩) 1 1) [d] := by
  refine ⟨_, 1, rfl, by simp, Or.inr ⟨g, 0, rfl, (Array.getElem?_eq_some_iff.1 h).1, ?_⟩⟩
  intro i u hu
  match i, hu with
  | 0, hu =>
    simp only [List.getElem?_cons_zero, Option.some.injEq] at hu
    subst hu
    have := four h
    exact ⟨this.1, this.2.1, this.2.2.1, this.2.2.2⟩
end Go.Proofs.Ytdfgijdededolab
