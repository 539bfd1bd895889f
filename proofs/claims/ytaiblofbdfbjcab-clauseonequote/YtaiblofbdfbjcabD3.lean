import Derived.Test.YtaiblofbdfbjcabB7
import Derived.Test.YtaiblofbdfbjcabD2
/-
  sortBinds of at most one bind; first.
-/
namespace Go.Proofs.Ytaiblofbdfbjcab
open Go.RowKit

set_option maxRecDepth 100000 in
theorem len64_tiny (n : Int) (h : n = 0 ∨ n = 1) (w : World) : Calls Try.prog 82 #[.int .u64 n] w fun e w' => (∃ m : Int, e = .returned (.int .i64 m)) ∧ w' = w := by
  rcases h with rfl | rfl
  · go_enter Try.func82, Try.ntmps82
    go_wp2
    go_ret
    exact ⟨⟨_, rfl⟩, rfl⟩
  · go_enter Try.func82, Try.ntmps82
    go_wp2
    go_ret
    exact ⟨⟨_, rfl⟩, rfl⟩
theorem len_tiny (n : Nat) (h : n ≤ 1) (w : World) : Calls Try.prog 57 #[.int .u64 n] w fun e w' => (∃ m : Int, e = .returned (.int .i64 m)) ∧ w' = w := by
  have hn : (n : Int) = 0 ∨ (n : Int) = 1 := by omega
  have HN : Hid ((n : Int) = 0 ∨ (n : Int) = 1) := hn
  clear hn h
  go_enter Try.func57, Try.ntmps57
  go_wp2_with (go_at_call 82; refine (len64_tiny _ HN.out _).mono ?_; rintro e w1 ⟨⟨m, rfl⟩, rfl⟩)
  go_ret
  exact ⟨⟨_, rfl⟩, rfl⟩
end Go.Proofs.Ytaiblofbdfbjcab
/-
  first.
-/
namespace Go.Proofs.Ytaiblofbdfbjcab
open Go.RowKit

theorem ts_block {w : World} {g : Nat} {t : Tm} {ty : TypeId} (h : w.heap[g]? = some (.cells #[.int .i64 t.k, .int .i64 t.n, .string t.s] ty (0, 0))) : Ts w (.slice (some ⟨g, 0, none⟩) 1 1) [t] := by
  refine ⟨_, 1, rfl, by simp, Or.inr ⟨g, 0, rfl, (Array.getElem?_eq_some_iff.1 h).1, ?_⟩⟩
  intro i u hu
  match i, hu with
  | 0, hu =>
    simp only [List.getElem?_cons_zero, Option.some.injEq] at hu
    subst hu
    have := three h
    exact ⟨this.1, this.2.1, this.2.2.1⟩
def tX : Tm := ⟨3, 0, ⟨#[]⟩⟩
def tF : Tm := ⟨1, 5, ⟨#[]⟩⟩
def aX : At := ⟨zt, ⟨#[112]⟩, [tX]⟩
def aF : At := ⟨zt, ⟨#[112]⟩, [tF]⟩
theorem mres_first : mRes aX aF [] = some [⟨0, tF⟩] := by
  simp [mRes, mOk, shB, fixOk, At.pl, aX, aF, tX, tF, zt, Tm.var, fb, mGo, look]
theorem heap4a (w : World) (A B C D : Obj) : ((((w.alloc A).alloc B).alloc C).alloc D).heap[w.heap.size + 2]? = some C := by
  have e : w.heap.size + 2 = ((w.alloc A).alloc B).heap.size := by simp
  rw [e]; exact heap_alloc2_old _ _ _
theorem heap4b (w : World) (A B C D : Obj) : ((((w.alloc A).alloc B).alloc C).alloc D).heap[w.heap.size + 3]? = some D := by
  have e : w.heap.size + 3 = ((w.alloc A).alloc B).heap.size + 1 := by simp
  rw [e]; exact heap_alloc2_new _ _ _
theorem heap4c (w : World) (A B C D : Obj) : ((((w.alloc A).alloc B).alloc C).alloc D).heap[w.heap.size + 1]? = some B := by
  rw [Below.heap_alloc _ _ _ (by simp), Below.heap_alloc _ _ _ (by simp)]; exact heap_alloc2_new _ _ _
end Go.Proofs.Ytaiblofbdfbjcab
/-
  hearsaylaw02.TermDecides, for every two terms.
-/
namespace Go.Proofs.Ytaiblofbdfbjcab
open Go.RowKit
attribute [local go_sem ↓] Go.wp_at_zero Go.wp_at_succ

theorem sgI_neg (a b : Int) : M.sgI b a = - M.sgI a b := by unfold M.sgI; repeat' split
                                                            all_goals omega
theorem cmp_neg (a b : Tm) : b.cmp a = - a.cmp b := by
  unfold Tm.cmp
  by_cases h1 : a.k = b.k
  · by_cases h2 : a.n = b.n
    · simp [h1, h2]; exact M.sgL_neg _ _
    · have h2' : ¬ b.n = a.n := fun e => h2 e.symm
      simp [h1, h2, h2']; exact sgI_neg _ _
  · have h1' : ¬ b.k = a.k := fun e => h1 e.symm
    simp [h1, h1']; exact sgI_neg _ _
theorem con_var (t : Tm) (h : t.con = true) : t.var = false := by
  unfold Tm.con at h; unfold Tm.var
  simp only [decide_eq_true_eq, decide_eq_false_iff_not] at *
  omega
def x4 : Tm := ⟨3, 4, ⟨#[]⟩⟩
theorem x4_con : x4.con = false := by decide
theorem x4_var : x4.var = true := by simp [x4, Tm.var]
theorem apply_x4 (l r : Tm) (h : r.con = true) : applyTe [⟨4, l⟩] ⟨4, x4, r⟩ = ⟨4, l, r⟩ := by
  unfold applyTe become
  rw [x4_var, con_var r h]; simp [look, x4]
theorem bs_one {w : World} {g : Nat} {d : Bd} {ty : TypeId} (h : w.heap[g]? = some (.cells #[.int .i64 d.x, .int .i64 d.to.k, .int .i64 d.to.n, .string d.to.s] ty (0, 0))) : Bs w (.slice (some ⟨g, 0, none⟩) 1 1) [d] := by
  refine ⟨_, 1, rfl, by simp, Or.inr ⟨g, 0, rfl, (Array.getElem?_eq_some_iff.1 h).1, ?_⟩⟩
  intro i u hu
  match i, hu with
  | 0, hu =>
    simp only [List.getElem?_cons_zero, Option.some.injEq] at hu
    subst hu
    have := four h
    exact ⟨this.1, this.2.1, this.2.2.1, this.2.2.2⟩
end Go.Proofs.Ytaiblofbdfbjcab
