/-
  first.
-/
import Derived.Test.YtnaiecemmhioeaaDoorS2
namespace Go.Proofs.YtnaiecemmhioeaaDoor
open Go.RowKit

theorem ts_block {w : World} {g : Nat} {t : Tm} {ty : TypeId} (h : w.heap[g]? = some (.cells #[.int .i64 t.k, .int .i64 t.n, .string t.s] ty (0, 0))) : Ts w (.slice (some ⟨g, 0, none⟩) 1 1) [t] := by
  refine ⟨_, 1, rfl, by simp, Or.inr ⟨g, 0, rfl, (Array.getElem?_eq_some_iff.1 h).1, ?_⟩⟩
  intro i u hu
  match i, hu with
  | 0, hu =>
    simp only [List.getElem?_cons_zero, Option.some.injEq] at hu
    subst hu
    have := three h
    exact ⟨this.1, this.2.1, this.2.2.1⟩
def tX : Tm := ⟨3, 0, ⟨#[]⟩⟩
def tF : Tm := ⟨1, 5, ⟨#[]⟩⟩
def aX : At := ⟨zt, ⟨#[112]⟩, [tX]⟩
def aF : At := ⟨zt, ⟨#[112]⟩, [tF]⟩
theorem mres_first : mRes aX aF [] = some [⟨0, tF⟩] := by
  simp [mRes, mOk, shB, fixOk, At.pl, aX, aF, tX, tF, zt, Tm.var, fb, mGo, look]
theorem first_call (g g' : Nat) (w : World) (h : w.heap[g]? = some (.cells #[.int .i64 3, .int .i64 0, .string ⟨#[]⟩] 23 (0, 0))) (h' : w.heap[g']? = some (.cells #[.int .i64 1, .int .i64 5, .string ⟨#[]⟩] 23 (0, 0))) :
    Calls Tryd.prog 13 #[.agg #[.int .i64 0, .int .i64 0, .string ⟨#[]⟩, .string ⟨#[112]⟩, .slice (some ⟨g, 0, none⟩) 1 1], .agg #[.int .i64 0, .int .i64 0, .string ⟨#[]⟩, .string ⟨#[112]⟩, .slice (some ⟨g', 0, none⟩) 1 1], .slice none 0 0] w
      fun e w' => ∃ b cap, e = .returned (.tuple #[.slice (some ⟨b, 0, none⟩) 1 cap, .bool true]) ∧ b < w'.heap.size ∧ w'.cell? ⟨b, 0, none⟩ = some (.int .i64 0) ∧ w'.cell? ⟨b, 1, none⟩ = some (.int .i64 1) ∧ w'.cell? ⟨b, 2, none⟩ = some (.int .i64 5) ∧ w'.cell? ⟨b, 3, none⟩ = some (.string ⟨#[]⟩) ∧ Below w.heap.size w w' := by
  have hx : Ts w (.slice (some ⟨g, 0, none⟩) 1 1) aX.args := ts_block (t := tX) h
  have hy : Ts w (.slice (some ⟨g', 0, none⟩) 1 1) aF.args := ts_block (t := tF) h'
  have hv : Bs w (.slice none 0 0) [] := ⟨none, 0, rfl, by simp, Or.inl rfl⟩
  refine (match_any 2 (by omega) aX aF [] _ _ _ w hx hy hv (by simp [aX]) (fun out ho => by rw [mres_first] at ho; cases ho; exact sort_one)).mono ?_
  rintro e w' ⟨hb, hr⟩
  rw [mres_first] at hr
  obtain ⟨v', out', rfl, ho, hp, -⟩ := hr
  rw [List.perm_singleton] at hp
  subst hp
  obtain ⟨g1, cap, rfl, -, hg⟩ := own_form ho (by simp)
  have hc := own_cells ho 0 ⟨0, tF⟩ rfl
  exact ⟨g1, cap, rfl, hg, hc.1, hc.2.1, hc.2.2.1, hc.2.2.2, hb⟩
theorem heap4a (w : World) (A B C D : Obj) : ((((w.alloc A).alloc B).alloc C).alloc D).heap[w.heap.size + 2]? = some C := by
  have e : w.heap.size + 2 = ((w.alloc A).alloc B).heap.size := by simp
  rw [e]; exact heap_alloc2_old _ _ _
theorem heap4b (w : World) (A B C D : Obj) : ((((w.alloc A).alloc B).alloc C).alloc D).heap[w.heap.size + 3]? = some D := by
  have e : w.heap.size + 3 = ((w.alloc A).alloc B).heap.size + 1 := by simp
  rw [e]; exact heap_alloc2_new _ _ _
theorem heap4c (w : World) (A B C D : Obj) : ((((w.alloc A).alloc B).alloc C).alloc D).heap[w.heap.size + 1]? = some B := by
  rw [Below.heap_alloc _ _ _ (by simp), Below.heap_alloc _ _ _ (by simp)]; exact heap_alloc2_new _ _ _
set_option maxHeartbeats 1000000 in
theorem first_any (w : World) : Calls Tryd.prog 11 #[] w fun e w' => e = .returned (.bool true) ∧ Below w.heap.size w w' := by
  go_enter Tryd.func11, Tryd.ntmps11
  go_wp2_with (go_at_call 13; refine (first_call (w.heap.size + 2) (w.heap.size + 3) _ ?_ ?_).mono ?_)
  · exact heap4a _ _ _ _ _
  · exact heap4b _ _ _ _ _
  · rintro e w1 ⟨b, cap, rfl, hb, c0, c1, c2, c3, hbel⟩
    have hh := (hbel.block (w.heap.size + 1) (by simp)).trans (heap4c _ _ _ _ _)
    obtain ⟨d0, d1, d2, -, -, -⟩ := three hh
    have HB : Hid _ := hbel
    clear hbel hh
    have i1 : (0 : Int) < 1 := by omega
    go_wp2
    go_quiet (fail)
    go_wp2
    go_ret
    exact ⟨ret_b rfl, below_drewN ((((below2 _ _ _).alloc (by simp; omega) _).alloc (by simp; omega) _).trans (Below.mono (Hid.out HB) (by simp; omega))) _⟩
end Go.Proofs.YtnaiecemmhioeaaDoor
