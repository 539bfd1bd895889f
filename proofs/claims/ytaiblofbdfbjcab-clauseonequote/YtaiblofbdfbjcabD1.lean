/-
  constOrVariable, CheckTest, Decide, replace, ApplyTest.
-/
import Derived.Test.YtaiblofbdfbjcabB5
namespace Go.Proofs.Ytaiblofbdfbjcab
open Go.RowKit
attribute [local go_sem ↓] Go.wp_at_zero Go.wp_at_succ

def Tm.cov (t : Tm) : Bool := t.con || t.var
set_option maxHeartbeats 400000 in
theorem cov_any (t : Tm) (w : World) :
    Calls Try.prog 98 #[t.v] w fun e w' => e = .returned (.bool t.cov) ∧ Below w.heap.size w w' := by
  obtain ⟨k, n, s⟩ := t
  cases h : Tm.con ⟨k, n, s⟩
  · have HC : Hid (Tm.con ⟨k, n, s⟩ = false) := h
    clear h
    go_enter Try.func98, Try.ntmps98
    go_wp2_with (first
      | (go_at_call 44; refine (con_any ⟨k, n, s⟩ _).mono ?_; rw [HC.out]; rintro e w1 ⟨rfl, hb1⟩; obtain ⟨hcl, hfr⟩ := bcell hb1)
      | (go_at_call 88; refine (var_any ⟨k, n, s⟩ _).mono ?_; rintro e w2 ⟨rfl, hb2⟩))
    go_ret
    exact ⟨ret_b (by unfold Tm.cov; rw [HC.out]; simp), below_step (below_step (below1 _ _) hb1) hb2⟩
  · have HC : Hid (Tm.con ⟨k, n, s⟩ = true) := h
    clear h
    go_enter Try.func98, Try.ntmps98
    go_wp2_with (first
      | (go_at_call 44; refine (con_any ⟨k, n, s⟩ _).mono ?_; rw [HC.out]; rintro e w1 ⟨rfl, hb1⟩; obtain ⟨hcl, hfr⟩ := bcell hb1))
    go_ret
    exact ⟨ret_b (by unfold Tm.cov; rw [HC.out]; simp), below_step (below1 _ _) hb1⟩
/-- A test: operator and two sides. -/
structure Te where
  op : Int
  l : Tm
  r : Tm
deriving DecidableEq
abbrev Te.v (t : Te) : Value := .agg #[.int .i64 t.op, .int .i64 t.l.k, .int .i64 t.l.n, .string t.l.s, .int .i64 t.r.k, .int .i64 t.r.n, .string t.r.s]
def Te.ok (t : Te) : Bool := decide (1 ≤ t.op ∧ t.op ≤ 4) && (t.l.cov && t.r.cov)
set_option maxHeartbeats 1000000 in
theorem check_any (t : Te) (w : World) :
    Calls Try.prog 87 #[t.v] w fun e w' => e = .returned (.int .i64 (if t.ok then 0 else 32)) ∧ Below w.heap.size w w' := by
  obtain ⟨op, ⟨k, n, s⟩, ⟨k', n', s'⟩⟩ := t
  obtain ⟨c1, h1⟩ : ∃ c, Tm.cov ⟨k, n, s⟩ = c := ⟨_, rfl⟩
  obtain ⟨c2, h2⟩ : ∃ c, Tm.cov ⟨k', n', s'⟩ = c := ⟨_, rfl⟩
  obtain ⟨r, hr⟩ : ∃ r : Int, (if Te.ok ⟨op, ⟨k, n, s⟩, ⟨k', n', s'⟩⟩ then 0 else 32) = r := ⟨_, rfl⟩
  rw [hr]
  have HR : Hid ((if decide (1 ≤ op ∧ op ≤ 4) && (c1 && c2) then (0 : Int) else 32) = r) := by rw [← hr, ← h1, ← h2]; rfl
  have H1 : Hid (Tm.cov ⟨k, n, s⟩ = c1) := h1
  have H2 : Hid (Tm.cov ⟨k', n', s'⟩ = c2) := h2
  clear h1 h2 hr
  by_cases o1 : op < 1
  · go_enter Try.func87, Try.ntmps87
    go_wp2
    go_ret
    exact ⟨ret_i (by rw [← HR.out, decide_eq_false (by omega)]; rfl), below1 _ _⟩
  · by_cases o2 : 4 < op
    · go_enter Try.func87, Try.ntmps87
      go_wp2
      go_ret
      exact ⟨ret_i (by rw [← HR.out, decide_eq_false (by omega)]; rfl), below1 _ _⟩
    · cases c1
      · go_enter Try.func87, Try.ntmps87
        go_wp2_with (go_at_call 98; refine (cov_any ⟨k, n, s⟩ _).mono ?_; rw [H1.out]; rintro e w1 ⟨rfl, hb1⟩)
        go_ret
        exact ⟨ret_i (by rw [← HR.out]; simp), below_step (below1 _ _) hb1⟩
      · cases c2
        all_goals
          go_enter Try.func87, Try.ntmps87
          go_wp2_with (go_at_call 98; refine (cov_any ⟨_, _, _⟩ _).mono ?_; first | (rw [H1.out]; rintro e w1 ⟨rfl, hb1⟩; obtain ⟨hcl, hfr⟩ := bcell hb1; have hm := below_step (below1 _ _) hb1) | (rw [H2.out]; rintro e w2 ⟨rfl, hb2⟩))
          go_ret
          exact ⟨ret_i (by rw [← HR.out, decide_eq_true (by omega)]; simp), below_step hm hb2⟩
def Te.known (t : Te) : Bool := decide (1 ≤ t.op ∧ t.op ≤ 4) && (t.l.con && t.r.con)
def Te.holds (t : Te) : Bool := t.known && (if t.op = 1 then decide (t.l = t.r) else if t.op = 2 then !decide (t.l = t.r) else if t.op = 3 then decide (t.l.cmp t.r < 0) else decide (t.l.cmp t.r ≤ 0))
/-- One box at the call's first block. -/
def Box1 (w W : World) (c : Array Value) (ty : TypeId) : Prop := W.heap[w.heap.size]? = some (.cells c ty (0, 0)) ∧ Below w.heap.size w W
theorem Box1.start (w : World) (c : Array Value) (ty : TypeId) : Box1 w (w.alloc (.cells c ty)) c ty := ⟨heap_alloc_new _ _, below1 _ _⟩
theorem Box1.later {w W W' : World} {c : Array Value} {ty : TypeId} (h : Box1 w W c ty) (hb : Below W.heap.size W W') : Box1 w W' c ty :=
  ⟨(hb.block _ (Array.getElem?_eq_some_iff.1 h.1).1).trans h.1, h.2.trans (hb.mono h.2.size)⟩
theorem Box1.cells7 {w W : World} {a b c d e f g : Value} {ty : TypeId} (h : Box1 w W #[a, b, c, d, e, f, g] ty) :
    W.cell? ⟨w.heap.size, 0, none⟩ = some a ∧ W.cell? ⟨w.heap.size, 1, none⟩ = some b ∧ W.cell? ⟨w.heap.size, 2, none⟩ = some c ∧ W.cell? ⟨w.heap.size, 3, none⟩ = some d ∧ W.cell? ⟨w.heap.size, 4, none⟩ = some e ∧ W.cell? ⟨w.heap.size, 5, none⟩ = some f ∧ W.cell? ⟨w.heap.size, 6, none⟩ = some g :=
  ⟨cell_of_row _ _ _ _ _ _ h.1, cell_of_row _ _ _ _ _ _ h.1, cell_of_row _ _ _ _ _ _ h.1, cell_of_row _ _ _ _ _ _ h.1, cell_of_row _ _ _ _ _ _ h.1, cell_of_row _ _ _ _ _ _ h.1, cell_of_row _ _ _ _ _ _ h.1⟩
theorem con_cov (t : Tm) (h : t.con = true) : t.cov = true := by unfold Tm.cov; rw [h]; rfl
end Go.Proofs.Ytaiblofbdfbjcab
