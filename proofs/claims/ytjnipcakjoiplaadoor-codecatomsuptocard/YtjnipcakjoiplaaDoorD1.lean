import Derived.Test.YtjnipcakjoiplaaDoorB4
import Derived.Deep.RegionHeld3
import Derived.Deep.DrawnRows
/-
  '==' and '!=' of terms and of binds.
-/
namespace Go.Proofs.YtjnipcakjoiplaaDoor
open Go.RowKit
theorem run_eql_tm (t u : Tm) (w : World) : (binOp .eql 23 t.v u.v).run Tryd.prog w = .ok (.bool (decide (t = u))) w := by
  obtain ⟨k, n, s⟩ := t
  obtain ⟨k', n', s'⟩ := u
  by_cases h1 : k = k'
  · by_cases h2 : n = n'
    · by_cases h3 : s = s'
      · subst h1 h2 h3
        go_simp
      · have h4 : ¬ s.toList = s'.toList := fun e => h3 (toList_inj e)
        subst h1 h2
        go_simp
    · subst h1
      go_simp
  · go_simp
theorem run_neq_tm (t u : Tm) (w : World) : (binOp .neq 23 t.v u.v).run Tryd.prog w = .ok (.bool (!decide (t = u))) w := by
  obtain ⟨k, n, s⟩ := t
  obtain ⟨k', n', s'⟩ := u
  by_cases h1 : k = k'
  · by_cases h2 : n = n'
    · by_cases h3 : s = s'
      · subst h1 h2 h3
        go_simp
      · have h4 : ¬ s.toList = s'.toList := fun e => h3 (toList_inj e)
        subst h1 h2
        go_simp
    · subst h1
      go_simp
  · go_simp
end Go.Proofs.YtjnipcakjoiplaaDoor
/-
  sameWhereFixed; replace.
-/
namespace Go.Proofs.YtjnipcakjoiplaaDoor
open Go.RowKit
attribute [local go_sem ↓] Go.wp_at_zero Go.wp_at_succ

theorem five {w : World} {g : Nat} {a b c d f : Value} {t : TypeId} (h : w.heap[g]? = some (.cells #[a, b, c, d, f] t (0, 0))) :
    w.cell? ⟨g, 0, none⟩ = some a ∧ w.cell? ⟨g, 1, none⟩ = some b ∧ w.cell? ⟨g, 2, none⟩ = some c ∧ w.cell? ⟨g, 3, none⟩ = some d ∧ w.cell? ⟨g, 4, none⟩ = some f :=
  ⟨cell_of_row _ _ _ _ _ _ h, cell_of_row _ _ _ _ _ _ h, cell_of_row _ _ _ _ _ _ h, cell_of_row _ _ _ _ _ _ h, cell_of_row _ _ _ _ _ _ h⟩
theorem below_step {W w' w3 : World} (h : Below W.heap.size W w') (h3 : Below w'.heap.size w' w3) : Below W.heap.size W w3 := h.trans (h3.mono h.size)
theorem cell_step {w' w3 : World} {b o : Nat} {v : Value} (h3 : Below w'.heap.size w' w3) (hb : b < w'.heap.size) (hc : w'.cell? ⟨b, o, none⟩ = some v) : w3.cell? ⟨b, o, none⟩ = some v := by
  rw [h3.cell (p := ⟨b, o, none⟩) hb]; exact hc
end Go.Proofs.YtjnipcakjoiplaaDoor
/-
  constOrVariable, CheckTest, Decide, replace, ApplyTest.
-/
namespace Go.Proofs.YtjnipcakjoiplaaDoor
open Go.RowKit
attribute [local go_sem ↓] Go.wp_at_zero Go.wp_at_succ

def Tm.cov (t : Tm) : Bool := t.con || t.var
set_option maxHeartbeats 400000 in
theorem cov_any (t : Tm) (w : World) :
    Calls Tryd.prog 27 #[t.v] w fun e w' => e = .returned (.bool t.cov) ∧ Below w.heap.size w w' := by
  obtain ⟨k, n, s⟩ := t
  cases h : Tm.con ⟨k, n, s⟩
  · have HC : Hid (Tm.con ⟨k, n, s⟩ = false) := h
    clear h
    go_enter Tryd.func27, Tryd.ntmps27
    go_wp2_with (first
      | (go_at_call 51; refine (con_any ⟨k, n, s⟩ _).mono ?_; rw [HC.out]; rintro e w1 ⟨rfl, hb1⟩; obtain ⟨hcl, hfr⟩ := bcell hb1)
      | (go_at_call 50; refine (var_any ⟨k, n, s⟩ _).mono ?_; rintro e w2 ⟨rfl, hb2⟩))
    go_ret
    exact ⟨ret_b (by unfold Tm.cov; rw [HC.out]; simp), below_step (below_step (below1 _ _) hb1) hb2⟩
  · have HC : Hid (Tm.con ⟨k, n, s⟩ = true) := h
    clear h
    go_enter Tryd.func27, Tryd.ntmps27
    go_wp2_with (first
      | (go_at_call 51; refine (con_any ⟨k, n, s⟩ _).mono ?_; rw [HC.out]; rintro e w1 ⟨rfl, hb1⟩; obtain ⟨hcl, hfr⟩ := bcell hb1))
    go_ret
    exact ⟨ret_b (by unfold Tm.cov; rw [HC.out]; simp), below_step (below1 _ _) hb1⟩
/-- A test: operator and two sides. -/
structure Te where
  op : Int
  l : Tm
  r : Tm
deriving DecidableEq
abbrev Te.v (t : Te) : Value := .agg #[.int .i64 t.op, .int .i64 t.l.k, .int .i64 t.l.n, .string t.l.s, .int .i64 t.r.k, .int .i64 t.r.n, .string t.r.s]
def Te.ok (t : Te) : Bool := decide (1 ≤ t.op ∧ t.op ≤ 4) && (t.l.cov && t.r.cov)
def Te.known (t : Te) : Bool := decide (1 ≤ t.op ∧ t.op ≤ 4) && (t.l.con && t.r.con)
def Te.holds (t : Te) : Bool := t.known && (if t.op = 1 then decide (t.l = t.r) else if t.op = 2 then !decide (t.l = t.r) else if t.op = 3 then decide (t.l.cmp t.r < 0) else decide (t.l.cmp t.r ≤ 0))
/-- One box at the call's first block. -/
def Box1 (w W : World) (c : Array Value) (ty : TypeId) : Prop := W.heap[w.heap.size]? = some (.cells c ty (0, 0)) ∧ Below w.heap.size w W
theorem Box1.start (w : World) (c : Array Value) (ty : TypeId) : Box1 w (w.alloc (.cells c ty)) c ty := ⟨heap_alloc_new _ _, below1 _ _⟩
theorem Box1.later {w W W' : World} {c : Array Value} {ty : TypeId} (h : Box1 w W c ty) (hb : Below W.heap.size W W') : Box1 w W' c ty :=
  ⟨(hb.block _ (Array.getElem?_eq_some_iff.1 h.1).1).trans h.1, h.2.trans (hb.mono h.2.size)⟩
end Go.Proofs.YtjnipcakjoiplaaDoor
