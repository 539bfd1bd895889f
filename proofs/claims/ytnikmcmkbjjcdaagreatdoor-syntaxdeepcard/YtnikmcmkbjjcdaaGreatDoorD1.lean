import Derived.Test.YtnikmcmkbjjcdaaGreatDoorB4
import Derived.Deep.RegionHeld3
import Derived.Deep.DrawnRows
/-
  '==' and '!=' of terms and of binds.
-/
namespace Go.Proofs.YtnikmcmkbjjcdaaGreatDoor
open Go.RowKit
theorem run_eql_tm (t u : Tm) (w : World) : (binOp .eql 30 t.v u.v).run Tryz.prog w = .ok (.bool (decide (t = u))) w := by
  obtain ⟨k, n, s⟩ := t
  obtain ⟨k', n', s'⟩ := u
  by_cases h1 : k = k'
  · by_cases h2 : n = n'
    · by_cases h3 : s = s'
      · subst h1 h2 h3
        go_simp
      · have h4 : ¬ s.toList = s'.toList := fun e => h3 (toList_inj e)
        subst h1 h2
        go_simp
    · subst h1
      go_simp
  · go_simp
end Go.Proofs.YtnikmcmkbjjcdaaGreatDoor
/-
  sameWhereFixed; replace.
-/
namespace Go.Proofs.YtnikmcmkbjjcdaaGreatDoor
open Go.RowKit
attribute [local go_sem ↓] Go.wp_at_zero Go.wp_at_succ

theorem five {w : World} {g : Nat} {a b c d f : Value} {t : TypeId} (h : w.heap[g]? = some (.cells #[a, b, c, d, f] t (0, 0))) :
    w.cell? ⟨g, 0, none⟩ = some a ∧ w.cell? ⟨g, 1, none⟩ = some b ∧ w.cell? ⟨g, 2, none⟩ = some c ∧ w.cell? ⟨g, 3, none⟩ = some d ∧ w.cell? ⟨g, 4, none⟩ = some f :=
  ⟨cell_of_row _ _ _ _ _ _ h, cell_of_row _ _ _ _ _ _ h, cell_of_row _ _ _ _ _ _ h, cell_of_row _ _ _ _ _ _ h, cell_of_row _ _ _ _ _ _ h⟩
theorem below_step {W w' w3 : World} (h : Below W.heap.size W w') (h3 : Below w'.heap.size w' w3) : Below W.heap.size W w3 := h.trans (h3.mono h.size)
theorem cell_step {w' w3 : World} {b o : Nat} {v : Value} (h3 : Below w'.heap.size w' w3) (hb : b < w'.heap.size) (hc : w'.cell? ⟨b, o, none⟩ = some v) : w3.cell? ⟨b, o, none⟩ = some v := by
  rw [h3.cell (p := ⟨b, o, none⟩) hb]; exact hc
theorem lt_step {w' w3 : World} {b : Nat} (h3 : Below w'.heap.size w' w3) (hb : b < w'.heap.size) : b < w3.heap.size := Nat.lt_of_lt_of_le hb h3.size
end Go.Proofs.YtnikmcmkbjjcdaaGreatDoor
/-
  constOrVariable, CheckTest, Decide, replace, ApplyTest.
-/
namespace Go.Proofs.YtnikmcmkbjjcdaaGreatDoor
open Go.RowKit
attribute [local go_sem ↓] Go.wp_at_zero Go.wp_at_succ

def Tm.cov (t : Tm) : Bool := t.con || t.var
set_option maxHeartbeats 400000 in
theorem cov_any (t : Tm) (w : World) :
    Calls Tryz.prog 40 #[t.v] w fun e w' => e = .returned (.bool t.cov) ∧ Below w.heap.size w w' := by
  obtain ⟨k, n, s⟩ := t
  cases h : Tm.con ⟨k, n, s⟩
  · have HC : Hid (Tm.con ⟨k, n, s⟩ = false) := h
    clear h
    go_enter Tryz.func40, Tryz.ntmps40
    go_wp2_with (first
      | (go_at_call 75; refine (con_any ⟨k, n, s⟩ _).mono ?_; rw [HC.out]; rintro e w1 ⟨rfl, hb1⟩; obtain ⟨hcl, hfr⟩ := bcell hb1)
      | (go_at_call 43; refine (var_any ⟨k, n, s⟩ _).mono ?_; rintro e w2 ⟨rfl, hb2⟩))
    go_ret
    exact ⟨ret_b (by unfold Tm.cov; rw [HC.out]; simp), below_step (below_step (below1 _ _) hb1) hb2⟩
  · have HC : Hid (Tm.con ⟨k, n, s⟩ = true) := h
    clear h
    go_enter Tryz.func40, Tryz.ntmps40
    go_wp2_with (first
      | (go_at_call 75; refine (con_any ⟨k, n, s⟩ _).mono ?_; rw [HC.out]; rintro e w1 ⟨rfl, hb1⟩; obtain ⟨hcl, hfr⟩ := bcell hb1))
    go_ret
    exact ⟨ret_b (by unfold Tm.cov; rw [HC.out]; simp), below_step (below1 _ _) hb1⟩
/-- A test: operator and two sides. -/
structure Te where
  op : Int
  l : Tm
  r : Tm
deriving DecidableEq
abbrev Te.v (t : Te) : Value := .agg #[.int .i64 t.op, .int .i64 t.l.k, .int .i64 t.l.n, .string t.l.s, .int .i64 t.r.k, .int .i64 t.r.n, .string t.r.s]
def Te.ok (t : Te) : Bool := decide (1 ≤ t.op ∧ t.op ≤ 4) && (t.l.cov && t.r.cov)
set_option maxHeartbeats 1000000 in
theorem check_any (t : Te) (w : World) :
    Calls Tryz.prog 90 #[t.v] w fun e w' => e = .returned (.int .i64 (if t.ok then 0 else 32)) ∧ Below w.heap.size w w' := by
  obtain ⟨op, ⟨k, n, s⟩, ⟨k', n', s'⟩⟩ := t
  obtain ⟨c1, h1⟩ : ∃ c, Tm.cov ⟨k, n, s⟩ = c := ⟨_, rfl⟩
  obtain ⟨c2, h2⟩ : ∃ c, Tm.cov ⟨k', n', s'⟩ = c := ⟨_, rfl⟩
  obtain ⟨r, hr⟩ : ∃ r : Int, (if Te.ok ⟨op, ⟨k, n, s⟩, ⟨k', n', s'⟩⟩ then 0 else 32) = r := ⟨_, rfl⟩
  rw [hr]
  have HR : Hid ((if decide (1 ≤ op ∧ op ≤ 4) && (c1 && c2) then (0 : Int) else 32) = r) := by rw [← hr, ← h1, ← h2]; rfl
  have H1 : Hid (Tm.cov ⟨k, n, s⟩ = c1) := h1
  have H2 : Hid (Tm.cov ⟨k', n', s'⟩ = c2) := h2
  clear h1 h2 hr
  by_cases o1 : op < 1
  · go_enter Tryz.func90, Tryz.ntmps90
    go_wp2
    go_ret
    exact ⟨ret_i (by rw [← HR.out, decide_eq_false (by omega)]; rfl), below1 _ _⟩
  · by_cases o2 : 4 < op
    · go_enter Tryz.func90, Tryz.ntmps90
      go_wp2
      go_ret
      exact ⟨ret_i (by rw [← HR.out, decide_eq_false (by omega)]; rfl), below1 _ _⟩
    · cases c1
      · go_enter Tryz.func90, Tryz.ntmps90
        go_wp2_with (go_at_call 40; refine (cov_any ⟨k, n, s⟩ _).mono ?_; rw [H1.out]; rintro e w1 ⟨rfl, hb1⟩)
        go_ret
        exact ⟨ret_i (by rw [← HR.out]; simp), below_step (below1 _ _) hb1⟩
      · cases c2
        all_goals
          go_enter Tryz.func90, Tryz.ntmps90
          go_wp2_with (go_at_call 40; refine (cov_any ⟨_, _, _⟩ _).mono ?_; first | (rw [H1.out]; rintro e w1 ⟨rfl, hb1⟩; obtain ⟨hcl, hfr⟩ := bcell hb1; have hm := below_step (below1 _ _) hb1) | (rw [H2.out]; rintro e w2 ⟨rfl, hb2⟩))
          go_ret
          exact ⟨ret_i (by rw [← HR.out, decide_eq_true (by omega)]; simp), below_step hm hb2⟩
end Go.Proofs.YtnikmcmkbjjcdaaGreatDoor
