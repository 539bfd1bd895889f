import Derived.Test.YtgbiicmkhlnniaaGreatDoorB4
import Derived.Deep.RegionHeld3
import Derived.Deep.DrawnRows
/-
  '==' and '!=' of terms and of binds.
-/
namespace Go.Proofs.YtgbiicmkhlnniaaGreatDoor
open Go.RowKit
theorem run_eql_tm (t u : Tm) (w : World) : (binOp .eql 23 t.v u.v).run Tryz.prog w = .ok (.bool (decide (t = u))) w := by
  obtain ⟨k, n, s⟩ := t
  obtain ⟨k', n', s'⟩ := u
  by_cases h1 : k = k'
  · by_cases h2 : n = n'
    · by_cases h3 : s = s'
      · subst h1 h2 h3
        go_simp
      · have h4 : ¬ s.toList = s'.toList := fun e => h3 (toList_inj e)
        subst h1 h2
        go_simp
    · subst h1
      go_simp
  · go_simp
theorem run_neq_tm (t u : Tm) (w : World) : (binOp .neq 23 t.v u.v).run Tryz.prog w = .ok (.bool (!decide (t = u))) w := by
  obtain ⟨k, n, s⟩ := t
  obtain ⟨k', n', s'⟩ := u
  by_cases h1 : k = k'
  · by_cases h2 : n = n'
    · by_cases h3 : s = s'
      · subst h1 h2 h3
        go_simp
      · have h4 : ¬ s.toList = s'.toList := fun e => h3 (toList_inj e)
        subst h1 h2
        go_simp
    · subst h1
      go_simp
  · go_simp
end Go.Proofs.YtgbiicmkhlnniaaGreatDoor
/-
  sameWhereFixed; replace.
-/
namespace Go.Proofs.YtgbiicmkhlnniaaGreatDoor
open Go.RowKit
attribute [local go_sem ↓] Go.wp_at_zero Go.wp_at_succ

theorem five {w : World} {g : Nat} {a b c d f : Value} {t : TypeId} (h : w.heap[g]? = some (.cells #[a, b, c, d, f] t (0, 0))) :
    w.cell? ⟨g, 0, none⟩ = some a ∧ w.cell? ⟨g, 1, none⟩ = some b ∧ w.cell? ⟨g, 2, none⟩ = some c ∧ w.cell? ⟨g, 3, none⟩ = some d ∧ w.cell? ⟨g, 4, none⟩ = some f :=
  ⟨cell_of_row _ _ _ _ _ _ h, cell_of_row _ _ _ _ _ _ h, cell_of_row _ _ _ _ _ _ h, cell_of_row _ _ _ _ _ _ h, cell_of_row _ _ _ _ _ _ h⟩
theorem below_step {W w' w3 : World} (h : Below W.heap.size W w') (h3 : Below w'.heap.size w' w3) : Below W.heap.size W w3 := h.trans (h3.mono h.size)
theorem cell_step {w' w3 : World} {b o : Nat} {v : Value} (h3 : Below w'.heap.size w' w3) (hb : b < w'.heap.size) (hc : w'.cell? ⟨b, o, none⟩ = some v) : w3.cell? ⟨b, o, none⟩ = some v := by
  rw [h3.cell (p := ⟨b, o, none⟩) hb]; exact hc
theorem lt_step {w' w3 : World} {b : Nat} (h3 : Below w'.heap.size w' w3) (hb : b < w'.heap.size) : b < w3.heap.size := Nat.lt_of_lt_of_le hb h3.size
end Go.Proofs.YtgbiicmkhlnniaaGreatDoor
/-
  constOrVariable, CheckTest, Decide, replace, ApplyTest.
-/
namespace Go.Proofs.YtgbiicmkhlnniaaGreatDoor
open Go.RowKit
attribute [local go_sem ↓] Go.wp_at_zero Go.wp_at_succ

def Tm.cov (t : Tm) : Bool := t.con || t.var
set_option maxHeartbeats 400000 in
theorem cov_any (t : Tm) (w : World) :
    Calls Tryz.prog 119 #[t.v] w fun e w' => e = .returned (.bool t.cov) ∧ Below w.heap.size w w' := by
  obtain ⟨k, n, s⟩ := t
  cases h : Tm.con ⟨k, n, s⟩
  · have HC : Hid (Tm.con ⟨k, n, s⟩ = false) := h
    clear h
    go_enter Tryz.func119, Tryz.ntmps119
    go_wp2_with (first
      | (go_at_call 124; refine (con_any ⟨k, n, s⟩ _).mono ?_; rw [HC.out]; rintro e w1 ⟨rfl, hb1⟩; obtain ⟨hcl, hfr⟩ := bcell hb1)
      | (go_at_call 84; refine (var_any ⟨k, n, s⟩ _).mono ?_; rintro e w2 ⟨rfl, hb2⟩))
    go_ret
    exact ⟨ret_b (by unfold Tm.cov; rw [HC.out]; simp), below_step (below_step (below1 _ _) hb1) hb2⟩
  · have HC : Hid (Tm.con ⟨k, n, s⟩ = true) := h
    clear h
    go_enter Tryz.func119, Tryz.ntmps119
    go_wp2_with (first
      | (go_at_call 124; refine (con_any ⟨k, n, s⟩ _).mono ?_; rw [HC.out]; rintro e w1 ⟨rfl, hb1⟩; obtain ⟨hcl, hfr⟩ := bcell hb1))
    go_ret
    exact ⟨ret_b (by unfold Tm.cov; rw [HC.out]; simp), below_step (below1 _ _) hb1⟩
/-- A test: operator and two sides. -/
structure Te where
  op : Int
  l : Tm
  r : Tm
deriving DecidableEq
abbrev Te.v (t : Te) : Value := .agg #[.int .i64 t.op, .int .i64 t.l.k, .int .i64 t.l.n, .string t.l.s, .int .i64 t.r.k, .int .i64 t.r.n, .string t.r.s]
def Te.ok (t : Te) : Bool := decide (1 ≤ t.op ∧ t.op ≤ 4) && (t.l.cov && t.r.cov)
set_option maxHeartbeats 1000000 in
theorem check_any (t : Te) (w : World) :
    Calls Tryz.prog 88 #[t.v] w fun e w' => e = .returned (.int .i64 (if t.ok then 0 else 32)) ∧ Below w.heap.size w w' := by
  obtain ⟨op, ⟨k, n, s⟩, ⟨k', n', s'⟩⟩ := t
  obtain ⟨c1, h1⟩ : ∃ c, Tm.cov ⟨k, n, s⟩ = c := ⟨_, rfl⟩
  obtain ⟨c2, h2⟩ : ∃ c, Tm.cov ⟨k', n', s'⟩ = c := ⟨_, rfl⟩
  obtain ⟨r, hr⟩ : ∃ r : Int, (if Te.ok ⟨op, ⟨k, n, s⟩, ⟨k', n', s'⟩⟩ then 0 else 32) = r := ⟨_, rfl⟩
  rw [hr]
  have HR : Hid ((if decide (1 ≤ op ∧ op ≤ 4) && (c1 && c2) then (0 : Int) else 32) = r) := by rw [← hr, ← h1, ← h2]; rfl
  have H1 : Hid (Tm.cov ⟨k, n, s⟩ = c1) := h1
  have H2 : Hid (Tm.cov ⟨k', n', s'⟩ = c2) := h2
  clear h1 h2 hr
  by_cases o1 : op < 1
  · go_enter Tryz.func88, Tryz.ntmps88
    go_wp2
    go_ret
    exact ⟨ret_i (by rw [← HR.out, decide_eq_false (by omega)]; rfl), below1 _ _⟩
  · by_cases o2 : 4 < op
    · go_enter Tryz.func88, Tryz.ntmps88
      go_wp2
      go_ret
      exact ⟨ret_i (by rw [← HR.out, decide_eq_false (by omega)]; rfl), below1 _ _⟩
    · cases c1
      · go_enter Tryz.func88, Tryz.ntmps88
        go_wp2_with (go_at_call 119; refine (cov_any ⟨k, n, s⟩ _).mono ?_; rw [H1.out]; rintro e w1 ⟨rfl, hb1⟩)
        go_ret
        exact ⟨ret_i (by rw [← HR.out]; simp), below_step (below1 _ _) hb1⟩
      · cases c2
        all_goals
          go_enter Tryz.func88, Tryz.ntmps88
          go_wp2_with (go_at_call 119; refine (cov_any ⟨_, _, _⟩ _).mono ?_; first | (rw [H1.out]; rintro e w1 ⟨rfl, hb1⟩; obtain ⟨hcl, hfr⟩ := bcell hb1; have hm := below_step (below1 _ _) hb1) | (rw [H2.out]; rintro e w2 ⟨rfl, hb2⟩))
          go_ret
          exact ⟨ret_i (by rw [← HR.out, decide_eq_true (by omega)]; simp), below_step hm hb2⟩
/-- One box at the call's first block. -/
def Box1 (w W : World) (c : Array Value) (ty : TypeId) : Prop := W.heap[w.heap.size]? = some (.cells c ty (0, 0)) ∧ Below w.heap.size w W
theorem Box1.start (w : World) (c : Array Value) (ty : TypeId) : Box1 w (w.alloc (.cells c ty)) c ty := ⟨heap_alloc_new _ _, below1 _ _⟩
theorem Box1.later {w W W' : World} {c : Array Value} {ty : TypeId} (h : Box1 w W c ty) (hb : Below W.heap.size W W') : Box1 w W' c ty :=
  ⟨(hb.block _ (Array.getElem?_eq_some_iff.1 h.1).1).trans h.1, h.2.trans (hb.mono h.2.size)⟩
theorem Box1.cells7 {w W : World} {a b c d e f g : Value} {ty : TypeId} (h : Box1 w W #[a, b, c, d, e, f, g] ty) :
    W.cell? ⟨w.heap.size, 0, none⟩ = some a ∧ W.cell? ⟨w.heap.size, 1, none⟩ = some b ∧ W.cell? ⟨w.heap.size, 2, none⟩ = some c ∧ W.cell? ⟨w.heap.size, 3, none⟩ = some d ∧ W.cell? ⟨w.heap.size, 4, none⟩ = some e ∧ W.cell? ⟨w.heap.size, 5, none⟩ = some f ∧ W.cell? ⟨w.heap.size, 6, none⟩ = some g :=
  ⟨cell_of_row _ _ _ _ _ _ h.1, cell_of_row _ _ _ _ _ _ h.1, cell_of_row _ _ _ _ _ _ h.1, cell_of_row _ _ _ _ _ _ h.1, cell_of_row _ _ _ _ _ _ h.1, cell_of_row _ _ _ _ _ _ h.1, cell_of_row _ _ _ _ _ _ h.1⟩
end Go.Proofs.YtgbiicmkhlnniaaGreatDoor
/-
  Clauses in memory.
-/
namespace Go.Proofs.YtgbiicmkhlnniaaGreatDoor
open Go.RowKit

/-- Atoms in memory, each with the value of its list. -/
def ARow (w : World) (b o : Nat) (l : List (At × Value)) : Prop :=
  b < w.heap.size ∧ ∀ i x, l[i]? = some x → w.cell? ⟨b, o + i * 5, none⟩ = some (.int .i64 x.1.by_.k) ∧ w.cell? ⟨b, o + i * 5 + 1, none⟩ = some (.int .i64 x.1.by_.n) ∧ w.cell? ⟨b, o + i * 5 + 2, none⟩ = some (.string x.1.by_.s) ∧
    w.cell? ⟨b, o + i * 5 + 3, none⟩ = some (.string x.1.name) ∧ w.cell? ⟨b, o + i * 5 + 4, none⟩ = some x.2
def As (w : World) (v : Value) (l : List (At × Value)) : Prop :=
  ∃ a cap, v = .slice a l.length cap ∧ l.length < 1000000000000000000 ∧ (l = [] ∨ ∃ b o, a = some ⟨b, o, none⟩ ∧ ARow w b o l) ∧ ∀ x ∈ l, Ts w x.2 x.1.args
def ERow (w : World) (b o : Nat) (l : List Te) : Prop :=
  b < w.heap.size ∧ ∀ i (t : Te), l[i]? = some t → w.cell? ⟨b, o + i * 7, none⟩ = some (.int .i64 t.op) ∧ w.cell? ⟨b, o + i * 7 + 1, none⟩ = some (.int .i64 t.l.k) ∧ w.cell? ⟨b, o + i * 7 + 2, none⟩ = some (.int .i64 t.l.n) ∧ w.cell? ⟨b, o + i * 7 + 3, none⟩ = some (.string t.l.s) ∧
    w.cell? ⟨b, o + i * 7 + 4, none⟩ = some (.int .i64 t.r.k) ∧ w.cell? ⟨b, o + i * 7 + 5, none⟩ = some (.int .i64 t.r.n) ∧ w.cell? ⟨b, o + i * 7 + 6, none⟩ = some (.string t.r.s)
def Es (w : World) (v : Value) (l : List Te) : Prop :=
  ∃ a cap, v = .slice a l.length cap ∧ l.length < 1000000000000000000 ∧ (l = [] ∨ ∃ b o, a = some ⟨b, o, none⟩ ∧ ERow w b o l)
theorem ARow.later {w w' : World} {b o l} (h : ARow w b o l) (hb : Below w.heap.size w w') : ARow w' b o l :=
  ⟨Nat.lt_of_lt_of_le h.1 hb.size, fun i x hx => by
    have := h.2 i x hx
    rw [hb.cell (p := ⟨b, _, none⟩) h.1, hb.cell (p := ⟨b, _, none⟩) h.1, hb.cell (p := ⟨b, _, none⟩) h.1, hb.cell (p := ⟨b, _, none⟩) h.1, hb.cell (p := ⟨b, _, none⟩) h.1]; exact this⟩
theorem ERow.later {w w' : World} {b o l} (h : ERow w b o l) (hb : Below w.heap.size w w') : ERow w' b o l :=
  ⟨Nat.lt_of_lt_of_le h.1 hb.size, fun i x hx => by
    have := h.2 i x hx
    rw [hb.cell (p := ⟨b, _, none⟩) h.1, hb.cell (p := ⟨b, _, none⟩) h.1, hb.cell (p := ⟨b, _, none⟩) h.1, hb.cell (p := ⟨b, _, none⟩) h.1, hb.cell (p := ⟨b, _, none⟩) h.1, hb.cell (p := ⟨b, _, none⟩) h.1, hb.cell (p := ⟨b, _, none⟩) h.1]; exact this⟩
theorem As.later {w w' : World} {v l} (h : As w v l) (hb : Below w.heap.size w w') : As w' v l := by
  obtain ⟨a, cap, rfl, hl, h, ht⟩ := h
  refine ⟨a, cap, rfl, hl, ?_, fun x hx => (ht x hx).later hb⟩
  rcases h with h | ⟨b, o, rfl, h⟩
  · exact Or.inl h
  · exact Or.inr ⟨b, o, rfl, h.later hb⟩
theorem Es.later {w w' : World} {v l} (h : Es w v l) (hb : Below w.heap.size w w') : Es w' v l := by
  obtain ⟨a, cap, rfl, hl, h⟩ := h
  refine ⟨a, cap, rfl, hl, ?_⟩
  rcases h with h | ⟨b, o, rfl, h⟩
  · exact Or.inl h
  · exact Or.inr ⟨b, o, rfl, h.later hb⟩
/-- A clause as it lies in memory: its atoms and tests, and the values of its lists. -/
structure Cm where
  head : At × Value
  body : List (At × Value)
  bv : Value
  tests : List Te
  tv : Value
abbrev Cm.v (c : Cm) : Value := .agg #[.int .i64 c.head.1.by_.k, .int .i64 c.head.1.by_.n, .string c.head.1.by_.s, .string c.head.1.name, c.head.2, c.bv, c.tv]
abbrev Cm.cs (c : Cm) : Array Value := #[.int .i64 c.head.1.by_.k, .int .i64 c.head.1.by_.n, .string c.head.1.by_.s, .string c.head.1.name, c.head.2, c.bv, c.tv]
structure Cm.ok (w : World) (c : Cm) : Prop where
  h : Ts w c.head.2 c.head.1.args
  b : As w c.bv c.body
  t : Es w c.tv c.tests
theorem Cm.ok.later {w w' : World} {c : Cm} (h : c.ok w) (hb : Below w.heap.size w w') : c.ok w' := ⟨h.h.later hb, h.b.later hb, h.t.later hb⟩
theorem Cm.ok.shape {w : World} {c : Cm} (h : c.ok w) : (∃ a n cap, c.head.2 = .slice a n cap) ∧ (∃ a cap, c.bv = .slice a c.body.length cap) ∧ (∃ a cap, c.tv = .slice a c.tests.length cap) ∧ c.body.length < 1000000000000000000 ∧ c.tests.length < 1000000000000000000 := by
  obtain ⟨⟨a, cap, h1, -⟩, ⟨a', cap', h2, h4, -⟩, ⟨a'', cap'', h3, h5, -⟩⟩ := h
  exact ⟨⟨a, _, cap, h1⟩, ⟨a', cap', h2⟩, ⟨a'', cap'', h3⟩, h4, h5⟩
/-- Its atoms, its terms, its variables, in the order of their places. -/
def Cm.atoms (c : Cm) : List (At × Value) := c.head :: c.body
def Cm.terms (c : Cm) : List Tm := (c.atoms.flatMap fun x => x.1.pl) ++ c.tests.flatMap fun t => [t.l, t.r]
def Cm.vars (c : Cm) : List Int := (c.terms.filter Tm.var).map (·.n)
/-- Block g holds these cells. -/
def CBlk (W : World) (g : Nat) (c : Array Value) (t : TypeId) : Prop := W.heap[g]? = some (.cells c t (0, 0))
theorem CBlk.lt {W : World} {g : Nat} {c : Array Value} {t : TypeId} (h : CBlk W g c t) : g < W.heap.size := (Array.getElem?_eq_some_iff.1 h).1
theorem CBlk.later {W W' : World} {g : Nat} {c : Array Value} {t : TypeId} (h : CBlk W g c t) (hb : Below W.heap.size W W') : CBlk W' g c t := (hb.block _ h.lt).trans h
theorem CBlk.new (W : World) (c : Array Value) (t : TypeId) : CBlk (W.alloc (.cells c t)) W.heap.size c t := heap_alloc_new _ _
theorem cseven {w : World} {g : Nat} {a b c d e f i : Value} {t : TypeId} (h : CBlk w g #[a, b, c, d, e, f, i] t) :
    w.cell? ⟨g, 0, none⟩ = some a ∧ w.cell? ⟨g, 1, none⟩ = some b ∧ w.cell? ⟨g, 2, none⟩ = some c ∧ w.cell? ⟨g, 3, none⟩ = some d ∧ w.cell? ⟨g, 4, none⟩ = some e ∧ w.cell? ⟨g, 5, none⟩ = some f ∧ w.cell? ⟨g, 6, none⟩ = some i :=
  ⟨cell_of_row _ _ _ _ _ _ h, cell_of_row _ _ _ _ _ _ h, cell_of_row _ _ _ _ _ _ h, cell_of_row _ _ _ _ _ _ h, cell_of_row _ _ _ _ _ _ h, cell_of_row _ _ _ _ _ _ h, cell_of_row _ _ _ _ _ _ h⟩
end Go.Proofs.YtgbiicmkhlnniaaGreatDoor
