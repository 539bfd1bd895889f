import Derived.Test.YtdfgijdededolabGreatDoorB4
import Derived.Deep.RegionHeld3
import Derived.Deep.DrawnRows
import Derived.Deep.AppendLies
import Derived.WalkMore
import Derived.Deep.LoopGhost
import Derived.Deep.CutRange
/-
  '==' and '!=' of terms and of binds.
-/
namespace Go.Proofs.YtdfgijdededolabGreatDoor
open Go.RowKit
theorem run_eql_tm (t u : Tm) (w : World) : (binOp .eql 35 t.v u.v).run Tryz.prog w = .ok (.bool (decide (t = u))) w := by
  obtain ⟨k, n, s⟩ := t
  obtain ⟨k', n', s'⟩ := u
  by_cases h1 : k = k'
  · by_cases h2 : n = n'
    · by_cases h3 : s = s'
      · subst h1 h2 h3
        go_simp
      · have h4 : ¬ s.toList = s'.toList := fun e => h3 (toList_inj e)
        subst h1 h2
        go_simp
    · subst h1
      go_simp
  · go_simp
theorem run_neq_tm (t u : Tm) (w : World) : (binOp .neq 35 t.v u.v).run Tryz.prog w = .ok (.bool (!decide (t = u))) w := by
  obtain ⟨k, n, s⟩ := t
  obtain ⟨k', n', s'⟩ := u
  by_cases h1 : k = k'
  · by_cases h2 : n = n'
    · by_cases h3 : s = s'
      · subst h1 h2 h3
        go_simp
      · have h4 : ¬ s.toList = s'.toList := fun e => h3 (toList_inj e)
        subst h1 h2
        go_simp
    · subst h1
      go_simp
  · go_simp
end Go.Proofs.YtdfgijdededolabGreatDoor
/-
  sameWhereFixed; replace.
-/
namespace Go.Proofs.YtdfgijdededolabGreatDoor
open Go.RowKit
attribute [local go_sem ↓] Go.wp_at_zero Go.wp_at_succ

/-- Are the fixed terms of p those of a, place by place, from the first n on? -/
def fixOk (p a : List Tm) : Bool := (p.zip a).all fun x => x.1.var || decide (x.1 = x.2)
theorem five {w : World} {g : Nat} {a b c d f : Value} {t : TypeId} (h : w.heap[g]? = some (.cells #[a, b, c, d, f] t (0, 0))) :
    w.cell? ⟨g, 0, none⟩ = some a ∧ w.cell? ⟨g, 1, none⟩ = some b ∧ w.cell? ⟨g, 2, none⟩ = some c ∧ w.cell? ⟨g, 3, none⟩ = some d ∧ w.cell? ⟨g, 4, none⟩ = some f :=
  ⟨cell_of_row _ _ _ _ _ _ h, cell_of_row _ _ _ _ _ _ h, cell_of_row _ _ _ _ _ _ h, cell_of_row _ _ _ _ _ _ h, cell_of_row _ _ _ _ _ _ h⟩
theorem fix_step (p a : List Tm) (i : Nat) (x y : Tm) (hx : p[i]? = some x) (hy : a[i]? = some y) : fixOk (p.drop i) (a.drop i) = ((x.var || decide (x = y)) && fixOk (p.drop (i + 1)) (a.drop (i + 1))) := by
  have h1 := List.getElem?_eq_some_iff.1 hx
  have h2 := List.getElem?_eq_some_iff.1 hy
  obtain ⟨h1, rfl⟩ := h1
  obtain ⟨h2, rfl⟩ := h2
  rw [List.drop_eq_getElem_cons h1, List.drop_eq_getElem_cons h2, fixOk, List.zip_cons_cons, List.all_cons, fixOk]
theorem fix_end (p a : List Tm) (i : Nat) (h : p.length ≤ i) : fixOk (p.drop i) (a.drop i) = true := by
  rw [List.drop_eq_nil_of_le h]; rfl
theorem below_step {W w' w3 : World} (h : Below W.heap.size W w') (h3 : Below w'.heap.size w' w3) : Below W.heap.size W w3 := h.trans (h3.mono h.size)
theorem cell_step {w' w3 : World} {b o : Nat} {v : Value} (h3 : Below w'.heap.size w' w3) (hb : b < w'.heap.size) (hc : w'.cell? ⟨b, o, none⟩ = some v) : w3.cell? ⟨b, o, none⟩ = some v := by
  rw [h3.cell (p := ⟨b, o, none⟩) hb]; exact hc
theorem lt_step {w' w3 : World} {b : Nat} (h3 : Below w'.heap.size w' w3) (hb : b < w'.heap.size) : b < w3.heap.size := Nat.lt_of_lt_of_le hb h3.size
end Go.Proofs.YtdfgijdededolabGreatDoor
/-
  constOrVariable, CheckTest, Decide, replace, ApplyTest.
-/
namespace Go.Proofs.YtdfgijdededolabGreatDoor
open Go.RowKit
attribute [local go_sem ↓] Go.wp_at_zero Go.wp_at_succ

def Tm.cov (t : Tm) : Bool := t.con || t.var
set_option maxHeartbeats 400000 in
theorem cov_any (t : Tm) (w : World) :
    Calls Tryz.prog 178 #[t.v] w fun e w' => e = .returned (.bool t.cov) ∧ Below w.heap.size w w' := by
  obtain ⟨k, n, s⟩ := t
  cases h : Tm.con ⟨k, n, s⟩
  · have HC : Hid (Tm.con ⟨k, n, s⟩ = false) := h
    clear h
    go_enter Tryz.func178, Tryz.ntmps178
    go_wp2_with (first
      | (go_at_call 31; refine (con_any ⟨k, n, s⟩ _).mono ?_; rw [HC.out]; rintro e w1 ⟨rfl, hb1⟩; obtain ⟨hcl, hfr⟩ := bcell hb1)
      | (go_at_call 106; refine (var_any ⟨k, n, s⟩ _).mono ?_; rintro e w2 ⟨rfl, hb2⟩))
    go_ret
    exact ⟨ret_b (by unfold Tm.cov; rw [HC.out]; simp), below_step (below_step (below1 _ _) hb1) hb2⟩
  · have HC : Hid (Tm.con ⟨k, n, s⟩ = true) := h
    clear h
    go_enter Tryz.func178, Tryz.ntmps178
    go_wp2_with (first
      | (go_at_call 31; refine (con_any ⟨k, n, s⟩ _).mono ?_; rw [HC.out]; rintro e w1 ⟨rfl, hb1⟩; obtain ⟨hcl, hfr⟩ := bcell hb1))
    go_ret
    exact ⟨ret_b (by unfold Tm.cov; rw [HC.out]; simp), below_step (below1 _ _) hb1⟩
/-- A test: operator and two sides. -/
structure Te where
  op : Int
  l : Tm
  r : Tm
deriving DecidableEq
abbrev Te.v (t : Te) : Value := .agg #[.int .i64 t.op, .int .i64 t.l.k, .int .i64 t.l.n, .string t.l.s, .int .i64 t.r.k, .int .i64 t.r.n, .string t.r.s]
def Te.ok (t : Te) : Bool := decide (1 ≤ t.op ∧ t.op ≤ 4) && (t.l.cov && t.r.cov)
set_option maxHeartbeats 1000000 in
theorem check_any (t : Te) (w : World) :
    Calls Tryz.prog 172 #[t.v] w fun e w' => e = .returned (.int .i64 (if t.ok then 0 else 32)) ∧ Below w.heap.size w w' := by
  obtain ⟨op, ⟨k, n, s⟩, ⟨k', n', s'⟩⟩ := t
  obtain ⟨c1, h1⟩ : ∃ c, Tm.cov ⟨k, n, s⟩ = c := ⟨_, rfl⟩
  obtain ⟨c2, h2⟩ : ∃ c, Tm.cov ⟨k', n', s'⟩ = c := ⟨_, rfl⟩
  obtain ⟨r, hr⟩ : ∃ r : Int, (if Te.ok ⟨op, ⟨k, n, s⟩, ⟨k', n', s'⟩⟩ then 0 else 32) = r := ⟨_, rfl⟩
  rw [hr]
  have HR : Hid ((if decide (1 ≤ op ∧ op ≤ 4) && (c1 && c2) then (0 : Int) else 32) = r) := by rw [← hr, ← h1, ← h2]; rfl
  have H1 : Hid (Tm.cov ⟨k, n, s⟩ = c1) := h1
  have H2 : Hid (Tm.cov ⟨k', n', s'⟩ = c2) := h2
  clear h1 h2 hr
  by_cases o1 : op < 1
  · go_enter Tryz.func172, Tryz.ntmps172
    go_wp2
    go_ret
    exact ⟨ret_i (by rw [← HR.out, decide_eq_false (by omega)]; rfl), below1 _ _⟩
  · by_cases o2 : 4 < op
    · go_enter Tryz.func172, Tryz.ntmps172
      go_wp2
      go_ret
      exact ⟨ret_i (by rw [← HR.out, decide_eq_false (by omega)]; rfl), below1 _ _⟩
    · cases c1
      · go_enter Tryz.func172, Tryz.ntmps172
        go_wp2_with (go_at_call 178; refine (cov_any ⟨k, n, s⟩ _).mono ?_; rw [H1.out]; rintro e w1 ⟨rfl, hb1⟩)
        go_ret
        exact ⟨ret_i (by rw [← HR.out]; simp), below_step (below1 _ _) hb1⟩
      · cases c2
        all_goals
          go_enter Tryz.func172, Tryz.ntmps172
          go_wp2_with (go_at_call 178; refine (cov_any ⟨_, _, _⟩ _).mono ?_; first | (rw [H1.out]; rintro e w1 ⟨rfl, hb1⟩; obtain ⟨hcl, hfr⟩ := bcell hb1; have hm := below_step (below1 _ _) hb1) | (rw [H2.out]; rintro e w2 ⟨rfl, hb2⟩))
          go_ret
          exact ⟨ret_i (by rw [← HR.out, decide_eq_true (by omega)]; simp), below_step hm hb2⟩
def Te.known (t : Te) : Bool := decide (1 ≤ t.op ∧ t.op ≤ 4) && (t.l.con && t.r.con)
def Te.holds (t : Te) : Bool := t.known && (if t.op = 1 then decide (t.l = t.r) else if t.op = 2 then !decide (t.l = t.r) else if t.op = 3 then decide (t.l.cmp t.r < 0) else decide (t.l.cmp t.r ≤ 0))
/-- One box at the call's first block. -/
def Box1 (w W : World) (c : Array Value) (ty : TypeId) : Prop := W.heap[w.heap.size]? = some (.cells c ty (0, 0)) ∧ Below w.heap.size w W
theorem Box1.start (w : World) (c : Array Value) (ty : TypeId) : Box1 w (w.alloc (.cells c ty)) c ty := ⟨heap_alloc_new _ _, below1 _ _⟩
theorem Box1.later {w W W' : World} {c : Array Value} {ty : TypeId} (h : Box1 w W c ty) (hb : Below W.heap.size W W') : Box1 w W' c ty :=
  ⟨(hb.block _ (Array.getElem?_eq_some_iff.1 h.1).1).trans h.1, h.2.trans (hb.mono h.2.size)⟩
theorem Box1.cells7 {w W : World} {a b c d e f g : Value} {ty : TypeId} (h : Box1 w W #[a, b, c, d, e, f, g] ty) :
    W.cell? ⟨w.heap.size, 0, none⟩ = some a ∧ W.cell? ⟨w.heap.size, 1, none⟩ = some b ∧ W.cell? ⟨w.heap.size, 2, none⟩ = some c ∧ W.cell? ⟨w.heap.size, 3, none⟩ = some d ∧ W.cell? ⟨w.heap.size, 4, none⟩ = some e ∧ W.cell? ⟨w.heap.size, 5, none⟩ = some f ∧ W.cell? ⟨w.heap.size, 6, none⟩ = some g :=
  ⟨cell_of_row _ _ _ _ _ _ h.1, cell_of_row _ _ _ _ _ _ h.1, cell_of_row _ _ _ _ _ _ h.1, cell_of_row _ _ _ _ _ _ h.1, cell_of_row _ _ _ _ _ _ h.1, cell_of_row _ _ _ _ _ _ h.1, cell_of_row _ _ _ _ _ _ h.1⟩
theorem con_cov (t : Tm) (h : t.con = true) : t.cov = true := by unfold Tm.cov; rw [h]; rfl
end Go.Proofs.YtdfgijdededolabGreatDoor
/-
  Clauses in memory.
-/
namespace Go.Proofs.YtdfgijdededolabGreatDoor
open Go.RowKit

/-- Atoms in memory, each with the value of its list. -/
def ARow (w : World) (b o : Nat) (l : List (At × Value)) : Prop :=
  b < w.heap.size ∧ ∀ i x, l[i]? = some x → w.cell? ⟨b, o + i * 5, none⟩ = some (.int .i64 x.1.by_.k) ∧ w.cell? ⟨b, o + i * 5 + 1, none⟩ = some (.int .i64 x.1.by_.n) ∧ w.cell? ⟨b, o + i * 5 + 2, none⟩ = some (.string x.1.by_.s) ∧
    w.cell? ⟨b, o + i * 5 + 3, none⟩ = some (.string x.1.name) ∧ w.cell? ⟨b, o + i * 5 + 4, none⟩ = some x.2
def As (w : World) (v : Value) (l : List (At × Value)) : Prop :=
  ∃ a cap, v = .slice a l.length cap ∧ l.length < 1000000000000000000 ∧ (l = [] ∨ ∃ b o, a = some ⟨b, o, none⟩ ∧ ARow w b o l) ∧ ∀ x ∈ l, Ts w x.2 x.1.args
def ERow (w : World) (b o : Nat) (l : List Te) : Prop :=
  b < w.heap.size ∧ ∀ i (t : Te), l[i]? = some t → w.cell? ⟨b, o + i * 7, none⟩ = some (.int .i64 t.op) ∧ w.cell? ⟨b, o + i * 7 + 1, none⟩ = some (.int .i64 t.l.k) ∧ w.cell? ⟨b, o + i * 7 + 2, none⟩ = some (.int .i64 t.l.n) ∧ w.cell? ⟨b, o + i * 7 + 3, none⟩ = some (.string t.l.s) ∧
    w.cell? ⟨b, o + i * 7 + 4, none⟩ = some (.int .i64 t.r.k) ∧ w.cell? ⟨b, o + i * 7 + 5, none⟩ = some (.int .i64 t.r.n) ∧ w.cell? ⟨b, o + i * 7 + 6, none⟩ = some (.string t.r.s)
def Es (w : World) (v : Value) (l : List Te) : Prop :=
  ∃ a cap, v = .slice a l.length cap ∧ l.length < 1000000000000000000 ∧ (l = [] ∨ ∃ b o, a = some ⟨b, o, none⟩ ∧ ERow w b o l)
theorem ARow.later {w w' : World} {b o l} (h : ARow w b o l) (hb : Below w.heap.size w w') : ARow w' b o l :=
  ⟨Nat.lt_of_lt_of_le h.1 hb.size, fun i x hx => by
    have := h.2 i x hx
    rw [hb.cell (p := ⟨b, _, none⟩) h.1, hb.cell (p := ⟨b, _, none⟩) h.1, hb.cell (p := ⟨b, _, none⟩) h.1, hb.cell (p := ⟨b, _, none⟩) h.1, hb.cell (p := ⟨b, _, none⟩) h.1]; exact this⟩
theorem ERow.later {w w' : World} {b o l} (h : ERow w b o l) (hb : Below w.heap.size w w') : ERow w' b o l :=
  ⟨Nat.lt_of_lt_of_le h.1 hb.size, fun i x hx => by
    have := h.2 i x hx
    rw [hb.cell (p := ⟨b, _, none⟩) h.1, hb.cell (p := ⟨b, _, none⟩) h.1, hb.cell (p := ⟨b, _, none⟩) h.1, hb.cell (p := ⟨b, _, none⟩) h.1, hb.cell (p := ⟨b, _, none⟩) h.1, hb.cell (p := ⟨b, _, none⟩) h.1, hb.cell (p := ⟨b, _, none⟩) h.1]; exact this⟩
theorem As.later {w w' : World} {v l} (h : As w v l) (hb : Below w.heap.size w w') : As w' v l := by
  obtain ⟨a, cap, rfl, hl, h, ht⟩ := h
  refine ⟨a, cap, rfl, hl, ?_, fun x hx => (ht x hx).later hb⟩
  rcases h with h | ⟨b, o, rfl, h⟩
  · exact Or.inl h
  · exact Or.inr ⟨b, o, rfl, h.later hb⟩
theorem Es.later {w w' : World} {v l} (h : Es w v l) (hb : Below w.heap.size w w') : Es w' v l := by
  obtain ⟨a, cap, rfl, hl, h⟩ := h
  refine ⟨a, cap, rfl, hl, ?_⟩
  rcases h with h | ⟨b, o, rfl, h⟩
  · exact Or.inl h
  · exact Or.inr ⟨b, o, rfl, h.later hb⟩
/-- A clause as it lies in memory: its atoms and tests, and the values of its lists. -/
structure Cm where
  head : At × Value
  body : List (At × Value)
  bv : Value
  tests : List Te
  tv : Value
abbrev Cm.v (c : Cm) : Value := .agg #[.int .i64 c.head.1.by_.k, .int .i64 c.head.1.by_.n, .string c.head.1.by_.s, .string c.head.1.name, c.head.2, c.bv, c.tv]
abbrev Cm.cs (c : Cm) : Array Value := #[.int .i64 c.head.1.by_.k, .int .i64 c.head.1.by_.n, .string c.head.1.by_.s, .string c.head.1.name, c.head.2, c.bv, c.tv]
structure Cm.ok (w : World) (c : Cm) : Prop where
  h : Ts w c.head.2 c.head.1.args
  b : As w c.bv c.body
  t : Es w c.tv c.tests
theorem Cm.ok.later {w w' : World} {c : Cm} (h : c.ok w) (hb : Below w.heap.size w w') : c.ok w' := ⟨h.h.later hb, h.b.later hb, h.t.later hb⟩
theorem Cm.ok.shape {w : World} {c : Cm} (h : c.ok w) : (∃ a n cap, c.head.2 = .slice a n cap) ∧ (∃ a cap, c.bv = .slice a c.body.length cap) ∧ (∃ a cap, c.tv = .slice a c.tests.length cap) ∧ c.body.length < 1000000000000000000 ∧ c.tests.length < 1000000000000000000 := by
  obtain ⟨⟨a, cap, h1, -⟩, ⟨a', cap', h2, h4, -⟩, ⟨a'', cap'', h3, h5, -⟩⟩ := h
  exact ⟨⟨a, _, cap, h1⟩, ⟨a', cap', h2⟩, ⟨a'', cap'', h3⟩, h4, h5⟩
/-- Its atoms, its terms, its variables, in the order of their places. -/
def Cm.atoms (c : Cm) : List (At × Value) := c.head :: c.body
def Cm.terms (c : Cm) : List Tm := (c.atoms.flatMap fun x => x.1.pl) ++ c.tests.flatMap fun t => [t.l, t.r]
def Cm.vars (c : Cm) : List Int := (c.terms.filter Tm.var).map (·.n)
/-- Block g holds these cells. -/
def CBlk (W : World) (g : Nat) (c : Array Value) (t : TypeId) : Prop := W.heap[g]? = some (.cells c t (0, 0))
theorem CBlk.lt {W : World} {g : Nat} {c : Array Value} {t : TypeId} (h : CBlk W g c t) : g < W.heap.size := (Array.getElem?_eq_some_iff.1 h).1
theorem CBlk.later {W W' : World} {g : Nat} {c : Array Value} {t : TypeId} (h : CBlk W g c t) (hb : Below W.heap.size W W') : CBlk W' g c t := (hb.block _ h.lt).trans h
theorem CBlk.new (W : World) (c : Array Value) (t : TypeId) : CBlk (W.alloc (.cells c t)) W.heap.size c t := heap_alloc_new _ _
theorem cseven {w : World} {g : Nat} {a b c d e f i : Value} {t : TypeId} (h : CBlk w g #[a, b, c, d, e, f, i] t) :
    w.cell? ⟨g, 0, none⟩ = some a ∧ w.cell? ⟨g, 1, none⟩ = some b ∧ w.cell? ⟨g, 2, none⟩ = some c ∧ w.cell? ⟨g, 3, none⟩ = some d ∧ w.cell? ⟨g, 4, none⟩ = some e ∧ w.cell? ⟨g, 5, none⟩ = some f ∧ w.cell? ⟨g, 6, none⟩ = some i :=
  ⟨cell_of_row _ _ _ _ _ _ h, cell_of_row _ _ _ _ _ _ h, cell_of_row _ _ _ _ _ _ h, cell_of_row _ _ _ _ _ _ h, cell_of_row _ _ _ _ _ _ h, cell_of_row _ _ _ _ _ _ h, cell_of_row _ _ _ _ _ _ h⟩
end Go.Proofs.YtdfgijdededolabGreatDoor
/-
  Binds in memory that the call itself made; firstBinds.
-/
namespace Go.Proofs.YtdfgijdededolabGreatDoor
open Go.RowKit

def Bd.cs (d : Bd) : List Value := [.int .i64 d.x, .int .i64 d.to.k, .int .i64 d.to.n, .string d.to.s]
def bcs (l : List Bd) : List Value := l.flatMap Bd.cs
theorem bcs_len (l : List Bd) : (bcs l).length = l.length * 4 := by
  induction l with
  | nil => rfl
  | cons d l ih => simp only [bcs, List.flatMap_cons, List.length_append, List.length_cons] at *; rw [ih]; simp [Bd.cs]; omega
theorem bcs_snoc (l : List Bd) (d : Bd) : bcs (l ++ [d]) = bcs l ++ d.cs := by simp [bcs]
theorem bcs_get (l : List Bd) (j : Nat) (d : Bd) (h : l[j]? = some d) (i : Nat) (hi : i < 4) : (bcs l)[j * 4 + i]? = d.cs[i]? := by
  induction l generalizing j with
  | nil => simp at h
  | cons e l ih =>
    rw [bcs, List.flatMap_cons]
    cases j with
    | zero =>
      simp only [List.getElem?_cons_zero, Option.some.injEq] at h
      subst h
      rw [List.getElem?_append_left (by simp [Bd.cs]; omega)]
      simp
    | succ j =>
      simp only [List.getElem?_cons_succ] at h
      rw [List.getElem?_append_right (by simp [Bd.cs]; omega)]
      have e1 : (j + 1) * 4 + i - (Bd.cs e).length = j * 4 + i := by simp [Bd.cs]; omega
      rw [e1]
      exact ih j h
def hasX (l : List Bd) (x : Int) : Bool := l.any fun d => decide (d.x = x)
/-- Each number's first bind. -/
def fbS (l : List Bd) (d : Bd) : List Bd := if hasX l d.x then l else l ++ [d]
def fb (s : List Bd) : List Bd := s.foldl fbS []
theorem fb_take (s : List Bd) (k : Nat) (d : Bd) (h : s[k]? = some d) : fb (s.take (k + 1)) = fbS (fb (s.take k)) d := by
  obtain ⟨hk, rfl⟩ := List.getElem?_eq_some_iff.1 h
  rw [List.take_succ_eq_append_getElem hk, fb, List.foldl_append]; rfl
theorem fbS_len (l : List Bd) (d : Bd) : (fbS l d).length ≤ l.length + 1 := by unfold fbS; split <;> simp
theorem fb_len (s : List Bd) : (fb s).length ≤ s.length := by
  have : ∀ s l, (List.foldl fbS l s).length ≤ l.length + s.length := by
    intro s
    induction s with
    | nil => intro l; simp
    | cons d s ih => intro l; have := ih (fbS l d); have := fbS_len l d; simp only [List.foldl_cons, List.length_cons]; omega
  have := this s []
  simpa [fb] using this
theorem hasX_no (l : List Bd) (x : Int) (j : Nat) (d : Bd) (h : l[j]? = some d) (hn : hasX (l.take j) x = false) (hd : ¬ d.x = x) : hasX (l.take (j + 1)) x = false := by
  obtain ⟨hk, rfl⟩ := List.getElem?_eq_some_iff.1 h
  rw [List.take_succ_eq_append_getElem hk, hasX, List.any_append]
  rw [hasX] at hn
  rw [hn]; simpa using hd
theorem hasX_yes (l : List Bd) (x : Int) (j : Nat) (d : Bd) (h : l[j]? = some d) (hd : d.x = x) : hasX l x = true := by
  obtain ⟨hk, rfl⟩ := List.getElem?_eq_some_iff.1 h
  simp only [hasX, List.any_eq_true, decide_eq_true_eq]; exact ⟨_, List.getElem_mem hk, hd⟩

theorem four {w : World} {g : Nat} {a b c d : Value} {t : TypeId} (h : w.heap[g]? = some (.cells #[a, b, c, d] t (0, 0))) :
    w.cell? ⟨g, 0, none⟩ = some a ∧ w.cell? ⟨g, 1, none⟩ = some b ∧ w.cell? ⟨g, 2, none⟩ = some c ∧ w.cell? ⟨g, 3, none⟩ = some d :=
  ⟨cell_of_row _ _ _ _ _ _ h, cell_of_row _ _ _ _ _ _ h, cell_of_row _ _ _ _ _ _ h, cell_of_row _ _ _ _ _ _ h⟩
end Go.Proofs.YtdfgijdededolabGreatDoor
/-
  Match.
-/
namespace Go.Proofs.YtdfgijdededolabGreatDoor
open Go.RowKit
attribute [local go_sem ↓] Go.wp_at_zero Go.wp_at_succ

def srt (l : List Bd) : Prop := l.Pairwise fun a b => a.x ≤ b.x
def mGo : List Bd → List (Tm × Tm) → Option (List Bd)
  | out, [] => some out
  | out, x :: r => if x.1.var then (match look out x.1.n with
      | some q => if q = x.2 then mGo out r else none
      | none => mGo (out ++ [⟨x.1.n, x.2⟩]) r) else mGo out r
def mOk (p a : At) : Bool := shB p a && fixOk p.pl a.pl && !(p.by_.var && decide (a.by_.k = 0))
def mRes (p a : At) (s : List Bd) : Option (List Bd) := if mOk p a then mGo (fb s) (p.pl.zip a.pl) else none
theorem zip_drop (p a : List Tm) (i : Nat) (t u : Tm) (ht : p[i]? = some t) (hu : a[i]? = some u) : (p.zip a).drop i = (t, u) :: (p.zip a).drop (i + 1) := by
  have hz : (p.zip a)[i]? = some (t, u) := by rw [List.getElem?_zip_eq_some]; exact ⟨ht, hu⟩
  obtain ⟨hk, e⟩ := List.getElem?_eq_some_iff.1 hz
  rw [List.drop_eq_getElem_cons hk, e]
theorem pl_len (a : At) : a.pl.length = a.args.length + 1 := by simp [At.pl]
theorem balloc {w W : World} {o : Obj} (h : Below w.heap.size w W) : Below w.heap.size w (W.alloc o) := h.alloc h.size _
theorem bset {w W : World} {G i : Nat} {a : Value} (h : Below w.heap.size w W) (hg : w.heap.size ≤ G) : Below w.heap.size w (W.setCell ⟨G, i, none⟩ a) := h.setCell hg _
theorem store3 {W : World} {G : Nat} {a b c a' b' c' : Value} {t : TypeId} (h : W.heap[G]? = some (.cells #[a, b, c] t (0, 0))) :
    (((W.setCell ⟨G, 0, none⟩ a').setCell ⟨G, 1, none⟩ b').setCell ⟨G, 2, none⟩ c').heap[G]? = some (.cells #[a', b', c'] t (0, 0)) := by
  have h1 := heap_setCell_same _ _ 0 _ _ a' h
  have h2 := heap_setCell_same _ _ 1 _ _ b' h1
  exact heap_setCell_same _ _ 2 _ _ c' h2
theorem store3_other {W : World} {G k : Nat} {o : Obj} (a' b' c' : Value) (hk : k ≠ G) (h : W.heap[k]? = some o) :
    (((W.setCell ⟨G, 0, none⟩ a').setCell ⟨G, 1, none⟩ b').setCell ⟨G, 2, none⟩ c').heap[k]? = some o := by
  rw [heap_setCell_other _ _ _ _ hk, heap_setCell_other _ _ _ _ hk, heap_setCell_other _ _ _ _ hk]; exact h
/-- The two atoms' boxes, as Match lays them. -/
def Box2 (w W : World) (c d : Array Value) : Prop := W.heap[w.heap.size]? = some (.cells c 37 (0, 0)) ∧ W.heap[w.heap.size + 1]? = some (.cells d 37 (0, 0)) ∧ Below w.heap.size w W
theorem Box2.start (w : World) (c d : Array Value) : Box2 w ((w.alloc (.cells c 37)).alloc (.cells d 37)) c d := ⟨heap_alloc2_old _ _ _, heap_alloc2_new _ _ _, below2 _ _ _⟩
theorem Box2.later {w W W' : World} {c d : Array Value} (h : Box2 w W c d) (hb : Below W.heap.size W W') : Box2 w W' c d :=
  ⟨(hb.block _ (Array.getElem?_eq_some_iff.1 h.1).1).trans h.1, (hb.block _ (Array.getElem?_eq_some_iff.1 h.2.1).1).trans h.2.1, h.2.2.trans (hb.mono h.2.2.size)⟩
theorem Box2.lt {w W : World} {c d : Array Value} (h : Box2 w W c d) : w.heap.size + 1 < W.heap.size := (Array.getElem?_eq_some_iff.1 h.2.1).1
theorem Box2.cells {w W : World} {a b c d e a' b' c' d' e' : Value} (h : Box2 w W #[a, b, c, d, e] #[a', b', c', d', e']) :
    (W.cell? ⟨w.heap.size, 0, none⟩ = some a ∧ W.cell? ⟨w.heap.size, 1, none⟩ = some b ∧ W.cell? ⟨w.heap.size, 2, none⟩ = some c ∧ W.cell? ⟨w.heap.size, 3, none⟩ = some d ∧ W.cell? ⟨w.heap.size, 4, none⟩ = some e) ∧
    (W.cell? ⟨w.heap.size + 1, 0, none⟩ = some a' ∧ W.cell? ⟨w.heap.size + 1, 1, none⟩ = some b' ∧ W.cell? ⟨w.heap.size + 1, 2, none⟩ = some c' ∧ W.cell? ⟨w.heap.size + 1, 3, none⟩ = some d' ∧ W.cell? ⟨w.heap.size + 1, 4, none⟩ = some e') := ⟨five h.1, five h.2.1⟩
end Go.Proofs.YtdfgijdededolabGreatDoor
