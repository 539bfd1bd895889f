/-
  constOrVariable, CheckTest, Decide, replace, ApplyTest.
-/
import Derived.Test.YtbhdalchnbfohaaB5
namespace Go.Proofs.Ytbhdalchnbfohaa
open Go.RowKit
attribute [local go_sem ↓] Go.wp_at_zero Go.wp_at_succ

def Tm.cov (t : Tm) : Bool := t.con || t.var
set_option maxHeartbeats 400000 in
theorem cov_any (t : Tm) (w : World) :
    Calls Try.prog 47 #[t.v] w fun e w' => e = .returned (.bool t.cov) ∧ Below w.heap.size w w' := by
  obtain ⟨k, n, s⟩ := t
  cases h : Tm.con ⟨k, n, s⟩
  · have HC : Hid (Tm.con ⟨k, n, s⟩ = false) := h
    clear h
    go_enter Try.func47, Try.ntmps47
    go_wp2_with (first
      | (go_at_call 23; refine (con_any ⟨k, n, s⟩ _).mono ?_; rw [HC.out]; rintro e w1 ⟨rfl, hb1⟩; obtain ⟨hcl, hfr⟩ := bcell hb1)
      | (go_at_call 33; refine (var_any ⟨k, n, s⟩ _).mono ?_; rintro e w2 ⟨rfl, hb2⟩))
    go_ret
    exact ⟨ret_b (by unfold Tm.cov; rw [HC.out]; simp), below_step (below_step (below1 _ _) hb1) hb2⟩
  · have HC : Hid (Tm.con ⟨k, n, s⟩ = true) := h
    clear h
    go_enter Try.func47, Try.ntmps47
    go_wp2_with (first
      | (go_at_call 23; refine (con_any ⟨k, n, s⟩ _).mono ?_; rw [HC.out]; rintro e w1 ⟨rfl, hb1⟩; obtain ⟨hcl, hfr⟩ := bcell hb1))
    go_ret
    exact ⟨ret_b (by unfold Tm.cov; rw [HC.out]; simp), below_step (below1 _ _) hb1⟩
/-- A test: operator and two sides. -/
structure Te where
  op : Int
  l : Tm
  r : Tm
deriving DecidableEq
abbrev Te.v (t : Te) : Value := .agg #[.int .i64 t.op, .int .i64 t.l.k, .int .i64 t.l.n, .string t.l.s, .int .i64 t.r.k, .int .i64 t.r.n, .string t.r.s]
def Te.ok (t : Te) : Bool := decide (1 ≤ t.op ∧ t.op ≤ 4) && (t.l.cov && t.r.cov)
set_option maxHeartbeats 1000000 in
theorem check_any (t : Te) (w : World) :
    Calls Try.prog 34 #[t.v] w fun e w' => e = .returned (.int .i64 (if t.ok then 0 else 32)) ∧ Below w.heap.size w w' := by
  obtain ⟨op, ⟨k, n, s⟩, ⟨k', n', s'⟩⟩ := t
  obtain ⟨c1, h1⟩ : ∃ c, Tm.cov ⟨k, n, s⟩ = c := ⟨_, rfl⟩
  obtain ⟨c2, h2⟩ : ∃ c, Tm.cov ⟨k', n', s'⟩ = c := ⟨_, rfl⟩
  obtain ⟨r, hr⟩ : ∃ r : Int, (if Te.ok ⟨op, ⟨k, n, s⟩, ⟨k', n', s'⟩⟩ then 0 else 32) = r := ⟨_, rfl⟩
  rw [hr]
  have HR : Hid ((if decide (1 ≤ op ∧ op ≤ 4) && (c1 && c2) then (0 : Int) else 32) = r) := by rw [← hr, ← h1, ← h2]; rfl
  have H1 : Hid (Tm.cov ⟨k, n, s⟩ = c1) := h1
  have H2 : Hid (Tm.cov ⟨k', n', s'⟩ = c2) := h2
  clear h1 h2 hr
  by_cases o1 : op < 1
  · go_enter Try.func34, Try.ntmps34
    go_wp2
    go_ret
    exact ⟨ret_i (by rw [← HR.out, decide_eq_false (by omega)]; rfl), below1 _ _⟩
  · by_cases o2 : 4 < op
    · go_enter Try.func34, Try.ntmps34
      go_wp2
      go_ret
      exact ⟨ret_i (by rw [← HR.out, decide_eq_false (by omega)]; rfl), below1 _ _⟩
    · cases c1
      · go_enter Try.func34, Try.ntmps34
        go_wp2_with (go_at_call 47; refine (cov_any ⟨k, n, s⟩ _).mono ?_; rw [H1.out]; rintro e w1 ⟨rfl, hb1⟩)
        go_ret
        exact ⟨ret_i (by rw [← HR.out]; simp), below_step (below1 _ _) hb1⟩
      · cases c2
        all_goals
          go_enter Try.func34, Try.ntmps34
          go_wp2_with (go_at_call 47; refine (cov_any ⟨_, _, _⟩ _).mono ?_; first | (rw [H1.out]; rintro e w1 ⟨rfl, hb1⟩; obtain ⟨hcl, hfr⟩ := bcell hb1; have hm := below_step (below1 _ _) hb1) | (rw [H2.out]; rintro e w2 ⟨rfl, hb2⟩))
          go_ret
          exact ⟨ret_i (by rw [← HR.out, decide_eq_true (by omega)]; simp), below_step hm hb2⟩
def Te.known (t : Te) : Bool := decide (1 ≤ t.op ∧ t.op ≤ 4) && (t.l.con && t.r.con)
def Te.holds (t : Te) : Bool := t.known && (if t.op = 1 then decide (t.l = t.r) else if t.op = 2 then !decide (t.l = t.r) else if t.op = 3 then decide (t.l.cmp t.r < 0) else decide (t.l.cmp t.r ≤ 0))
/-- One box at the call's first block. -/
def Box1 (w W : World) (c : Array Value) (ty : TypeId) : Prop := W.heap[w.heap.size]? = some (.cells c ty (0, 0)) ∧ Below w.heap.size w W
theorem Box1.start (w : World) (c : Array Value) (ty : TypeId) : Box1 w (w.alloc (.cells c ty)) c ty := ⟨heap_alloc_new _ _, below1 _ _⟩
theorem Box1.later {w W W' : World} {c : Array Value} {ty : TypeId} (h : Box1 w W c ty) (hb : Below W.heap.size W W') : Box1 w W' c ty :=
  ⟨(hb.block _ (Array.getElem?_eq_some_iff.1 h.1).1).trans h.1, h.2.trans (hb.mono h.2.size)⟩
theorem Box1.cells7 {w W : World} {a b c d e f g : Value} {ty : TypeId} (h : Box1 w W #[a, b, c, d, e, f, g] ty) :
    W.cell? ⟨w.heap.size, 0, none⟩ = some a ∧ W.cell? ⟨w.heap.size, 1, none⟩ = some b ∧ W.cell? ⟨w.heap.size, 2, none⟩ = some c ∧ W.cell? ⟨w.heap.size, 3, none⟩ = some d ∧ W.cell? ⟨w.heap.size, 4, none⟩ = some e ∧ W.cell? ⟨w.heap.size, 5, none⟩ = some f ∧ W.cell? ⟨w.heap.size, 6, none⟩ = some g :=
  ⟨cell_of_row _ _ _ _ _ _ h.1, cell_of_row _ _ _ _ _ _ h.1, cell_of_row _ _ _ _ _ _ h.1, cell_of_row _ _ _ _ _ _ h.1, cell_of_row _ _ _ _ _ _ h.1, cell_of_row _ _ _ _ _ _ h.1, cell_of_row _ _ _ _ _ _ h.1⟩
theorem con_cov (t : Tm) (h : t.con = true) : t.cov = true := by unfold Tm.cov; rw [h]; rfl
set_option maxHeartbeats 1000000 in
theorem decide_any (t : Te) (w : World) :
    Calls Try.prog 25 #[t.v] w fun e w' => e = .returned (.tuple #[.bool t.holds, .bool t.known]) ∧ Below w.heap.size w w' := by
  obtain ⟨op, ⟨k, n, s⟩, ⟨k', n', s'⟩⟩ := t
  obtain ⟨hh, eh⟩ : ∃ hh, Te.holds ⟨op, ⟨k, n, s⟩, ⟨k', n', s'⟩⟩ = hh := ⟨_, rfl⟩
  obtain ⟨kk, ek⟩ : ∃ kk, Te.known ⟨op, ⟨k, n, s⟩, ⟨k', n', s'⟩⟩ = kk := ⟨_, rfl⟩
  rw [eh, ek]
  have hq := run_eql_tm ⟨k, n, s⟩ ⟨k', n', s'⟩
  have hne := run_neq_tm ⟨k, n, s⟩ ⟨k', n', s'⟩
  obtain ⟨c4, h4⟩ : ∃ c, Tm.cmp ⟨k, n, s⟩ ⟨k', n', s'⟩ = c := ⟨_, rfl⟩
  obtain ⟨c5, h5⟩ : ∃ c, decide (Tm.mk k n s = ⟨k', n', s'⟩) = c := ⟨_, rfl⟩
  rw [h5] at hq hne
  have H4 : Hid (Tm.cmp ⟨k, n, s⟩ ⟨k', n', s'⟩ = c4) := h4
  have EH : Hid (hh = (kk && (if op = 1 then c5 else if op = 2 then !c5 else if op = 3 then decide (c4 < 0) else decide (c4 ≤ 0)))) := by
    show hh = _; rw [← eh, ← ek, ← h5, ← h4]; rfl
  cases c0 : Te.ok ⟨op, ⟨k, n, s⟩, ⟨k', n', s'⟩⟩
  · have C0 : Hid ((if Te.ok ⟨op, ⟨k, n, s⟩, ⟨k', n', s'⟩⟩ then (0 : Int) else 32) = 32) := by show (if _ then (0 : Int) else 32) = 32; rw [c0]; rfl
    have hk : kk = false := by
      rw [← ek]
      unfold Te.ok at c0
      unfold Te.known
      simp only [Bool.and_eq_false_iff] at *
      rcases c0 with h | h | h
      · exact Or.inl h
      · exact Or.inr (Or.inl (by cases hc : Tm.con ⟨k, n, s⟩ <;> simp_all [con_cov]))
      · exact Or.inr (Or.inr (by cases hc : Tm.con ⟨k', n', s'⟩ <;> simp_all [con_cov]))
    have hf : hh = false := by rw [EH.out, hk]; rfl
    subst hk hf
    clear eh ek h4 h5 EH c0 hq hne
    go_enter Try.func25, Try.ntmps25
    go_wp2_with (go_at_call 34; refine (check_any ⟨op, ⟨k, n, s⟩, ⟨k', n', s'⟩⟩ _).mono ?_; rw [C0.out]; rintro e w1 ⟨rfl, hb1⟩)
    go_ret2
    exact ⟨rfl, below_step (below1 _ _) hb1⟩
  · have C0 : Hid ((if Te.ok ⟨op, ⟨k, n, s⟩, ⟨k', n', s'⟩⟩ then (0 : Int) else 32) = 0) := by show (if _ then (0 : Int) else 32) = 0; rw [c0]; rfl
    have ho : 1 ≤ op ∧ op ≤ 4 := by unfold Te.ok at c0; simp only [Bool.and_eq_true, decide_eq_true_eq] at c0; exact c0.1
    obtain ⟨c1, h1⟩ : ∃ c, Tm.con ⟨k, n, s⟩ = c := ⟨_, rfl⟩
    obtain ⟨c2, h2⟩ : ∃ c, Tm.con ⟨k', n', s'⟩ = c := ⟨_, rfl⟩
    have H1 : Hid (Tm.con ⟨k, n, s⟩ = c1) := h1
    have H2 : Hid (Tm.con ⟨k', n', s'⟩ = c2) := h2
    have hk : kk = (c1 && c2) := by
      rw [← ek, ← h1, ← h2]; unfold Te.known; rw [decide_eq_true ho]; rfl
    subst hk
    clear eh ek h4 h5 c0 h1 h2
    cases c1
    · have hf : hh = false := by rw [EH.out]; rfl
      subst hf
      clear EH hq hne
      go_enter Try.func25, Try.ntmps25
      go_wp2_with (first
        | (go_at_call 34; refine (check_any ⟨op, ⟨k, n, s⟩, ⟨k', n', s'⟩⟩ _).mono ?_; rw [C0.out]; rintro e w1 ⟨rfl, hb1⟩; have C1 := (Box1.start _ _ _).later hb1; obtain ⟨a0, a1, a2, a3, a4, a5, a6⟩ := C1.cells7; have B1 : Hid (Box1 _ _ _ _) := C1; clear C1)
        | (go_at_call 23; refine (con_any ⟨k, n, s⟩ _).mono ?_; rw [H1.out]; rintro e w2 ⟨rfl, hb2⟩))
      go_ret2
      exact ⟨rfl, ((Hid.out B1).later hb2).2⟩
    · cases c2
      · have hf : hh = false := by rw [EH.out]; rfl
        subst hf
        clear EH hq hne
        go_enter Try.func25, Try.ntmps25
        go_wp2_with (first
          | (go_at_call 34; refine (check_any ⟨op, ⟨k, n, s⟩, ⟨k', n', s'⟩⟩ _).mono ?_; rw [C0.out]; rintro e w1 ⟨rfl, hb1⟩; have C1 := (Box1.start _ _ _).later hb1; obtain ⟨a0, a1, a2, a3, a4, a5, a6⟩ := C1.cells7; have B1 : Hid (Box1 _ _ _ _) := C1; clear C1)
          | (go_at_call 23; refine (con_any ⟨_, _, _⟩ _).mono ?_; first | (rw [H1.out]; rintro e w2 ⟨rfl, hb2⟩; clear a0 a1 a2 a3 a4 a5 a6; have C2 := (Hid.out B1).later hb2; obtain ⟨a0, a1, a2, a3, a4, a5, a6⟩ := C2.cells7; have B2 : Hid (Box1 _ _ _ _) := C2; clear C2) | (rw [H2.out]; rintro e w3 ⟨rfl, hb3⟩)))
        go_ret2
        exact ⟨rfl, ((Hid.out B2).later hb3).2⟩
      · have EH2 : Hid (hh = (if op = 1 then c5 else if op = 2 then !c5 else if op = 3 then decide (c4 < 0) else decide (c4 ≤ 0))) := by show hh = _; rw [EH.out]; rfl
        clear EH
        obtain ⟨ho1, ho2⟩ := ho
        by_cases o1 : op = 1
        · have hf : hh = c5 := by rw [EH2.out, if_pos o1]
          subst hf o1
          clear EH2
          go_enter Try.func25, Try.ntmps25
          go_wp2_with (first
            | (go_at_call 34; refine (check_any ⟨1, ⟨k, n, s⟩, ⟨k', n', s'⟩⟩ _).mono ?_; rw [C0.out]; rintro e w1 ⟨rfl, hb1⟩; have C1 := (Box1.start _ _ _).later hb1; obtain ⟨a0, a1, a2, a3, a4, a5, a6⟩ := C1.cells7; have B1 : Hid (Box1 _ _ _ _) := C1; clear C1)
            | (go_at_call 23; refine (con_any ⟨_, _, _⟩ _).mono ?_; first | (rw [H1.out]; rintro e w2 ⟨rfl, hb2⟩; clear a0 a1 a2 a3 a4 a5 a6; have C2 := (Hid.out B1).later hb2; obtain ⟨a0, a1, a2, a3, a4, a5, a6⟩ := C2.cells7; have B2 : Hid (Box1 _ _ _ _) := C2; clear C2) | (rw [H2.out]; rintro e w3 ⟨rfl, hb3⟩; clear a0 a1 a2 a3 a4 a5 a6; have C3 := (Hid.out B2).later hb3; obtain ⟨a0, a1, a2, a3, a4, a5, a6⟩ := C3.cells7; have B3 : Hid (Box1 _ _ _ _) := C3; clear C3)))
          go_ret2
          exact ⟨rfl, (Hid.out B3).2⟩
        · by_cases o2 : op = 2
          · subst o2
            clear o1
            have hf : hh = !c5 := by rw [EH2.out]; rfl
            subst hf
            clear EH2
            go_enter Try.func25, Try.ntmps25
            go_wp2_with (first
              | (go_at_call 34; refine (check_any ⟨2, ⟨k, n, s⟩, ⟨k', n', s'⟩⟩ _).mono ?_; rw [C0.out]; rintro e w1 ⟨rfl, hb1⟩; have C1 := (Box1.start _ _ _).later hb1; obtain ⟨a0, a1, a2, a3, a4, a5, a6⟩ := C1.cells7; have B1 : Hid (Box1 _ _ _ _) := C1; clear C1)
              | (go_at_call 23; refine (con_any ⟨_, _, _⟩ _).mono ?_; first | (rw [H1.out]; rintro e w2 ⟨rfl, hb2⟩; clear a0 a1 a2 a3 a4 a5 a6; have C2 := (Hid.out B1).later hb2; obtain ⟨a0, a1, a2, a3, a4, a5, a6⟩ := C2.cells7; have B2 : Hid (Box1 _ _ _ _) := C2; clear C2) | (rw [H2.out]; rintro e w3 ⟨rfl, hb3⟩; clear a0 a1 a2 a3 a4 a5 a6; have C3 := (Hid.out B2).later hb3; obtain ⟨a0, a1, a2, a3, a4, a5, a6⟩ := C3.cells7; have B3 : Hid (Box1 _ _ _ _) := C3; clear C3)))
            go_ret2
            exact ⟨rfl, (Hid.out B3).2⟩
          · by_cases o3 : op = 3
            · subst o3
              clear o1 o2
              have hf : hh = decide (c4 < 0) := by rw [EH2.out]; rfl
              subst hf
              clear EH2 hq hne
              go_enter Try.func25, Try.ntmps25
              go_wp2_with (first
                | (go_at_call 34; refine (check_any ⟨3, ⟨k, n, s⟩, ⟨k', n', s'⟩⟩ _).mono ?_; rw [C0.out]; rintro e w1 ⟨rfl, hb1⟩; have C1 := (Box1.start _ _ _).later hb1; obtain ⟨a0, a1, a2, a3, a4, a5, a6⟩ := C1.cells7; have B1 : Hid (Box1 _ _ _ _) := C1; clear C1)
                | (go_at_call 23; refine (con_any ⟨_, _, _⟩ _).mono ?_; first | (rw [H1.out]; rintro e w2 ⟨rfl, hb2⟩; clear a0 a1 a2 a3 a4 a5 a6; have C2 := (Hid.out B1).later hb2; obtain ⟨a0, a1, a2, a3, a4, a5, a6⟩ := C2.cells7; have B2 : Hid (Box1 _ _ _ _) := C2; clear C2) | (rw [H2.out]; rintro e w3 ⟨rfl, hb3⟩; clear a0 a1 a2 a3 a4 a5 a6; have C3 := (Hid.out B2).later hb3; obtain ⟨a0, a1, a2, a3, a4, a5, a6⟩ := C3.cells7; have B3 : Hid (Box1 _ _ _ _) := C3; clear C3))
                | (go_at_call 35; refine (compare_any ⟨_, _, _⟩ ⟨_, _, _⟩ _).mono ?_; rw [H4.out]; rintro e w4 ⟨rfl, hb4⟩))
              go_ret2
              exact ⟨rfl, ((Hid.out B3).later hb4).2⟩
            · obtain rfl : op = 4 := by omega
              clear o1 o2 o3
              have hf : hh = decide (c4 ≤ 0) := by rw [EH2.out]; rfl
              subst hf
              clear EH2 hq hne
              go_enter Try.func25, Try.ntmps25
              go_wp2_with (first
                | (go_at_call 34; refine (check_any ⟨4, ⟨k, n, s⟩, ⟨k', n', s'⟩⟩ _).mono ?_; rw [C0.out]; rintro e w1 ⟨rfl, hb1⟩; have C1 := (Box1.start _ _ _).later hb1; obtain ⟨a0, a1, a2, a3, a4, a5, a6⟩ := C1.cells7; have B1 : Hid (Box1 _ _ _ _) := C1; clear C1)
                | (go_at_call 23; refine (con_any ⟨_, _, _⟩ _).mono ?_; first | (rw [H1.out]; rintro e w2 ⟨rfl, hb2⟩; clear a0 a1 a2 a3 a4 a5 a6; have C2 := (Hid.out B1).later hb2; obtain ⟨a0, a1, a2, a3, a4, a5, a6⟩ := C2.cells7; have B2 : Hid (Box1 _ _ _ _) := C2; clear C2) | (rw [H2.out]; rintro e w3 ⟨rfl, hb3⟩; clear a0 a1 a2 a3 a4 a5 a6; have C3 := (Hid.out B2).later hb3; obtain ⟨a0, a1, a2, a3, a4, a5, a6⟩ := C3.cells7; have B3 : Hid (Box1 _ _ _ _) := C3; clear C3))
                | (go_at_call 35; refine (compare_any ⟨_, _, _⟩ ⟨_, _, _⟩ _).mono ?_; rw [H4.out]; rintro e w4 ⟨rfl, hb4⟩))
              go_ret2
              exact ⟨rfl, ((Hid.out B3).later hb4).2⟩
end Go.Proofs.Ytbhdalchnbfohaa
