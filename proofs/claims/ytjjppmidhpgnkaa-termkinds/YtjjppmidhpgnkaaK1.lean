/-
  hearsaylaw02.TermKinds, for every two terms.
-/
import Derived.Test.YtjjppmidhpgnkaaB9
import Derived.Test.YtjjppmidhpgnkaaB3
namespace Go.Proofs.Ytjjppmidhpgnkaa
open Go.RowKit
attribute [local go_sem ↓] Go.wp_at_zero Go.wp_at_succ

set_option maxHeartbeats 2000000 in
theorem kinds_any (a b : Tm) (w : World) (ha : a.s.size ≤ maxLen) (hb : b.s.size ≤ maxLen) :
    Calls Try.prog 7 #[a.v, b.v] w fun e w' => e = .returned (.bool true) ∧ Below w.heap.size w w' := by
  obtain ⟨k, n, s⟩ := a
  obtain ⟨k', n', s'⟩ := b
  obtain ⟨c1, h1⟩ : ∃ c, Tm.con ⟨k, n, s⟩ = c := ⟨_, rfl⟩
  obtain ⟨c2, h2⟩ : ∃ c, Tm.prin ⟨k, n, s⟩ = c := ⟨_, rfl⟩
  obtain ⟨c3, h3⟩ : ∃ c, Tm.var ⟨k, n, s⟩ = c := ⟨_, rfl⟩
  obtain ⟨c4, h4⟩ : ∃ c, Tm.cmp ⟨k, n, s⟩ ⟨k', n', s'⟩ = c := ⟨_, rfl⟩
  obtain ⟨c5, h5⟩ : ∃ c, Tm.cmp ⟨k', n', s'⟩ ⟨k, n, s⟩ = c := ⟨_, rfl⟩
  have H1 : Hid (Tm.con ⟨k, n, s⟩ = c1) := h1
  have H2 : Hid (Tm.prin ⟨k, n, s⟩ = c2) := h2
  have H3 : Hid (Tm.var ⟨k, n, s⟩ = c3) := h3
  have H4 : Hid (Tm.cmp ⟨k, n, s⟩ ⟨k', n', s'⟩ = c4) := h4
  have H5 : Hid (Tm.cmp ⟨k', n', s'⟩ ⟨k, n, s⟩ = c5) := h5
  have HA : Hid (s.size ≤ maxLen) := ha
  have HB : Hid (s'.size ≤ maxLen) := hb
  clear h1 h2 h3 h4 h5 ha hb
  go_enter Try.func7, Try.ntmps7
  go_wp2
  have g0 := heap_alloc2_old w (.cells #[.int .i64 k, .int .i64 n, .string s] 23) (.cells #[.int .i64 k', .int .i64 n', .string s'] 23)
  have g1 := heap_alloc2_new w (.cells #[.int .i64 k, .int .i64 n, .string s] 23) (.cells #[.int .i64 k', .int .i64 n', .string s'] 23)
  have hb0 := below2 w (.cells #[.int .i64 k, .int .i64 n, .string s] 23) (.cells #[.int .i64 k', .int .i64 n', .string s'] 23)
  revert g0 g1 hb0
  generalize (w.alloc (.cells #[.int .i64 k, .int .i64 n, .string s] 23)).alloc (.cells #[.int .i64 k', .int .i64 n', .string s'] 23) = W
  intro g0 g1 hb0
  obtain ⟨p0, p1, p2, -, -, -⟩ := three g0
  obtain ⟨q0, q1, q2, -, -, -⟩ := three g1
  have z1 : w.heap.size + 1 < W.heap.size := (Array.getElem?_eq_some_iff.1 g1).1
  have z0 : w.heap.size < W.heap.size := by omega
  have HW : Hid (Below w.heap.size w W) := hb0
  clear g0 g1 hb0
  go_region_held3 (fun w' => w'.cell? ⟨w.heap.size, 0, none⟩ = some (.int .i64 k) ∧ w'.cell? ⟨w.heap.size, 1, none⟩ = some (.int .i64 n) ∧ w'.cell? ⟨w.heap.size, 2, none⟩ = some (.string s) ∧ w.heap.size < w'.heap.size ∧ Below W.heap.size W w')
    ((go_split_ands; refine ⟨?_, ?_, ?_, ?_, ?_⟩ <;> first | exact cell_step hb3 (by assumption) (by assumption) | exact lt_step hb3 (by assumption) | exact below_step (by assumption) hb3 | go_keep | exact (Below.refl _ _).drew))
    ((first
      | (go_at_call 21; refine (con_any ⟨k, n, s⟩ _).mono ?_; rw [H1.out]; rintro e w3 ⟨rfl, hb3⟩)
      | (go_at_call 24; refine (rcon_any ⟨k, n, s⟩ _).mono ?_; rw [H1.out]; rintro e w3 ⟨rfl, hb3⟩)
      | (go_at_call 13; refine (prin_any ⟨k, n, s⟩ _).mono ?_; rw [H2.out]; rintro e w3 ⟨rfl, hb3⟩)
      | (go_at_call 25; refine (rprin_any ⟨k, n, s⟩ _).mono ?_; rw [H2.out]; rintro e w3 ⟨rfl, hb3⟩)
      | (go_at_call 12; refine (var_any ⟨k, n, s⟩ _).mono ?_; rw [H3.out]; rintro e w3 ⟨rfl, hb3⟩)
      | (go_at_call 26; refine (rvar_any ⟨k, n, s⟩ _).mono ?_; rw [H3.out]; rintro e w3 ⟨rfl, hb3⟩)))
  go_split_ands
  have hW2 : Below w.heap.size w w3 := below_step HW.out (by assumption)
  have hW3 : Below W.heap.size W w3 := by assumption
  have p0' := cell_step hW3 z0 p0
  have p1' := cell_step hW3 z0 p1
  have p2' := cell_step hW3 z0 p2
  have q0' := cell_step hW3 z1 q0
  have q1' := cell_step hW3 z1 q1
  have q2' := cell_step hW3 z1 q2
  have z0' := lt_step hW3 z0
  have z1' := lt_step hW3 z1
  have HW2 : Hid (Below w.heap.size w w3) := hW2
  clear hW2 hW3 p0 p1 p2 q0 q1 q2 z0 z1 HW
  rename World => V
  go_wp2
  go_region_held3 (fun w' => w'.cell? ⟨w.heap.size, 0, none⟩ = some (.int .i64 k) ∧ w'.cell? ⟨w.heap.size, 1, none⟩ = some (.int .i64 n) ∧ w'.cell? ⟨w.heap.size, 2, none⟩ = some (.string s) ∧ w'.cell? ⟨w.heap.size + 1, 0, none⟩ = some (.int .i64 k') ∧ w'.cell? ⟨w.heap.size + 1, 1, none⟩ = some (.int .i64 n') ∧ w'.cell? ⟨w.heap.size + 1, 2, none⟩ = some (.string s') ∧ w.heap.size < w'.heap.size ∧ w.heap.size + 1 < w'.heap.size ∧ Below V.heap.size V w')
    ((go_split_ands; refine ⟨?_, ?_, ?_, ?_, ?_, ?_, ?_, ?_, ?_⟩ <;> first | exact cell_step hb4 (by assumption) (by assumption) | exact lt_step hb4 (by assumption) | exact below_step (by assumption) hb4 | go_keep | exact (Below.refl _ _).drew))
    ((first
      | (go_at_call 20; refine (compare_any ⟨_, _, _⟩ ⟨_, _, _⟩ _).mono ?_; (first | rw [H4.out] | rw [H5.out]); rintro e w4 ⟨rfl, hb4⟩)
      | (go_at_call 27; refine (rcompare_any ⟨_, _, _⟩ ⟨_, _, _⟩ _ (by first | exact HA.out | exact HB.out) (by first | exact HA.out | exact HB.out)).mono ?_; (first | rw [H4.out] | rw [H5.out]); rintro e w4 ⟨rfl, hb4⟩)
      | (go_at_call 10; refine (first_any _).mono ?_; rintro e w4 ⟨rfl, hb4⟩)))
  go_split_ands
  have hW5 : Below V.heap.size V w4 := by assumption
  go_wp2
  go_ret
  exact ⟨ret_b rfl, below_step HW2.out hW5⟩
end Go.Proofs.Ytjjppmidhpgnkaa
