/-
  The checker: atoms compared; places; demands.
-/
import Derived.Test.YtbhdalchnbfohaaCL14
namespace Go.Proofs.Ytbhdalchnbfohaa
open Go.RowKit
attribute [local go_sem ↓] Go.wp_at_zero Go.wp_at_succ

set_option maxHeartbeats 1000000 in
theorem eqT_any (a b : List Tm) (x y : Value) (w : World) (h : Ts w x a) (h' : Ts w y b) :
    Calls Try.prog 17 #[x, y] w fun e w' => e = .returned (.bool (decide (a = b))) ∧ Below w.heap.size w w' := by
  obtain ⟨ad, cap, rfl, hl, h⟩ := h
  obtain ⟨ad', cap', rfl, hl', h'⟩ := h'
  by_cases e2 : a.length = b.length
  · have hq2 : ((a.length : Int) == (b.length : Int)) = true := by simp; omega
    have hq3 : ((a.length : Int) != (b.length : Int)) = false := by simp; omega
    have E2 : Hid (a.length = b.length) := e2
    clear e2
    go_enter Try.func17, Try.ntmps17
    go_wp2
    go_loopg [13] a.length (fun g i wr => ∃ j : Nat, j + g = a.length ∧ i = .int .i64 j ∧ (a = b ↔ a.drop j = b.drop j) ∧ Below w.heap.size w wr)
    case atStart => exact ⟨0, by omega, rfl, by simp, Below.refl _ _⟩
    case round =>
      obtain ⟨j, hj, rfl, hgo, hb⟩ := hrel
      have HG : Hid (a = b ↔ a.drop j = b.drop j) := hgo
      clear hgo
      cases gk with
      | succ g =>
        have hlt : (j : Int) < (a.length : Int) := by omega
        have hlt' : (j : Int) < (b.length : Int) := by have := E2.out; omega
        have j0 : (0 : Int) ≤ (j : Int) := by omega
        obtain ⟨t, ht⟩ : ∃ t, a[j]? = some t := ⟨_, List.getElem?_eq_getElem (by omega)⟩
        obtain ⟨u, hu⟩ : ∃ u, b[j]? = some u := ⟨_, List.getElem?_eq_getElem (by omega)⟩
        have HS : Hid ((a = b) ↔ (t = u ∧ a.drop (j + 1) = b.drop (j + 1))) := HG.out.trans (drop_eq_step a b j t u ht hu)
        rcases h with h | ⟨b1, o1, rfl, hb1, h⟩
        · subst h; simp at hj
        rcases h' with h' | ⟨b2, o2, rfl, hb2, h'⟩
        · subst h'; simp at hu
        obtain ⟨p0, p1, p2⟩ := h j t ht
        obtain ⟨q0, q1, q2⟩ := h' j u hu
        rw [← hb.cell (p := ⟨b1, _, none⟩) hb1] at p0 p1 p2
        rw [← hb.cell (p := ⟨b2, _, none⟩) hb2] at q0 q1 q2
        have he := run_neq_tm t u
        clear h h' ht hu
        obtain ⟨tk, tn, ts⟩ := t
        obtain ⟨uk, un, us⟩ := u
        simp only at p0 p1 p2 q0 q1 q2
        by_cases htu : Tm.mk tk tn ts = ⟨uk, un, us⟩
        · have HS2 : Hid (a = b ↔ a.drop (j + 1) = b.drop (j + 1)) := by
            have := HS.out; show a = b ↔ _; simpa [htu] using this
          rw [decide_eq_true htu] at he
          clear htu
          go_wp2
          go_quiet (fail)
          go_wp2
          go_roundg g
          case measure => omega
          case rel => exact ⟨j + 1, by omega, by go_num, HS2.out, below_drewN hb _⟩
        · have HS2 : Hid (decide (a = b) = false) := decide_eq_false fun e => htu (HS.out.1 e).1
          rw [decide_eq_false htu] at he
          clear htu
          go_wp2
          go_quiet (fail)
          go_wp2
          go_ret
          exact ⟨ret_b HS2.out.symm, below_drewN hb _⟩
      | zero =>
        have hlt : ¬ (j : Int) < (a.length : Int) := by omega
        have HS2 : Hid (decide (a = b) = true) := decide_eq_true (HG.out.2 (by rw [List.drop_eq_nil_of_le (by omega), List.drop_eq_nil_of_le (by have := E2.out; omega)]))
        clear hj h h'
        go_wp2
        go_ret
        exact ⟨ret_b HS2.out.symm, hb⟩
  · have hq2 : ((a.length : Int) == (b.length : Int)) = false := by simp; omega
    have hq3 : ((a.length : Int) != (b.length : Int)) = true := by simp; omega
    have HS2 : Hid (decide (a = b) = false) := decide_eq_false fun e => e2 (by rw [e])
    clear e2 h h'
    go_enter Try.func17, Try.ntmps17
    go_wp2
    go_ret
    exact ⟨ret_b HS2.out.symm, Below.refl _ _⟩

set_option maxHeartbeats 1000000 in
theorem hsame_any (a b : At) (x y : Value) (w : World) (h : Ts w x a.args) (h' : Ts w y b.args) :
    Calls Try.prog 11 #[a.v x, b.v y] w fun e w' => e = .returned (.bool (decide (a = b))) ∧ Below w.heap.size w w' := by
  obtain ⟨⟨k, n, s⟩, nm, l⟩ := a
  obtain ⟨⟨k', n', s'⟩, nm', l'⟩ := b
  have HX : Hid (Ts w x l) := h
  have HY : Hid (Ts w y l') := h'
  obtain ⟨xa, xc, hxs, -⟩ := h
  obtain ⟨ya, yc, hys, -⟩ := h'
  simp only at hxs hys
  subst hxs hys
  obtain ⟨r, hr⟩ : ∃ r, decide (At.mk ⟨k, n, s⟩ nm l = At.mk ⟨k', n', s'⟩ nm' l') = r := ⟨_, rfl⟩
  rw [hr]
  have HR : Hid ((decide (Tm.mk k n s = ⟨k', n', s'⟩) && (decide (nm.toList = nm'.toList) && decide (l = l'))) = r) := by
    show _ = r
    rw [← hr, Bool.eq_iff_iff]
    simp only [Bool.and_eq_true, decide_eq_true_eq, At.mk.injEq]
    exact ⟨fun ⟨p, q, r⟩ => ⟨p, toList_inj q, r⟩, fun ⟨p, q, r⟩ => ⟨p, by rw [q], r⟩⟩
  clear hr
  have he := run_eql_tm ⟨k, n, s⟩ ⟨k', n', s'⟩
  by_cases e2 : Tm.mk k n s = ⟨k', n', s'⟩
  · rw [decide_eq_true e2] at he
    by_cases e1 : nm.toList = nm'.toList
    · have hq1 : (nm.toList == nm'.toList) = true := by simpa using e1
      have HR2 : Hid (decide (l = l') = r) := by show _ = r; rw [← HR.out]; simp [e1, e2]
      clear e1 e2 HR
      go_enter Try.func11, Try.ntmps11
      go_wp2_with (go_at_call 17; refine (eqT_any l l' _ _ _ (HX.out.later (below2 _ _ _)) (HY.out.later (below2 _ _ _))).mono ?_; rw [HR2.out]; rintro e w1 ⟨rfl, hb1⟩)
      go_ret
      exact ⟨rfl, below_step (below2 _ _ _) hb1⟩
    · have HR2 : Hid (false = r) := by show false = r; rw [← HR.out]; simp [e1]
      have hq1 : (nm.toList == nm'.toList) = false := by simpa using e1
      clear e1 e2 HR
      go_enter Try.func11, Try.ntmps11
      go_wp2
      go_ret
      exact ⟨ret_b HR2.out, below2 _ _ _⟩
  · have HR2 : Hid (false = r) := by show false = r; rw [← HR.out]; simp [e2]
    rw [decide_eq_false e2] at he
    clear e2 HR
    go_enter Try.func11, Try.ntmps11
    go_wp2
    go_ret
    exact ⟨ret_b HR2.out, below2 _ _ _⟩
/-- What a step gives up with. -/
def pH (c : Int) : PanicEntry := { v := .iface 36 (.int .i64 c), recovered := false }
theorem demand_yes (c : Int) (w : World) : Calls Try.prog 19 #[.bool true, .int .i64 c] w fun e w' => e = .returned (.tuple #[]) ∧ w' = w := by
  go_enter Try.func19, Try.ntmps19
  go_wp2
  go_end0
  exact ⟨rfl, rfl⟩
theorem demand_no (c : Int) (w : World) : Calls Try.prog 19 #[.bool false, .int .i64 c] w fun e w' => e = .panicked [pH c] ∧ w' = w := by
  go_enter Try.func19, Try.ntmps19
  go_wp2
  exact ⟨rfl, rfl, rfl⟩
theorem isPlace_any (n : Int) (m : Nat) (w : World) : Calls Try.prog 20 #[.int .i64 n, .int .i64 (m : Int)] w fun e w' => e = .returned (.bool (decide (0 ≤ n ∧ n < (m : Int)))) ∧ w' = w := by
  by_cases h0 : 0 ≤ n
  · by_cases h1 : n < (m : Int)
    · have hd : decide (0 ≤ n ∧ n < (m : Int)) = true := decide_eq_true ⟨h0, h1⟩
      rw [hd]
      clear hd
      go_enter Try.func20, Try.ntmps20
      go_wp2
      go_ret
      exact ⟨rfl, rfl⟩
    · have hd : decide (0 ≤ n ∧ n < (m : Int)) = false := decide_eq_false (fun h => h1 h.2)
      rw [hd]
      clear hd
      go_enter Try.func20, Try.ntmps20
      go_wp2
      go_ret
      exact ⟨rfl, rfl⟩
  · have hd : decide (0 ≤ n ∧ n < (m : Int)) = false := decide_eq_false (fun h => h0 h.1)
    rw [hd]
    clear hd
    go_enter Try.func20, Try.ntmps20
    go_wp2
    go_ret
    exact ⟨rfl, rfl⟩
end Go.Proofs.Ytbhdalchnbfohaa
