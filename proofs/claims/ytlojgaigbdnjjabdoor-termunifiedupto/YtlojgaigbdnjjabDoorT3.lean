/-
  bindings of the laws.
-/
import Derived.Test.YtlojgaigbdnjjabDoorB7
namespace Go.Proofs.YtlojgaigbdnjjabDoor
open Go.RowKit

theorem drop_eq_stepB (a b : List Bd) (i : Nat) (t u : Bd) (ht : a[i]? = some t) (hu : b[i]? = some u) : (a.drop i = b.drop i) ↔ (t = u ∧ a.drop (i + 1) = b.drop (i + 1)) := by
  obtain ⟨h1, rfl⟩ := List.getElem?_eq_some_iff.1 ht
  obtain ⟨h2, rfl⟩ := List.getElem?_eq_some_iff.1 hu
  rw [List.drop_eq_getElem_cons h1, List.drop_eq_getElem_cons h2, List.cons.injEq]
set_option maxHeartbeats 1000000 in
theorem bindings_any (a b : List Bd) (x y : Value) (w : World) (h : Bs w x a) (h' : Bs w y b) :
    Calls Tryd.prog 12 #[x, y] w fun e w' => e = .returned (.bool (decide (a = b))) ∧ Below w.heap.size w w' := by
  obtain ⟨ad, cap, rfl, hl, h⟩ := h
  obtain ⟨ad', cap', rfl, hl', h'⟩ := h'
  by_cases e2 : a.length = b.length
  · have hq2 : ((a.length : Int) == (b.length : Int)) = true := by simp; omega
    have E2 : Hid (a.length = b.length) := e2
    clear e2
    go_enter Tryd.func12, Tryd.ntmps12
    go_wp2
    go_loopg [5] a.length (fun g i wr => ∃ j : Nat, j + g = a.length ∧ i = .int .i64 j ∧ (a = b ↔ a.drop j = b.drop j) ∧ Below w.heap.size w wr)
    case atStart => exact ⟨0, by omega, rfl, by simp, Below.refl _ _⟩
    case round =>
      obtain ⟨j, hj, rfl, hgo, hb⟩ := hrel
      have HG : Hid (a = b ↔ a.drop j = b.drop j) := hgo
      clear hgo
      cases gk with
      | succ g =>
        have hlt : (j : Int) < (a.length : Int) := by omega
        have hlt' : (j : Int) < (b.length : Int) := by have := E2.out; omega
        have j0 : (0 : Int) ≤ (j : Int) := by omega
        obtain ⟨t, ht⟩ : ∃ t, a[j]? = some t := ⟨_, List.getElem?_eq_getElem (by omega)⟩
        obtain ⟨u, hu⟩ : ∃ u, b[j]? = some u := ⟨_, List.getElem?_eq_getElem (by omega)⟩
        have HS : Hid ((a = b) ↔ (t = u ∧ a.drop (j + 1) = b.drop (j + 1))) := HG.out.trans (drop_eq_stepB a b j t u ht hu)
        rcases h with h | ⟨b1, o1, rfl, hb1, h⟩
        · subst h; simp at hj
        rcases h' with h' | ⟨b2, o2, rfl, hb2, h'⟩
        · subst h'; simp at hu
        obtain ⟨p0, p1, p2, p3⟩ := h j t ht
        obtain ⟨q0, q1, q2, q3⟩ := h' j u hu
        rw [← hb.cell (p := ⟨b1, _, none⟩) hb1] at p0 p1 p2 p3
        rw [← hb.cell (p := ⟨b2, _, none⟩) hb2] at q0 q1 q2 q3
        have he := run_neq_bd t u
        clear h h' ht hu
        obtain ⟨dx, tk, tn, ts⟩ := t
        obtain ⟨ex, uk, un, us⟩ := u
        simp only at p0 p1 p2 p3 q0 q1 q2 q3
        by_cases htu : Bd.mk dx ⟨tk, tn, ts⟩ = ⟨ex, uk, un, us⟩
        · have HS2 : Hid (a = b ↔ a.drop (j + 1) = b.drop (j + 1)) := by
            have := HS.out; show a = b ↔ _; simpa [htu] using this
          rw [decide_eq_true htu] at he
          clear htu
          go_wp2
          go_quiet (fail)
          go_wp2
          go_roundg g
          case measure => omega
          case rel => exact ⟨j + 1, by omega, by go_num, HS2.out, below_drewN hb _⟩
        · have HS2 : Hid (decide (a = b) = false) := decide_eq_false fun e => htu (HS.out.1 e).1
          rw [decide_eq_false htu] at he
          clear htu
          go_wp2
          go_quiet (fail)
          go_wp2
          go_ret
          exact ⟨ret_b HS2.out.symm, below_drewN hb _⟩
      | zero =>
        have hlt : ¬ (j : Int) < (a.length : Int) := by omega
        have HS2 : Hid (decide (a = b) = true) := decide_eq_true (HG.out.2 (by rw [List.drop_eq_nil_of_le (by omega), List.drop_eq_nil_of_le (by have := E2.out; omega)]))
        clear hj h h'
        go_wp2
        go_ret
        exact ⟨ret_b HS2.out.symm, hb⟩
  · have hq2 : ((a.length : Int) == (b.length : Int)) = false := by simp; omega
    have HS2 : Hid (decide (a = b) = false) := decide_eq_false fun e => e2 (by rw [e])
    clear e2 h h'
    go_enter Tryd.func12, Tryd.ntmps12
    go_wp2
    go_ret
    exact ⟨ret_b HS2.out.symm, Below.refl _ _⟩
end Go.Proofs.YtlojgaigbdnjjabDoor
