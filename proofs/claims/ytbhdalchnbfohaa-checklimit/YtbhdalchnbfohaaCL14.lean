/-
  The same, of the laws: terms, atoms, tests, clauses. (Written by CL14.py.)
-/
import Derived.Test.YtbhdalchnbfohaaO2
import Derived.Deep.RegionHeld3
import Derived.BigQuiet
namespace Go.Proofs.Ytbhdalchnbfohaa
open Go.RowKit
attribute [local go_sem ↓] Go.wp_at_zero Go.wp_at_succ

set_option maxHeartbeats 1000000 in
theorem sameTerms_any (a b : List Tm) (x y : Value) (w : World) (h : Ts w x a) (h' : Ts w y b) :
    Calls Try.prog 18 #[x, y] w fun e w' => e = .returned (.bool (decide (a = b))) ∧ Below w.heap.size w w' := by
  obtain ⟨ad, cap, rfl, hl, h⟩ := h
  obtain ⟨ad', cap', rfl, hl', h'⟩ := h'
  by_cases e2 : a.length = b.length
  · have hq2 : ((a.length : Int) == (b.length : Int)) = true := by simp; omega
    have E2 : Hid (a.length = b.length) := e2
    clear e2
    go_enter Try.func18, Try.ntmps18
    go_wp2
    go_loopg [5] a.length (fun g i wr => ∃ j : Nat, j + g = a.length ∧ i = .int .i64 j ∧ (a = b ↔ a.drop j = b.drop j) ∧ Below w.heap.size w wr)
    case atStart => exact ⟨0, by omega, rfl, by simp, Below.refl _ _⟩
    case round =>
      obtain ⟨j, hj, rfl, hgo, hb⟩ := hrel
      have HG : Hid (a = b ↔ a.drop j = b.drop j) := hgo
      clear hgo
      cases gk with
      | succ g =>
        have hlt : (j : Int) < (a.length : Int) := by omega
        have hlt' : (j : Int) < (b.length : Int) := by have := E2.out; omega
        have j0 : (0 : Int) ≤ (j : Int) := by omega
        obtain ⟨t, ht⟩ : ∃ t, a[j]? = some t := ⟨_, List.getElem?_eq_getElem (by omega)⟩
        obtain ⟨u, hu⟩ : ∃ u, b[j]? = some u := ⟨_, List.getElem?_eq_getElem (by omega)⟩
        have HS : Hid ((a = b) ↔ (t = u ∧ a.drop (j + 1) = b.drop (j + 1))) := HG.out.trans (drop_eq_step a b j t u ht hu)
        rcases h with h | ⟨b1, o1, rfl, hb1, h⟩
        · subst h; simp at hj
        rcases h' with h' | ⟨b2, o2, rfl, hb2, h'⟩
        · subst h'; simp at hu
        obtain ⟨p0, p1, p2⟩ := h j t ht
        obtain ⟨q0, q1, q2⟩ := h' j u hu
        rw [← hb.cell (p := ⟨b1, _, none⟩) hb1] at p0 p1 p2
        rw [← hb.cell (p := ⟨b2, _, none⟩) hb2] at q0 q1 q2
        have he := run_neq_tm t u
        clear h h' ht hu
        obtain ⟨tk, tn, ts⟩ := t
        obtain ⟨uk, un, us⟩ := u
        simp only at p0 p1 p2 q0 q1 q2
        by_cases htu : Tm.mk tk tn ts = ⟨uk, un, us⟩
        · have HS2 : Hid (a = b ↔ a.drop (j + 1) = b.drop (j + 1)) := by
            have := HS.out; show a = b ↔ _; simpa [htu] using this
          rw [decide_eq_true htu] at he
          clear htu
          go_wp2
          go_quiet (fail)
          go_wp2
          go_roundg g
          case measure => omega
          case rel => exact ⟨j + 1, by omega, by go_num, HS2.out, below_drewN hb _⟩
        · have HS2 : Hid (decide (a = b) = false) := decide_eq_false fun e => htu (HS.out.1 e).1
          rw [decide_eq_false htu] at he
          clear htu
          go_wp2
          go_quiet (fail)
          go_wp2
          go_ret
          exact ⟨ret_b HS2.out.symm, below_drewN hb _⟩
      | zero =>
        have hlt : ¬ (j : Int) < (a.length : Int) := by omega
        have HS2 : Hid (decide (a = b) = true) := decide_eq_true (HG.out.2 (by rw [List.drop_eq_nil_of_le (by omega), List.drop_eq_nil_of_le (by have := E2.out; omega)]))
        clear hj h h'
        go_wp2
        go_ret
        exact ⟨ret_b HS2.out.symm, hb⟩
  · have hq2 : ((a.length : Int) == (b.length : Int)) = false := by simp; omega
    have HS2 : Hid (decide (a = b) = false) := decide_eq_false fun e => e2 (by rw [e])
    clear e2 h h'
    go_enter Try.func18, Try.ntmps18
    go_wp2
    go_ret
    exact ⟨ret_b HS2.out.symm, Below.refl _ _⟩

theorem drop_eq_stepE (a b : List Te) (i : Nat) (t u : Te) (ht : a[i]? = some t) (hu : b[i]? = some u) : (a.drop i = b.drop i) ↔ (t = u ∧ a.drop (i + 1) = b.drop (i + 1)) := by
  obtain ⟨h1, rfl⟩ := List.getElem?_eq_some_iff.1 ht
  obtain ⟨h2, rfl⟩ := List.getElem?_eq_some_iff.1 hu
  rw [List.drop_eq_getElem_cons h1, List.drop_eq_getElem_cons h2, List.cons.injEq]
theorem run_neq_te (t u : Te) (w : World) : (binOp .neq 52 t.v u.v).run Try.prog w = .ok (.bool (!decide (t = u))) w := by
  obtain ⟨op, ⟨kl, ml, sl⟩, ⟨kr, mr, sr⟩⟩ := t
  obtain ⟨oq, ⟨kp, mp, sp⟩, ⟨kq, mq, sq⟩⟩ := u
  by_cases h0 : op = oq
  · subst h0
    by_cases h1 : kl = kp
    · subst h1
      by_cases h2 : ml = mp
      · subst h2
        by_cases h3 : sl = sp
        · subst h3
          by_cases h4 : kr = kq
          · subst h4
            by_cases h5 : mr = mq
            · subst h5
              by_cases h6 : sr = sq
              · subst h6; go_simp
              · have h7 : ¬ sr.toList = sq.toList := fun e => h6 (toList_inj e)
                go_simp
            · go_simp
          · go_simp
        · have h7 : ¬ sl.toList = sp.toList := fun e => h3 (toList_inj e)
          go_simp
      · go_simp
    · go_simp
  · go_simp
set_option maxHeartbeats 1000000 in
theorem sameAtom_any (a b : At) (x y : Value) (w : World) (h : Ts w x a.args) (h' : Ts w y b.args) :
    Calls Try.prog 13 #[a.v x, b.v y] w fun e w' => e = .returned (.bool (decide (a = b))) ∧ Below w.heap.size w w' := by
  obtain ⟨⟨k, n, s⟩, nm, l⟩ := a
  obtain ⟨⟨k', n', s'⟩, nm', l'⟩ := b
  have HX : Hid (Ts w x l) := h
  have HY : Hid (Ts w y l') := h'
  obtain ⟨xa, xc, hxs, -⟩ := h
  obtain ⟨ya, yc, hys, -⟩ := h'
  simp only at hxs hys
  subst hxs hys
  obtain ⟨r, hr⟩ : ∃ r, decide (At.mk ⟨k, n, s⟩ nm l = At.mk ⟨k', n', s'⟩ nm' l') = r := ⟨_, rfl⟩
  rw [hr]
  have HR : Hid ((decide (Tm.mk k n s = ⟨k', n', s'⟩) && (decide (nm.toList = nm'.toList) && decide (l = l'))) = r) := by
    show _ = r
    rw [← hr, Bool.eq_iff_iff]
    simp only [Bool.and_eq_true, decide_eq_true_eq, At.mk.injEq]
    exact ⟨fun ⟨p, q, r⟩ => ⟨p, toList_inj q, r⟩, fun ⟨p, q, r⟩ => ⟨p, by rw [q], r⟩⟩
  clear hr
  have he := run_eql_tm ⟨k, n, s⟩ ⟨k', n', s'⟩
  by_cases e2 : Tm.mk k n s = ⟨k', n', s'⟩
  · rw [decide_eq_true e2] at he
    by_cases e1 : nm.toList = nm'.toList
    · have hq1 : (nm.toList == nm'.toList) = true := by simpa using e1
      have HR2 : Hid (decide (l = l') = r) := by show _ = r; rw [← HR.out]; simp [e1, e2]
      clear e1 e2 HR
      go_enter Try.func13, Try.ntmps13
      go_wp2_with (go_at_call 18; refine (sameTerms_any l l' _ _ _ (HX.out.later (below2 _ _ _)) (HY.out.later (below2 _ _ _))).mono ?_; rw [HR2.out]; rintro e w1 ⟨rfl, hb1⟩)
      go_ret
      exact ⟨rfl, below_step (below2 _ _ _) hb1⟩
    · have HR2 : Hid (false = r) := by show false = r; rw [← HR.out]; simp [e1]
      have hq1 : (nm.toList == nm'.toList) = false := by simpa using e1
      clear e1 e2 HR
      go_enter Try.func13, Try.ntmps13
      go_wp2
      go_ret
      exact ⟨ret_b HR2.out, below2 _ _ _⟩
  · have HR2 : Hid (false = r) := by show false = r; rw [← HR.out]; simp [e2]
    rw [decide_eq_false e2] at he
    clear e2 HR
    go_enter Try.func13, Try.ntmps13
    go_wp2
    go_ret
    exact ⟨ret_b HR2.out, below2 _ _ _⟩
def fsts (l : List (At × Value)) : List At := l.map (·.1)
theorem fsts_step {a b : List (At × Value)} {i : Nat} {t u : At × Value} (ht : a[i]? = some t) (hu : b[i]? = some u) : (fsts (a.drop i) = fsts (b.drop i)) ↔ (t.1 = u.1 ∧ fsts (a.drop (i + 1)) = fsts (b.drop (i + 1))) := by
  obtain ⟨h1, rfl⟩ := List.getElem?_eq_some_iff.1 ht
  obtain ⟨h2, rfl⟩ := List.getElem?_eq_some_iff.1 hu
  unfold fsts
  rw [List.drop_eq_getElem_cons h1, List.drop_eq_getElem_cons h2, List.map_cons, List.map_cons, List.cons.injEq]
end Go.Proofs.Ytbhdalchnbfohaa
