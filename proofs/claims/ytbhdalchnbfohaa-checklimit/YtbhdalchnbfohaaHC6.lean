/-
  check.Check: clauses compared, looked for; the whole.
-/
import Derived.Test.YtbhdalchnbfohaaHC3
import Derived.Test.YtbhdalchnbfohaaMP1
import Derived.Test.YtbhdalchnbfohaaCP0
namespace Go.Proofs.Ytbhdalchnbfohaa
open Go.RowKit
attribute [local go_sem ↓] Go.wp_at_zero Go.wp_at_succ

set_option maxHeartbeats 1000000 in
theorem eqE_any (a b : List Te) (x y : Value) (w : World) (h : Es w x a) (h' : Es w y b) :
    Calls Try.prog 38 #[x, y] w fun e w' => e = .returned (.bool (decide (a = b))) ∧ Below w.heap.size w w' := by
  obtain ⟨ad, cap, rfl, hl, h⟩ := h
  obtain ⟨ad', cap', rfl, hl', h'⟩ := h'
  by_cases e2 : a.length = b.length
  · have hq2 : ((a.length : Int) == (b.length : Int)) = true := by simp; omega
    have hq3 : ((a.length : Int) != (b.length : Int)) = false := by simp; omega
    have E2 : Hid (a.length = b.length) := e2
    clear e2
    go_enter Try.func38, Try.ntmps38
    go_wp2
    go_loopg [13] a.length (fun g i wr => ∃ j : Nat, j + g = a.length ∧ i = .int .i64 j ∧ (a = b ↔ a.drop j = b.drop j) ∧ Below w.heap.size w wr)
    case atStart => exact ⟨0, by omega, rfl, by simp, Below.refl _ _⟩
    case round =>
      obtain ⟨j, hj, rfl, hgo, hb⟩ := hrel
      have HG : Hid (a = b ↔ a.drop j = b.drop j) := hgo
      clear hgo
      cases gk with
      | succ g =>
        have hlt : (j : Int) < (a.length : Int) := by omega
        have hlt' : (j : Int) < (b.length : Int) := by have := E2.out; omega
        have j0 : (0 : Int) ≤ (j : Int) := by omega
        obtain ⟨t, ht⟩ : ∃ t, a[j]? = some t := ⟨_, List.getElem?_eq_getElem (by omega)⟩
        obtain ⟨u, hu⟩ : ∃ u, b[j]? = some u := ⟨_, List.getElem?_eq_getElem (by omega)⟩
        have HS : Hid ((a = b) ↔ (t = u ∧ a.drop (j + 1) = b.drop (j + 1))) := HG.out.trans (drop_eq_stepE a b j t u ht hu)
        rcases h with h | ⟨b1, o1, rfl, hb1, h⟩
        · subst h; simp at hj
        rcases h' with h' | ⟨b2, o2, rfl, hb2, h'⟩
        · subst h'; simp at hu
        obtain ⟨p0, p1, p2, p3, p4, p5, p6⟩ := h j t ht
        obtain ⟨q0, q1, q2, q3, q4, q5, q6⟩ := h' j u hu
        rw [← hb.cell (p := ⟨b1, _, none⟩) hb1] at p0 p1 p2 p3 p4 p5 p6
        rw [← hb.cell (p := ⟨b2, _, none⟩) hb2] at q0 q1 q2 q3 q4 q5 q6
        have he := run_neq_te t u
        clear h h' ht hu
        obtain ⟨op, ⟨kl, ml, sl⟩, ⟨kr, mr, sr⟩⟩ := t
        obtain ⟨oq, ⟨kp, mp, sp⟩, ⟨kq, mq, sq⟩⟩ := u
        simp only at p0 p1 p2 p3 p4 p5 p6 q0 q1 q2 q3 q4 q5 q6
        by_cases htu : Te.mk op ⟨kl, ml, sl⟩ ⟨kr, mr, sr⟩ = ⟨oq, ⟨kp, mp, sp⟩, ⟨kq, mq, sq⟩⟩
        · have HS2 : Hid (a = b ↔ a.drop (j + 1) = b.drop (j + 1)) := by
            have := HS.out; show a = b ↔ _; simpa [htu] using this
          rw [decide_eq_true htu] at he
          clear htu
          go_wp2
          go_quiet (fail)
          go_wp2
          go_roundg g
          case measure => omega
          case rel => exact ⟨j + 1, by omega, by go_num, HS2.out, below_drewN hb _⟩
        · have HS2 : Hid (decide (a = b) = false) := decide_eq_false fun e => htu (HS.out.1 e).1
          rw [decide_eq_false htu] at he
          clear htu
          go_wp2
          go_quiet (fail)
          go_wp2
          go_ret
          exact ⟨ret_b HS2.out.symm, below_drewN hb _⟩
      | zero =>
        have hlt : ¬ (j : Int) < (a.length : Int) := by omega
        have HS2 : Hid (decide (a = b) = true) := decide_eq_true (HG.out.2 (by rw [List.drop_eq_nil_of_le (by omega), List.drop_eq_nil_of_le (by have := E2.out; omega)]))
        clear hj h h'
        go_wp2
        go_ret
        exact ⟨ret_b HS2.out.symm, hb⟩
  · have hq2 : ((a.length : Int) == (b.length : Int)) = false := by simp; omega
    have HS2 : Hid (decide (a = b) = false) := decide_eq_false fun e => e2 (by rw [e])
    clear e2 h h'
    go_enter Try.func38, Try.ntmps38
    go_wp2
    go_ret
    exact ⟨ret_b HS2.out.symm, Below.refl _ _⟩

set_option maxRecDepth 20000 in
set_option maxHeartbeats 1000000 in
theorem eqFA_any (p q : List (At × Value)) (x y : Value) (w : World) (h : As w x p) (h' : As w y q) :
    Calls Try.prog 37 #[x, y, .func (.func 11) #[] #[]] w fun e w' => e = .returned (.bool (decide (fsts p = fsts q))) ∧ Below w.heap.size w w' := by
  have HP : Hid (As w x p) := h
  have HQ : Hid (As w y q) := h'
  have hlb : p.length < 1000000000000000000 := by obtain ⟨_, _, _, h, _⟩ := h; exact h
  obtain ⟨ad, cap, rfl⟩ := h.sl
  obtain ⟨ad', cap', rfl⟩ := h'.sl
  obtain ⟨r, hr⟩ : ∃ r, decide (fsts p = fsts q) = r := ⟨_, rfl⟩
  rw [hr]
  have HR : Hid (decide (fsts p = fsts q) = r) := hr
  obtain ⟨pn, hpn⟩ : ∃ n, n = p.length := ⟨_, rfl⟩
  obtain ⟨qn, hqn⟩ : ∃ n, n = q.length := ⟨_, rfl⟩
  rw [← hpn] at HP hlb ⊢
  rw [← hqn] at HQ ⊢
  have HN : Hid (pn = p.length ∧ qn = q.length) := ⟨hpn, hqn⟩
  clear h h' hr hpn hqn
  by_cases e2 : pn = qn
  · have hq2 : ((pn : Int) == (qn : Int)) = true := by simp; omega
    have hq3 : ((pn : Int) != (qn : Int)) = false := by simp; omega
    have E2 : Hid (pn = qn) := e2
    clear e2
    go_enter Try.func37, Try.ntmps37
    go_wp2
    go_loopg [17] pn (fun g i wr => ∃ j : Nat, j + g = pn ∧ i = .int .i64 j ∧ (fsts p = fsts q ↔ fsts (p.drop j) = fsts (q.drop j)) ∧ Below w.heap.size w wr)
    case atStart => exact ⟨0, by omega, rfl, by simp, Below.refl _ _⟩
    case round =>
    obtain ⟨j, hj, rfl, hgo, hb⟩ := hrel
    have HG : Hid (fsts p = fsts q ↔ fsts (p.drop j) = fsts (q.drop j)) := hgo
    have HBr : Hid (Below w.heap.size w wr) := hb
    clear hgo hb
    cases gk with
    | succ g =>
      have i1 : (j : Int) < (pn : Int) := by omega
      have i2 : (j : Int) < (qn : Int) := by have := E2.out; omega
      have i0 : (0 : Int) ≤ (j : Int) := by omega
      obtain ⟨b1, o1, t, rfl, ht, hb1, ⟨e0, e1, e2, e3, e4⟩, hxt⟩ := (HP.out.later HBr.out).get_ (j := j) (by omega)
      obtain ⟨b2, o2, u, rfl, hu, hb2, ⟨f0, f1, f2, f3, f4⟩, hyt⟩ := (HQ.out.later HBr.out).get_ (j := j) (by have := E2.out; omega)
      have HS : Hid ((fsts p = fsts q) ↔ (t.1 = u.1 ∧ fsts (p.drop (j + 1)) = fsts (q.drop (j + 1)))) := HG.out.trans (fsts_step ht hu)
      have HC0 := fun (X : World) (hX : Below wr.heap.size wr X) => hsame_any t.1 u.1 t.2 u.2 X (hxt.later hX) (hyt.later hX)
      obtain ⟨x1, x3, ex⟩ := hxt.sl
      obtain ⟨y1, y3, ey⟩ := hyt.sl
      obtain ⟨c, hc⟩ : ∃ c, decide (t.1 = u.1) = c := ⟨_, rfl⟩
      rw [hc] at HC0
      have HYS : Hid (c = true → (fsts p = fsts q ↔ fsts (p.drop (j + 1)) = fsts (q.drop (j + 1)))) := fun h0 => by
        have h1 := of_decide_eq_true (hc.trans h0)
        have := HS.out; simpa [h1] using this
      have HNO : Hid (c = false → r = false) := fun h0 => by
        rw [← HR.out]
        exact decide_eq_false fun e => of_decide_eq_false (hc.trans h0) (HS.out.1 e).1
      clear ht hu hxt hyt hc HS HG
      obtain ⟨⟨⟨kx, mx, sx⟩, nx, lx⟩, vx⟩ := t
      obtain ⟨⟨⟨ky, my, sy⟩, ny, ly⟩, vy⟩ := u
      simp only at ex ey HC0 e0 e1 e2 e3 e4 f0 f1 f2 f3 f4
      generalize lx.length = x2 at ex
      generalize ly.length = y2 at ey
      subst ex ey
      have HC : Hid (∀ (X : World), Below wr.heap.size wr X → Calls Try.prog 11 #[.agg #[.int .i64 kx, .int .i64 mx, .string sx, .string nx, .slice x1 x2 x3], .agg #[.int .i64 ky, .int .i64 my, .string sy, .string ny, .slice y1 y2 y3]] X fun e w' => e = .returned (.bool c) ∧ Below X.heap.size X w') := HC0
      have g0 := cell_step (below1 wr (.cells #[.int .i64 kx, .int .i64 mx, .string sx, .string nx, .slice x1 x2 x3] 30)) hb2 f0
      have g1 := cell_step (below1 wr (.cells #[.int .i64 kx, .int .i64 mx, .string sx, .string nx, .slice x1 x2 x3] 30)) hb2 f1
      have g2 := cell_step (below1 wr (.cells #[.int .i64 kx, .int .i64 mx, .string sx, .string nx, .slice x1 x2 x3] 30)) hb2 f2
      have g3 := cell_step (below1 wr (.cells #[.int .i64 kx, .int .i64 mx, .string sx, .string nx, .slice x1 x2 x3] 30)) hb2 f3
      have g4 := cell_step (below1 wr (.cells #[.int .i64 kx, .int .i64 mx, .string sx, .string nx, .slice x1 x2 x3] 30)) hb2 f4
      clear HC0 f0 f1 f2 f3 f4
      cases c
      · have HE : Hid (r = false) := HNO.out rfl
        go_wp2_with (go_at_call 11; refine (HC.out _ (below2 _ _ _)).mono ?_; rintro e w3 ⟨rfl, hb⟩; have HB3 : Hid (Below w.heap.size w w3) := below_step (below_step HBr.out (below2 _ _ _)) hb; clear hb)
        go_ret
        exact ⟨ret_b HE.out.symm, HB3.out⟩
      · have HY2 : Hid (fsts p = fsts q ↔ fsts (p.drop (j + 1)) = fsts (q.drop (j + 1))) := HYS.out rfl
        go_wp2_with (go_at_call 11; refine (HC.out _ (below2 _ _ _)).mono ?_; rintro e w3 ⟨rfl, hb⟩; have HB3 : Hid (Below w.heap.size w w3) := below_step (below_step HBr.out (below2 _ _ _)) hb; clear hb)
        go_roundg g
        case measure => omega
        case rel => exact ⟨j + 1, by omega, by go_num, HY2.out, HB3.out⟩
    | zero =>
      have k1 : ¬ ((j : Int) < (pn : Int)) := by omega
      have HE : Hid (r = true) := by
        show r = _
        rw [← HR.out]
        exact decide_eq_true (HG.out.2 (by rw [List.drop_eq_nil_of_le (by have := HN.out.1; omega), List.drop_eq_nil_of_le (by have := HN.out.2; have := E2.out; omega)]))
      go_wp2
      go_ret
      exact ⟨ret_b HE.out.symm, HBr.out⟩
  · have hq2 : ((pn : Int) == (qn : Int)) = false := by simp; omega
    have hq3 : ((pn : Int) != (qn : Int)) = true := by simp; omega
    have HE : Hid (r = false) := by
      show r = _
      rw [← HR.out]
      exact decide_eq_false fun e => e2 (by rw [HN.out.1, HN.out.2]; have := congrArg List.length e; simpa [fsts] using this)
    clear e2
    go_enter Try.func37, Try.ntmps37
    go_wp2
    go_ret
    exact ⟨ret_b HE.out.symm, Below.refl _ _⟩
set_option maxHeartbeats 2000000 in
theorem hsameC_any (c d : Cm) (w : World) (hc : c.ok w) (hd : d.ok w) : Calls Try.prog 28 #[c.v, d.v] w fun e w' => e = .returned (.bool (c.same d)) ∧ Below w.heap.size w w' := by
  obtain ⟨⟨a1, n1, cap1, x1⟩, ⟨a2, cap2, x2⟩, ⟨a3, cap3, x3⟩, l1, l2⟩ := hc.shape
  obtain ⟨⟨b1, m1, bap1, y1⟩, ⟨b2, bap2, y2⟩, ⟨b3, bap3, y3⟩, l3, l4⟩ := hd.shape
  have hb2 := below2 w (.cells c.cs 50) (.cells d.cs 50)
  have K1 := fun (X : World) (hX : Below ((w.alloc (.cells c.cs 50)).alloc (.cells d.cs 50)).heap.size ((w.alloc (.cells c.cs 50)).alloc (.cells d.cs 50)) X) => hsame_any c.head.1 d.head.1 c.head.2 d.head.2 X (hc.h.later (below_step hb2 hX)) (hd.h.later (below_step hb2 hX))
  have K2 := fun (X : World) (hX : Below ((w.alloc (.cells c.cs 50)).alloc (.cells d.cs 50)).heap.size ((w.alloc (.cells c.cs 50)).alloc (.cells d.cs 50)) X) => eqFA_any c.body d.body c.bv d.bv X (hc.b.later (below_step hb2 hX)) (hd.b.later (below_step hb2 hX))
  have K3 := fun (X : World) (hX : Below ((w.alloc (.cells c.cs 50)).alloc (.cells d.cs 50)).heap.size ((w.alloc (.cells c.cs 50)).alloc (.cells d.cs 50)) X) => eqE_any c.tests d.tests c.tv d.tv X (hc.t.later (below_step hb2 hX)) (hd.t.later (below_step hb2 hX))
  unfold Cm.same
  obtain ⟨r1, h1⟩ : ∃ r, decide (c.head.1 = d.head.1) = r := ⟨_, rfl⟩
  obtain ⟨r2, h2⟩ : ∃ r, decide (fsts c.body = fsts d.body) = r := ⟨_, rfl⟩
  obtain ⟨r3, h3⟩ : ∃ r, decide (c.tests = d.tests) = r := ⟨_, rfl⟩
  rw [h1, h2, h3]
  rw [h1] at K1
  rw [h2] at K2
  rw [h3] at K3
  clear h1 h2 h3 hc hd hb2
  obtain ⟨⟨⟨⟨k, m, s⟩, nm, ls⟩, hx⟩, body, bv, tests, tv⟩ := c
  obtain ⟨⟨⟨⟨k', m', s'⟩, nm', ls'⟩, hx'⟩, body', bv', tests', tv'⟩ := d
  simp only at x1 x2 x3 y1 y2 y3 K1 K2 K3 l1 l2 l3 l4
  subst x1 x2 x3 y1 y2 y3
  cases r1 with
  | true =>
    cases r2 with
    | true =>
      simp only [Bool.true_and]
      go_enter Try.func28, Try.ntmps28
      go_wp2_with (first | (go_at_call 11; refine (K1 _ (Below.refl _ _)).mono ?_; clear K1; rintro e w1 ⟨rfl, hb⟩; have HB1 : Hid (Below _ _ w1) := hb; clear hb; obtain ⟨p0, p1, p2, p3, p4, p5, p6⟩ := cseven (two_boxes HB1.out).1; obtain ⟨q0, q1, q2, q3, q4, q5, q6⟩ := cseven (two_boxes HB1.out).2) | (go_at_call 37; refine (K2 _ HB1.out).mono ?_; clear K2; rintro e w2 ⟨rfl, hb⟩; have HB2 : Hid (Below _ _ w2) := (below_step HB1.out hb); clear hb; clear p0 p1 p2 p3 p4 p5 p6 q0 q1 q2 q3 q4 q5 q6; obtain ⟨p0, p1, p2, p3, p4, p5, p6⟩ := cseven (two_boxes HB2.out).1; obtain ⟨q0, q1, q2, q3, q4, q5, q6⟩ := cseven (two_boxes HB2.out).2) | (go_at_call 38; refine (K3 _ HB2.out).mono ?_; clear K3; rintro e w3 ⟨rfl, hb⟩; have HB3 : Hid (Below _ _ w3) := (below_step HB2.out hb); clear hb; clear p0 p1 p2 p3 p4 p5 p6 q0 q1 q2 q3 q4 q5 q6; obtain ⟨p0, p1, p2, p3, p4, p5, p6⟩ := cseven (two_boxes HB3.out).1; obtain ⟨q0, q1, q2, q3, q4, q5, q6⟩ := cseven (two_boxes HB3.out).2))
      go_ret
      exact ⟨rfl, below_step (below2 _ _ _) HB3.out⟩
    | false =>
      simp only [Bool.true_and, Bool.false_and]
      clear K3
      go_enter Try.func28, Try.ntmps28
      go_wp2_with (first | (go_at_call 11; refine (K1 _ (Below.refl _ _)).mono ?_; clear K1; rintro e w1 ⟨rfl, hb⟩; have HB1 : Hid (Below _ _ w1) := hb; clear hb; obtain ⟨p0, p1, p2, p3, p4, p5, p6⟩ := cseven (two_boxes HB1.out).1; obtain ⟨q0, q1, q2, q3, q4, q5, q6⟩ := cseven (two_boxes HB1.out).2) | (go_at_call 37; refine (K2 _ HB1.out).mono ?_; clear K2; rintro e w2 ⟨rfl, hb⟩; have HB2 : Hid (Below _ _ w2) := (below_step HB1.out hb); clear hb; clear p0 p1 p2 p3 p4 p5 p6 q0 q1 q2 q3 q4 q5 q6; obtain ⟨p0, p1, p2, p3, p4, p5, p6⟩ := cseven (two_boxes HB2.out).1; obtain ⟨q0, q1, q2, q3, q4, q5, q6⟩ := cseven (two_boxes HB2.out).2))
      go_ret
      exact ⟨rfl, below_step (below2 _ _ _) HB2.out⟩
  | false =>
    simp only [Bool.false_and]
    clear K2 K3
    go_enter Try.func28, Try.ntmps28
    go_wp2_with ((go_at_call 11; refine (K1 _ (Below.refl _ _)).mono ?_; clear K1; rintro e w1 ⟨rfl, hb⟩; have HB1 : Hid (Below _ _ w1) := hb; clear hb; obtain ⟨p0, p1, p2, p3, p4, p5, p6⟩ := cseven (two_boxes HB1.out).1; obtain ⟨q0, q1, q2, q3, q4, q5, q6⟩ := cseven (two_boxes HB1.out).2))
    go_ret
    exact ⟨rfl, below_step (below2 _ _ _) HB1.out⟩
end Go.Proofs.Ytbhdalchnbfohaa
