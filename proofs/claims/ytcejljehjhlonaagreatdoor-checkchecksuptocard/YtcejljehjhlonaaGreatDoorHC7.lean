import Derived.Test.YtcejljehjhlonaaGreatDoorCP0
import Derived.Test.YtcejljehjhlonaaGreatDoorHC3
import Derived.Test.YtcejljehjhlonaaGreatDoorMD1
namespace Go.Proofs.YtcejljehjhlonaaGreatDoor
open Go.RowKit

theorem ret_bC {a b : Bool} (h : a = b) : Ending.returned (.bool b) = Ending.returned (.bool a) := by rw [h]
theorem CsP.get {w : World} {a : Option Addr} {n cap j : Nat} {l : List Cm} {c : Cm} (h : CsP w (.slice a n cap) l) (hc : l[j]? = some c) : ∃ b o, a = some ⟨b, o, none⟩ /\ CRow w b o l := by
 rcases h.m with ⟨e, rfl⟩ | ⟨ad, cap', e, h2⟩
 ·simp at hc
 ·simp only [Value.slice.injEq] at e
  obtain ⟨rfl, -, -⟩ := e
  rcases h2 with rfl | ⟨b, o, rfl, h2⟩
  ·simp at hc
  ·exact ⟨b, o, rfl, h2⟩
end Go.Proofs.YtcejljehjhlonaaGreatDoor
namespace Go.Proofs.YtcejljehjhlonaaGreatDoor
open Go.RowKit
attribute [local go_sem ↓] Go.wp_at_zero Go.wp_at_succ

set_option maxHeartbeats 1000000 in
theorem eqE_any (a b : List Te) (x y : Value) (w : World) (h : Es w x a) (h' : Es w y b) :
  Calls Tryz.prog 97 #[x, y] w fun e w' => e = .returned (.bool (decide (a = b))) /\ Below w.heap.size w w' := by
 obtain ⟨ad, cap, rfl, hl, h⟩ := h
 obtain ⟨ad', cap', rfl, hl', h'⟩ := h'
 by_cases e2 : a.length = b.length
 ·have hq2 : ((a.length : Int) == (b.length : Int)) = true := by simp; omega
  have hq3 : ((a.length : Int) != (b.length : Int)) = false := by simp; omega
  have E2 : Hid (a.length = b.length) := e2
  clear e2
  go_enter Tryz.func97, Tryz.ntmps97
  go_wp2
  go_loopg [13] a.length (fun g i wr => ∃ j : Nat, j + g = a.length /\ i = .int .i64 j /\ (a = b ↔ a.drop j = b.drop j) /\ Below w.heap.size w wr)
  case atStart => exact ⟨0, by omega, rfl, by simp, Below.refl _ _⟩
  case round =>
   obtain ⟨j, hj, rfl, hgo, hb⟩ := hrel
   have HG : Hid (a = b ↔ a.drop j = b.drop j) := hgo
   clear hgo
   cases gk with
   | succ g =>
    have hlt : (j : Int) < (a.length : Int) := by omega
    have hlt' : (j : Int) < (b.length : Int) := by have := E2.out; omega
    have j0 : (0 : Int) <= (j : Int) := by omega
    obtain ⟨t, ht⟩ : ∃ t, a[j]? = some t := ⟨_, List.getElem?_eq_getElem (by omega)⟩
    obtain ⟨u, hu⟩ : ∃ u, b[j]? = some u := ⟨_, List.getElem?_eq_getElem (by omega)⟩
    have HS : Hid ((a = b) ↔ (t = u /\ a.drop (j + 1) = b.drop (j + 1))) := HG.out.trans (drop_eq_stepE a b j t u ht hu)
    rcases h with h | ⟨b1, o1, rfl, hb1, h⟩
    ·subst h; simp at hj
    rcases h' with h' | ⟨b2, o2, rfl, hb2, h'⟩
    ·subst h'; simp at hu
    obtain ⟨p0, p1, p2, p3, p4, p5, p6⟩ := h j t ht
    obtain ⟨q0, q1, q2, q3, q4, q5, q6⟩ := h' j u hu
    rw [<- hb.cell (p := ⟨b1, _, none⟩) hb1] at p0 p1 p2 p3 p4 p5 p6
    rw [<- hb.cell (p := ⟨b2, _, none⟩) hb2] at q0 q1 q2 q3 q4 q5 q6
    have he := run_neq_te t u
    clear h h' ht hu
    obtain ⟨op, ⟨kl, ml, sl⟩, ⟨kr, mr, sr⟩⟩ := t
    obtain ⟨oq, ⟨kp, mp, sp⟩, ⟨kq, mq, sq⟩⟩ := u
    simp only at p0 p1 p2 p3 p4 p5 p6 q0 q1 q2 q3 q4 q5 q6
    by_cases htu : Te.mk op ⟨kl, ml, sl⟩ ⟨kr, mr, sr⟩ = ⟨oq, ⟨kp, mp, sp⟩, ⟨kq, mq, sq⟩⟩
    ·have HS2 : Hid (a = b ↔ a.drop (j + 1) = b.drop (j + 1)) := by
      have := HS.out; show a = b ↔ _; simpa [htu] using this
     rw [decide_eq_true htu] at he
     clear htu
     go_wp2
     go_quiet (fail)
     go_wp2
     go_roundg g
     case measure => omega
     case rel => exact ⟨j + 1, by omega, by go_num, HS2.out, below_drewN hb _⟩
    ·have HS2 : Hid (decide (a = b) = false) := decide_eq_false fun e => htu (HS.out.1 e).1
     rw [decide_eq_false htu] at he
     clear htu
     go_wp2
     go_quiet (fail)
     go_wp2
     go_ret
     exact ⟨ret_b HS2.out.symm, below_drewN hb _⟩
   | zero =>
    have hlt : ¬ (j : Int) < (a.length : Int) := by omega
    have HS2 : Hid (decide (a = b) = true) := decide_eq_true (HG.out.2 (by rw [List.drop_eq_nil_of_le (by omega), List.drop_eq_nil_of_le (by have := E2.out; omega)]))
    clear hj h h'
    go_wp2
    go_ret
    exact ⟨ret_b HS2.out.symm, hb⟩
 ·have hq2 : ((a.length : Int) == (b.length : Int)) = false := by simp; omega
  have HS2 : Hid (decide (a = b) = false) := decide_eq_false fun e => e2 (by rw [e])
  clear e2 h h'
  go_enter Tryz.func97, Tryz.ntmps97
  go_wp2
  go_ret
  exact ⟨ret_b HS2.out.symm, Below.refl _ _⟩

set_option maxRecDepth 20000 in
set_option maxHeartbeats 1000000 in
theorem eqFA_any (p q : List (At × Value)) (x y : Value) (w : World) (h : As w x p) (h' : As w y q) :
  Calls Tryz.prog 96 #[x, y, .func (.func 28) #[] #[]] w fun e w' => e = .returned (.bool (decide (fsts p = fsts q))) /\ Below w.heap.size w w' := by
 have HP : Hid (As w x p) := h
 have HQ : Hid (As w y q) := h'
 have hlb : p.length < 1000000000000000000 := by obtain ⟨_, _, _, h, _⟩ := h; exact h
 obtain ⟨ad, cap, rfl⟩ := h.sl
 obtain ⟨ad', cap', rfl⟩ := h'.sl
 obtain ⟨r, hr⟩ : ∃ r, decide (fsts p = fsts q) = r := ⟨_, rfl⟩
 rw [hr]
 have HR : Hid (decide (fsts p = fsts q) = r) := hr
 obtain ⟨pn, hpn⟩ : ∃ n, n = p.length := ⟨_, rfl⟩
 obtain ⟨qn, hqn⟩ : ∃ n, n = q.length := ⟨_, rfl⟩
 rw [<- hpn] at HP hlb ⊢
 rw [<- hqn] at HQ ⊢
 have HN : Hid (pn = p.length /\ qn = q.length) := ⟨hpn, hqn⟩
 clear h h' hr hpn hqn
 by_cases e2 : pn = qn
 ·have hq2 : ((pn : Int) == (qn : Int)) = true := by simp; omega
  have hq3 : ((pn : Int) != (qn : Int)) = false := by simp; omega
  have E2 : Hid (pn = qn) := e2
  clear e2
  go_enter Tryz.func96, Tryz.ntmps96
  go_wp2
  go_loopg [17] pn (fun g i wr => ∃ j : Nat, j + g = pn /\ i = .int .i64 j /\ (fsts p = fsts q ↔ fsts (p.drop j) = fsts (q.drop j)) /\ Below w.heap.size w wr)
  case atStart => exact ⟨0, by omega, rfl, by simp, Below.refl _ _⟩
  case round =>
  obtain ⟨j, hj, rfl, hgo, hb⟩ := hrel
  have HG : Hid (fsts p = fsts q ↔ fsts (p.drop j) = fsts (q.drop j)) := hgo
  have HBr : Hid (Below w.heap.size w wr) := hb
  clear hgo hb
  cases gk with
  | succ g =>
   have i1 : (j : Int) < (pn : Int) := by omega
   have i2 : (j : Int) < (qn : Int) := by have := E2.out; omega
   have i0 : (0 : Int) <= (j : Int) := by omega
   obtain ⟨b1, o1, t, rfl, ht, hb1, ⟨e0, e1, e2, e3, e4⟩, hxt⟩ := (HP.out.later HBr.out).get_ (j := j) (by omega)
   obtain ⟨b2, o2, u, rfl, hu, hb2, ⟨f0, f1, f2, f3, f4⟩, hyt⟩ := (HQ.out.later HBr.out).get_ (j := j) (by have := E2.out; omega)
   have HS : Hid ((fsts p = fsts q) ↔ (t.1 = u.1 /\ fsts (p.drop (j + 1)) = fsts (q.drop (j + 1)))) := HG.out.trans (fsts_step ht hu)
   have HC0 := fun (X : World) (hX : Below wr.heap.size wr X) => hsame_any t.1 u.1 t.2 u.2 X (hxt.later hX) (hyt.later hX)
   obtain ⟨x1, x3, ex⟩ := hxt.sl
   obtain ⟨y1, y3, ey⟩ := hyt.sl
   obtain ⟨c, hc⟩ : ∃ c, decide (t.1 = u.1) = c := ⟨_, rfl⟩
   rw [hc] at HC0
   have HYS : Hid (c = true -> (fsts p = fsts q ↔ fsts (p.drop (j + 1)) = fsts (q.drop (j + 1)))) := fun h0 => by
    have h1 := of_decide_eq_true (hc.trans h0)
    have := HS.out; simpa [h1] using this
   have HNO : Hid (c = false -> r = false) := fun h0 => by
    rw [<- HR.out]
    exact decide_eq_false fun e => of_decide_eq_false (hc.trans h0) (HS.out.1 e).1
   clear ht hu hxt hyt hc HS HG
   obtain ⟨⟨⟨kx, mx, sx⟩, nx, lx⟩, vx⟩ := t
   obtain ⟨⟨⟨ky, my, sy⟩, ny, ly⟩, vy⟩ := u
   simp only at ex ey HC0 e0 e1 e2 e3 e4 f0 f1 f2 f3 f4
   generalize lx.length = x2 at ex
   generalize ly.length = y2 at ey
   subst ex ey
   have HC : Hid (∀ (X : World), Below wr.heap.size wr X -> Calls Tryz.prog 28 #[.agg #[.int .i64 kx, .int .i64 mx, .string sx, .string nx, .slice x1 x2 x3], .agg #[.int .i64 ky, .int .i64 my, .string sy, .string ny, .slice y1 y2 y3]] X fun e w' => e = .returned (.bool c) /\ Below X.heap.size X w') := HC0
   have g0 := cell_step (below1 wr (.cells #[.int .i64 kx, .int .i64 mx, .string sx, .string nx, .slice x1 x2 x3] 39)) hb2 f0
   have g1 := cell_step (below1 wr (.cells #[.int .i64 kx, .int .i64 mx, .string sx, .string nx, .slice x1 x2 x3] 39)) hb2 f1
   have g2 := cell_step (below1 wr (.cells #[.int .i64 kx, .int .i64 mx, .string sx, .string nx, .slice x1 x2 x3] 39)) hb2 f2
   have g3 := cell_step (below1 wr (.cells #[.int .i64 kx, .int .i64 mx, .string sx, .string nx, .slice x1 x2 x3] 39)) hb2 f3
   have g4 := cell_step (below1 wr (.cells #[.int .i64 kx, .int .i64 mx, .string sx, .string nx, .slice x1 x2 x3] 39)) hb2 f4
   clear HC0 f0 f1 f2 f3 f4
   cases c
   ·have HE : Hid (r = false) := HNO.out rfl
    go_wp2_with (go_at_call 28; refine (HC.out _ (below2 _ _ _)).mono ?_; rintro e w3 ⟨rfl, hb⟩; have HB3 : Hid (Below w.heap.size w w3) := below_step (below_step HBr.out (below2 _ _ _)) hb; clear hb)
    go_ret
    exact ⟨ret_b HE.out.symm, HB3.out⟩
   ·have HY2 : Hid (fsts p = fsts q ↔ fsts (p.drop (j + 1)) = fsts (q.drop (j + 1))) := HYS.out rfl
    go_wp2_with (go_at_call 28; refine (HC.out _ (below2 _ _ _)).mono ?_; rintro e w3 ⟨rfl, hb⟩; have HB3 : Hid (Below w.heap.size w w3) := below_step (below_step HBr.out (below2 _ _ _)) hb; clear hb)
    go_roundg g
    case measure => omega
    case rel => exact ⟨j + 1, by omega, by go_num, HY2.out, HB3.out⟩
  | zero =>
   have k1 : ¬ ((j : Int) < (pn : Int)) := by omega
   have HE : Hid (r = true) := by
    show r = _
    rw [<- HR.out]
    exact decide_eq_true (HG.out.2 (by rw [List.drop_eq_nil_of_le (by have := HN.out.1; omega), List.drop_eq_nil_of_le (by have := HN.out.2; have := E2.out; omega)]))
   go_wp2
   go_ret
   exact ⟨ret_b HE.out.symm, HBr.out⟩
 ·have hq2 : ((pn : Int) == (qn : Int)) = false := by simp; omega
  have hq3 : ((pn : Int) != (qn : Int)) = true := by simp; omega
  have HE : Hid (r = false) := by
   show r = _
   rw [<- HR.out]
   exact decide_eq_false fun e => e2 (by rw [HN.out.1, HN.out.2]; have := congrArg List.length e; simpa [fsts] using this)
  clear e2
  go_enter Tryz.func96, Tryz.ntmps96
  go_wp2
  go_ret
  exact ⟨ret_b HE.out.symm, Below.refl _ _⟩
set_option maxHeartbeats 2000000 in
theorem hsameC_any (c d : Cm) (w : World) (hc : c.ok w) (hd : d.ok w) : Calls Tryz.prog 76 #[c.v, d.v] w fun e w' => e = .returned (.bool (c.same d)) /\ Below w.heap.size w w' := by
 obtain ⟨⟨a1, n1, cap1, x1⟩, ⟨a2, cap2, x2⟩, ⟨a3, cap3, x3⟩, l1, l2⟩ := hc.shape
 obtain ⟨⟨b1, m1, bap1, y1⟩, ⟨b2, bap2, y2⟩, ⟨b3, bap3, y3⟩, l3, l4⟩ := hd.shape
 have hb2 := below2 w (.cells c.cs 60) (.cells d.cs 60)
 have K1 := fun (X : World) (hX : Below ((w.alloc (.cells c.cs 60)).alloc (.cells d.cs 60)).heap.size ((w.alloc (.cells c.cs 60)).alloc (.cells d.cs 60)) X) => hsame_any c.head.1 d.head.1 c.head.2 d.head.2 X (hc.h.later (below_step hb2 hX)) (hd.h.later (below_step hb2 hX))
 have K2 := fun (X : World) (hX : Below ((w.alloc (.cells c.cs 60)).alloc (.cells d.cs 60)).heap.size ((w.alloc (.cells c.cs 60)).alloc (.cells d.cs 60)) X) => eqFA_any c.body d.body c.bv d.bv X (hc.b.later (below_step hb2 hX)) (hd.b.later (below_step hb2 hX))
 have K3 := fun (X : World) (hX : Below ((w.alloc (.cells c.cs 60)).alloc (.cells d.cs 60)).heap.size ((w.alloc (.cells c.cs 60)).alloc (.cells d.cs 60)) X) => eqE_any c.tests d.tests c.tv d.tv X (hc.t.later (below_step hb2 hX)) (hd.t.later (below_step hb2 hX))
 unfold Cm.same
 obtain ⟨r1, h1⟩ : ∃ r, decide (c.head.1 = d.head.1) = r := ⟨_, rfl⟩
 obtain ⟨r2, h2⟩ : ∃ r, decide (fsts c.body = fsts d.body) = r := ⟨_, rfl⟩
 obtain ⟨r3, h3⟩ : ∃ r, decide (c.tests = d.tests) = r := ⟨_, rfl⟩
 rw [h1, h2, h3]
 rw [h1] at K1
 rw [h2] at K2
 rw [h3] at K3
 clear h1 h2 h3 hc hd hb2
 obtain ⟨⟨⟨⟨k, m, s⟩, nm, ls⟩, hx⟩, body, bv, tests, tv⟩ := c
 obtain ⟨⟨⟨⟨k', m', s'⟩, nm', ls'⟩, hx'⟩, body', bv', tests', tv'⟩ := d
 simp only at x1 x2 x3 y1 y2 y3 K1 K2 K3 l1 l2 l3 l4
 subst x1 x2 x3 y1 y2 y3
 cases r1 with
 | true =>
  cases r2 with
  | true =>
   simp only [Bool.true_and]
   go_enter Tryz.func76, Tryz.ntmps76
   go_wp2_with (first | (go_at_call 28; refine (K1 _ (Below.refl _ _)).mono ?_; clear K1; rintro e w1 ⟨rfl, hb⟩; have HB1 : Hid (Below _ _ w1) := hb; clear hb; obtain ⟨p0, p1, p2, p3, p4, p5, p6⟩ := cseven (two_boxes HB1.out).1; obtain ⟨q0, q1, q2, q3, q4, q5, q6⟩ := cseven (two_boxes HB1.out).2) | (go_at_call 96; refine (K2 _ HB1.out).mono ?_; clear K2; rintro e w2 ⟨rfl, hb⟩; have HB2 : Hid (Below _ _ w2) := (below_step HB1.out hb); clear hb; clear p0 p1 p2 p3 p4 p5 p6 q0 q1 q2 q3 q4 q5 q6; obtain ⟨p0, p1, p2, p3, p4, p5, p6⟩ := cseven (two_boxes HB2.out).1; obtain ⟨q0, q1, q2, q3, q4, q5, q6⟩ := cseven (two_boxes HB2.out).2) | (go_at_call 97; refine (K3 _ HB2.out).mono ?_; clear K3; rintro e w3 ⟨rfl, hb⟩; have HB3 : Hid (Below _ _ w3) := (below_step HB2.out hb); clear hb; clear p0 p1 p2 p3 p4 p5 p6 q0 q1 q2 q3 q4 q5 q6; obtain ⟨p0, p1, p2, p3, p4, p5, p6⟩ := cseven (two_boxes HB3.out).1; obtain ⟨q0, q1, q2, q3, q4, q5, q6⟩ := cseven (two_boxes HB3.out).2))
   go_ret
   exact ⟨rfl, below_step (below2 _ _ _) HB3.out⟩
  | false =>
   simp only [Bool.true_and, Bool.false_and]
   clear K3
   go_enter Tryz.func76, Tryz.ntmps76
   go_wp2_with (first | (go_at_call 28; refine (K1 _ (Below.refl _ _)).mono ?_; clear K1; rintro e w1 ⟨rfl, hb⟩; have HB1 : Hid (Below _ _ w1) := hb; clear hb; obtain ⟨p0, p1, p2, p3, p4, p5, p6⟩ := cseven (two_boxes HB1.out).1; obtain ⟨q0, q1, q2, q3, q4, q5, q6⟩ := cseven (two_boxes HB1.out).2) | (go_at_call 96; refine (K2 _ HB1.out).mono ?_; clear K2; rintro e w2 ⟨rfl, hb⟩; have HB2 : Hid (Below _ _ w2) := (below_step HB1.out hb); clear hb; clear p0 p1 p2 p3 p4 p5 p6 q0 q1 q2 q3 q4 q5 q6; obtain ⟨p0, p1, p2, p3, p4, p5, p6⟩ := cseven (two_boxes HB2.out).1; obtain ⟨q0, q1, q2, q3, q4, q5, q6⟩ := cseven (two_boxes HB2.out).2))
   go_ret
   exact ⟨rfl, below_step (below2 _ _ _) HB2.out⟩
 | false =>
  simp only [Bool.false_and]
  clear K2 K3
  go_enter Tryz.func76, Tryz.ntmps76
  go_wp2_with ((go_at_call 28; refine (K1 _ (Below.refl _ _)).mono ?_; clear K1; rintro e w1 ⟨rfl, hb⟩; have HB1 : Hid (Below _ _ w1) := hb; clear hb; obtain ⟨p0, p1, p2, p3, p4, p5, p6⟩ := cseven (two_boxes HB1.out).1; obtain ⟨q0, q1, q2, q3, q4, q5, q6⟩ := cseven (two_boxes HB1.out).2))
  go_ret
  exact ⟨rfl, below_step (below2 _ _ _) HB1.out⟩
end Go.Proofs.YtcejljehjhlonaaGreatDoor
namespace Go.Proofs.YtcejljehjhlonaaGreatDoor
open Go.RowKit
attribute [local go_sem ↓] Go.wp_at_zero Go.wp_at_succ

theorem same_keyH (c d : Cm) : c.same d = decide (c.key = d.key) := by
 unfold Cm.same Cm.key
 rw [Bool.eq_iff_iff]
 simp only [Bool.and_eq_true, decide_eq_true_eq, Prod.mk.injEq]
theorem hasOne_any (c d : Cm) (G : Nat) (w : World) (hc : c.ok w) (hd : d.ok w) (hb : CBlk w G d.cs 60) :
  Calls Tryz.prog 75 #[c.v, .pointer (some ⟨G, 0, none⟩)] w fun e w' => e = .returned (.bool (decide (c.key = d.key))) /\ Below w.heap.size w w' := by
 have HS : Hid (∀ X : World, Below w.heap.size w X -> Calls Tryz.prog 76 #[c.v, d.v] X fun e w' => e = .returned (.bool (decide (c.key = d.key))) /\ Below X.heap.size X w') := fun X hX => by
  have := hsameC_any c d X (hc.later hX) (hd.later hX)
  rwa [same_keyH] at this
 obtain ⟨⟨a1, n1, cap1, x1⟩, ⟨a2, cap2, x2⟩, ⟨a3, cap3, x3⟩, -, -⟩ := hc.shape
 obtain ⟨⟨b1, m1, bap1, y1⟩, ⟨b2, bap2, y2⟩, ⟨b3, bap3, y3⟩, -, -⟩ := hd.shape
 generalize decide (c.key = d.key) = r at HS ⊢
 clear hc hd
 obtain ⟨⟨⟨⟨k, m, s⟩, nm, ls⟩, hx⟩, body, bv, tests, tv⟩ := c
 obtain ⟨⟨⟨⟨k', m', s'⟩, nm', ls'⟩, hx'⟩, body', bv', tests', tv'⟩ := d
 simp only at x1 x2 x3 y1 y2 y3
 subst x1 x2 x3 y1 y2 y3
 generalize body.length = n2 at HS ⊢
 generalize tests.length = n3 at HS ⊢
 have HB : Hid (CBlk (w.alloc (.cells #[.int .i64 k, .int .i64 m, .string s, .string nm, .slice a1 n1 cap1, .slice a2 n2 cap2, .slice a3 n3 cap3] 60)) G _ 60) := hb.later (below1 _ _)
 obtain ⟨q0, q1, q2, q3, q4, q5, q6⟩ := cseven HB.out
 clear hb
 go_enter Tryz.func75, Tryz.ntmps75
 go_wp2_with (go_at_call 76; refine (HS.out _ (below1 _ _)).mono ?_; rintro e w1 ⟨rfl, hb⟩)
 go_ret
 exact ⟨rfl, below_step (below1 _ _) hb⟩
set_option maxRecDepth 20000 in
set_option maxHeartbeats 1000000 in
theorem idxFC_any (l : List Cm) (v : Value) (d : Cm) (G : Nat) (w : World) (hl : CsP w v l) (hd : d.ok w) (hb : CBlk w G d.cs 60) (hn : l.length <= 1000000000000) :
  Calls Tryz.prog 95 #[v, .func (.func 75) #[] #[.pointer (some ⟨G, 0, none⟩)]] w fun e w' => (∃ k : Int, e = .returned (.int .i64 k) /\ (0 <= k ↔ d.key ∈ l.map Cm.key)) /\ Below w.heap.size w w' := by
 have HL : Hid (CsP w v l) := hl
 have HD : Hid (d.ok w) := hd
 have HB : Hid (CBlk w G d.cs 60) := hb
 obtain ⟨va, vc, rfl⟩ := hl.form
 obtain ⟨vn, hvn⟩ : ∃ n, n = l.length := ⟨_, rfl⟩
 rw [<- hvn] at HL hn ⊢
 have HN : Hid (vn = l.length) := hvn
 clear hl hd hb hvn
 go_enter Tryz.func95, Tryz.ntmps95
 go_wp2
 go_loopg [8] vn (fun g i wr => ∃ j : Nat, j + g = vn /\ i = .int .i64 j /\ d.key ∉ (l.take j).map Cm.key /\ Below w.heap.size w wr)
 case atStart => exact ⟨0, by omega, rfl, by simp, Below.refl _ _⟩
 case round =>
 obtain ⟨j, hj, rfl, hno, hbr⟩ := hrel
 have HNO : Hid (d.key ∉ (l.take j).map Cm.key) := hno
 have HBr : Hid (Below w.heap.size w wr) := hbr
 clear hno hbr
 cases gk with
 | succ g =>
  have i1 : (j : Int) < (vn : Int) := by omega
  have i0 : (0 : Int) <= (j : Int) := by omega
  obtain ⟨c, hc⟩ : ∃ c, l[j]? = some c := ⟨_, List.getElem?_eq_getElem (by have := HN.out; omega)⟩
  obtain ⟨b, o, rfl, hbs, hrow, hok⟩ := (HL.out.later HBr.out).at_ hc
  have hsv := hrow.seven hc
  have hcsh := hok.shape
  have HS0 := hasOne_any c d G wr hok (HD.out.later HBr.out) (HB.out.later HBr.out)
  have HYS : Hid (c.key = d.key -> d.key ∈ l.map Cm.key) := fun h0 => by rw [<- h0]; exact List.mem_map.2 ⟨c, List.mem_of_getElem? hc, rfl⟩
  have HNX : Hid (c.key ≠ d.key -> d.key ∉ (l.take (j + 1)).map Cm.key) := fun h0 hm => by
   rw [List.take_add_one, hc, List.map_append] at hm
   rcases List.mem_append.1 hm with hm | hm
   ·exact HNO.out hm
   ·simp at hm; exact h0 hm.symm
  obtain ⟨q, hq⟩ : ∃ q, decide (c.key = d.key) = q := ⟨_, rfl⟩
  rw [hq] at HS0
  have HQ : Hid (decide (c.key = d.key) = q) := hq
  clear hc hbs hrow hok hq
  obtain ⟨⟨⟨⟨zk, zm, zs⟩, zn, zl⟩, zx⟩, zb, zbv, zt, ztv⟩ := c
  simp only at hsv hcsh
  obtain ⟨⟨z1, z2, z3, e1⟩, ⟨z4, z6, e2⟩, ⟨z7, z9, e3⟩, -, -⟩ := hcsh
  generalize zb.length = z5 at e2
  generalize zt.length = z8 at e3
  subst e1 e2 e3
  have HS : Hid (Calls Tryz.prog 75 #[.agg #[.int .i64 zk, .int .i64 zm, .string zs, .string zn, .slice z1 z2 z3, .slice z4 z5 z6, .slice z7 z8 z9], .pointer (some ⟨G, 0, none⟩)] wr fun e w' => e = .returned (.bool q) /\ Below wr.heap.size wr w') := HS0
  obtain ⟨c0, g1, g2, g3, g4, g5, g6⟩ := hsv
  clear HS0
  cases q
  ·have HN2 : Hid (d.key ∉ (l.take (j + 1)).map Cm.key) := HNX.out (of_decide_eq_false HQ.out)
   go_wp2_with (go_at_call 75; refine HS.out.mono ?_; rintro e w1 ⟨rfl, hb⟩; have HB1 : Hid (Below w.heap.size w w1) := below_step HBr.out hb; clear hb)
   go_roundg g
   case measure => omega
   case rel => exact ⟨j + 1, by omega, by go_num, HN2.out, HB1.out⟩
  ·have HY2 : Hid (d.key ∈ l.map Cm.key) := HYS.out (of_decide_eq_true HQ.out)
   go_wp2_with (go_at_call 75; refine HS.out.mono ?_; rintro e w1 ⟨rfl, hb⟩; have HB1 : Hid (Below w.heap.size w w1) := below_step HBr.out hb; clear hb)
   go_ret
   exact ⟨⟨_, rfl, fun _ => HY2.out, fun _ => by omega⟩, HB1.out⟩
 | zero =>
  have k1 : ¬ ((j : Int) < (vn : Int)) := by omega
  have HN2 : Hid (d.key ∉ l.map Cm.key) := by have := HNO.out; rwa [List.take_of_length_le (by have := HN.out; omega)] at this
  go_wp2
  go_ret
  exact ⟨⟨_, rfl, fun h => by omega, fun h => absurd (List.mem_map.2 h) HN2.out⟩, HBr.out⟩
theorem hasClause_any (l : List Cm) (v : Value) (d : Cm) (w : World) (hl : CsP w v l) (hd : d.ok w) (hn : l.length <= 1000000000000) :
  Calls Tryz.prog 49 #[v, d.v] w fun e w' => e = .returned (.bool (decide (d.key ∈ l.map Cm.key))) /\ Below w.heap.size w w' := by
 have HI : Hid (∀ (X : World) (G : Nat), Below w.heap.size w X -> CBlk X G d.cs 60 -> Calls Tryz.prog 74 #[v, .func (.func 75) #[] #[.pointer (some ⟨G, 0, none⟩)]] X fun e w' => e = .returned (.bool (decide (d.key ∈ l.map Cm.key))) /\ Below X.heap.size X w') := fun X G hX hG => by
  have HI2 : Hid (Calls Tryz.prog 95 #[v, .func (.func 75) #[] #[.pointer (some ⟨G, 0, none⟩)]] X fun e w' => (∃ k : Int, e = .returned (.int .i64 k) /\ (0 <= k ↔ d.key ∈ l.map Cm.key)) /\ Below X.heap.size X w') := idxFC_any l v d G X (hl.later hX) (hd.later hX) hG hn
  obtain ⟨va, vc, rfl⟩ := hl.form
  by_cases hm : d.key ∈ l.map Cm.key
  ·rw [decide_eq_true hm]
   go_enter Tryz.func74, Tryz.ntmps74
   go_wp2_with (go_at_call 95; refine HI2.out.mono ?_; rintro e w1 ⟨⟨k, rfl, hk⟩, hb⟩; have hk' := hk.2 hm; clear hk)
   go_ret
   exact ⟨rfl, hb⟩
  ·rw [decide_eq_false hm]
   go_enter Tryz.func74, Tryz.ntmps74
   go_wp2_with (go_at_call 95; refine HI2.out.mono ?_; rintro e w1 ⟨⟨k, rfl, hk⟩, hb⟩; have hk' : ¬ 0 <= k := (fun h => hm (hk.1 h)); clear hk)
   go_ret
   exact ⟨ret_b (decide_eq_false (by omega)), hb⟩
 have hmf : ∀ (fn : Fn) (first cap : Array Value) (w : World), (Instr.makeFunc fn first cap).run Tryz.prog w = .ok (.func fn first cap) w := fun _ _ _ _ => rfl
 obtain ⟨va, vc, rfl⟩ := hl.form
 obtain ⟨⟨b1, m1, bap1, y1⟩, ⟨b2, bap2, y2⟩, ⟨b3, bap3, y3⟩, -, -⟩ := hd.shape
 generalize decide (d.key ∈ l.map Cm.key) = r at HI ⊢
 generalize l.length = ll at HI ⊢
 clear hl hd
 obtain ⟨⟨⟨⟨k', m', s'⟩, nm', ls'⟩, hx'⟩, body', bv', tests', tv'⟩ := d
 simp only at y1 y2 y3
 subst y1 y2 y3
 go_enter Tryz.func49, Tryz.ntmps49
 go_wp2_with (go_at_call 74; refine (HI.out _ _ (below1 _ _) (CBlk.new _ _ _)).mono ?_; rintro e w1 ⟨rfl, hb⟩)
 go_ret
 exact ⟨rfl, below_step (below1 _ _) hb⟩
end Go.Proofs.YtcejljehjhlonaaGreatDoor
