/-
  Compare and SameClause of clauses. (Written by CL15.py.)
-/
import Derived.Test.YtdfgijdededolabCL14
namespace Go.Proofs.Ytdfgijdededolab
open Go.RowKit

def Cm.cmp (c d : Cm) : Int := if c.head.1.cmp d.head.1 ≠ 0 then c.head.1.cmp d.head.1 else if cmpGL cmpX c.body d.body ≠ 0 then cmpGL cmpX c.body d.body else cmpGL Te.cmp c.tests d.tests
set_option maxRecDepth 20000 in
set_option maxHeartbeats 2000000 in
theorem compareC_any (c d : Cm) (w : World) (hc : c.ok w) (hd : d.ok w) : Calls Try.prog 8 #[c.v, d.v] w fun e w' => e = .returned (.int .i64 (c.cmp d)) ∧ Below w.heap.size w w' := by
  obtain ⟨⟨a1, n1, cap1, x1⟩, ⟨a2, cap2, x2⟩, ⟨a3, cap3, x3⟩, l1, l2⟩ := hc.shape
  obtain ⟨⟨b1, m1, bap1, y1⟩, ⟨b2, bap2, y2⟩, ⟨b3, bap3, y3⟩, l3, l4⟩ := hd.shape
  have hb2 := below2 w (.cells c.cs 30) (.cells d.cs 30)
  have K1 := fun (X : World) (hX : Below ((w.alloc (.cells c.cs 30)).alloc (.cells d.cs 30)).heap.size ((w.alloc (.cells c.cs 30)).alloc (.cells d.cs 30)) X) => cmpA_any c.head.1 d.head.1 c.head.2 d.head.2 X (hc.h.later (below_step hb2 hX)) (hd.h.later (below_step hb2 hX))
  have K2 := fun (X : World) (hX : Below ((w.alloc (.cells c.cs 30)).alloc (.cells d.cs 30)).heap.size ((w.alloc (.cells c.cs 30)).alloc (.cells d.cs 30)) X) => CLAtom_any c.body d.body c.bv d.bv X (hc.b.later (below_step hb2 hX)) (hd.b.later (below_step hb2 hX))
  have K3 := fun (X : World) (hX : Below ((w.alloc (.cells c.cs 30)).alloc (.cells d.cs 30)).heap.size ((w.alloc (.cells c.cs 30)).alloc (.cells d.cs 30)) X) => CLTest_any c.tests d.tests c.tv d.tv X (hc.t.later (below_step hb2 hX)) (hd.t.later (below_step hb2 hX))
  unfold Cm.cmp
  obtain ⟨r1, h1⟩ : ∃ r, c.head.1.cmp d.head.1 = r := ⟨_, rfl⟩
  obtain ⟨r2, h2⟩ : ∃ r, cmpGL cmpX c.body d.body = r := ⟨_, rfl⟩
  obtain ⟨r3, h3⟩ : ∃ r, cmpGL Te.cmp c.tests d.tests = r := ⟨_, rfl⟩
  simp only [h1, h2, h3] at K1 K2 K3 ⊢
  clear h1 h2 h3 hc hd hb2
  obtain ⟨⟨⟨⟨k, m, s⟩, nm, ls⟩, hx⟩, body, bv, tests, tv⟩ := c
  obtain ⟨⟨⟨⟨k', m', s'⟩, nm', ls'⟩, hx'⟩, body', bv', tests', tv'⟩ := d
  simp only at x1 x2 x3 y1 y2 y3 K1 K2 K3 l1 l2 l3 l4
  subst x1 x2 x3 y1 y2 y3
  by_cases q1 : r1 = 0
  · subst q1
    by_cases q2 : r2 = 0
    · subst q2
      simp only [ne_eq, not_true, if_false]
      go_enter Try.func8, Try.ntmps8
      go_wp2_with (first | (go_at_call 24; refine (K1 _ (Below.refl _ _)).mono ?_; clear K1; rintro e w1 ⟨rfl, hb⟩; have HB1 : Hid (Below _ _ w1) := hb; clear hb; obtain ⟨p0, p1, p2, p3, p4, p5, p6⟩ := cseven (two_boxes HB1.out).1; obtain ⟨q0, q1, q2, q3, q4, q5, q6⟩ := cseven (two_boxes HB1.out).2) | (go_at_call 25; refine (K2 _ HB1.out).mono ?_; clear K2; rintro e w2 ⟨rfl, hb⟩; have HB2 : Hid (Below _ _ w2) := (below_step HB1.out hb); clear hb; clear p0 p1 p2 p3 p4 p5 p6 q0 q1 q2 q3 q4 q5 q6; obtain ⟨p0, p1, p2, p3, p4, p5, p6⟩ := cseven (two_boxes HB2.out).1; obtain ⟨q0, q1, q2, q3, q4, q5, q6⟩ := cseven (two_boxes HB2.out).2) | (go_at_call 26; refine (K3 _ HB2.out).mono ?_; clear K3; rintro e w3 ⟨rfl, hb⟩; have HB3 : Hid (Below _ _ w3) := (below_step HB2.out hb); clear hb; clear p0 p1 p2 p3 p4 p5 p6 q0 q1 q2 q3 q4 q5 q6; obtain ⟨p0, p1, p2, p3, p4, p5, p6⟩ := cseven (two_boxes HB3.out).1; obtain ⟨q0, q1, q2, q3, q4, q5, q6⟩ := cseven (two_boxes HB3.out).2))
      go_ret
      exact ⟨rfl, below_step (below2 _ _ _) HB3.out⟩
    · have n1 : (r2 == 0) = false := beq_eq_false_iff_ne.2 q2
      have n2 : (r2 != 0) = true := by rw [bne, n1]; rfl
      simp only [ne_eq, not_true, if_false, q2, not_false_eq_true, if_true]
      clear q2 K3
      go_enter Try.func8, Try.ntmps8
      go_wp2_with (first | (go_at_call 24; refine (K1 _ (Below.refl _ _)).mono ?_; clear K1; rintro e w1 ⟨rfl, hb⟩; have HB1 : Hid (Below _ _ w1) := hb; clear hb; obtain ⟨p0, p1, p2, p3, p4, p5, p6⟩ := cseven (two_boxes HB1.out).1; obtain ⟨q0, q1, q2, q3, q4, q5, q6⟩ := cseven (two_boxes HB1.out).2) | (go_at_call 25; refine (K2 _ HB1.out).mono ?_; clear K2; rintro e w2 ⟨rfl, hb⟩; have HB2 : Hid (Below _ _ w2) := (below_step HB1.out hb); clear hb; clear p0 p1 p2 p3 p4 p5 p6 q0 q1 q2 q3 q4 q5 q6; obtain ⟨p0, p1, p2, p3, p4, p5, p6⟩ := cseven (two_boxes HB2.out).1; obtain ⟨q0, q1, q2, q3, q4, q5, q6⟩ := cseven (two_boxes HB2.out).2))
      go_ret
      exact ⟨rfl, below_step (below2 _ _ _) HB2.out⟩
  · have n1 : (r1 == 0) = false := beq_eq_false_iff_ne.2 q1
    have n2 : (r1 != 0) = true := by rw [bne, n1]; rfl
    rw [if_pos q1]
    clear q1 K2 K3
    go_enter Try.func8, Try.ntmps8
    go_wp2_with ((go_at_call 24; refine (K1 _ (Below.refl _ _)).mono ?_; clear K1; rintro e w1 ⟨rfl, hb⟩; have HB1 : Hid (Below _ _ w1) := hb; clear hb; obtain ⟨p0, p1, p2, p3, p4, p5, p6⟩ := cseven (two_boxes HB1.out).1; obtain ⟨q0, q1, q2, q3, q4, q5, q6⟩ := cseven (two_boxes HB1.out).2))
    go_ret
    exact ⟨rfl, below_step (below2 _ _ _) HB1.out⟩
def Cm.same (c d : Cm) : Bool := decide (c.head.1 = d.head.1) && (decide (fsts c.body = fsts d.body) && decide (c.tests = d.tests))
set_option maxRecDepth 20000 in
set_option maxHeartbeats 2000000 in
theorem sameC_any (c d : Cm) (w : World) (hc : c.ok w) (hd : d.ok w) : Calls Try.prog 9 #[c.v, d.v] w fun e w' => e = .returned (.bool (c.same d)) ∧ Below w.heap.size w w' := by
  obtain ⟨⟨a1, n1, cap1, x1⟩, ⟨a2, cap2, x2⟩, ⟨a3, cap3, x3⟩, l1, l2⟩ := hc.shape
  obtain ⟨⟨b1, m1, bap1, y1⟩, ⟨b2, bap2, y2⟩, ⟨b3, bap3, y3⟩, l3, l4⟩ := hd.shape
  have hb2 := below2 w (.cells c.cs 30) (.cells d.cs 30)
  have K1 := fun (X : World) (hX : Below ((w.alloc (.cells c.cs 30)).alloc (.cells d.cs 30)).heap.size ((w.alloc (.cells c.cs 30)).alloc (.cells d.cs 30)) X) => sameAtom_any c.head.1 d.head.1 c.head.2 d.head.2 X (hc.h.later (below_step hb2 hX)) (hd.h.later (below_step hb2 hX))
  have K2 := fun (X : World) (hX : Below ((w.alloc (.cells c.cs 30)).alloc (.cells d.cs 30)).heap.size ((w.alloc (.cells c.cs 30)).alloc (.cells d.cs 30)) X) => sameAtoms_any c.body d.body c.bv d.bv X (hc.b.later (below_step hb2 hX)) (hd.b.later (below_step hb2 hX))
  have K3 := fun (X : World) (hX : Below ((w.alloc (.cells c.cs 30)).alloc (.cells d.cs 30)).heap.size ((w.alloc (.cells c.cs 30)).alloc (.cells d.cs 30)) X) => sameTests_any c.tests d.tests c.tv d.tv X (hc.t.later (below_step hb2 hX)) (hd.t.later (below_step hb2 hX))
  unfold Cm.same
  obtain ⟨r1, h1⟩ : ∃ r, decide (c.head.1 = d.head.1) = r := ⟨_, rfl⟩
  obtain ⟨r2, h2⟩ : ∃ r, decide (fsts c.body = fsts d.body) = r := ⟨_, rfl⟩
  obtain ⟨r3, h3⟩ : ∃ r, decide (c.tests = d.tests) = r := ⟨_, rfl⟩
  rw [h1, h2, h3]
  rw [h1] at K1
  rw [h2] at K2
  rw [h3] at K3
  clear h1 h2 h3 hc hd hb2
  obtain ⟨⟨⟨⟨k, m, s⟩, nm, ls⟩, hx⟩, body, bv, tests, tv⟩ := c
  obtain ⟨⟨⟨⟨k', m', s'⟩, nm', ls'⟩, hx'⟩, body', bv', tests', tv'⟩ := d
  simp only at x1 x2 x3 y1 y2 y3 K1 K2 K3 l1 l2 l3 l4
  subst x1 x2 x3 y1 y2 y3
  cases r1 with
  | true =>
    cases r2 with
    | true =>
      simp only [Bool.true_and]
      go_enter Try.func9, Try.ntmps9
      go_wp2_with (first | (go_at_call 28; refine (K1 _ (Below.refl _ _)).mono ?_; clear K1; rintro e w1 ⟨rfl, hb⟩; have HB1 : Hid (Below _ _ w1) := hb; clear hb; obtain ⟨p0, p1, p2, p3, p4, p5, p6⟩ := cseven (two_boxes HB1.out).1; obtain ⟨q0, q1, q2, q3, q4, q5, q6⟩ := cseven (two_boxes HB1.out).2) | (go_at_call 29; refine (K2 _ HB1.out).mono ?_; clear K2; rintro e w2 ⟨rfl, hb⟩; have HB2 : Hid (Below _ _ w2) := (below_step HB1.out hb); clear hb; clear p0 p1 p2 p3 p4 p5 p6 q0 q1 q2 q3 q4 q5 q6; obtain ⟨p0, p1, p2, p3, p4, p5, p6⟩ := cseven (two_boxes HB2.out).1; obtain ⟨q0, q1, q2, q3, q4, q5, q6⟩ := cseven (two_boxes HB2.out).2) | (go_at_call 30; refine (K3 _ HB2.out).mono ?_; clear K3; rintro e w3 ⟨rfl, hb⟩; have HB3 : Hid (Below _ _ w3) := (below_step HB2.out hb); clear hb; clear p0 p1 p2 p3 p4 p5 p6 q0 q1 q2 q3 q4 q5 q6; obtain ⟨p0, p1, p2, p3, p4, p5, p6⟩ := cseven (two_boxes HB3.out).1; obtain ⟨q0, q1, q2, q3, q4, q5, q6⟩ := cseven (two_boxes HB3.out).2))
      go_ret
      exact ⟨rfl, below_step (below2 _ _ _) HB3.out⟩
    | false =>
      simp only [Bool.true_and, Bool.false_and]
      clear K3
      go_enter Try.func9, Try.ntmps9
      go_wp2_with (first | (go_at_call 28; refine (K1 _ (Below.refl _ _)).mono ?_; clear K1; rintro e w1 ⟨rfl, hb⟩; have HB1 : Hid (Below _ _ w1) := hb; clear hb; obtain ⟨p0, p1, p2, p3, p4, p5, p6⟩ := cseven (two_boxes HB1.out).1; obtain ⟨q0, q1, q2, q3, q4, q5, q6⟩ := cseven (two_boxes HB1.out).2) | (go_at_call 29; refine (K2 _ HB1.out).mono ?_; clear K2; rintro e w2 ⟨rfl, hb⟩; have HB2 : Hid (Below _ _ w2) := (below_step HB1.out hb); clear hb; clear p0 p1 p2 p3 p4 p5 p6 q0 q1 q2 q3 q4 q5 q6; obtain ⟨p0, p1, p2, p3, p4, p5, p6⟩ := cseven (two_boxes HB2.out).1; obtain ⟨q0, q1, q2, q3, q4, q5, q6⟩ := cseven (two_boxes HB2.out).2))
      go_ret
      exact ⟨rfl, below_step (below2 _ _ _) HB2.out⟩
  | false =>
    simp only [Bool.false_and]
    clear K2 K3
    go_enter Try.func9, Try.ntmps9
    go_wp2_with ((go_at_call 28; refine (K1 _ (Below.refl _ _)).mono ?_; clear K1; rintro e w1 ⟨rfl, hb⟩; have HB1 : Hid (Below _ _ w1) := hb; clear hb; obtain ⟨p0, p1, p2, p3, p4, p5, p6⟩ := cseven (two_boxes HB1.out).1; obtain ⟨q0, q1, q2, q3, q4, q5, q6⟩ := cseven (two_boxes HB1.out).2))
    go_ret
    exact ⟨rfl, below_step (below2 _ _ _) HB1.out⟩
end Go.Proofs.Ytdfgijdededolab
