import Derived.Test.YtnenadklmjcakaaGreatDoorCL14
import Derived.Test.YtnenadklmjcakaaGreatDoorM2
import Derived.Test.YtnenadklmjcakaaGreatDoorCL12
import Derived.Test.YtnenadklmjcakaaGreatDoorCL5
import Derived.Test.YtnenadklmjcakaaGreatDoorCL1
import Derived.Laws.AppendOwnNone
import Derived.Laws.AppendOwn
namespace Go.Proofs.YtnenadklmjcakaaGreatDoor
open Go.RowKit

def Cm.cmp (c d : Cm) : Int := if c.head.1.cmp d.head.1 ≠ 0 then c.head.1.cmp d.head.1 else if cmpGL cmpX c.body d.body ≠ 0 then cmpGL cmpX c.body d.body else cmpGL Te.cmp c.tests d.tests
set_option maxRecDepth 20000 in
set_option maxHeartbeats 2000000 in
theorem compareC_any (c d : Cm) (w : World) (hc : c.ok w) (hd : d.ok w) : Calls Tryz.prog 59 #[c.v, d.v] w fun e w' => e = .returned (.int .i64 (c.cmp d)) /\ Below w.heap.size w w' := by
 obtain ⟨⟨a1, n1, cap1, x1⟩, ⟨a2, cap2, x2⟩, ⟨a3, cap3, x3⟩, l1, l2⟩ := hc.shape
 obtain ⟨⟨b1, m1, bap1, y1⟩, ⟨b2, bap2, y2⟩, ⟨b3, bap3, y3⟩, l3, l4⟩ := hd.shape
 have hb2 := below2 w (.cells c.cs 58) (.cells d.cs 58)
 have K1 := fun (X : World) (hX : Below ((w.alloc (.cells c.cs 58)).alloc (.cells d.cs 58)).heap.size ((w.alloc (.cells c.cs 58)).alloc (.cells d.cs 58)) X) => cmpA_any c.head.1 d.head.1 c.head.2 d.head.2 X (hc.h.later (below_step hb2 hX)) (hd.h.later (below_step hb2 hX))
 have K2 := fun (X : World) (hX : Below ((w.alloc (.cells c.cs 58)).alloc (.cells d.cs 58)).heap.size ((w.alloc (.cells c.cs 58)).alloc (.cells d.cs 58)) X) => CLAtom_any c.body d.body c.bv d.bv X (hc.b.later (below_step hb2 hX)) (hd.b.later (below_step hb2 hX))
 have K3 := fun (X : World) (hX : Below ((w.alloc (.cells c.cs 58)).alloc (.cells d.cs 58)).heap.size ((w.alloc (.cells c.cs 58)).alloc (.cells d.cs 58)) X) => CLTest_any c.tests d.tests c.tv d.tv X (hc.t.later (below_step hb2 hX)) (hd.t.later (below_step hb2 hX))
 unfold Cm.cmp
 obtain ⟨r1, h1⟩ : ∃ r, c.head.1.cmp d.head.1 = r := ⟨_, rfl⟩
 obtain ⟨r2, h2⟩ : ∃ r, cmpGL cmpX c.body d.body = r := ⟨_, rfl⟩
 obtain ⟨r3, h3⟩ : ∃ r, cmpGL Te.cmp c.tests d.tests = r := ⟨_, rfl⟩
 simp only [h1, h2, h3] at K1 K2 K3 ⊢
 clear h1 h2 h3 hc hd hb2
 obtain ⟨⟨⟨⟨k, m, s⟩, nm, ls⟩, hx⟩, body, bv, tests, tv⟩ := c
 obtain ⟨⟨⟨⟨k', m', s'⟩, nm', ls'⟩, hx'⟩, body', bv', tests', tv'⟩ := d
 simp only at x1 x2 x3 y1 y2 y3 K1 K2 K3 l1 l2 l3 l4
 subst x1 x2 x3 y1 y2 y3
 by_cases q1 : r1 = 0
 ·subst q1
  by_cases q2 : r2 = 0
  ·subst q2
   simp only [ne_eq, not_true, if_false]
   go_enter Tryz.func59, Tryz.ntmps59
   go_wp2_with (first | (go_at_call 109; refine (K1 _ (Below.refl _ _)).mono ?_; clear K1; rintro e w1 ⟨rfl, hb⟩; have HB1 : Hid (Below _ _ w1) := hb; clear hb; obtain ⟨p0, p1, p2, p3, p4, p5, p6⟩ := cseven (two_boxes HB1.out).1; obtain ⟨q0, q1, q2, q3, q4, q5, q6⟩ := cseven (two_boxes HB1.out).2) | (go_at_call 110; refine (K2 _ HB1.out).mono ?_; clear K2; rintro e w2 ⟨rfl, hb⟩; have HB2 : Hid (Below _ _ w2) := (below_step HB1.out hb); clear hb; clear p0 p1 p2 p3 p4 p5 p6 q0 q1 q2 q3 q4 q5 q6; obtain ⟨p0, p1, p2, p3, p4, p5, p6⟩ := cseven (two_boxes HB2.out).1; obtain ⟨q0, q1, q2, q3, q4, q5, q6⟩ := cseven (two_boxes HB2.out).2) | (go_at_call 111; refine (K3 _ HB2.out).mono ?_; clear K3; rintro e w3 ⟨rfl, hb⟩; have HB3 : Hid (Below _ _ w3) := (below_step HB2.out hb); clear hb; clear p0 p1 p2 p3 p4 p5 p6 q0 q1 q2 q3 q4 q5 q6; obtain ⟨p0, p1, p2, p3, p4, p5, p6⟩ := cseven (two_boxes HB3.out).1; obtain ⟨q0, q1, q2, q3, q4, q5, q6⟩ := cseven (two_boxes HB3.out).2))
   go_ret
   exact ⟨rfl, below_step (below2 _ _ _) HB3.out⟩
  ·have n1 : (r2 == 0) = false := beq_eq_false_iff_ne.2 q2
   have n2 : (r2 != 0) = true := by rw [bne, n1]; rfl
   simp only [ne_eq, not_true, if_false, q2, not_false_eq_true, if_true]
   clear q2 K3
   go_enter Tryz.func59, Tryz.ntmps59
   go_wp2_with (first | (go_at_call 109; refine (K1 _ (Below.refl _ _)).mono ?_; clear K1; rintro e w1 ⟨rfl, hb⟩; have HB1 : Hid (Below _ _ w1) := hb; clear hb; obtain ⟨p0, p1, p2, p3, p4, p5, p6⟩ := cseven (two_boxes HB1.out).1; obtain ⟨q0, q1, q2, q3, q4, q5, q6⟩ := cseven (two_boxes HB1.out).2) | (go_at_call 110; refine (K2 _ HB1.out).mono ?_; clear K2; rintro e w2 ⟨rfl, hb⟩; have HB2 : Hid (Below _ _ w2) := (below_step HB1.out hb); clear hb; clear p0 p1 p2 p3 p4 p5 p6 q0 q1 q2 q3 q4 q5 q6; obtain ⟨p0, p1, p2, p3, p4, p5, p6⟩ := cseven (two_boxes HB2.out).1; obtain ⟨q0, q1, q2, q3, q4, q5, q6⟩ := cseven (two_boxes HB2.out).2))
   go_ret
   exact ⟨rfl, below_step (below2 _ _ _) HB2.out⟩
 ·have n1 : (r1 == 0) = false := beq_eq_false_iff_ne.2 q1
  have n2 : (r1 != 0) = true := by rw [bne, n1]; rfl
  rw [if_pos q1]
  clear q1 K2 K3
  go_enter Tryz.func59, Tryz.ntmps59
  go_wp2_with ((go_at_call 109; refine (K1 _ (Below.refl _ _)).mono ?_; clear K1; rintro e w1 ⟨rfl, hb⟩; have HB1 : Hid (Below _ _ w1) := hb; clear hb; obtain ⟨p0, p1, p2, p3, p4, p5, p6⟩ := cseven (two_boxes HB1.out).1; obtain ⟨q0, q1, q2, q3, q4, q5, q6⟩ := cseven (two_boxes HB1.out).2))
  go_ret
  exact ⟨rfl, below_step (below2 _ _ _) HB1.out⟩
def Cm.same (c d : Cm) : Bool := decide (c.head.1 = d.head.1) && (decide (fsts c.body = fsts d.body) && decide (c.tests = d.tests))
set_option maxRecDepth 20000 in
set_option maxHeartbeats 2000000 in
theorem sameC_any (c d : Cm) (w : World) (hc : c.ok w) (hd : d.ok w) : Calls Tryz.prog 42 #[c.v, d.v] w fun e w' => e = .returned (.bool (c.same d)) /\ Below w.heap.size w w' := by
 obtain ⟨⟨a1, n1, cap1, x1⟩, ⟨a2, cap2, x2⟩, ⟨a3, cap3, x3⟩, l1, l2⟩ := hc.shape
 obtain ⟨⟨b1, m1, bap1, y1⟩, ⟨b2, bap2, y2⟩, ⟨b3, bap3, y3⟩, l3, l4⟩ := hd.shape
 have hb2 := below2 w (.cells c.cs 58) (.cells d.cs 58)
 have K1 := fun (X : World) (hX : Below ((w.alloc (.cells c.cs 58)).alloc (.cells d.cs 58)).heap.size ((w.alloc (.cells c.cs 58)).alloc (.cells d.cs 58)) X) => sameAtom_any c.head.1 d.head.1 c.head.2 d.head.2 X (hc.h.later (below_step hb2 hX)) (hd.h.later (below_step hb2 hX))
 have K2 := fun (X : World) (hX : Below ((w.alloc (.cells c.cs 58)).alloc (.cells d.cs 58)).heap.size ((w.alloc (.cells c.cs 58)).alloc (.cells d.cs 58)) X) => sameAtoms_any c.body d.body c.bv d.bv X (hc.b.later (below_step hb2 hX)) (hd.b.later (below_step hb2 hX))
 have K3 := fun (X : World) (hX : Below ((w.alloc (.cells c.cs 58)).alloc (.cells d.cs 58)).heap.size ((w.alloc (.cells c.cs 58)).alloc (.cells d.cs 58)) X) => sameTests_any c.tests d.tests c.tv d.tv X (hc.t.later (below_step hb2 hX)) (hd.t.later (below_step hb2 hX))
 unfold Cm.same
 obtain ⟨r1, h1⟩ : ∃ r, decide (c.head.1 = d.head.1) = r := ⟨_, rfl⟩
 obtain ⟨r2, h2⟩ : ∃ r, decide (fsts c.body = fsts d.body) = r := ⟨_, rfl⟩
 obtain ⟨r3, h3⟩ : ∃ r, decide (c.tests = d.tests) = r := ⟨_, rfl⟩
 rw [h1, h2, h3]
 rw [h1] at K1
 rw [h2] at K2
 rw [h3] at K3
 clear h1 h2 h3 hc hd hb2
 obtain ⟨⟨⟨⟨k, m, s⟩, nm, ls⟩, hx⟩, body, bv, tests, tv⟩ := c
 obtain ⟨⟨⟨⟨k', m', s'⟩, nm', ls'⟩, hx'⟩, body', bv', tests', tv'⟩ := d
 simp only at x1 x2 x3 y1 y2 y3 K1 K2 K3 l1 l2 l3 l4
 subst x1 x2 x3 y1 y2 y3
 cases r1 with
 | true =>
  cases r2 with
  | true =>
   simp only [Bool.true_and]
   go_enter Tryz.func42, Tryz.ntmps42
   go_wp2_with (first | (go_at_call 91; refine (K1 _ (Below.refl _ _)).mono ?_; clear K1; rintro e w1 ⟨rfl, hb⟩; have HB1 : Hid (Below _ _ w1) := hb; clear hb; obtain ⟨p0, p1, p2, p3, p4, p5, p6⟩ := cseven (two_boxes HB1.out).1; obtain ⟨q0, q1, q2, q3, q4, q5, q6⟩ := cseven (two_boxes HB1.out).2) | (go_at_call 92; refine (K2 _ HB1.out).mono ?_; clear K2; rintro e w2 ⟨rfl, hb⟩; have HB2 : Hid (Below _ _ w2) := (below_step HB1.out hb); clear hb; clear p0 p1 p2 p3 p4 p5 p6 q0 q1 q2 q3 q4 q5 q6; obtain ⟨p0, p1, p2, p3, p4, p5, p6⟩ := cseven (two_boxes HB2.out).1; obtain ⟨q0, q1, q2, q3, q4, q5, q6⟩ := cseven (two_boxes HB2.out).2) | (go_at_call 79; refine (K3 _ HB2.out).mono ?_; clear K3; rintro e w3 ⟨rfl, hb⟩; have HB3 : Hid (Below _ _ w3) := (below_step HB2.out hb); clear hb; clear p0 p1 p2 p3 p4 p5 p6 q0 q1 q2 q3 q4 q5 q6; obtain ⟨p0, p1, p2, p3, p4, p5, p6⟩ := cseven (two_boxes HB3.out).1; obtain ⟨q0, q1, q2, q3, q4, q5, q6⟩ := cseven (two_boxes HB3.out).2))
   go_ret
   exact ⟨rfl, below_step (below2 _ _ _) HB3.out⟩
  | false =>
   simp only [Bool.true_and, Bool.false_and]
   clear K3
   go_enter Tryz.func42, Tryz.ntmps42
   go_wp2_with (first | (go_at_call 91; refine (K1 _ (Below.refl _ _)).mono ?_; clear K1; rintro e w1 ⟨rfl, hb⟩; have HB1 : Hid (Below _ _ w1) := hb; clear hb; obtain ⟨p0, p1, p2, p3, p4, p5, p6⟩ := cseven (two_boxes HB1.out).1; obtain ⟨q0, q1, q2, q3, q4, q5, q6⟩ := cseven (two_boxes HB1.out).2) | (go_at_call 92; refine (K2 _ HB1.out).mono ?_; clear K2; rintro e w2 ⟨rfl, hb⟩; have HB2 : Hid (Below _ _ w2) := (below_step HB1.out hb); clear hb; clear p0 p1 p2 p3 p4 p5 p6 q0 q1 q2 q3 q4 q5 q6; obtain ⟨p0, p1, p2, p3, p4, p5, p6⟩ := cseven (two_boxes HB2.out).1; obtain ⟨q0, q1, q2, q3, q4, q5, q6⟩ := cseven (two_boxes HB2.out).2))
   go_ret
   exact ⟨rfl, below_step (below2 _ _ _) HB2.out⟩
 | false =>
  simp only [Bool.false_and]
  clear K2 K3
  go_enter Tryz.func42, Tryz.ntmps42
  go_wp2_with ((go_at_call 91; refine (K1 _ (Below.refl _ _)).mono ?_; clear K1; rintro e w1 ⟨rfl, hb⟩; have HB1 : Hid (Below _ _ w1) := hb; clear hb; obtain ⟨p0, p1, p2, p3, p4, p5, p6⟩ := cseven (two_boxes HB1.out).1; obtain ⟨q0, q1, q2, q3, q4, q5, q6⟩ := cseven (two_boxes HB1.out).2))
  go_ret
  exact ⟨rfl, below_step (below2 _ _ _) HB1.out⟩
end Go.Proofs.YtnenadklmjcakaaGreatDoor
namespace Go.Proofs.YtnenadklmjcakaaGreatDoor

def cmpN {α : Type} (f : α -> α -> Int) : List α -> List α -> Int
 | x :: p, y :: q => if f x y ≠ 0 then f x y else cmpN f p q
 | _, _ => 0
theorem cmpN_ord {α : Type} {f : α -> α -> Int} (hf : Ord3 f) : ∀ n : Nat, (∀ a b : List α, a.length = n -> b.length = n -> (cmpN f a b = -1 ∨ cmpN f a b = 0 ∨ cmpN f a b = 1) /\ cmpN f b a = - cmpN f a b /\ (cmpN f a b = 0 -> a = b)) ∧
  (∀ a b c : List α, a.length = n -> b.length = n -> c.length = n -> cmpN f a b <= 0 -> cmpN f b c <= 0 -> cmpN f a c <= 0 /\ (cmpN f a b < 0 ∨ cmpN f b c < 0 -> cmpN f a c < 0))
 | 0 => by
  refine ⟨fun a b ha hb => ?_, fun a b c ha hb hc => ?_⟩
  ·rw [List.length_eq_zero_iff] at ha hb; subst ha hb; simp [cmpN]
  ·rw [List.length_eq_zero_iff] at ha hb hc; subst ha hb hc; simp [cmpN]
 | n + 1 => by
  have ih := cmpN_ord hf n
  refine ⟨fun a b ha hb => ?_, fun a b c ha hb hc => ?_⟩
  ·match a, b, ha, hb with
   | x :: a, y :: b, ha, hb =>
    have i := ih.1 a b (by simpa using ha) (by simpa using hb)
    have hn := hf.neg x y
    by_cases h : f x y = 0
    ·have e := hf.zero x y h
     simp only [cmpN]
     rw [if_neg (by omega), if_neg (by omega)]
     exact ⟨i.1, i.2.1, fun h' => by rw [e, i.2.2 h']⟩
    ·simp only [cmpN]
     rw [if_pos h, if_pos (by omega)]
     exact ⟨hf.rng x y, hn, fun h' => absurd h' h⟩
  ·match a, b, c, ha, hb, hc with
   | x :: a, y :: b, z :: c, ha, hb, hc =>
    have i := ih.2 a b c (by simpa using ha) (by simpa using hb) (by simpa using hc)
    have t := hf.tr x y z
    simp only [cmpN]
    by_cases h1 : f x y = 0
    ·have e1 := hf.zero _ _ h1
     rw [e1] at h1 ⊢
     by_cases h2 : f y z = 0
     ·simp only [h1, h2, ne_eq, not_true_eq_false, if_false]; exact i
     ·simp only [h1, h2, ne_eq, not_true_eq_false, not_false_eq_true, if_false, if_true]; intro _ h; exact ⟨h, fun _ => by omega⟩
    ·by_cases h2 : f y z = 0
     ·have e2 := hf.zero _ _ h2
      rw [<- e2] at h2 ⊢
      simp only [h1, h2, ne_eq, not_true_eq_false, not_false_eq_true, if_false, if_true]
      intro h _; exact ⟨h, fun _ => by omega⟩
     ·simp only [h1, h2, ne_eq, not_false_eq_true, if_true]
      intro h h'
      have := (t h h').2 (Or.inl (by omega))
      rw [if_pos (by omega)]
      exact ⟨by omega, fun _ => this⟩
def cmpNL {α : Type} (f : α -> α -> Int) (a b : List α) : Int := if M.sgI a.length b.length ≠ 0 then M.sgI a.length b.length else cmpN f a b
theorem cmpNL_ne {α : Type} (f : α -> α -> Int) (a b : List α) (h : a.length ≠ b.length) : cmpNL f a b = M.sgI a.length b.length := by
 unfold cmpNL; rw [if_pos (by rw [ne_eq, zI]; omega)]
theorem cmpNL_eq {α : Type} (f : α -> α -> Int) (a b : List α) (h : a.length = b.length) : cmpNL f a b = cmpN f a b := by
 unfold cmpNL; rw [if_neg (by rw [ne_eq, zI]; omega)]
theorem ord_nl {α : Type} {f : α -> α -> Int} (hf : Ord3 f) : Ord3 (cmpNL f) where
 rng a b := by
  by_cases h : a.length = b.length
  ·rw [cmpNL_eq f a b h]; exact ((cmpN_ord hf _).1 a b rfl h.symm).1
  ·rw [cmpNL_ne f a b h]; exact ord_sgI.rng _ _
 neg a b := by
  by_cases h : a.length = b.length
  ·rw [cmpNL_eq f a b h, cmpNL_eq f b a h.symm]; exact ((cmpN_ord hf _).1 a b rfl h.symm).2.1
  ·rw [cmpNL_ne f a b h, cmpNL_ne f b a (Ne.symm h)]; exact ord_sgI.neg _ _
 zero a b := by
  by_cases h : a.length = b.length
  ·rw [cmpNL_eq f a b h]; exact ((cmpN_ord hf _).1 a b rfl h.symm).2.2
  ·rw [cmpNL_ne f a b h, zI]; omega
 refl a := by
  rw [cmpNL_eq f a a rfl]
  have h := ((cmpN_ord hf _).1 a a rfl rfl).2.1
  omega
 tr a b c := by
  have t := ord_sgI.tr a.length b.length c.length
  have z1 := zI a.length b.length
  have z2 := zI b.length c.length
  have z3 := zI a.length c.length
  by_cases h1 : a.length = b.length
  ·by_cases h2 : b.length = c.length
   ·rw [cmpNL_eq f a b h1, cmpNL_eq f b c h2, cmpNL_eq f a c (h1.trans h2)]
    exact (cmpN_ord hf _).2 a b c rfl h1.symm (h1.trans h2).symm
   ·rw [cmpNL_eq f a b h1, cmpNL_ne f b c h2, cmpNL_ne f a c (by omega), h1]
    intro _ h; exact ⟨h, fun _ => by omega⟩
  ·by_cases h2 : b.length = c.length
   ·rw [cmpNL_ne f a b h1, cmpNL_eq f b c h2, cmpNL_ne f a c (by omega), <- h2]
    intro h _; exact ⟨h, fun _ => by omega⟩
   ·rw [cmpNL_ne f a b h1, cmpNL_ne f b c h2]
    intro h h'
    have := (t h h').2 (Or.inl (by omega))
    rw [cmpNL_ne f a c (by omega)]
    exact ⟨by omega, fun _ => this⟩

theorem cmpG_N {α : Type} (f : α -> α -> Int) : ∀ p q : List α, cmpG f p q = cmpN f p q
 | [], _ => rfl
 | _ :: _, [] => rfl
 | x :: p, y :: q => by
  simp only [cmpG, cmpN]
  by_cases h : f x y = 0
  ·rw [if_pos h, if_neg (by omega), cmpG_N f p q]
  ·rw [if_neg h, if_pos h]
theorem cmpG_X : ∀ p q : List (At × Value), cmpG cmpX p q = cmpG At.cmp (fsts p) (fsts q)
 | [], _ => by simp [fsts, cmpG]
 | _ :: _, [] => by simp [fsts, cmpG]
 | x :: p, y :: q => by
  show (if x.1.cmp y.1 = 0 then cmpG cmpX p q else x.1.cmp y.1) = if x.1.cmp y.1 = 0 then cmpG At.cmp (fsts p) (fsts q) else x.1.cmp y.1
  rw [cmpG_X p q]
theorem cmpGL_N {α : Type} (f : α -> α -> Int) (p q : List α) : cmpGL f p q = cmpNL f p q := by
 unfold cmpGL
 by_cases h : p.length = q.length
 ·rw [if_pos h, cmpNL_eq f _ _ h, cmpG_N]
 ·rw [if_neg h, cmpNL_ne f _ _ h]
theorem cmpGL_X (p q : List (At × Value)) : cmpGL cmpX p q = cmpNL At.cmp (fsts p) (fsts q) := by
 rw [<- cmpGL_N]
 unfold cmpGL
 rw [cmpG_X]
 simp [fsts]
theorem ord_te : Ord3 Te.cmp := by
 have h1 := Ord3.lex (γ := Tm × Tm) ord_tm ord_tm (fun x => x.1) (fun x => x.2) (fun x y h h' => Prod.ext h h')
 have h2 := Ord3.lex (γ := Te) ord_sgI h1 (fun x => x.op) (fun x => (x.l, x.r)) (fun x y h h' => by
  obtain ⟨o, l, r⟩ := x
  obtain ⟨o', l', r'⟩ := y
  simp only [Prod.mk.injEq] at h h'
  rw [h, h'.1, h'.2])
 exact h2
def Cm.key (c : Cm) : At × List At × List Te := (c.head.1, fsts c.body, c.tests)
def cmpC (x y : At × List At × List Te) : Int := if x.1.cmp y.1 ≠ 0 then x.1.cmp y.1 else if cmpNL At.cmp x.2.1 y.2.1 ≠ 0 then cmpNL At.cmp x.2.1 y.2.1 else cmpNL Te.cmp x.2.2 y.2.2
theorem ord_c : Ord3 cmpC := by
 have h1 := Ord3.lex (γ := List At × List Te) (ord_nl ord_at) (ord_nl ord_te) (fun x => x.1) (fun x => x.2) (fun x y h h' => Prod.ext h h')
 exact Ord3.lex (γ := At × List At × List Te) ord_at h1 (fun x => x.1) (fun x => x.2) (fun x y h h' => Prod.ext h h')
theorem cmp_key (c d : Cm) : c.cmp d = cmpC c.key d.key := by
 unfold Cm.cmp cmpC Cm.key
 rw [cmpGL_X, cmpGL_N]
theorem same_key (c d : Cm) : c.same d = decide (c.key = d.key) := by
 unfold Cm.same Cm.key
 rw [Bool.eq_iff_iff]
 simp
end Go.Proofs.YtnenadklmjcakaaGreatDoor
namespace Go.Proofs.YtnenadklmjcakaaGreatDoor
open Go.RowKit

abbrev Ck := At × List At × List Te
def Ck.terms (x : Ck) : List Tm := x.1.pl ++ (x.2.1.flatMap At.pl ++ tls x.2.2)
theorem key_terms (c : Cm) : c.terms = Ck.terms c.key := by
 rw [Cm.terms_eq, Ck.terms, Cm.key, flt, fsts, List.flatMap_map]; simp
def mapA (f : Tm -> Tm) (a : At) : At := ⟨f a.by_, a.name, a.args.map f⟩
def mapE (f : Tm -> Tm) (t : Te) : Te := ⟨t.op, f t.l, f t.r⟩
def mapC (f : Tm -> Tm) (x : Ck) : Ck := (mapA f x.1, x.2.1.map (mapA f), x.2.2.map (mapE f))
theorem mapA_id (a : At) : mapA (fun t => t) a = a := by cases a; simp [mapA]
theorem mapC_id (x : Ck) : mapC (fun t => t) x = x := by
 obtain ⟨h, b, t⟩ := x
 have e1 : (mapA fun t => t) = fun a => a := funext mapA_id
 have e2 : (mapE fun t => t) = fun a => a := funext fun a => by cases a; rfl
 simp [mapC, mapA_id, e1, e2]
theorem err_zero' {a : At} (h : a.err = 0) : nameOk a.name = true /\ a.args.length <= 8 /\ qualOk a.by_ = true /\ ∀ t ∈ a.args, t.cov = true := by
 unfold At.err at h
 split at h
 ·cases h
 split at h
 ·cases h
 split at h
 ·cases h
 split at h
 ·rename_i a1 a2 a3 a4
  exact ⟨by simpa using a1, by omega, by simpa using a3, by rwa [List.all_eq_true] at a4⟩
 ·cases h
def dstepT (acc : List Tm) (x : Tm) : List Tm := if x ∈ acc then acc else acc ++ [x]
def disT (l : List Tm) : List Tm := (l.filter Tm.var).foldl dstepT []
theorem dstepT_mem {acc : List Tm} {x y : Tm} : y ∈ dstepT acc x ↔ y ∈ acc ∨ y = x := by
 unfold dstepT
 by_cases h : x ∈ acc
 ·rw [if_pos h]
  exact ⟨Or.inl, fun e => e.elim id fun e => e ▸ h⟩
 ·rw [if_neg h]; simp
theorem foldT_mem : ∀ {l acc : List Tm} {y : Tm}, y ∈ l.foldl dstepT acc ↔ y ∈ acc ∨ y ∈ l
 | [], acc, y => by simp
 | x :: l, acc, y => by rw [List.foldl_cons, foldT_mem, dstepT_mem, List.mem_cons, or_assoc]
theorem disT_mem {l : List Tm} {y : Tm} : y ∈ disT l ↔ y ∈ l /\ y.var = true := by
 unfold disT; rw [foldT_mem, List.mem_filter]; simp
theorem foldT_pre : ∀ (l acc : List Tm), acc <+: l.foldl dstepT acc
 | [], acc => List.prefix_rfl
 | x :: l, acc => by
  rw [List.foldl_cons]
  refine List.IsPrefix.trans ?_ (foldT_pre l _)
  unfold dstepT
  split
  ·exact List.prefix_rfl
  ·exact List.prefix_append _ _
def ix : List Tm -> Tm -> Nat
 | [], _ => 0
 | x :: l, t => if x = t then 0 else ix l t + 1
theorem ix_lt : ∀ {l : List Tm} {t : Tm}, t ∈ l -> ix l t < l.length
 | x :: l, t, h => by
  rw [ix]
  by_cases e : x = t
  ·rw [if_pos e]; simp
  ·rw [if_neg e]
   have := ix_lt (l := l) (t := t) (by rcases List.mem_cons.1 h with h | h; exact absurd h.symm e; exact h)
   simp only [List.length_cons]; omega
theorem ix_app : ∀ {p q : List Tm} {t : Tm}, t ∈ p -> ix (p ++ q) t = ix p t
 | x :: l, q, t, h => by
  rw [List.cons_append, ix, ix]
  by_cases e : x = t
  ·rw [if_pos e, if_pos e]
  ·rw [if_neg e, if_neg e, ix_app (by rcases List.mem_cons.1 h with h | h; exact absurd h.symm e; exact h)]
theorem ix_new : ∀ {p : List Tm} {t : Tm}, ¬ t ∈ p -> ix (p ++ [t]) t = p.length
 | [], t, _ => by simp [ix]
 | x :: l, t, h => by
  rw [List.cons_append, ix, if_neg (fun e => h (by simp [e])), ix_new (fun e => h (by simp [e]))]; rfl
theorem ix_get : ∀ {l : List Tm} {t : Tm}, t ∈ l -> l[ix l t]? = some t
 | x :: l, t, h => by
  rw [ix]
  by_cases e : x = t
  ·rw [if_pos e]; simp [e]
  ·rw [if_neg e, List.getElem?_cons_succ]; exact ix_get (by rcases List.mem_cons.1 h with h | h; exact absurd h.symm e; exact h)
theorem idxOf_pre {p q : List Tm} {t : Tm} (h : p <+: q) (ht : t ∈ p) : ix q t = ix p t := by
 obtain ⟨r, rfl⟩ := h
 exact ix_app ht
theorem mis_idx : ∀ (l acc : List Tm), mis acc.length (l.map fun t => ((ix (l.foldl dstepT acc) t : Nat) : Int)) = false
 | [], _ => rfl
 | t :: r, acc => by
  rw [List.map_cons, List.foldl_cons]
  have hpre := foldT_pre r (dstepT acc t)
  have ih := mis_idx r (dstepT acc t)
  by_cases h : t ∈ acc
  ·have e : dstepT acc t = acc := if_pos h
   rw [e] at hpre ih ⊢
   have e2 := idxOf_pre hpre h
   have e3 := ix_lt h
   rw [mis, if_neg (by rw [e2]; omega), if_neg (by rw [e2]; omega)]
   exact ih
  ·have e : dstepT acc t = acc ++ [t] := if_neg h
   rw [e] at hpre ih ⊢
   have e2 := idxOf_pre hpre (t := t) (by simp)
   have e3 : ix (acc ++ [t]) t = acc.length := ix_new h
   rw [mis, if_neg (by rw [e2, e3]; omega), if_pos (by rw [e2, e3])]
   rw [List.length_append, List.length_singleton] at ih
   exact_mod_cast ih
end Go.Proofs.YtnenadklmjcakaaGreatDoor
namespace Go.Proofs.YtnenadklmjcakaaGreatDoor
open Go.RowKit
attribute [local go_sem ↓] Go.wp_at_zero Go.wp_at_succ

set_option maxHeartbeats 1000000 in
theorem within_any (l : List Tm) (v : Value) (t : Tm) (w : World) (h : Ts w v l) :
  Calls Tryz.prog 74 #[v, t.v] w fun e w' => e = .returned (.bool (decide (t ∈ l))) /\ Below w.heap.size w w' := by
 obtain ⟨ad, cap, rfl, hl, h⟩ := h
 obtain ⟨r, hr⟩ : ∃ r, decide (t ∈ l) = r := ⟨_, rfl⟩
 rw [hr]
 obtain ⟨k, n, s⟩ := t
 have HR : Hid (decide (Tm.mk k n s ∈ l) = r) := hr
 clear hr
 go_enter Tryz.func74, Tryz.ntmps74
 go_wp2
 have bx := Blk.new w #[.int .i64 k, .int .i64 n, .string s] 52
 have hbx := below1 w (.cells #[.int .i64 k, .int .i64 n, .string s] 52)
 have h' : l = [] ∨ ∃ b o, ad = some ⟨b, o, none⟩ /\ TRow (w.alloc (.cells #[.int .i64 k, .int .i64 n, .string s] 52)) b o l := by
  rcases h with h | ⟨b, o, h1, h2⟩
  ·exact Or.inl h
  ·exact Or.inr ⟨b, o, h1, h2.later hbx⟩
 revert bx hbx h'
 generalize w.alloc (.cells #[.int .i64 k, .int .i64 n, .string s] 52) = X
 intro bx hbx h'
 clear h
 have HBX : Hid (Below w.heap.size w X) := hbx
 have BX : Hid (Blk X w.heap.size #[.int .i64 k, .int .i64 n, .string s] 52) := bx
 clear hbx bx
 go_loopg [5] l.length (fun g i wr => ∃ j : Nat, j + g = l.length /\ i = .int .i64 j /\ (¬ Tm.mk k n s ∈ l.take j) /\ Below X.heap.size X wr)
 case atStart => exact ⟨0, by omega, rfl, by simp, Below.refl _ _⟩
 case round =>
  obtain ⟨j, hj, rfl, hno, hb⟩ := hrel
  have HN : Hid (¬ Tm.mk k n s ∈ l.take j) := hno
  clear hno
  cases gk with
  | succ g =>
   have hlt : (j : Int) < (l.length : Int) := by omega
   have j0 : (0 : Int) <= (j : Int) := by omega
   obtain ⟨u, hu⟩ : ∃ u, l[j]? = some u := ⟨_, List.getElem?_eq_getElem (by omega)⟩
   rcases h' with h | ⟨b1, o1, rfl, hb1, h⟩
   ·subst h; simp at hj
   obtain ⟨p0, p1, p2⟩ := h j u hu
   rw [<- hb.cell (p := ⟨b1, _, none⟩) hb1] at p0 p1 p2
   obtain ⟨q0, q1, q2, -, -, -⟩ := three (Blk.later (Hid.out BX) hb)
   have he := run_eql_tm u ⟨k, n, s⟩
   have HU : Hid (l[j]? = some u) := hu
   by_cases htu : u = ⟨k, n, s⟩
   ·have HY : Hid (decide (Tm.mk k n s ∈ l) = true) := decide_eq_true (by rw [<- htu]; exact List.mem_of_getElem? hu)
    rw [decide_eq_true htu] at he
    clear htu hu h
    obtain ⟨uk, un, us⟩ := u
    simp only at p0 p1 p2
    go_wp2
    go_quiet (fail)
    go_wp2
    go_ret
    exact ⟨ret_b (HY.out.symm.trans HR.out), below_step (Hid.out HBX) (below_drewN hb _)⟩
   ·have HY : Hid (¬ Tm.mk k n s ∈ l.take (j + 1)) := by
     show ¬ _
     rw [List.take_add_one, hu]
     simp only [Option.toList_some, List.mem_append, List.mem_singleton, not_or]
     exact ⟨HN.out, fun e => htu e.symm⟩
    rw [decide_eq_false htu] at he
    clear htu hu h
    obtain ⟨uk, un, us⟩ := u
    simp only at p0 p1 p2
    go_wp2
    go_quiet (fail)
    go_wp2
    go_roundg g
    case measure => omega
    case rel => exact ⟨j + 1, by omega, by go_num, HY.out, below_drewN hb _⟩
  | zero =>
   obtain rfl : j = l.length := by omega
   have HY : Hid (decide (Tm.mk k n s ∈ l) = false) := decide_eq_false (by have := HN.out; rwa [List.take_length] at this)
   have hz : ¬ ((l.length : Int) < (l.length : Int)) := by omega
   clear h'
   go_wp2
   go_ret
   exact ⟨ret_b (HY.out.symm.trans HR.out), below_step (Hid.out HBX) hb⟩

end Go.Proofs.YtnenadklmjcakaaGreatDoor
namespace Go.Proofs.YtnenadklmjcakaaGreatDoor
open Go.RowKit
attribute [local go_sem ↓] Go.wp_at_zero Go.wp_at_succ

theorem Tryz.infoTerm : (Tryz.prog.info? 52).map (fun i => (i.zero, i.size, i.bytes)) = some (some (.agg #[.int .i64 0, .int .i64 0, .string ⟨#[]⟩]), 3, 32) := by kernel_rfl
def MC (n : Nat) : Array Value := madeCells #[.int .i64 0, .int .i64 0, .string ⟨#[]⟩] (n * 3)
theorem mk_terms (n : Nat) (hn : n <= 4398046511104) (w : World) : (Instr.makeSlice 47 (.int .i64 (n : Int)) (.int .i64 (n : Int))).run Tryz.prog w = .ok (.slice (some ⟨w.heap.size, 0, none⟩) n n) (w.alloc (.cells (MC n) 52)) := by
 obtain ⟨i, hi, h0, h1, h2⟩ := info_parts Tryz.infoTerm
 have h := run_make (P := Tryz.prog) w 47 52 i _ Tryz.underlying47 hi h0 .i64 .i64 n n (by omega) (Int.le_refl _) (by rw [h2]; omega) (by omega)
 rw [h1, Int.toNat_natCast] at h
 exact h
theorem fiveF {w : World} {g : Nat} {a b c d f : Value} {t : TypeId} (h : w.heap[g]? = some (.cells #[a, b, c, d, f] t (0, 0))) :
  (w.cell? ⟨g, 0, none⟩ = some a /\ w.cell? ⟨g, 1, none⟩ = some b /\ w.cell? ⟨g, 2, none⟩ = some c /\ w.cell? ⟨g, 3, none⟩ = some d /\ w.cell? ⟨g, 4, none⟩ = some f) ∧
  w.frozen? ⟨g, 0, none⟩ = false /\ w.frozen? ⟨g, 1, none⟩ = false /\ w.frozen? ⟨g, 2, none⟩ = false /\ w.frozen? ⟨g, 3, none⟩ = false /\ w.frozen? ⟨g, 4, none⟩ = false :=
 ⟨five h, frozen_of_row _ _ _ _ _ h, frozen_of_row _ _ _ _ _ h, frozen_of_row _ _ _ _ _ h, frozen_of_row _ _ _ _ _ h, frozen_of_row _ _ _ _ _ h⟩
theorem store5 {W : World} {G : Nat} {a b c d e a' b' c' d' e' : Value} {t : TypeId} (h : W.heap[G]? = some (.cells #[a, b, c, d, e] t (0, 0))) :
  (((((W.setCell ⟨G, 0, none⟩ a').setCell ⟨G, 1, none⟩ b').setCell ⟨G, 2, none⟩ c').setCell ⟨G, 3, none⟩ d').setCell ⟨G, 4, none⟩ e').heap[G]? = some (.cells #[a', b', c', d', e'] t (0, 0)) := by
 have h1 := heap_setCell_same _ _ 0 _ _ a' h
 have h2 := heap_setCell_same _ _ 1 _ _ b' h1
 have h3 := heap_setCell_same _ _ 2 _ _ c' h2
 have h4 := heap_setCell_same _ _ 3 _ _ d' h3
 exact heap_setCell_same _ _ 4 _ _ e' h4
theorem store5_other {W : World} {G k : Nat} {o : Obj} (a' b' c' d' e' : Value) (hk : k ≠ G) (h : W.heap[k]? = some o) :
  (((((W.setCell ⟨G, 0, none⟩ a').setCell ⟨G, 1, none⟩ b').setCell ⟨G, 2, none⟩ c').setCell ⟨G, 3, none⟩ d').setCell ⟨G, 4, none⟩ e').heap[k]? = some o := by
 rw [heap_setCell_other _ _ _ _ hk, heap_setCell_other _ _ _ _ hk, heap_setCell_other _ _ _ _ hk, heap_setCell_other _ _ _ _ hk, heap_setCell_other _ _ _ _ hk]; exact h
def TBlk (w : World) (g : Nat) (l : List Tm) (k : Nat) : Prop := ∃ C : Array Value, w.heap[g]? = some (.cells C 52 (0, 0)) /\ C.size = l.length * 3 ∧
 ∀ i t, i < k -> l[i]? = some t -> C[i * 3]? = some (.int .i64 t.k) /\ C[i * 3 + 1]? = some (.int .i64 t.n) /\ C[i * 3 + 2]? = some (.string t.s)
theorem TBlk.start {w : World} {g : Nat} {l : List Tm} {n : Nat} (hn : n = l.length) (h : w.heap[g]? = some (.cells (MC n) 52 (0, 0))) : TBlk w g l 0 :=
 ⟨_, h, by rw [MC, size_madeCells, hn], fun i t hi => absurd hi (Nat.not_lt_zero _)⟩
theorem TBlk.later {w w' : World} {g : Nat} {l : List Tm} {k : Nat} (h : TBlk w g l k) (hb : Below w.heap.size w w') : TBlk w' g l k := by
 obtain ⟨C, h1, h2⟩ := h
 exact ⟨C, (hb.block _ (Array.getElem?_eq_some_iff.1 h1).1).trans h1, h2⟩
theorem TBlk.other {w : World} {g G i : Nat} {a : Value} {l : List Tm} {k : Nat} (h : TBlk w g l k) (hk : g ≠ G) : TBlk (w.setCell ⟨G, i, none⟩ a) g l k := by
 obtain ⟨C, h1, h2⟩ := h
 exact ⟨C, by rw [heap_setCell_other _ _ _ _ hk]; exact h1, h2⟩
theorem TBlk.cells {w : World} {g : Nat} {l : List Tm} {k j : Nat} (h : TBlk w g l k) (hj : j < l.length * 3) : (∃ c, w.cell? ⟨g, j, none⟩ = some c) /\ w.frozen? ⟨g, j, none⟩ = false := by
 obtain ⟨C, h1, h2, -⟩ := h
 refine ⟨⟨C[j], ?_⟩, frozen_of_row _ _ _ _ _ h1⟩
 rw [cell_of_row _ _ _ _ _ _ h1]; simp
theorem TBlk.put {w : World} {g : Nat} {l : List Tm} {k : Nat} {t : Tm} (h : TBlk w g l k) (ht : l[k]? = some t) :
  TBlk (((w.setCell ⟨g, k * 3, none⟩ (.int .i64 t.k)).setCell ⟨g, k * 3 + 1, none⟩ (.int .i64 t.n)).setCell ⟨g, k * 3 + 2, none⟩ (.string t.s)) g l (k + 1) := by
 obtain ⟨C, h1, h2, h3⟩ := h
 have hk := (List.getElem?_eq_some_iff.1 ht).1
 have e1 := heap_setCell_same _ _ (k * 3) _ _ (.int .i64 t.k) h1
 have e2 := heap_setCell_same _ _ (k * 3 + 1) _ _ (.int .i64 t.n) e1
 have e3 := heap_setCell_same _ _ (k * 3 + 2) _ _ (.string t.s) e2
 refine ⟨_, e3, by simp [h2], fun i u hi hu => ?_⟩
 by_cases hik : i = k
 ·subst hik
  rw [ht] at hu
  obtain rfl := Option.some.inj hu
  refine ⟨?_, ?_, ?_⟩ <;> simp [Array.getElem?_setIfInBounds, h2] <;> omega
 ·obtain ⟨a, b, c⟩ := h3 i u (by omega) hu
  refine ⟨?_, ?_, ?_⟩
  ·rw [Array.getElem?_setIfInBounds_ne (by omega), Array.getElem?_setIfInBounds_ne (by omega), Array.getElem?_setIfInBounds_ne (by omega)]; exact a
  ·rw [Array.getElem?_setIfInBounds_ne (by omega), Array.getElem?_setIfInBounds_ne (by omega), Array.getElem?_setIfInBounds_ne (by omega)]; exact b
  ·rw [Array.getElem?_setIfInBounds_ne (by omega), Array.getElem?_setIfInBounds_ne (by omega), Array.getElem?_setIfInBounds_ne (by omega)]; exact c
theorem TBlk.ts {w : World} {g : Nat} {l : List Tm} {n cap : Nat} (hn : n = l.length) (hl : n <= 4398046511104) (h : TBlk w g l n) : Ts w (.slice (some ⟨g, 0, none⟩) n cap) l := by
 subst hn
 obtain ⟨C, h1, h2, h3⟩ := h
 refine ⟨_, cap, rfl, by omega, Or.inr ⟨g, 0, rfl, (Array.getElem?_eq_some_iff.1 h1).1, fun i t ht => ?_⟩⟩
 obtain ⟨a, b, c⟩ := h3 i t (List.getElem?_eq_some_iff.1 ht).1 ht
 rw [cell_of_row _ _ _ _ _ _ h1, cell_of_row _ _ _ _ _ _ h1, cell_of_row _ _ _ _ _ _ h1]
 simp only [Nat.zero_add]
 exact ⟨a, b, c⟩
theorem BoxB.later2 {w W W' : World} {c d : Array Value} {t t' : TypeId} (h : BoxB w W c d t t') (hb : Below (w.heap.size + 2) W W') : BoxB w W' c d t t' :=
 ⟨(hb.block _ (by omega)).trans h.1, (hb.block _ (by omega)).trans h.2.1, h.2.2.trans (hb.mono (by omega))⟩
theorem bset3 {B : Nat} {W V : World} {G i j m : Nat} {a b c : Value} (h : Below B W V) (hg : B <= G) : Below B W (((V.setCell ⟨G, i, none⟩ a).setCell ⟨G, j, none⟩ b).setCell ⟨G, m, none⟩ c) :=
 ((h.setCell (p := ⟨G, i, none⟩) hg _).setCell (p := ⟨G, j, none⟩) hg _).setCell (p := ⟨G, m, none⟩) hg _
theorem putO {W : World} {G k i j m : Nat} {o : Obj} (a' b' c' : Value) (hk : k ≠ G) (h : W.heap[k]? = some o) :
  (((W.setCell ⟨G, i, none⟩ a').setCell ⟨G, j, none⟩ b').setCell ⟨G, m, none⟩ c').heap[k]? = some o := by
 rw [heap_setCell_other _ _ _ _ hk, heap_setCell_other _ _ _ _ hk, heap_setCell_other _ _ _ _ hk]; exact h
end Go.Proofs.YtnenadklmjcakaaGreatDoor
namespace Go.Proofs.YtnenadklmjcakaaGreatDoor
open Go.RowKit

def Tm.cs (t : Tm) : List Value := [.int .i64 t.k, .int .i64 t.n, .string t.s]
def tcs (l : List Tm) : List Value := l.flatMap Tm.cs
theorem tcs_len (l : List Tm) : (tcs l).length = l.length * 3 := by
 induction l with
 | nil => rfl
 | cons d l ih => simp only [tcs, List.flatMap_cons, List.length_append, List.length_cons] at *; rw [ih]; simp [Tm.cs]; omega
theorem tcs_get (l : List Tm) (j : Nat) (d : Tm) (h : l[j]? = some d) (i : Nat) (hi : i < 3) : (tcs l)[j * 3 + i]? = d.cs[i]? := by
 induction l generalizing j with
 | nil => simp at h
 | cons e l ih =>
  rw [tcs, List.flatMap_cons]
  cases j with
  | zero =>
   simp only [List.getElem?_cons_zero, Option.some.injEq] at h
   subst h
   rw [List.getElem?_append_left (by simp [Tm.cs]; omega)]
   simp
  | succ j =>
   simp only [List.getElem?_cons_succ] at h
   rw [List.getElem?_append_right (by simp [Tm.cs]; omega)]
   have e1 : (j + 1) * 3 + i - (Tm.cs e).length = j * 3 + i := by simp [Tm.cs]; omega
   rw [e1]
   exact ih j h
def OwnT (w : World) (base : Nat) (v : Value) (l : List Tm) : Prop := w.ownsRow base 52 3 v l.length (tcs l)
theorem ownT_cells {w : World} {base g cap n : Nat} {l : List Tm} (h : OwnT w base (.slice (some ⟨g, 0, none⟩) n cap) l) (j : Nat) (d : Tm) (hd : l[j]? = some d) :
  w.cell? ⟨g, j * 3, none⟩ = some (.int .i64 d.k) /\ w.cell? ⟨g, j * 3 + 1, none⟩ = some (.int .i64 d.n) /\ w.cell? ⟨g, j * 3 + 2, none⟩ = some (.string d.s) := by
 rcases h.2 with ⟨h, _⟩ | ⟨g', cap', cur, hv, hb, hg, hn, hc, hs, ht⟩
 ·cases h
 ·simp only [Value.slice.injEq, Option.some.injEq, Addr.mk.injEq] at hv
  obtain ⟨⟨rfl, -⟩, -, rfl⟩ := hv
  have hj := (List.getElem?_eq_some_iff.1 hd).1
  have key : ∀ i, i < 3 -> w.cell? ⟨g, j * 3 + i, none⟩ = d.cs[i]? := fun i hi => by
   rw [cell_of_row _ _ _ _ _ _ hg, <- tcs_get l j d hd i hi, <- ht, List.getElem?_take_of_lt (by omega)]
   simp
  exact ⟨key 0 (by omega), key 1 (by omega), key 2 (by omega)⟩
theorem OwnT.lt {w : World} {base : Nat} {v : Value} {l : List Tm} (h : OwnT w base v l) : ∀ k, v.ownBlock = some k -> base <= k /\ k < w.heap.size := World.ownsRow.lt h
theorem OwnT.mono {w : World} {b b' : Nat} {v : Value} {l : List Tm} (h : OwnT w b v l) (hb : b' <= b) : OwnT w b' v l := by
 refine ⟨h.1, ?_⟩
 rcases h.2 with hn | ⟨g, cap, cur, hv, hbb, rest⟩
 ·exact Or.inl hn
 ·exact Or.inr ⟨g, cap, cur, hv, Nat.le_trans hb hbb, rest⟩
theorem OwnT.later {w w' : World} {base : Nat} {v : Value} {l : List Tm} (h : OwnT w base v l) (hb : Below w.heap.size w w') : OwnT w' base v l := by
 refine ⟨h.1, ?_⟩
 rcases h.2 with hn | ⟨g, cap, cur, hv, hbb, hg, rest⟩
 ·exact Or.inl hn
 ·exact Or.inr ⟨g, cap, cur, hv, hbb, (hb.block _ (Array.getElem?_eq_some_iff.1 hg).1).trans hg, rest⟩
theorem OwnT.set {w : World} {base G i : Nat} {a : Value} {v : Value} {l : List Tm} (h : OwnT w base v l) (hG : G < base) : OwnT (w.setCell ⟨G, i, none⟩ a) base v l := by
 refine ⟨h.1, ?_⟩
 rcases h.2 with hn | ⟨g, cap, cur, hv, hbb, hg, rest⟩
 ·exact Or.inl hn
 ·exact Or.inr ⟨g, cap, cur, hv, hbb, by rw [heap_setCell_other _ _ _ _ (show g ≠ G by omega)]; exact hg, rest⟩
theorem tcs_mem {l : List Tm} {u : Value} (h : u ∈ tcs l) : u.oneCell' = true := by
 simp only [tcs, List.mem_flatMap] at h
 obtain ⟨d, -, hu⟩ := h
 simp [Tm.cs] at hu
 rcases hu with rfl | rfl | rfl <;> rfl
theorem trow_get {w : World} {b o : Nat} {l : List Tm} (h : TRow w b o l) : ∀ j u, (tcs l)[j]? = some u -> w.cell? ((⟨b, o, none⟩ : Addr).add j) = some u := fun j u hu => by
 have hj : j < l.length * 3 := by rw [<- tcs_len]; exact (List.getElem?_eq_some_iff.1 hu).1
 have hq : j / 3 < l.length := by omega
 obtain ⟨d, hd⟩ : ∃ d, l[j / 3]? = some d := ⟨_, List.getElem?_eq_getElem hq⟩
 have hg := tcs_get l (j / 3) d hd (j % 3) (by omega)
 rw [show j / 3 * 3 + j % 3 = j by omega, hu] at hg
 have hc := h.2 _ _ hd
 have ha : (⟨b, o, none⟩ : Addr).add j = ⟨b, o + j / 3 * 3 + j % 3, none⟩ := by
  rw [Go.WideShapes.add_plain]; congr 1; omega
 rw [ha]
 have h4 : j % 3 = 0 ∨ j % 3 = 1 ∨ j % 3 = 2 := by omega
 rcases h4 with e | e | e <;> rw [e] at hg ⊢ <;> simp [Tm.cs] at hg <;> subst hg
 ·exact hc.1
 ·exact hc.2.1
 ·exact hc.2.2
theorem ownT_pre {w : World} {base g cap : Nat} {s : List Tm} {d : Tm} (h : OwnT w base (.slice (some ⟨g, 0, none⟩) (s.length + 1) cap) (s ++ [d])) (hs : s.length < 1000000000000000000) : Ts w (.slice (some ⟨g, 0, none⟩) s.length cap) s := by
 have hlt : g < w.heap.size := (h.lt g rfl).2
 refine ⟨_, cap, rfl, hs, Or.inr ⟨g, 0, rfl, hlt, fun i t ht => ?_⟩⟩
 have hi := (List.getElem?_eq_some_iff.1 ht).1
 have := ownT_cells h i t (by rw [List.getElem?_append_left hi]; exact ht)
 simpa using this
theorem ownT_cap {w : World} {base g cap n : Nat} {l : List Tm} (h : OwnT w base (.slice (some ⟨g, 0, none⟩) n cap) l) : n <= cap := by
 rcases h.2 with ⟨h, _⟩ | ⟨g', c, cur, hv, _, _, hn, _⟩
 ·cases h
 ·simp only [Value.slice.injEq] at hv; omega
end Go.Proofs.YtnenadklmjcakaaGreatDoor
