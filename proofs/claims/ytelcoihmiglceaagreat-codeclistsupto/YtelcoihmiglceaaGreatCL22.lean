import Derived.Test.YtelcoihmiglceaaGreatCL14
import Derived.Test.YtelcoihmiglceaaGreatM2
namespace Go.Proofs.YtelcoihmiglceaaGreat
open Go.RowKit

def Cm.cmp (c d : Cm) : Int := if c.head.1.cmp d.head.1 ≠ 0 then c.head.1.cmp d.head.1 else if cmpGL cmpX c.body d.body ≠ 0 then cmpGL cmpX c.body d.body else cmpGL Te.cmp c.tests d.tests
set_option maxRecDepth 20000 in
set_option maxHeartbeats 2000000 in
theorem compareC_any (c d : Cm) (w : World) (hc : c.ok w) (hd : d.ok w) : Calls Tryz.prog 71 #[c.v, d.v] w fun e w' => e = .returned (.int .i64 (c.cmp d)) /\ Below w.heap.size w w' := by
 obtain ⟨⟨a1, n1, cap1, x1⟩, ⟨a2, cap2, x2⟩, ⟨a3, cap3, x3⟩, l1, l2⟩ := hc.shape
 obtain ⟨⟨b1, m1, bap1, y1⟩, ⟨b2, bap2, y2⟩, ⟨b3, bap3, y3⟩, l3, l4⟩ := hd.shape
 have hb2 := below2 w (.cells c.cs 30) (.cells d.cs 30)
 have K1 := fun (X : World) (hX : Below ((w.alloc (.cells c.cs 30)).alloc (.cells d.cs 30)).heap.size ((w.alloc (.cells c.cs 30)).alloc (.cells d.cs 30)) X) => cmpA_any c.head.1 d.head.1 c.head.2 d.head.2 X (hc.h.later (below_step hb2 hX)) (hd.h.later (below_step hb2 hX))
 have K2 := fun (X : World) (hX : Below ((w.alloc (.cells c.cs 30)).alloc (.cells d.cs 30)).heap.size ((w.alloc (.cells c.cs 30)).alloc (.cells d.cs 30)) X) => CLAtom_any c.body d.body c.bv d.bv X (hc.b.later (below_step hb2 hX)) (hd.b.later (below_step hb2 hX))
 have K3 := fun (X : World) (hX : Below ((w.alloc (.cells c.cs 30)).alloc (.cells d.cs 30)).heap.size ((w.alloc (.cells c.cs 30)).alloc (.cells d.cs 30)) X) => CLTest_any c.tests d.tests c.tv d.tv X (hc.t.later (below_step hb2 hX)) (hd.t.later (below_step hb2 hX))
 unfold Cm.cmp
 obtain ⟨r1, h1⟩ : ∃ r, c.head.1.cmp d.head.1 = r := ⟨_, rfl⟩
 obtain ⟨r2, h2⟩ : ∃ r, cmpGL cmpX c.body d.body = r := ⟨_, rfl⟩
 obtain ⟨r3, h3⟩ : ∃ r, cmpGL Te.cmp c.tests d.tests = r := ⟨_, rfl⟩
 simp only [h1, h2, h3] at K1 K2 K3 ⊢
 clear h1 h2 h3 hc hd hb2
 obtain ⟨⟨⟨⟨k, m, s⟩, nm, ls⟩, hx⟩, body, bv, tests, tv⟩ := c
 obtain ⟨⟨⟨⟨k', m', s'⟩, nm', ls'⟩, hx'⟩, body', bv', tests', tv'⟩ := d
 simp only at x1 x2 x3 y1 y2 y3 K1 K2 K3 l1 l2 l3 l4
 subst x1 x2 x3 y1 y2 y3
 by_cases q1 : r1 = 0
 ·subst q1
  by_cases q2 : r2 = 0
  ·subst q2
   simp only [ne_eq, not_true, if_false]
   go_enter Tryz.func71, Tryz.ntmps71
   go_wp2_with (first | (go_at_call 111; refine (K1 _ (Below.refl _ _)).mono ?_; clear K1; rintro e w1 ⟨rfl, hb⟩; have HB1 : Hid (Below _ _ w1) := hb; clear hb; obtain ⟨p0, p1, p2, p3, p4, p5, p6⟩ := cseven (two_boxes HB1.out).1; obtain ⟨q0, q1, q2, q3, q4, q5, q6⟩ := cseven (two_boxes HB1.out).2) | (go_at_call 112; refine (K2 _ HB1.out).mono ?_; clear K2; rintro e w2 ⟨rfl, hb⟩; have HB2 : Hid (Below _ _ w2) := (below_step HB1.out hb); clear hb; clear p0 p1 p2 p3 p4 p5 p6 q0 q1 q2 q3 q4 q5 q6; obtain ⟨p0, p1, p2, p3, p4, p5, p6⟩ := cseven (two_boxes HB2.out).1; obtain ⟨q0, q1, q2, q3, q4, q5, q6⟩ := cseven (two_boxes HB2.out).2) | (go_at_call 113; refine (K3 _ HB2.out).mono ?_; clear K3; rintro e w3 ⟨rfl, hb⟩; have HB3 : Hid (Below _ _ w3) := (below_step HB2.out hb); clear hb; clear p0 p1 p2 p3 p4 p5 p6 q0 q1 q2 q3 q4 q5 q6; obtain ⟨p0, p1, p2, p3, p4, p5, p6⟩ := cseven (two_boxes HB3.out).1; obtain ⟨q0, q1, q2, q3, q4, q5, q6⟩ := cseven (two_boxes HB3.out).2))
   go_ret
   exact ⟨rfl, below_step (below2 _ _ _) HB3.out⟩
  ·have n1 : (r2 == 0) = false := beq_eq_false_iff_ne.2 q2
   have n2 : (r2 != 0) = true := by rw [bne, n1]; rfl
   simp only [ne_eq, not_true, if_false, q2, not_false_eq_true, if_true]
   clear q2 K3
   go_enter Tryz.func71, Tryz.ntmps71
   go_wp2_with (first | (go_at_call 111; refine (K1 _ (Below.refl _ _)).mono ?_; clear K1; rintro e w1 ⟨rfl, hb⟩; have HB1 : Hid (Below _ _ w1) := hb; clear hb; obtain ⟨p0, p1, p2, p3, p4, p5, p6⟩ := cseven (two_boxes HB1.out).1; obtain ⟨q0, q1, q2, q3, q4, q5, q6⟩ := cseven (two_boxes HB1.out).2) | (go_at_call 112; refine (K2 _ HB1.out).mono ?_; clear K2; rintro e w2 ⟨rfl, hb⟩; have HB2 : Hid (Below _ _ w2) := (below_step HB1.out hb); clear hb; clear p0 p1 p2 p3 p4 p5 p6 q0 q1 q2 q3 q4 q5 q6; obtain ⟨p0, p1, p2, p3, p4, p5, p6⟩ := cseven (two_boxes HB2.out).1; obtain ⟨q0, q1, q2, q3, q4, q5, q6⟩ := cseven (two_boxes HB2.out).2))
   go_ret
   exact ⟨rfl, below_step (below2 _ _ _) HB2.out⟩
 ·have n1 : (r1 == 0) = false := beq_eq_false_iff_ne.2 q1
  have n2 : (r1 != 0) = true := by rw [bne, n1]; rfl
  rw [if_pos q1]
  clear q1 K2 K3
  go_enter Tryz.func71, Tryz.ntmps71
  go_wp2_with ((go_at_call 111; refine (K1 _ (Below.refl _ _)).mono ?_; clear K1; rintro e w1 ⟨rfl, hb⟩; have HB1 : Hid (Below _ _ w1) := hb; clear hb; obtain ⟨p0, p1, p2, p3, p4, p5, p6⟩ := cseven (two_boxes HB1.out).1; obtain ⟨q0, q1, q2, q3, q4, q5, q6⟩ := cseven (two_boxes HB1.out).2))
  go_ret
  exact ⟨rfl, below_step (below2 _ _ _) HB1.out⟩
def Cm.same (c d : Cm) : Bool := decide (c.head.1 = d.head.1) && (decide (fsts c.body = fsts d.body) && decide (c.tests = d.tests))
set_option maxRecDepth 20000 in
set_option maxHeartbeats 2000000 in
theorem sameC_any (c d : Cm) (w : World) (hc : c.ok w) (hd : d.ok w) : Calls Tryz.prog 9 #[c.v, d.v] w fun e w' => e = .returned (.bool (c.same d)) /\ Below w.heap.size w w' := by
 obtain ⟨⟨a1, n1, cap1, x1⟩, ⟨a2, cap2, x2⟩, ⟨a3, cap3, x3⟩, l1, l2⟩ := hc.shape
 obtain ⟨⟨b1, m1, bap1, y1⟩, ⟨b2, bap2, y2⟩, ⟨b3, bap3, y3⟩, l3, l4⟩ := hd.shape
 have hb2 := below2 w (.cells c.cs 30) (.cells d.cs 30)
 have K1 := fun (X : World) (hX : Below ((w.alloc (.cells c.cs 30)).alloc (.cells d.cs 30)).heap.size ((w.alloc (.cells c.cs 30)).alloc (.cells d.cs 30)) X) => sameAtom_any c.head.1 d.head.1 c.head.2 d.head.2 X (hc.h.later (below_step hb2 hX)) (hd.h.later (below_step hb2 hX))
 have K2 := fun (X : World) (hX : Below ((w.alloc (.cells c.cs 30)).alloc (.cells d.cs 30)).heap.size ((w.alloc (.cells c.cs 30)).alloc (.cells d.cs 30)) X) => sameAtoms_any c.body d.body c.bv d.bv X (hc.b.later (below_step hb2 hX)) (hd.b.later (below_step hb2 hX))
 have K3 := fun (X : World) (hX : Below ((w.alloc (.cells c.cs 30)).alloc (.cells d.cs 30)).heap.size ((w.alloc (.cells c.cs 30)).alloc (.cells d.cs 30)) X) => sameTests_any c.tests d.tests c.tv d.tv X (hc.t.later (below_step hb2 hX)) (hd.t.later (below_step hb2 hX))
 unfold Cm.same
 obtain ⟨r1, h1⟩ : ∃ r, decide (c.head.1 = d.head.1) = r := ⟨_, rfl⟩
 obtain ⟨r2, h2⟩ : ∃ r, decide (fsts c.body = fsts d.body) = r := ⟨_, rfl⟩
 obtain ⟨r3, h3⟩ : ∃ r, decide (c.tests = d.tests) = r := ⟨_, rfl⟩
 rw [h1, h2, h3]
 rw [h1] at K1
 rw [h2] at K2
 rw [h3] at K3
 clear h1 h2 h3 hc hd hb2
 obtain ⟨⟨⟨⟨k, m, s⟩, nm, ls⟩, hx⟩, body, bv, tests, tv⟩ := c
 obtain ⟨⟨⟨⟨k', m', s'⟩, nm', ls'⟩, hx'⟩, body', bv', tests', tv'⟩ := d
 simp only at x1 x2 x3 y1 y2 y3 K1 K2 K3 l1 l2 l3 l4
 subst x1 x2 x3 y1 y2 y3
 cases r1 with
 | true =>
  cases r2 with
  | true =>
   simp only [Bool.true_and]
   go_enter Tryz.func9, Tryz.ntmps9
   go_wp2_with (first | (go_at_call 33; refine (K1 _ (Below.refl _ _)).mono ?_; clear K1; rintro e w1 ⟨rfl, hb⟩; have HB1 : Hid (Below _ _ w1) := hb; clear hb; obtain ⟨p0, p1, p2, p3, p4, p5, p6⟩ := cseven (two_boxes HB1.out).1; obtain ⟨q0, q1, q2, q3, q4, q5, q6⟩ := cseven (two_boxes HB1.out).2) | (go_at_call 34; refine (K2 _ HB1.out).mono ?_; clear K2; rintro e w2 ⟨rfl, hb⟩; have HB2 : Hid (Below _ _ w2) := (below_step HB1.out hb); clear hb; clear p0 p1 p2 p3 p4 p5 p6 q0 q1 q2 q3 q4 q5 q6; obtain ⟨p0, p1, p2, p3, p4, p5, p6⟩ := cseven (two_boxes HB2.out).1; obtain ⟨q0, q1, q2, q3, q4, q5, q6⟩ := cseven (two_boxes HB2.out).2) | (go_at_call 35; refine (K3 _ HB2.out).mono ?_; clear K3; rintro e w3 ⟨rfl, hb⟩; have HB3 : Hid (Below _ _ w3) := (below_step HB2.out hb); clear hb; clear p0 p1 p2 p3 p4 p5 p6 q0 q1 q2 q3 q4 q5 q6; obtain ⟨p0, p1, p2, p3, p4, p5, p6⟩ := cseven (two_boxes HB3.out).1; obtain ⟨q0, q1, q2, q3, q4, q5, q6⟩ := cseven (two_boxes HB3.out).2))
   go_ret
   exact ⟨rfl, below_step (below2 _ _ _) HB3.out⟩
  | false =>
   simp only [Bool.true_and, Bool.false_and]
   clear K3
   go_enter Tryz.func9, Tryz.ntmps9
   go_wp2_with (first | (go_at_call 33; refine (K1 _ (Below.refl _ _)).mono ?_; clear K1; rintro e w1 ⟨rfl, hb⟩; have HB1 : Hid (Below _ _ w1) := hb; clear hb; obtain ⟨p0, p1, p2, p3, p4, p5, p6⟩ := cseven (two_boxes HB1.out).1; obtain ⟨q0, q1, q2, q3, q4, q5, q6⟩ := cseven (two_boxes HB1.out).2) | (go_at_call 34; refine (K2 _ HB1.out).mono ?_; clear K2; rintro e w2 ⟨rfl, hb⟩; have HB2 : Hid (Below _ _ w2) := (below_step HB1.out hb); clear hb; clear p0 p1 p2 p3 p4 p5 p6 q0 q1 q2 q3 q4 q5 q6; obtain ⟨p0, p1, p2, p3, p4, p5, p6⟩ := cseven (two_boxes HB2.out).1; obtain ⟨q0, q1, q2, q3, q4, q5, q6⟩ := cseven (two_boxes HB2.out).2))
   go_ret
   exact ⟨rfl, below_step (below2 _ _ _) HB2.out⟩
 | false =>
  simp only [Bool.false_and]
  clear K2 K3
  go_enter Tryz.func9, Tryz.ntmps9
  go_wp2_with ((go_at_call 33; refine (K1 _ (Below.refl _ _)).mono ?_; clear K1; rintro e w1 ⟨rfl, hb⟩; have HB1 : Hid (Below _ _ w1) := hb; clear hb; obtain ⟨p0, p1, p2, p3, p4, p5, p6⟩ := cseven (two_boxes HB1.out).1; obtain ⟨q0, q1, q2, q3, q4, q5, q6⟩ := cseven (two_boxes HB1.out).2))
  go_ret
  exact ⟨rfl, below_step (below2 _ _ _) HB1.out⟩
end Go.Proofs.YtelcoihmiglceaaGreat
namespace Go.Proofs.YtelcoihmiglceaaGreat

def cmpN {α : Type} (f : α -> α -> Int) : List α -> List α -> Int
 | x :: p, y :: q => if f x y ≠ 0 then f x y else cmpN f p q
 | _, _ => 0
theorem cmpN_ord {α : Type} {f : α -> α -> Int} (hf : Ord3 f) : ∀ n : Nat, (∀ a b : List α, a.length = n -> b.length = n -> (cmpN f a b = -1 ∨ cmpN f a b = 0 ∨ cmpN f a b = 1) /\ cmpN f b a = - cmpN f a b /\ (cmpN f a b = 0 -> a = b)) ∧
  (∀ a b c : List α, a.length = n -> b.length = n -> c.length = n -> cmpN f a b <= 0 -> cmpN f b c <= 0 -> cmpN f a c <= 0 /\ (cmpN f a b < 0 ∨ cmpN f b c < 0 -> cmpN f a c < 0))
 | 0 => by
  refine ⟨fun a b ha hb => ?_, fun a b c ha hb hc => ?_⟩
  ·rw [List.length_eq_zero_iff] at ha hb; subst ha hb; simp [cmpN]
  ·rw [List.length_eq_zero_iff] at ha hb hc; subst ha hb hc; simp [cmpN]
 | n + 1 => by
  have ih := cmpN_ord hf n
  refine ⟨fun a b ha hb => ?_, fun a b c ha hb hc => ?_⟩
  ·match a, b, ha, hb with
   | x :: a, y :: b, ha, hb =>
    have i := ih.1 a b (by simpa using ha) (by simpa using hb)
    have hn := hf.neg x y
    by_cases h : f x y = 0
    ·have e := hf.zero x y h
     simp only [cmpN]
     rw [if_neg (by omega), if_neg (by omega)]
     exact ⟨i.1, i.2.1, fun h' => by rw [e, i.2.2 h']⟩
    ·simp only [cmpN]
     rw [if_pos h, if_pos (by omega)]
     exact ⟨hf.rng x y, hn, fun h' => absurd h' h⟩
  ·match a, b, c, ha, hb, hc with
   | x :: a, y :: b, z :: c, ha, hb, hc =>
    have i := ih.2 a b c (by simpa using ha) (by simpa using hb) (by simpa using hc)
    have t := hf.tr x y z
    simp only [cmpN]
    by_cases h1 : f x y = 0
    ·have e1 := hf.zero _ _ h1
     rw [e1] at h1 ⊢
     by_cases h2 : f y z = 0
     ·simp only [h1, h2, ne_eq, not_true_eq_false, if_false]; exact i
     ·simp only [h1, h2, ne_eq, not_true_eq_false, not_false_eq_true, if_false, if_true]; intro _ h; exact ⟨h, fun _ => by omega⟩
    ·by_cases h2 : f y z = 0
     ·have e2 := hf.zero _ _ h2
      rw [<- e2] at h2 ⊢
      simp only [h1, h2, ne_eq, not_true_eq_false, not_false_eq_true, if_false, if_true]
      intro h _; exact ⟨h, fun _ => by omega⟩
     ·simp only [h1, h2, ne_eq, not_false_eq_true, if_true]
      intro h h'
      have := (t h h').2 (Or.inl (by omega))
      rw [if_pos (by omega)]
      exact ⟨by omega, fun _ => this⟩
def cmpNL {α : Type} (f : α -> α -> Int) (a b : List α) : Int := if M.sgI a.length b.length ≠ 0 then M.sgI a.length b.length else cmpN f a b
theorem cmpNL_ne {α : Type} (f : α -> α -> Int) (a b : List α) (h : a.length ≠ b.length) : cmpNL f a b = M.sgI a.length b.length := by
 unfold cmpNL; rw [if_pos (by rw [ne_eq, zI]; omega)]
theorem cmpNL_eq {α : Type} (f : α -> α -> Int) (a b : List α) (h : a.length = b.length) : cmpNL f a b = cmpN f a b := by
 unfold cmpNL; rw [if_neg (by rw [ne_eq, zI]; omega)]
theorem ord_nl {α : Type} {f : α -> α -> Int} (hf : Ord3 f) : Ord3 (cmpNL f) where
 rng a b := by
  by_cases h : a.length = b.length
  ·rw [cmpNL_eq f a b h]; exact ((cmpN_ord hf _).1 a b rfl h.symm).1
  ·rw [cmpNL_ne f a b h]; exact ord_sgI.rng _ _
 neg a b := by
  by_cases h : a.length = b.length
  ·rw [cmpNL_eq f a b h, cmpNL_eq f b a h.symm]; exact ((cmpN_ord hf _).1 a b rfl h.symm).2.1
  ·rw [cmpNL_ne f a b h, cmpNL_ne f b a (Ne.symm h)]; exact ord_sgI.neg _ _
 zero a b := by
  by_cases h : a.length = b.length
  ·rw [cmpNL_eq f a b h]; exact ((cmpN_ord hf _).1 a b rfl h.symm).2.2
  ·rw [cmpNL_ne f a b h, zI]; omega
 refl a := by
  rw [cmpNL_eq f a a rfl]
  have h := ((cmpN_ord hf _).1 a a rfl rfl).2.1
  omega
 tr a b c := by
  have t := ord_sgI.tr a.length b.length c.length
  have z1 := zI a.length b.length
  have z2 := zI b.length c.length
  have z3 := zI a.length c.length
  by_cases h1 : a.length = b.length
  ·by_cases h2 : b.length = c.length
   ·rw [cmpNL_eq f a b h1, cmpNL_eq f b c h2, cmpNL_eq f a c (h1.trans h2)]
    exact (cmpN_ord hf _).2 a b c rfl h1.symm (h1.trans h2).symm
   ·rw [cmpNL_eq f a b h1, cmpNL_ne f b c h2, cmpNL_ne f a c (by omega), h1]
    intro _ h; exact ⟨h, fun _ => by omega⟩
  ·by_cases h2 : b.length = c.length
   ·rw [cmpNL_ne f a b h1, cmpNL_eq f b c h2, cmpNL_ne f a c (by omega), <- h2]
    intro h _; exact ⟨h, fun _ => by omega⟩
   ·rw [cmpNL_ne f a b h1, cmpNL_ne f b c h2]
    intro h h'
    have := (t h h').2 (Or.inl (by omega))
    rw [cmpNL_ne f a c (by omega)]
    exact ⟨by omega, fun _ => this⟩

theorem cmpG_N {α : Type} (f : α -> α -> Int) : ∀ p q : List α, cmpG f p q = cmpN f p q
 | [], _ => rfl
 | _ :: _, [] => rfl
 | x :: p, y :: q => by
  simp only [cmpG, cmpN]
  by_cases h : f x y = 0
  ·rw [if_pos h, if_neg (by omega), cmpG_N f p q]
  ·rw [if_neg h, if_pos h]
theorem cmpG_X : ∀ p q : List (At × Value), cmpG cmpX p q = cmpG At.cmp (fsts p) (fsts q)
 | [], _ => by simp [fsts, cmpG]
 | _ :: _, [] => by simp [fsts, cmpG]
 | x :: p, y :: q => by
  show (if x.1.cmp y.1 = 0 then cmpG cmpX p q else x.1.cmp y.1) = if x.1.cmp y.1 = 0 then cmpG At.cmp (fsts p) (fsts q) else x.1.cmp y.1
  rw [cmpG_X p q]
theorem cmpGL_N {α : Type} (f : α -> α -> Int) (p q : List α) : cmpGL f p q = cmpNL f p q := by
 unfold cmpGL
 by_cases h : p.length = q.length
 ·rw [if_pos h, cmpNL_eq f _ _ h, cmpG_N]
 ·rw [if_neg h, cmpNL_ne f _ _ h]
theorem cmpGL_X (p q : List (At × Value)) : cmpGL cmpX p q = cmpNL At.cmp (fsts p) (fsts q) := by
 rw [<- cmpGL_N]
 unfold cmpGL
 rw [cmpG_X]
 simp [fsts]
theorem ord_te : Ord3 Te.cmp := by
 have h1 := Ord3.lex (γ := Tm × Tm) ord_tm ord_tm (fun x => x.1) (fun x => x.2) (fun x y h h' => Prod.ext h h')
 have h2 := Ord3.lex (γ := Te) ord_sgI h1 (fun x => x.op) (fun x => (x.l, x.r)) (fun x y h h' => by
  obtain ⟨o, l, r⟩ := x
  obtain ⟨o', l', r'⟩ := y
  simp only [Prod.mk.injEq] at h h'
  rw [h, h'.1, h'.2])
 exact h2
def Cm.key (c : Cm) : At × List At × List Te := (c.head.1, fsts c.body, c.tests)
def cmpC (x y : At × List At × List Te) : Int := if x.1.cmp y.1 ≠ 0 then x.1.cmp y.1 else if cmpNL At.cmp x.2.1 y.2.1 ≠ 0 then cmpNL At.cmp x.2.1 y.2.1 else cmpNL Te.cmp x.2.2 y.2.2
theorem ord_c : Ord3 cmpC := by
 have h1 := Ord3.lex (γ := List At × List Te) (ord_nl ord_at) (ord_nl ord_te) (fun x => x.1) (fun x => x.2) (fun x y h h' => Prod.ext h h')
 exact Ord3.lex (γ := At × List At × List Te) ord_at h1 (fun x => x.1) (fun x => x.2) (fun x y h h' => Prod.ext h h')
theorem cmp_key (c d : Cm) : c.cmp d = cmpC c.key d.key := by
 unfold Cm.cmp cmpC Cm.key
 rw [cmpGL_X, cmpGL_N]
theorem same_key (c d : Cm) : c.same d = decide (c.key = d.key) := by
 unfold Cm.same Cm.key
 rw [Bool.eq_iff_iff]
 simp
end Go.Proofs.YtelcoihmiglceaaGreat
