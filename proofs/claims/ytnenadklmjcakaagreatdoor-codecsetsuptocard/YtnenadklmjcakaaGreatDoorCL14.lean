import Derived.Test.YtnenadklmjcakaaGreatDoorCL1
import Derived.Test.YtnenadklmjcakaaGreatDoorM2
import Derived.Test.YtnenadklmjcakaaGreatDoorB7
import Derived.Deep.RegionHeld3
import Derived.BigQuiet
namespace Go.Proofs.YtnenadklmjcakaaGreatDoor
open Go.RowKit

def cmpG {α : Type} (f : α -> α -> Int) : List α -> List α -> Int
 | x :: p, y :: q => if f x y = 0 then cmpG f p q else f x y
 | _, _ => 0
def cmpGL {α : Type} (f : α -> α -> Int) (p q : List α) : Int := if p.length = q.length then cmpG f p q else M.sgI p.length q.length
theorem cmpG_eq {α : Type} {f : α -> α -> Int} {p q : List α} {j : Nat} {x y : α} (hx : p[j]? = some x) (hy : q[j]? = some y) (h : f x y = 0) : cmpG f (p.drop j) (q.drop j) = cmpG f (p.drop (j + 1)) (q.drop (j + 1)) := by
 obtain ⟨h1, rfl⟩ := List.getElem?_eq_some_iff.1 hx
 obtain ⟨h2, rfl⟩ := List.getElem?_eq_some_iff.1 hy
 rw [List.drop_eq_getElem_cons h1, List.drop_eq_getElem_cons h2, cmpG, if_pos h]
theorem cmpG_ne {α : Type} {f : α -> α -> Int} {p q : List α} {j : Nat} {x y : α} (hx : p[j]? = some x) (hy : q[j]? = some y) (h : ¬ f x y = 0) : cmpG f (p.drop j) (q.drop j) = f x y := by
 obtain ⟨h1, rfl⟩ := List.getElem?_eq_some_iff.1 hx
 obtain ⟨h2, rfl⟩ := List.getElem?_eq_some_iff.1 hy
 rw [List.drop_eq_getElem_cons h1, List.drop_eq_getElem_cons h2, cmpG, if_neg h]
theorem two_boxes {w w1 : World} {c d : Array Value} {t u : TypeId} (hb : Below ((w.alloc (.cells c t)).alloc (.cells d u)).heap.size ((w.alloc (.cells c t)).alloc (.cells d u)) w1) : CBlk w1 w.heap.size c t /\ CBlk w1 (w.heap.size + 1) d u := by
 have h1 := ((CBlk.new w c t).later (below1 _ (.cells d u))).later hb
 have h2 := (CBlk.new (w.alloc (.cells c t)) d u).later hb
 rw [show (w.alloc (.cells c t)).heap.size = w.heap.size + 1 by simp] at h2
 exact ⟨h1, h2⟩
def cmpX (x y : At × Value) : Int := x.1.cmp y.1
def Te.cmp (t u : Te) : Int := if M.sgI t.op u.op ≠ 0 then M.sgI t.op u.op else if t.l.cmp u.l ≠ 0 then t.l.cmp u.l else t.r.cmp u.r
theorem sgI_zero {a b : Int} : M.sgI a b = 0 ↔ a = b := by
 unfold M.sgI
 constructor
 ·intro h; split at h
  ·omega
  ·split at h <;> omega
 ·rintro rfl; simp
set_option maxHeartbeats 2000000 in
theorem cmpT_any (t u : Te) (w : World) : Calls Tryz.prog 112 #[t.v, u.v] w fun e w' => e = .returned (.int .i64 (t.cmp u)) /\ Below w.heap.size w w' := by
 have cl := fun X => compare_any t.l u.l X
 have cr := fun X => compare_any t.r u.r X
 obtain ⟨R, hR⟩ : ∃ R, t.cmp u = R := ⟨_, rfl⟩
 have HR : Hid (t.cmp u = R) := hR
 unfold Te.cmp at hR
 rw [show t.cmp u = R from HR.out]
 obtain ⟨rl, hrl⟩ : ∃ r, t.l.cmp u.l = r := ⟨_, rfl⟩
 obtain ⟨rr, hrr⟩ : ∃ r, t.r.cmp u.r = r := ⟨_, rfl⟩
 rw [hrl, hrr] at hR
 simp only [hrl] at cl
 simp only [hrr] at cr
 clear HR hrl hrr
 obtain ⟨op, ⟨kl, ml, sl⟩, ⟨kr, mr, sr⟩⟩ := t
 obtain ⟨oq, ⟨kp, mp, sp⟩, ⟨kq, mq, sq⟩⟩ := u
 simp only at cl cr hR
 by_cases q0 : op = oq
 ·have hz : M.sgI op oq = 0 := sgI_zero.2 q0
  rw [hz] at hR
  simp only [ne_eq, not_true, if_false] at hR
  subst q0
  by_cases q1 : rl = 0
  ·subst q1
   simp only [not_true, if_false] at hR
   subst hR
   clear hz
   go_enter Tryz.func112, Tryz.ntmps112
   go_wp2_with (first
    | (go_at_call 151; refine (cl _).mono ?_; clear cl; rintro e w1 ⟨rfl, hb1⟩; obtain ⟨y0, y1, y2, y3, y4, y5, y6⟩ := cseven (two_boxes hb1).1; obtain ⟨z0, z1, z2, z3, z4, z5, z6⟩ := cseven (two_boxes hb1).2; have HB1 : Hid (Below _ _ _) := hb1; clear hb1)
    | (go_at_call 151; refine (cr _).mono ?_; clear cr; rintro e w2 ⟨rfl, hb2⟩))
   go_ret
   exact ⟨rfl, below_step (below_step (below2 _ _ _) HB1.out) hb2⟩
  ·have n1 : (rl == 0) = false := beq_eq_false_iff_ne.2 q1
   have n2 : (rl != 0) = true := by rw [bne, n1]; rfl
   rw [if_pos q1] at hR
   subst hR
   clear hz q1
   go_enter Tryz.func112, Tryz.ntmps112
   go_wp2_with (go_at_call 151; refine (cl _).mono ?_; clear cl; rintro e w1 ⟨rfl, hb1⟩)
   go_ret
   exact ⟨rfl, below_step (below2 _ _ _) hb1⟩
 ·have hz : ¬ M.sgI op oq = 0 := fun h => q0 (sgI_zero.1 h)
  rw [if_pos hz] at hR
  have HRR : Hid (M.sgI op oq = R) := hR
  have n1 : (op == oq) = false := beq_eq_false_iff_ne.2 q0
  have n2 : (op != oq) = true := by rw [bne, n1]; rfl
  clear hR hz q0
  go_enter Tryz.func112, Tryz.ntmps112
  go_wp2_with (go_at_call 149; refine (cmpI_any _ _ _).mono ?_; rintro e w1 ⟨rfl, rfl⟩)
  go_ret
  exact ⟨ret_i HRR.out, below2 _ _ _⟩

set_option maxRecDepth 20000 in
set_option maxHeartbeats 2000000 in
theorem CFAtom_any (p q : List (At × Value)) (u v : Value) (w : World) (hu : As w u p) (hv : As w v q) (hl : p.length = q.length) :
  Calls Tryz.prog 153 #[u, v, .func (.func 109) #[] #[]] w fun e w' => e = .returned (.int .i64 (cmpG cmpX p q)) /\ Below w.heap.size w w' := by
 have HU : Hid (As w u p) := hu
 have HV : Hid (As w v q) := hv
 obtain ⟨ua, uc, rfl, hul, hum, hxs⟩ := hu
 obtain ⟨va, vc, rfl, -, hvm, hys⟩ := hv
 have HLL : Hid (p.length = q.length) := hl
 obtain ⟨R, hR⟩ : ∃ R, cmpG cmpX p q = R := ⟨_, rfl⟩
 have HR : Hid (cmpG cmpX p q = R) := hR
 rw [hR, <- hl]
 clear hR hum hvm hl
 go_enter Tryz.func153, Tryz.ntmps153
 go_wp2
 go_loopg [13] p.length (fun g i wr => ∃ j : Nat, j + g = p.length /\ i = .int .i64 (j : Int) /\ cmpG cmpX (p.drop j) (q.drop j) = R /\ Below w.heap.size w wr)
 case atStart => exact ⟨0, by omega, rfl, HR.out, Below.refl _ _⟩
 case round =>
  obtain ⟨j, hj, rfl, hr, hbr⟩ := hrel
  have HRj : Hid (cmpG cmpX (p.drop j) (q.drop j) = R) := hr
  have HBr : Hid (Below w.heap.size w wr) := hbr
  cases gk with
  | succ g =>
   have hlt : j < p.length := by omega
   have i0 : (0 : Int) <= (j : Int) := by omega
   have i1 : (j : Int) < (p.length : Int) := by omega
   have i2 : ¬ ((p.length : Int) <= (j : Int)) := by omega
   obtain ⟨x, hx⟩ : ∃ x, p[j]? = some x := ⟨_, List.getElem?_eq_getElem hlt⟩
   obtain ⟨y, hy⟩ : ∃ y, q[j]? = some y := ⟨_, List.getElem?_eq_getElem (by rw [<- HLL.out]; exact hlt)⟩
   obtain ⟨a1, cap1, hv, -, hm, hts⟩ :=  HU.out.later hbr
   simp only [Value.slice.injEq, true_and] at hv
   obtain ⟨rfl, rfl⟩ := hv
   rcases hm with hm | ⟨b, o, rfl, hm⟩
   ·rw [hm] at hlt; simp at hlt
   obtain ⟨e0, e1, e2, e3, e4⟩ := hm.2 j x hx
   clear hm
   obtain ⟨a1, cap1, hv, -, hm, hts⟩ :=  HV.out.later hbr
   simp only [Value.slice.injEq] at hv
   obtain ⟨rfl, -, rfl⟩ := hv
   rcases hm with hm | ⟨b', o', rfl, hm⟩
   ·rw [hm] at hy; simp at hy
   obtain ⟨d0, d1, d2, d3, d4⟩ := hm.2 j y hy
   have hz2 := hm.1
   clear hm
   have hc := fun (X : World) (hX : Below w.heap.size w X) => cmpA_any x.1 y.1 x.2 y.2 X ((hxs x (List.mem_of_getElem? hx)).later hX) ((hys y (List.mem_of_getElem? hy)).later hX)
   obtain ⟨ax, cx, hax, -⟩ := hxs x (List.mem_of_getElem? hx)
   obtain ⟨ay, cy, hay, -⟩ := hys y (List.mem_of_getElem? hy)
   have HX : Hid (p[j]? = some x) := hx
   have HY : Hid (q[j]? = some y) := hy
   obtain ⟨r, hrr⟩ : ∃ r, cmpX x y = r := ⟨_, rfl⟩
   have HRR : Hid (cmpX x y = r) := hrr
   have hrr' : At.cmp x.1 y.1 = r := hrr
   simp only [hrr'] at hc
   clear hx hy hr hbr hrr hrr'
   obtain ⟨⟨⟨kx, mx, sx⟩, nx, lx⟩, vx⟩ := x
   obtain ⟨⟨⟨ky, my, sy⟩, ny, ly⟩, vy⟩ := y
   simp only at hax hay
   subst hax hay
   simp only at e0 e1 e2 e3 e4 d0 d1 d2 d3 d4 hc
   by_cases q0 : r = 0
   ·subst q0
    go_wp2_with (go_at_call 109; refine (hc _ (below_step (below_step HBr.out (below1 _ _)) (below1 _ _))).mono ?_; clear hc; rintro e w1 ⟨rfl, hb1⟩; have HB1 : Hid (Below _ _ _) := hb1; clear hb1)
    go_roundg g
    case measure => omega
    case rel => exact ⟨j + 1, by omega, by go_num, by rw [<- HRj.out, cmpG_eq HX.out HY.out HRR.out], below_step (below_step (below_step HBr.out (below1 _ _)) (below1 _ _)) HB1.out⟩
   ·have n1 : (r == 0) = false := beq_eq_false_iff_ne.2 q0
    have n2 : (r != 0) = true := by rw [bne, n1]; rfl
    have HQ : Hid (¬ r = 0) := q0
    clear q0
    go_wp2_with (go_at_call 109; refine (hc _ (below_step (below_step HBr.out (below1 _ _)) (below1 _ _))).mono ?_; clear hc; rintro e w1 ⟨rfl, hb1⟩; have HB1 : Hid (Below _ _ _) := hb1; clear hb1)
    go_ret
    exact ⟨ret_i (by rw [<- HRj.out, cmpG_ne HX.out HY.out (by rw [HRR.out]; exact HQ.out), HRR.out]), below_step (below_step (below_step HBr.out (below1 _ _)) (below1 _ _)) HB1.out⟩
  | zero =>
   obtain rfl : j = p.length := by omega
   have hz : ¬ ((p.length : Int) < (p.length : Int)) := by omega
   clear hr hbr
   go_wp2
   go_ret
   refine ⟨ret_i ?_, HBr.out⟩
   rw [<- HRj.out, List.drop_length, HLL.out, List.drop_length]; rfl
theorem CLAtom_any (p q : List (At × Value)) (u v : Value) (w : World) (hu : As w u p) (hv : As w v q) :
  Calls Tryz.prog 110 #[u, v, .func (.func 109) #[] #[]] w fun e w' => e = .returned (.int .i64 (cmpGL cmpX p q)) /\ Below w.heap.size w w' := by
 have hcf := fun (hl : p.length = q.length) => CFAtom_any p q u v w hu hv hl
 obtain ⟨ua, uc, rfl, hul, -⟩ := hu
 obtain ⟨va, vc, rfl, hvl, -⟩ := hv
 by_cases hl : p.length = q.length
 ·have e : cmpGL cmpX p q = cmpG cmpX p q := by unfold cmpGL; rw [if_pos hl]
  have hc := hcf hl
  rw [e]
  clear hcf e
  obtain ⟨R, hR⟩ : ∃ R, cmpG cmpX p q = R := ⟨_, rfl⟩
  rw [hR] at hc ⊢
  clear hR
  have hl' : q.length = p.length := hl.symm
  rw [hl'] at hc ⊢
  clear hl hl'
  have n1 : ((p.length : Int) != (p.length : Int)) = false := by simp
  go_enter Tryz.func110, Tryz.ntmps110
  go_wp2_with (go_at_call 153; refine hc.mono ?_; rintro e w1 ⟨rfl, hb1⟩)
  go_ret
  exact ⟨rfl, hb1⟩
 ·have e : cmpGL cmpX p q = M.sgI p.length q.length := by unfold cmpGL; rw [if_neg hl]
  rw [e]
  clear hcf e
  obtain ⟨A, hA⟩ : ∃ A : Nat, p.length = A := ⟨_, rfl⟩
  obtain ⟨B, hB⟩ : ∃ B : Nat, q.length = B := ⟨_, rfl⟩
  rw [hA, hB] at hl ⊢
  have n1 : ((A : Int) != (B : Int)) = true := by simp only [bne_iff_ne, ne_eq]; omega
  have n2 : ((A : Int) == (B : Int)) = false := beq_eq_false_iff_ne.2 (by omega)
  have n3 : ¬ ((A : Int) = (B : Int)) := by omega
  clear hA hB hl
  go_enter Tryz.func110, Tryz.ntmps110
  go_wp2_with (go_at_call 149; refine (cmpI_any _ _ _).mono ?_; rintro e w1 ⟨rfl, rfl⟩)
  go_ret
  exact ⟨rfl, Below.refl _ _⟩

set_option maxRecDepth 20000 in
set_option maxHeartbeats 2000000 in
theorem CFTest_any (p q : List (Te)) (u v : Value) (w : World) (hu : Es w u p) (hv : Es w v q) (hl : p.length = q.length) :
  Calls Tryz.prog 154 #[u, v, .func (.func 112) #[] #[]] w fun e w' => e = .returned (.int .i64 (cmpG Te.cmp p q)) /\ Below w.heap.size w w' := by
 have HU : Hid (Es w u p) := hu
 have HV : Hid (Es w v q) := hv
 obtain ⟨ua, uc, rfl, hul, hum⟩ := hu
 obtain ⟨va, vc, rfl, -, hvm⟩ := hv
 have HLL : Hid (p.length = q.length) := hl
 obtain ⟨R, hR⟩ : ∃ R, cmpG Te.cmp p q = R := ⟨_, rfl⟩
 have HR : Hid (cmpG Te.cmp p q = R) := hR
 rw [hR, <- hl]
 clear hR hum hvm hl
 go_enter Tryz.func154, Tryz.ntmps154
 go_wp2
 go_loopg [13] p.length (fun g i wr => ∃ j : Nat, j + g = p.length /\ i = .int .i64 (j : Int) /\ cmpG Te.cmp (p.drop j) (q.drop j) = R /\ Below w.heap.size w wr)
 case atStart => exact ⟨0, by omega, rfl, HR.out, Below.refl _ _⟩
 case round =>
  obtain ⟨j, hj, rfl, hr, hbr⟩ := hrel
  have HRj : Hid (cmpG Te.cmp (p.drop j) (q.drop j) = R) := hr
  have HBr : Hid (Below w.heap.size w wr) := hbr
  cases gk with
  | succ g =>
   have hlt : j < p.length := by omega
   have i0 : (0 : Int) <= (j : Int) := by omega
   have i1 : (j : Int) < (p.length : Int) := by omega
   have i2 : ¬ ((p.length : Int) <= (j : Int)) := by omega
   obtain ⟨x, hx⟩ : ∃ x, p[j]? = some x := ⟨_, List.getElem?_eq_getElem hlt⟩
   obtain ⟨y, hy⟩ : ∃ y, q[j]? = some y := ⟨_, List.getElem?_eq_getElem (by rw [<- HLL.out]; exact hlt)⟩
   obtain ⟨a1, cap1, hv, -, hm⟩ :=  HU.out.later hbr
   simp only [Value.slice.injEq, true_and] at hv
   obtain ⟨rfl, rfl⟩ := hv
   rcases hm with hm | ⟨b, o, rfl, hm⟩
   ·rw [hm] at hlt; simp at hlt
   obtain ⟨e0, e1, e2, e3, e4, e5, e6⟩ := hm.2 j x hx
   clear hm
   obtain ⟨a1, cap1, hv, -, hm⟩ :=  HV.out.later hbr
   simp only [Value.slice.injEq] at hv
   obtain ⟨rfl, -, rfl⟩ := hv
   rcases hm with hm | ⟨b', o', rfl, hm⟩
   ·rw [hm] at hy; simp at hy
   obtain ⟨d0, d1, d2, d3, d4, d5, d6⟩ := hm.2 j y hy
   have hz2 := hm.1
   clear hm
   have hc := fun (X : World) (_ : Below w.heap.size w X) => cmpT_any x y X
   have HX : Hid (p[j]? = some x) := hx
   have HY : Hid (q[j]? = some y) := hy
   obtain ⟨r, hrr⟩ : ∃ r, Te.cmp x y = r := ⟨_, rfl⟩
   have HRR : Hid (Te.cmp x y = r) := hrr
   have hrr' : Te.cmp x y = r := hrr
   simp only [hrr'] at hc
   clear hx hy hr hbr hrr hrr'
   obtain ⟨op, ⟨kl, ml, sl⟩, ⟨kr, mr, sr⟩⟩ := x
   obtain ⟨oq, ⟨kp, mp, sp⟩, ⟨kq, mq, sq⟩⟩ := y
   simp only at e0 e1 e2 e3 e4 e5 e6 d0 d1 d2 d3 d4 d5 d6 hc
   by_cases q0 : r = 0
   ·subst q0
    go_wp2_with (go_at_call 112; refine (hc _ (below_step (below_step HBr.out (below1 _ _)) (below1 _ _))).mono ?_; clear hc; rintro e w1 ⟨rfl, hb1⟩; have HB1 : Hid (Below _ _ _) := hb1; clear hb1)
    go_roundg g
    case measure => omega
    case rel => exact ⟨j + 1, by omega, by go_num, by rw [<- HRj.out, cmpG_eq HX.out HY.out HRR.out], below_step (below_step (below_step HBr.out (below1 _ _)) (below1 _ _)) HB1.out⟩
   ·have n1 : (r == 0) = false := beq_eq_false_iff_ne.2 q0
    have n2 : (r != 0) = true := by rw [bne, n1]; rfl
    have HQ : Hid (¬ r = 0) := q0
    clear q0
    go_wp2_with (go_at_call 112; refine (hc _ (below_step (below_step HBr.out (below1 _ _)) (below1 _ _))).mono ?_; clear hc; rintro e w1 ⟨rfl, hb1⟩; have HB1 : Hid (Below _ _ _) := hb1; clear hb1)
    go_ret
    exact ⟨ret_i (by rw [<- HRj.out, cmpG_ne HX.out HY.out (by rw [HRR.out]; exact HQ.out), HRR.out]), below_step (below_step (below_step HBr.out (below1 _ _)) (below1 _ _)) HB1.out⟩
  | zero =>
   obtain rfl : j = p.length := by omega
   have hz : ¬ ((p.length : Int) < (p.length : Int)) := by omega
   clear hr hbr
   go_wp2
   go_ret
   refine ⟨ret_i ?_, HBr.out⟩
   rw [<- HRj.out, List.drop_length, HLL.out, List.drop_length]; rfl
theorem CLTest_any (p q : List (Te)) (u v : Value) (w : World) (hu : Es w u p) (hv : Es w v q) :
  Calls Tryz.prog 111 #[u, v, .func (.func 112) #[] #[]] w fun e w' => e = .returned (.int .i64 (cmpGL Te.cmp p q)) /\ Below w.heap.size w w' := by
 have hcf := fun (hl : p.length = q.length) => CFTest_any p q u v w hu hv hl
 obtain ⟨ua, uc, rfl, hul, -⟩ := hu
 obtain ⟨va, vc, rfl, hvl, -⟩ := hv
 by_cases hl : p.length = q.length
 ·have e : cmpGL Te.cmp p q = cmpG Te.cmp p q := by unfold cmpGL; rw [if_pos hl]
  have hc := hcf hl
  rw [e]
  clear hcf e
  obtain ⟨R, hR⟩ : ∃ R, cmpG Te.cmp p q = R := ⟨_, rfl⟩
  rw [hR] at hc ⊢
  clear hR
  have hl' : q.length = p.length := hl.symm
  rw [hl'] at hc ⊢
  clear hl hl'
  have n1 : ((p.length : Int) != (p.length : Int)) = false := by simp
  go_enter Tryz.func111, Tryz.ntmps111
  go_wp2_with (go_at_call 154; refine hc.mono ?_; rintro e w1 ⟨rfl, hb1⟩)
  go_ret
  exact ⟨rfl, hb1⟩
 ·have e : cmpGL Te.cmp p q = M.sgI p.length q.length := by unfold cmpGL; rw [if_neg hl]
  rw [e]
  clear hcf e
  obtain ⟨A, hA⟩ : ∃ A : Nat, p.length = A := ⟨_, rfl⟩
  obtain ⟨B, hB⟩ : ∃ B : Nat, q.length = B := ⟨_, rfl⟩
  rw [hA, hB] at hl ⊢
  have n1 : ((A : Int) != (B : Int)) = true := by simp only [bne_iff_ne, ne_eq]; omega
  have n2 : ((A : Int) == (B : Int)) = false := beq_eq_false_iff_ne.2 (by omega)
  have n3 : ¬ ((A : Int) = (B : Int)) := by omega
  clear hA hB hl
  go_enter Tryz.func111, Tryz.ntmps111
  go_wp2_with (go_at_call 149; refine (cmpI_any _ _ _).mono ?_; rintro e w1 ⟨rfl, rfl⟩)
  go_ret
  exact ⟨rfl, Below.refl _ _⟩
end Go.Proofs.YtnenadklmjcakaaGreatDoor
namespace Go.Proofs.YtnenadklmjcakaaGreatDoor
open Go.RowKit
attribute [local go_sem ↓] Go.wp_at_zero Go.wp_at_succ

theorem drop_eq_step (a b : List Tm) (i : Nat) (t u : Tm) (ht : a[i]? = some t) (hu : b[i]? = some u) : (a.drop i = b.drop i) ↔ (t = u /\ a.drop (i + 1) = b.drop (i + 1)) := by
 obtain ⟨h1, rfl⟩ := List.getElem?_eq_some_iff.1 ht
 obtain ⟨h2, rfl⟩ := List.getElem?_eq_some_iff.1 hu
 rw [List.drop_eq_getElem_cons h1, List.drop_eq_getElem_cons h2, List.cons.injEq]
instance : DecidableEq At := fun a b => decidable_of_iff (a.by_ = b.by_ /\ a.name = b.name /\ a.args = b.args) (by cases a; cases b; simp)
end Go.Proofs.YtnenadklmjcakaaGreatDoor
namespace Go.Proofs.YtnenadklmjcakaaGreatDoor
open Go.RowKit
attribute [local go_sem ↓] Go.wp_at_zero Go.wp_at_succ

set_option maxHeartbeats 1000000 in
theorem sameTerms_any (a b : List Tm) (x y : Value) (w : World) (h : Ts w x a) (h' : Ts w y b) :
  Calls Tryz.prog 100 #[x, y] w fun e w' => e = .returned (.bool (decide (a = b))) /\ Below w.heap.size w w' := by
 obtain ⟨ad, cap, rfl, hl, h⟩ := h
 obtain ⟨ad', cap', rfl, hl', h'⟩ := h'
 by_cases e2 : a.length = b.length
 ·have hq2 : ((a.length : Int) == (b.length : Int)) = true := by simp; omega
  have E2 : Hid (a.length = b.length) := e2
  clear e2
  go_enter Tryz.func100, Tryz.ntmps100
  go_wp2
  go_loopg [5] a.length (fun g i wr => ∃ j : Nat, j + g = a.length /\ i = .int .i64 j /\ (a = b ↔ a.drop j = b.drop j) /\ Below w.heap.size w wr)
  case atStart => exact ⟨0, by omega, rfl, by simp, Below.refl _ _⟩
  case round =>
   obtain ⟨j, hj, rfl, hgo, hb⟩ := hrel
   have HG : Hid (a = b ↔ a.drop j = b.drop j) := hgo
   clear hgo
   cases gk with
   | succ g =>
    have hlt : (j : Int) < (a.length : Int) := by omega
    have hlt' : (j : Int) < (b.length : Int) := by have := E2.out; omega
    have j0 : (0 : Int) <= (j : Int) := by omega
    obtain ⟨t, ht⟩ : ∃ t, a[j]? = some t := ⟨_, List.getElem?_eq_getElem (by omega)⟩
    obtain ⟨u, hu⟩ : ∃ u, b[j]? = some u := ⟨_, List.getElem?_eq_getElem (by omega)⟩
    have HS : Hid ((a = b) ↔ (t = u /\ a.drop (j + 1) = b.drop (j + 1))) := HG.out.trans (drop_eq_step a b j t u ht hu)
    rcases h with h | ⟨b1, o1, rfl, hb1, h⟩
    ·subst h; simp at hj
    rcases h' with h' | ⟨b2, o2, rfl, hb2, h'⟩
    ·subst h'; simp at hu
    obtain ⟨p0, p1, p2⟩ := h j t ht
    obtain ⟨q0, q1, q2⟩ := h' j u hu
    rw [<- hb.cell (p := ⟨b1, _, none⟩) hb1] at p0 p1 p2
    rw [<- hb.cell (p := ⟨b2, _, none⟩) hb2] at q0 q1 q2
    have he := run_neq_tm t u
    clear h h' ht hu
    obtain ⟨tk, tn, ts⟩ := t
    obtain ⟨uk, un, us⟩ := u
    simp only at p0 p1 p2 q0 q1 q2
    by_cases htu : Tm.mk tk tn ts = ⟨uk, un, us⟩
    ·have HS2 : Hid (a = b ↔ a.drop (j + 1) = b.drop (j + 1)) := by
      have := HS.out; show a = b ↔ _; simpa [htu] using this
     rw [decide_eq_true htu] at he
     clear htu
     go_wp2
     go_quiet (fail)
     go_wp2
     go_roundg g
     case measure => omega
     case rel => exact ⟨j + 1, by omega, by go_num, HS2.out, below_drewN hb _⟩
    ·have HS2 : Hid (decide (a = b) = false) := decide_eq_false fun e => htu (HS.out.1 e).1
     rw [decide_eq_false htu] at he
     clear htu
     go_wp2
     go_quiet (fail)
     go_wp2
     go_ret
     exact ⟨ret_b HS2.out.symm, below_drewN hb _⟩
   | zero =>
    have hlt : ¬ (j : Int) < (a.length : Int) := by omega
    have HS2 : Hid (decide (a = b) = true) := decide_eq_true (HG.out.2 (by rw [List.drop_eq_nil_of_le (by omega), List.drop_eq_nil_of_le (by have := E2.out; omega)]))
    clear hj h h'
    go_wp2
    go_ret
    exact ⟨ret_b HS2.out.symm, hb⟩
 ·have hq2 : ((a.length : Int) == (b.length : Int)) = false := by simp; omega
  have HS2 : Hid (decide (a = b) = false) := decide_eq_false fun e => e2 (by rw [e])
  clear e2 h h'
  go_enter Tryz.func100, Tryz.ntmps100
  go_wp2
  go_ret
  exact ⟨ret_b HS2.out.symm, Below.refl _ _⟩

theorem drop_eq_stepE (a b : List Te) (i : Nat) (t u : Te) (ht : a[i]? = some t) (hu : b[i]? = some u) : (a.drop i = b.drop i) ↔ (t = u /\ a.drop (i + 1) = b.drop (i + 1)) := by
 obtain ⟨h1, rfl⟩ := List.getElem?_eq_some_iff.1 ht
 obtain ⟨h2, rfl⟩ := List.getElem?_eq_some_iff.1 hu
 rw [List.drop_eq_getElem_cons h1, List.drop_eq_getElem_cons h2, List.cons.injEq]
theorem run_neq_te (t u : Te) (w : World) : (binOp .neq 94 t.v u.v).run Tryz.prog w = .ok (.bool (!decide (t = u))) w := by
 obtain ⟨op, ⟨kl, ml, sl⟩, ⟨kr, mr, sr⟩⟩ := t
 obtain ⟨oq, ⟨kp, mp, sp⟩, ⟨kq, mq, sq⟩⟩ := u
 by_cases h0 : op = oq
 ·subst h0
  by_cases h1 : kl = kp
  ·subst h1
   by_cases h2 : ml = mp
   ·subst h2
    by_cases h3 : sl = sp
    ·subst h3
     by_cases h4 : kr = kq
     ·subst h4
      by_cases h5 : mr = mq
      ·subst h5
       by_cases h6 : sr = sq
       ·subst h6; go_simp
       ·have h7 : ¬ sr.toList = sq.toList := fun e => h6 (toList_inj e)
        go_simp
      ·go_simp
     ·go_simp
    ·have h7 : ¬ sl.toList = sp.toList := fun e => h3 (toList_inj e)
     go_simp
   ·go_simp
  ·go_simp
 ·go_simp
set_option maxHeartbeats 1000000 in
theorem sameTests_any (a b : List Te) (x y : Value) (w : World) (h : Es w x a) (h' : Es w y b) :
  Calls Tryz.prog 79 #[x, y] w fun e w' => e = .returned (.bool (decide (a = b))) /\ Below w.heap.size w w' := by
 obtain ⟨ad, cap, rfl, hl, h⟩ := h
 obtain ⟨ad', cap', rfl, hl', h'⟩ := h'
 by_cases e2 : a.length = b.length
 ·have hq2 : ((a.length : Int) == (b.length : Int)) = true := by simp; omega
  have E2 : Hid (a.length = b.length) := e2
  clear e2
  go_enter Tryz.func79, Tryz.ntmps79
  go_wp2
  go_loopg [5] a.length (fun g i wr => ∃ j : Nat, j + g = a.length /\ i = .int .i64 j /\ (a = b ↔ a.drop j = b.drop j) /\ Below w.heap.size w wr)
  case atStart => exact ⟨0, by omega, rfl, by simp, Below.refl _ _⟩
  case round =>
   obtain ⟨j, hj, rfl, hgo, hb⟩ := hrel
   have HG : Hid (a = b ↔ a.drop j = b.drop j) := hgo
   clear hgo
   cases gk with
   | succ g =>
    have hlt : (j : Int) < (a.length : Int) := by omega
    have hlt' : (j : Int) < (b.length : Int) := by have := E2.out; omega
    have j0 : (0 : Int) <= (j : Int) := by omega
    obtain ⟨t, ht⟩ : ∃ t, a[j]? = some t := ⟨_, List.getElem?_eq_getElem (by omega)⟩
    obtain ⟨u, hu⟩ : ∃ u, b[j]? = some u := ⟨_, List.getElem?_eq_getElem (by omega)⟩
    have HS : Hid ((a = b) ↔ (t = u /\ a.drop (j + 1) = b.drop (j + 1))) := HG.out.trans (drop_eq_stepE a b j t u ht hu)
    rcases h with h | ⟨b1, o1, rfl, hb1, h⟩
    ·subst h; simp at hj
    rcases h' with h' | ⟨b2, o2, rfl, hb2, h'⟩
    ·subst h'; simp at hu
    obtain ⟨p0, p1, p2, p3, p4, p5, p6⟩ := h j t ht
    obtain ⟨q0, q1, q2, q3, q4, q5, q6⟩ := h' j u hu
    rw [<- hb.cell (p := ⟨b1, _, none⟩) hb1] at p0 p1 p2 p3 p4 p5 p6
    rw [<- hb.cell (p := ⟨b2, _, none⟩) hb2] at q0 q1 q2 q3 q4 q5 q6
    have he := run_neq_te t u
    clear h h' ht hu
    obtain ⟨op, ⟨kl, ml, sl⟩, ⟨kr, mr, sr⟩⟩ := t
    obtain ⟨oq, ⟨kp, mp, sp⟩, ⟨kq, mq, sq⟩⟩ := u
    simp only at p0 p1 p2 p3 p4 p5 p6 q0 q1 q2 q3 q4 q5 q6
    by_cases htu : Te.mk op ⟨kl, ml, sl⟩ ⟨kr, mr, sr⟩ = ⟨oq, ⟨kp, mp, sp⟩, ⟨kq, mq, sq⟩⟩
    ·have HS2 : Hid (a = b ↔ a.drop (j + 1) = b.drop (j + 1)) := by
      have := HS.out; show a = b ↔ _; simpa [htu] using this
     rw [decide_eq_true htu] at he
     clear htu
     go_wp2
     go_quiet (fail)
     go_wp2
     go_roundg g
     case measure => omega
     case rel => exact ⟨j + 1, by omega, by go_num, HS2.out, below_drewN hb _⟩
    ·have HS2 : Hid (decide (a = b) = false) := decide_eq_false fun e => htu (HS.out.1 e).1
     rw [decide_eq_false htu] at he
     clear htu
     go_wp2
     go_quiet (fail)
     go_wp2
     go_ret
     exact ⟨ret_b HS2.out.symm, below_drewN hb _⟩
   | zero =>
    have hlt : ¬ (j : Int) < (a.length : Int) := by omega
    have HS2 : Hid (decide (a = b) = true) := decide_eq_true (HG.out.2 (by rw [List.drop_eq_nil_of_le (by omega), List.drop_eq_nil_of_le (by have := E2.out; omega)]))
    clear hj h h'
    go_wp2
    go_ret
    exact ⟨ret_b HS2.out.symm, hb⟩
 ·have hq2 : ((a.length : Int) == (b.length : Int)) = false := by simp; omega
  have HS2 : Hid (decide (a = b) = false) := decide_eq_false fun e => e2 (by rw [e])
  clear e2 h h'
  go_enter Tryz.func79, Tryz.ntmps79
  go_wp2
  go_ret
  exact ⟨ret_b HS2.out.symm, Below.refl _ _⟩

set_option maxHeartbeats 1000000 in
theorem sameAtom_any (a b : At) (x y : Value) (w : World) (h : Ts w x a.args) (h' : Ts w y b.args) :
  Calls Tryz.prog 91 #[a.v x, b.v y] w fun e w' => e = .returned (.bool (decide (a = b))) /\ Below w.heap.size w w' := by
 obtain ⟨⟨k, n, s⟩, nm, l⟩ := a
 obtain ⟨⟨k', n', s'⟩, nm', l'⟩ := b
 have HX : Hid (Ts w x l) := h
 have HY : Hid (Ts w y l') := h'
 obtain ⟨xa, xc, hxs, -⟩ := h
 obtain ⟨ya, yc, hys, -⟩ := h'
 simp only at hxs hys
 subst hxs hys
 obtain ⟨r, hr⟩ : ∃ r, decide (At.mk ⟨k, n, s⟩ nm l = At.mk ⟨k', n', s'⟩ nm' l') = r := ⟨_, rfl⟩
 rw [hr]
 have HR : Hid ((decide (Tm.mk k n s = ⟨k', n', s'⟩) && (decide (nm.toList = nm'.toList) && decide (l = l'))) = r) := by
  show _ = r
  rw [<- hr, Bool.eq_iff_iff]
  simp only [Bool.and_eq_true, decide_eq_true_eq, At.mk.injEq]
  exact ⟨fun ⟨p, q, r⟩ => ⟨p, toList_inj q, r⟩, fun ⟨p, q, r⟩ => ⟨p, by rw [q], r⟩⟩
 clear hr
 have he := run_eql_tm ⟨k, n, s⟩ ⟨k', n', s'⟩
 by_cases e2 : Tm.mk k n s = ⟨k', n', s'⟩
 ·rw [decide_eq_true e2] at he
  by_cases e1 : nm.toList = nm'.toList
  ·have hq1 : (nm.toList == nm'.toList) = true := by simpa using e1
   have HR2 : Hid (decide (l = l') = r) := by show _ = r; rw [<- HR.out]; simp [e1, e2]
   clear e1 e2 HR
   go_enter Tryz.func91, Tryz.ntmps91
   go_wp2_with (go_at_call 100; refine (sameTerms_any l l' _ _ _ (HX.out.later (below2 _ _ _)) (HY.out.later (below2 _ _ _))).mono ?_; rw [HR2.out]; rintro e w1 ⟨rfl, hb1⟩)
   go_ret
   exact ⟨rfl, below_step (below2 _ _ _) hb1⟩
  ·have HR2 : Hid (false = r) := by show false = r; rw [<- HR.out]; simp [e1]
   have hq1 : (nm.toList == nm'.toList) = false := by simpa using e1
   clear e1 e2 HR
   go_enter Tryz.func91, Tryz.ntmps91
   go_wp2
   go_ret
   exact ⟨ret_b HR2.out, below2 _ _ _⟩
 ·have HR2 : Hid (false = r) := by show false = r; rw [<- HR.out]; simp [e2]
  rw [decide_eq_false e2] at he
  clear e2 HR
  go_enter Tryz.func91, Tryz.ntmps91
  go_wp2
  go_ret
  exact ⟨ret_b HR2.out, below2 _ _ _⟩
def fsts (l : List (At × Value)) : List At := l.map (·.1)
theorem fsts_step {a b : List (At × Value)} {i : Nat} {t u : At × Value} (ht : a[i]? = some t) (hu : b[i]? = some u) : (fsts (a.drop i) = fsts (b.drop i)) ↔ (t.1 = u.1 /\ fsts (a.drop (i + 1)) = fsts (b.drop (i + 1))) := by
 obtain ⟨h1, rfl⟩ := List.getElem?_eq_some_iff.1 ht
 obtain ⟨h2, rfl⟩ := List.getElem?_eq_some_iff.1 hu
 unfold fsts
 rw [List.drop_eq_getElem_cons h1, List.drop_eq_getElem_cons h2, List.map_cons, List.map_cons, List.cons.injEq]
set_option maxRecDepth 20000 in
set_option maxHeartbeats 2000000 in
theorem sameAtoms_any (p q : List (At × Value)) (x y : Value) (w : World) (h : As w x p) (h' : As w y q) :
  Calls Tryz.prog 92 #[x, y] w fun e w' => e = .returned (.bool (decide (fsts p = fsts q))) /\ Below w.heap.size w w' := by
 obtain ⟨ad, cap, rfl, hl, h, hts⟩ := h
 obtain ⟨ad', cap', rfl, hl', h', hts'⟩ := h'
 by_cases e2 : p.length = q.length
 ·have hq2 : ((p.length : Int) == (q.length : Int)) = true := by simp; omega
  have hq3 : ((p.length : Int) != (q.length : Int)) = false := by simp; omega
  have E2 : Hid (p.length = q.length) := e2
  clear e2
  go_enter Tryz.func92, Tryz.ntmps92
  go_wp2
  go_loopg [5] p.length (fun g i wr => ∃ j : Nat, j + g = p.length /\ i = .int .i64 j /\ (fsts p = fsts q ↔ fsts (p.drop j) = fsts (q.drop j)) /\ Below w.heap.size w wr)
  case atStart => exact ⟨0, by omega, rfl, by simp, Below.refl _ _⟩
  case round =>
   obtain ⟨j, hj, rfl, hgo, hb⟩ := hrel
   have HG : Hid (fsts p = fsts q ↔ fsts (p.drop j) = fsts (q.drop j)) := hgo
   have HBr : Hid (Below w.heap.size w wr) := hb
   clear hgo
   cases gk with
   | succ g =>
    have hlt : (j : Int) < (p.length : Int) := by omega
    have hlt' : (j : Int) < (q.length : Int) := by have := E2.out; omega
    have j0 : (0 : Int) <= (j : Int) := by omega
    obtain ⟨t, ht⟩ : ∃ t, p[j]? = some t := ⟨_, List.getElem?_eq_getElem (by omega)⟩
    obtain ⟨u, hu⟩ : ∃ u, q[j]? = some u := ⟨_, List.getElem?_eq_getElem (by omega)⟩
    have HS : Hid ((fsts p = fsts q) ↔ (t.1 = u.1 /\ fsts (p.drop (j + 1)) = fsts (q.drop (j + 1)))) := HG.out.trans (fsts_step ht hu)
    rcases h with h | ⟨b1, o1, rfl, h⟩
    ·subst h; simp at hj
    rcases h' with h' | ⟨b2, o2, rfl, h'⟩
    ·subst h'; simp at hu
    have k1 := (h.later hb).2 j t ht
    have k2 := (h'.later hb).2 j u hu
    have HZ1 : Hid (b1 < wr.heap.size) := (h.later hb).1
    have HZ2 : Hid (b2 < wr.heap.size) := (h'.later hb).1
    have t1 := (hts t (List.mem_of_getElem? ht)).later hb
    have t2 := (hts' u (List.mem_of_getElem? hu)).later hb
    have HC0 := fun (X : World) (hX : Below wr.heap.size wr X) => sameAtom_any t.1 u.1 t.2 u.2 X (t1.later hX) (t2.later hX)
    obtain ⟨ax, cx, hax, -⟩ := t1
    obtain ⟨ay, cy, hay, -⟩ := t2
    obtain ⟨⟨⟨kx, mx, sx⟩, nx, lx⟩, vx⟩ := t
    obtain ⟨⟨⟨ky, my, sy⟩, ny, ly⟩, vy⟩ := u
    simp only at hax hay k1 k2 HC0
    subst hax hay
    have HE : Hid _ := k1
    have HD : Hid _ := k2
    by_cases htu : At.mk ⟨kx, mx, sx⟩ nx lx = ⟨⟨ky, my, sy⟩, ny, ly⟩
    ·have HS2 : Hid (fsts p = fsts q ↔ fsts (p.drop (j + 1)) = fsts (q.drop (j + 1))) := by
      have := HS.out; show fsts p = fsts q ↔ _; simpa [htu] using this
     rw [decide_eq_true htu] at HC0
     have HC : Hid (∀ (X : World), Below wr.heap.size wr X -> Calls Tryz.prog 91 #[.agg #[.int .i64 kx, .int .i64 mx, .string sx, .string nx, .slice ax lx.length cx], .agg #[.int .i64 ky, .int .i64 my, .string sy, .string ny, .slice ay ly.length cy]] X fun e w' => e = .returned (.bool true) /\ Below X.heap.size X w') := HC0
     clear htu k1 k2 h h' ht hu HC0 hb
     go_upto_region 6 with fail
     refine wp_region_held_drew (S := fun w' => Below wr.heap.size wr w') (by kernel_rfl) (Below.refl _ _).drew (fun hH => ?_)
     revert hH
     generalize wr.drew = V
     intro hH
     refine wTk 0 (.slice (some ⟨b1, o1, none⟩) p.length cap) rfl (by kernel_rfl) (fun _ _ _ h => h) (Or.inl ⟨by rfl, fun w' _ => by go_simp⟩) hH ?_
     simp only [wA8, wB8, wC8, wD8]
     refine wTk 1 (.int .i64 (j : Int)) rfl (by kernel_rfl) (fun _ _ _ h => h) (Or.inl ⟨by rfl, fun w' _ => by go_simp⟩) hH ?_
     simp only [wA8, wB8, wC8, wD8]
     refine wTk 2 (.pointer (some ⟨b1, o1 + j * 5, none⟩)) rfl (by kernel_rfl) (fun _ _ _ h => h) (Or.inl ⟨by rfl, fun w' _ => by go_simp⟩) hH ?_
     simp only [wA8, wB8, wC8, wD8]
     refine wTk 3 (.agg #[.int .i64 kx, .int .i64 mx, .string sx, .string nx, .slice ax lx.length cx]) rfl (by kernel_rfl) (fun _ _ _ h => h) (Or.inl ⟨by rfl, fun w' h => by obtain ⟨p0, p1, p2, p3, p4⟩ := HE.out; have z := HZ1.out; have a0 := cell_step h z p0; have a1 := cell_step h z p1; have a2 := cell_step h z p2; have a3 := cell_step h z p3; have a4 := cell_step h z p4; clear p0 p1 p2 p3 p4; go_simp⟩) hH ?_
     simp only [wA8, wB8, wC8, wD8]
     refine wTk 4 ((.slice (some ⟨b2, o2, none⟩) q.length cap')) rfl (by kernel_rfl) (fun _ _ _ h => h) (Or.inl ⟨by rfl, fun w' _ => by go_simp⟩) hH ?_
     simp only [wA8, wB8, wC8, wD8]
     refine wTk 5 (.int .i64 (j : Int)) rfl (by kernel_rfl) (fun _ _ _ h => h) (Or.inl ⟨by rfl, fun w' _ => by go_simp⟩) hH ?_
     simp only [wA8, wB8, wC8, wD8]
     refine wTk 6 (.pointer (some ⟨b2, o2 + j * 5, none⟩)) rfl (by kernel_rfl) (fun _ _ _ h => h) (Or.inl ⟨by rfl, fun w' _ => by go_simp⟩) hH ?_
     simp only [wA8, wB8, wC8, wD8]
     refine wTk 7 (.agg #[.int .i64 ky, .int .i64 my, .string sy, .string ny, .slice ay ly.length cy]) rfl (by kernel_rfl) (fun _ _ _ h => h) (Or.inl ⟨by rfl, fun w' h => by obtain ⟨p0, p1, p2, p3, p4⟩ := HD.out; have z := HZ2.out; have a0 := cell_step h z p0; have a1 := cell_step h z p1; have a2 := cell_step h z p2; have a3 := cell_step h z p3; have a4 := cell_step h z p4; clear p0 p1 p2 p3 p4; go_simp⟩) hH ?_
     simp only [wA8, wB8, wC8, wD8]
     refine wRd 8 (by kernel_rfl) rfl (fun K hK => ?_)
     go_simp
     refine (HC.out _ hH).mono ?_
     rintro x1 V2 ⟨rfl, hb⟩
     refine hK.out _ _ (below_step hH hb) (fun hH => ?_)
     clear hK K
     refine wTk 9 (.bool false) rfl (by kernel_rfl) (fun _ _ _ h => h) (Or.inl ⟨by rfl, fun w' _ => by go_simp⟩) hH ?_
     simp only [wA8, wB8, wC8, wD8]
     refine wpAnyH_done (by kernel_rfl) ?_ _
     have HV : Hid (Below wr.heap.size wr V2) := hH
     clear hH hb
     go_wp2
     go_roundg g
     case measure => omega
     case rel => exact ⟨j + 1, by omega, by go_num, HS2.out, below_step HBr.out HV.out⟩
    ·have HS2 : Hid (decide (fsts p = fsts q) = false) := decide_eq_false fun e => htu (HS.out.1 e).1
     rw [decide_eq_false htu] at HC0
     have HC : Hid (∀ (X : World), Below wr.heap.size wr X -> Calls Tryz.prog 91 #[.agg #[.int .i64 kx, .int .i64 mx, .string sx, .string nx, .slice ax lx.length cx], .agg #[.int .i64 ky, .int .i64 my, .string sy, .string ny, .slice ay ly.length cy]] X fun e w' => e = .returned (.bool false) /\ Below X.heap.size X w') := HC0
     clear htu k1 k2 h h' ht hu HC0 hb
     go_upto_region 6 with fail
     refine wp_region_held_drew (S := fun w' => Below wr.heap.size wr w') (by kernel_rfl) (Below.refl _ _).drew (fun hH => ?_)
     revert hH
     generalize wr.drew = V
     intro hH
     refine wTk 0 (.slice (some ⟨b1, o1, none⟩) p.length cap) rfl (by kernel_rfl) (fun _ _ _ h => h) (Or.inl ⟨by rfl, fun w' _ => by go_simp⟩) hH ?_
     simp only [wA8, wB8, wC8, wD8]
     refine wTk 1 (.int .i64 (j : Int)) rfl (by kernel_rfl) (fun _ _ _ h => h) (Or.inl ⟨by rfl, fun w' _ => by go_simp⟩) hH ?_
     simp only [wA8, wB8, wC8, wD8]
     refine wTk 2 (.pointer (some ⟨b1, o1 + j * 5, none⟩)) rfl (by kernel_rfl) (fun _ _ _ h => h) (Or.inl ⟨by rfl, fun w' _ => by go_simp⟩) hH ?_
     simp only [wA8, wB8, wC8, wD8]
     refine wTk 3 (.agg #[.int .i64 kx, .int .i64 mx, .string sx, .string nx, .slice ax lx.length cx]) rfl (by kernel_rfl) (fun _ _ _ h => h) (Or.inl ⟨by rfl, fun w' h => by obtain ⟨p0, p1, p2, p3, p4⟩ := HE.out; have z := HZ1.out; have a0 := cell_step h z p0; have a1 := cell_step h z p1; have a2 := cell_step h z p2; have a3 := cell_step h z p3; have a4 := cell_step h z p4; clear p0 p1 p2 p3 p4; go_simp⟩) hH ?_
     simp only [wA8, wB8, wC8, wD8]
     refine wTk 4 ((.slice (some ⟨b2, o2, none⟩) q.length cap')) rfl (by kernel_rfl) (fun _ _ _ h => h) (Or.inl ⟨by rfl, fun w' _ => by go_simp⟩) hH ?_
     simp only [wA8, wB8, wC8, wD8]
     refine wTk 5 (.int .i64 (j : Int)) rfl (by kernel_rfl) (fun _ _ _ h => h) (Or.inl ⟨by rfl, fun w' _ => by go_simp⟩) hH ?_
     simp only [wA8, wB8, wC8, wD8]
     refine wTk 6 (.pointer (some ⟨b2, o2 + j * 5, none⟩)) rfl (by kernel_rfl) (fun _ _ _ h => h) (Or.inl ⟨by rfl, fun w' _ => by go_simp⟩) hH ?_
     simp only [wA8, wB8, wC8, wD8]
     refine wTk 7 (.agg #[.int .i64 ky, .int .i64 my, .string sy, .string ny, .slice ay ly.length cy]) rfl (by kernel_rfl) (fun _ _ _ h => h) (Or.inl ⟨by rfl, fun w' h => by obtain ⟨p0, p1, p2, p3, p4⟩ := HD.out; have z := HZ2.out; have a0 := cell_step h z p0; have a1 := cell_step h z p1; have a2 := cell_step h z p2; have a3 := cell_step h z p3; have a4 := cell_step h z p4; clear p0 p1 p2 p3 p4; go_simp⟩) hH ?_
     simp only [wA8, wB8, wC8, wD8]
     refine wRd 8 (by kernel_rfl) rfl (fun K hK => ?_)
     go_simp
     refine (HC.out _ hH).mono ?_
     rintro x1 V2 ⟨rfl, hb⟩
     refine hK.out _ _ (below_step hH hb) (fun hH => ?_)
     clear hK K
     refine wTk 9 (.bool true) rfl (by kernel_rfl) (fun _ _ _ h => h) (Or.inl ⟨by rfl, fun w' _ => by go_simp⟩) hH ?_
     simp only [wA8, wB8, wC8, wD8]
     refine wpAnyH_done (by kernel_rfl) ?_ _
     have HV : Hid (Below wr.heap.size wr V2) := hH
     clear hH hb
     go_wp2
     go_ret
     exact ⟨ret_b HS2.out.symm, below_step HBr.out HV.out⟩
   | zero =>
    have hlt : ¬ (j : Int) < (p.length : Int) := by omega
    have HS2 : Hid (decide (fsts p = fsts q) = true) := decide_eq_true (HG.out.2 (by rw [List.drop_eq_nil_of_le (by omega), List.drop_eq_nil_of_le (by have := E2.out; omega)]))
    clear hj h h' hb
    go_wp2
    go_ret
    exact ⟨ret_b HS2.out.symm, HBr.out⟩
 ·have hq2 : ((p.length : Int) == (q.length : Int)) = false := by simp; omega
  have HS2 : Hid (decide (fsts p = fsts q) = false) := decide_eq_false fun e => e2 (by have := congrArg List.length e; simpa [fsts] using this)
  clear e2 h h'
  go_enter Tryz.func92, Tryz.ntmps92
  go_wp2
  go_ret
  exact ⟨ret_b HS2.out.symm, Below.refl _ _⟩
end Go.Proofs.YtnenadklmjcakaaGreatDoor
