import Derived.Test.YtelcoihmiglceaaGreatCL24
import Derived.Test.YtelcoihmiglceaaGreatM2
namespace Go.Proofs.YtelcoihmiglceaaGreat
open Go.RowKit

def cmpG {α : Type} (f : α -> α -> Int) : List α -> List α -> Int
 | x :: p, y :: q => if f x y = 0 then cmpG f p q else f x y
 | _, _ => 0
def cmpGL {α : Type} (f : α -> α -> Int) (p q : List α) : Int := if p.length = q.length then cmpG f p q else M.sgI p.length q.length
theorem cmpG_eq {α : Type} {f : α -> α -> Int} {p q : List α} {j : Nat} {x y : α} (hx : p[j]? = some x) (hy : q[j]? = some y) (h : f x y = 0) : cmpG f (p.drop j) (q.drop j) = cmpG f (p.drop (j + 1)) (q.drop (j + 1)) := by
 obtain ⟨h1, rfl⟩ := List.getElem?_eq_some_iff.1 hx
 obtain ⟨h2, rfl⟩ := List.getElem?_eq_some_iff.1 hy
 rw [List.drop_eq_getElem_cons h1, List.drop_eq_getElem_cons h2, cmpG, if_pos h]
theorem cmpG_ne {α : Type} {f : α -> α -> Int} {p q : List α} {j : Nat} {x y : α} (hx : p[j]? = some x) (hy : q[j]? = some y) (h : ¬ f x y = 0) : cmpG f (p.drop j) (q.drop j) = f x y := by
 obtain ⟨h1, rfl⟩ := List.getElem?_eq_some_iff.1 hx
 obtain ⟨h2, rfl⟩ := List.getElem?_eq_some_iff.1 hy
 rw [List.drop_eq_getElem_cons h1, List.drop_eq_getElem_cons h2, cmpG, if_neg h]
theorem two_boxes {w w1 : World} {c d : Array Value} {t u : TypeId} (hb : Below ((w.alloc (.cells c t)).alloc (.cells d u)).heap.size ((w.alloc (.cells c t)).alloc (.cells d u)) w1) : CBlk w1 w.heap.size c t /\ CBlk w1 (w.heap.size + 1) d u := by
 have h1 := ((CBlk.new w c t).later (below1 _ (.cells d u))).later hb
 have h2 := (CBlk.new (w.alloc (.cells c t)) d u).later hb
 rw [show (w.alloc (.cells c t)).heap.size = w.heap.size + 1 by simp] at h2
 exact ⟨h1, h2⟩
def cmpX (x y : At × Value) : Int := x.1.cmp y.1
def Te.cmp (t u : Te) : Int := if M.sgI t.op u.op ≠ 0 then M.sgI t.op u.op else if t.l.cmp u.l ≠ 0 then t.l.cmp u.l else t.r.cmp u.r
theorem sgI_zero {a b : Int} : M.sgI a b = 0 ↔ a = b := by
 unfold M.sgI
 constructor
 ·intro h; split at h
  ·omega
  ·split at h <;> omega
 ·rintro rfl; simp
set_option maxHeartbeats 2000000 in
theorem cmpT_any (t u : Te) (w : World) : Calls Tryz.prog 114 #[t.v, u.v] w fun e w' => e = .returned (.int .i64 (t.cmp u)) /\ Below w.heap.size w w' := by
 have cl := fun X => compare_any t.l u.l X
 have cr := fun X => compare_any t.r u.r X
 obtain ⟨R, hR⟩ : ∃ R, t.cmp u = R := ⟨_, rfl⟩
 have HR : Hid (t.cmp u = R) := hR
 unfold Te.cmp at hR
 rw [show t.cmp u = R from HR.out]
 obtain ⟨rl, hrl⟩ : ∃ r, t.l.cmp u.l = r := ⟨_, rfl⟩
 obtain ⟨rr, hrr⟩ : ∃ r, t.r.cmp u.r = r := ⟨_, rfl⟩
 rw [hrl, hrr] at hR
 simp only [hrl] at cl
 simp only [hrr] at cr
 clear HR hrl hrr
 obtain ⟨op, ⟨kl, ml, sl⟩, ⟨kr, mr, sr⟩⟩ := t
 obtain ⟨oq, ⟨kp, mp, sp⟩, ⟨kq, mq, sq⟩⟩ := u
 simp only at cl cr hR
 by_cases q0 : op = oq
 ·have hz : M.sgI op oq = 0 := sgI_zero.2 q0
  rw [hz] at hR
  simp only [ne_eq, not_true, if_false] at hR
  subst q0
  by_cases q1 : rl = 0
  ·subst q1
   simp only [not_true, if_false] at hR
   subst hR
   clear hz
   go_enter Tryz.func114, Tryz.ntmps114
   go_wp2_with (first
    | (go_at_call 157; refine (cl _).mono ?_; clear cl; rintro e w1 ⟨rfl, hb1⟩; obtain ⟨y0, y1, y2, y3, y4, y5, y6⟩ := cseven (two_boxes hb1).1; obtain ⟨z0, z1, z2, z3, z4, z5, z6⟩ := cseven (two_boxes hb1).2; have HB1 : Hid (Below _ _ _) := hb1; clear hb1)
    | (go_at_call 157; refine (cr _).mono ?_; clear cr; rintro e w2 ⟨rfl, hb2⟩))
   go_ret
   exact ⟨rfl, below_step (below_step (below2 _ _ _) HB1.out) hb2⟩
  ·have n1 : (rl == 0) = false := beq_eq_false_iff_ne.2 q1
   have n2 : (rl != 0) = true := by rw [bne, n1]; rfl
   rw [if_pos q1] at hR
   subst hR
   clear hz q1
   go_enter Tryz.func114, Tryz.ntmps114
   go_wp2_with (go_at_call 157; refine (cl _).mono ?_; clear cl; rintro e w1 ⟨rfl, hb1⟩)
   go_ret
   exact ⟨rfl, below_step (below2 _ _ _) hb1⟩
 ·have hz : ¬ M.sgI op oq = 0 := fun h => q0 (sgI_zero.1 h)
  rw [if_pos hz] at hR
  have HRR : Hid (M.sgI op oq = R) := hR
  have n1 : (op == oq) = false := beq_eq_false_iff_ne.2 q0
  have n2 : (op != oq) = true := by rw [bne, n1]; rfl
  clear hR hz q0
  go_enter Tryz.func114, Tryz.ntmps114
  go_wp2_with (go_at_call 155; refine (cmpI_any _ _ _).mono ?_; rintro e w1 ⟨rfl, rfl⟩)
  go_ret
  exact ⟨ret_i HRR.out, below2 _ _ _⟩

set_option maxRecDepth 20000 in
set_option maxHeartbeats 2000000 in
theorem CFAtom_any (p q : List (At × Value)) (u v : Value) (w : World) (hu : As w u p) (hv : As w v q) (hl : p.length = q.length) :
  Calls Tryz.prog 159 #[u, v, .func (.func 111) #[] #[]] w fun e w' => e = .returned (.int .i64 (cmpG cmpX p q)) /\ Below w.heap.size w w' := by
 have HU : Hid (As w u p) := hu
 have HV : Hid (As w v q) := hv
 obtain ⟨ua, uc, rfl, hul, hum, hxs⟩ := hu
 obtain ⟨va, vc, rfl, -, hvm, hys⟩ := hv
 have HLL : Hid (p.length = q.length) := hl
 obtain ⟨R, hR⟩ : ∃ R, cmpG cmpX p q = R := ⟨_, rfl⟩
 have HR : Hid (cmpG cmpX p q = R) := hR
 rw [hR, <- hl]
 clear hR hum hvm hl
 go_enter Tryz.func159, Tryz.ntmps159
 go_wp2
 go_loopg [13] p.length (fun g i wr => ∃ j : Nat, j + g = p.length /\ i = .int .i64 (j : Int) /\ cmpG cmpX (p.drop j) (q.drop j) = R /\ Below w.heap.size w wr)
 case atStart => exact ⟨0, by omega, rfl, HR.out, Below.refl _ _⟩
 case round =>
  obtain ⟨j, hj, rfl, hr, hbr⟩ := hrel
  have HRj : Hid (cmpG cmpX (p.drop j) (q.drop j) = R) := hr
  have HBr : Hid (Below w.heap.size w wr) := hbr
  cases gk with
  | succ g =>
   have hlt : j < p.length := by omega
   have i0 : (0 : Int) <= (j : Int) := by omega
   have i1 : (j : Int) < (p.length : Int) := by omega
   have i2 : ¬ ((p.length : Int) <= (j : Int)) := by omega
   obtain ⟨x, hx⟩ : ∃ x, p[j]? = some x := ⟨_, List.getElem?_eq_getElem hlt⟩
   obtain ⟨y, hy⟩ : ∃ y, q[j]? = some y := ⟨_, List.getElem?_eq_getElem (by rw [<- HLL.out]; exact hlt)⟩
   obtain ⟨a1, cap1, hv, -, hm, hts⟩ :=  HU.out.later hbr
   simp only [Value.slice.injEq, true_and] at hv
   obtain ⟨rfl, rfl⟩ := hv
   rcases hm with hm | ⟨b, o, rfl, hm⟩
   ·rw [hm] at hlt; simp at hlt
   obtain ⟨e0, e1, e2, e3, e4⟩ := hm.2 j x hx
   clear hm
   obtain ⟨a1, cap1, hv, -, hm, hts⟩ :=  HV.out.later hbr
   simp only [Value.slice.injEq] at hv
   obtain ⟨rfl, -, rfl⟩ := hv
   rcases hm with hm | ⟨b', o', rfl, hm⟩
   ·rw [hm] at hy; simp at hy
   obtain ⟨d0, d1, d2, d3, d4⟩ := hm.2 j y hy
   have hz2 := hm.1
   clear hm
   have hc := fun (X : World) (hX : Below w.heap.size w X) => cmpA_any x.1 y.1 x.2 y.2 X ((hxs x (List.mem_of_getElem? hx)).later hX) ((hys y (List.mem_of_getElem? hy)).later hX)
   obtain ⟨ax, cx, hax, -⟩ := hxs x (List.mem_of_getElem? hx)
   obtain ⟨ay, cy, hay, -⟩ := hys y (List.mem_of_getElem? hy)
   have HX : Hid (p[j]? = some x) := hx
   have HY : Hid (q[j]? = some y) := hy
   obtain ⟨r, hrr⟩ : ∃ r, cmpX x y = r := ⟨_, rfl⟩
   have HRR : Hid (cmpX x y = r) := hrr
   have hrr' : At.cmp x.1 y.1 = r := hrr
   simp only [hrr'] at hc
   clear hx hy hr hbr hrr hrr'
   obtain ⟨⟨⟨kx, mx, sx⟩, nx, lx⟩, vx⟩ := x
   obtain ⟨⟨⟨ky, my, sy⟩, ny, ly⟩, vy⟩ := y
   simp only at hax hay
   subst hax hay
   simp only at e0 e1 e2 e3 e4 d0 d1 d2 d3 d4 hc
   by_cases q0 : r = 0
   ·subst q0
    go_wp2_with (go_at_call 111; refine (hc _ (below_step (below_step HBr.out (below1 _ _)) (below1 _ _))).mono ?_; clear hc; rintro e w1 ⟨rfl, hb1⟩; have HB1 : Hid (Below _ _ _) := hb1; clear hb1)
    go_roundg g
    case measure => omega
    case rel => exact ⟨j + 1, by omega, by go_num, by rw [<- HRj.out, cmpG_eq HX.out HY.out HRR.out], below_step (below_step (below_step HBr.out (below1 _ _)) (below1 _ _)) HB1.out⟩
   ·have n1 : (r == 0) = false := beq_eq_false_iff_ne.2 q0
    have n2 : (r != 0) = true := by rw [bne, n1]; rfl
    have HQ : Hid (¬ r = 0) := q0
    clear q0
    go_wp2_with (go_at_call 111; refine (hc _ (below_step (below_step HBr.out (below1 _ _)) (below1 _ _))).mono ?_; clear hc; rintro e w1 ⟨rfl, hb1⟩; have HB1 : Hid (Below _ _ _) := hb1; clear hb1)
    go_ret
    exact ⟨ret_i (by rw [<- HRj.out, cmpG_ne HX.out HY.out (by rw [HRR.out]; exact HQ.out), HRR.out]), below_step (below_step (below_step HBr.out (below1 _ _)) (below1 _ _)) HB1.out⟩
  | zero =>
   obtain rfl : j = p.length := by omega
   have hz : ¬ ((p.length : Int) < (p.length : Int)) := by omega
   clear hr hbr
   go_wp2
   go_ret
   refine ⟨ret_i ?_, HBr.out⟩
   rw [<- HRj.out, List.drop_length, HLL.out, List.drop_length]; rfl
theorem CLAtom_any (p q : List (At × Value)) (u v : Value) (w : World) (hu : As w u p) (hv : As w v q) :
  Calls Tryz.prog 112 #[u, v, .func (.func 111) #[] #[]] w fun e w' => e = .returned (.int .i64 (cmpGL cmpX p q)) /\ Below w.heap.size w w' := by
 have hcf := fun (hl : p.length = q.length) => CFAtom_any p q u v w hu hv hl
 obtain ⟨ua, uc, rfl, hul, -⟩ := hu
 obtain ⟨va, vc, rfl, hvl, -⟩ := hv
 by_cases hl : p.length = q.length
 ·have e : cmpGL cmpX p q = cmpG cmpX p q := by unfold cmpGL; rw [if_pos hl]
  have hc := hcf hl
  rw [e]
  clear hcf e
  obtain ⟨R, hR⟩ : ∃ R, cmpG cmpX p q = R := ⟨_, rfl⟩
  rw [hR] at hc ⊢
  clear hR
  have hl' : q.length = p.length := hl.symm
  rw [hl'] at hc ⊢
  clear hl hl'
  have n1 : ((p.length : Int) != (p.length : Int)) = false := by simp
  go_enter Tryz.func112, Tryz.ntmps112
  go_wp2_with (go_at_call 159; refine hc.mono ?_; rintro e w1 ⟨rfl, hb1⟩)
  go_ret
  exact ⟨rfl, hb1⟩
 ·have e : cmpGL cmpX p q = M.sgI p.length q.length := by unfold cmpGL; rw [if_neg hl]
  rw [e]
  clear hcf e
  obtain ⟨A, hA⟩ : ∃ A : Nat, p.length = A := ⟨_, rfl⟩
  obtain ⟨B, hB⟩ : ∃ B : Nat, q.length = B := ⟨_, rfl⟩
  rw [hA, hB] at hl ⊢
  have n1 : ((A : Int) != (B : Int)) = true := by simp only [bne_iff_ne, ne_eq]; omega
  have n2 : ((A : Int) == (B : Int)) = false := beq_eq_false_iff_ne.2 (by omega)
  have n3 : ¬ ((A : Int) = (B : Int)) := by omega
  clear hA hB hl
  go_enter Tryz.func112, Tryz.ntmps112
  go_wp2_with (go_at_call 155; refine (cmpI_any _ _ _).mono ?_; rintro e w1 ⟨rfl, rfl⟩)
  go_ret
  exact ⟨rfl, Below.refl _ _⟩

set_option maxRecDepth 20000 in
set_option maxHeartbeats 2000000 in
theorem CFTest_any (p q : List (Te)) (u v : Value) (w : World) (hu : Es w u p) (hv : Es w v q) (hl : p.length = q.length) :
  Calls Tryz.prog 160 #[u, v, .func (.func 114) #[] #[]] w fun e w' => e = .returned (.int .i64 (cmpG Te.cmp p q)) /\ Below w.heap.size w w' := by
 have HU : Hid (Es w u p) := hu
 have HV : Hid (Es w v q) := hv
 obtain ⟨ua, uc, rfl, hul, hum⟩ := hu
 obtain ⟨va, vc, rfl, -, hvm⟩ := hv
 have HLL : Hid (p.length = q.length) := hl
 obtain ⟨R, hR⟩ : ∃ R, cmpG Te.cmp p q = R := ⟨_, rfl⟩
 have HR : Hid (cmpG Te.cmp p q = R) := hR
 rw [hR, <- hl]
 clear hR hum hvm hl
 go_enter Tryz.func160, Tryz.ntmps160
 go_wp2
 go_loopg [13] p.length (fun g i wr => ∃ j : Nat, j + g = p.length /\ i = .int .i64 (j : Int) /\ cmpG Te.cmp (p.drop j) (q.drop j) = R /\ Below w.heap.size w wr)
 case atStart => exact ⟨0, by omega, rfl, HR.out, Below.refl _ _⟩
 case round =>
  obtain ⟨j, hj, rfl, hr, hbr⟩ := hrel
  have HRj : Hid (cmpG Te.cmp (p.drop j) (q.drop j) = R) := hr
  have HBr : Hid (Below w.heap.size w wr) := hbr
  cases gk with
  | succ g =>
   have hlt : j < p.length := by omega
   have i0 : (0 : Int) <= (j : Int) := by omega
   have i1 : (j : Int) < (p.length : Int) := by omega
   have i2 : ¬ ((p.length : Int) <= (j : Int)) := by omega
   obtain ⟨x, hx⟩ : ∃ x, p[j]? = some x := ⟨_, List.getElem?_eq_getElem hlt⟩
   obtain ⟨y, hy⟩ : ∃ y, q[j]? = some y := ⟨_, List.getElem?_eq_getElem (by rw [<- HLL.out]; exact hlt)⟩
   obtain ⟨a1, cap1, hv, -, hm⟩ :=  HU.out.later hbr
   simp only [Value.slice.injEq, true_and] at hv
   obtain ⟨rfl, rfl⟩ := hv
   rcases hm with hm | ⟨b, o, rfl, hm⟩
   ·rw [hm] at hlt; simp at hlt
   obtain ⟨e0, e1, e2, e3, e4, e5, e6⟩ := hm.2 j x hx
   clear hm
   obtain ⟨a1, cap1, hv, -, hm⟩ :=  HV.out.later hbr
   simp only [Value.slice.injEq] at hv
   obtain ⟨rfl, -, rfl⟩ := hv
   rcases hm with hm | ⟨b', o', rfl, hm⟩
   ·rw [hm] at hy; simp at hy
   obtain ⟨d0, d1, d2, d3, d4, d5, d6⟩ := hm.2 j y hy
   have hz2 := hm.1
   clear hm
   have hc := fun (X : World) (_ : Below w.heap.size w X) => cmpT_any x y X
   have HX : Hid (p[j]? = some x) := hx
   have HY : Hid (q[j]? = some y) := hy
   obtain ⟨r, hrr⟩ : ∃ r, Te.cmp x y = r := ⟨_, rfl⟩
   have HRR : Hid (Te.cmp x y = r) := hrr
   have hrr' : Te.cmp x y = r := hrr
   simp only [hrr'] at hc
   clear hx hy hr hbr hrr hrr'
   obtain ⟨op, ⟨kl, ml, sl⟩, ⟨kr, mr, sr⟩⟩ := x
   obtain ⟨oq, ⟨kp, mp, sp⟩, ⟨kq, mq, sq⟩⟩ := y
   simp only at e0 e1 e2 e3 e4 e5 e6 d0 d1 d2 d3 d4 d5 d6 hc
   by_cases q0 : r = 0
   ·subst q0
    go_wp2_with (go_at_call 114; refine (hc _ (below_step (below_step HBr.out (below1 _ _)) (below1 _ _))).mono ?_; clear hc; rintro e w1 ⟨rfl, hb1⟩; have HB1 : Hid (Below _ _ _) := hb1; clear hb1)
    go_roundg g
    case measure => omega
    case rel => exact ⟨j + 1, by omega, by go_num, by rw [<- HRj.out, cmpG_eq HX.out HY.out HRR.out], below_step (below_step (below_step HBr.out (below1 _ _)) (below1 _ _)) HB1.out⟩
   ·have n1 : (r == 0) = false := beq_eq_false_iff_ne.2 q0
    have n2 : (r != 0) = true := by rw [bne, n1]; rfl
    have HQ : Hid (¬ r = 0) := q0
    clear q0
    go_wp2_with (go_at_call 114; refine (hc _ (below_step (below_step HBr.out (below1 _ _)) (below1 _ _))).mono ?_; clear hc; rintro e w1 ⟨rfl, hb1⟩; have HB1 : Hid (Below _ _ _) := hb1; clear hb1)
    go_ret
    exact ⟨ret_i (by rw [<- HRj.out, cmpG_ne HX.out HY.out (by rw [HRR.out]; exact HQ.out), HRR.out]), below_step (below_step (below_step HBr.out (below1 _ _)) (below1 _ _)) HB1.out⟩
  | zero =>
   obtain rfl : j = p.length := by omega
   have hz : ¬ ((p.length : Int) < (p.length : Int)) := by omega
   clear hr hbr
   go_wp2
   go_ret
   refine ⟨ret_i ?_, HBr.out⟩
   rw [<- HRj.out, List.drop_length, HLL.out, List.drop_length]; rfl
theorem CLTest_any (p q : List (Te)) (u v : Value) (w : World) (hu : Es w u p) (hv : Es w v q) :
  Calls Tryz.prog 113 #[u, v, .func (.func 114) #[] #[]] w fun e w' => e = .returned (.int .i64 (cmpGL Te.cmp p q)) /\ Below w.heap.size w w' := by
 have hcf := fun (hl : p.length = q.length) => CFTest_any p q u v w hu hv hl
 obtain ⟨ua, uc, rfl, hul, -⟩ := hu
 obtain ⟨va, vc, rfl, hvl, -⟩ := hv
 by_cases hl : p.length = q.length
 ·have e : cmpGL Te.cmp p q = cmpG Te.cmp p q := by unfold cmpGL; rw [if_pos hl]
  have hc := hcf hl
  rw [e]
  clear hcf e
  obtain ⟨R, hR⟩ : ∃ R, cmpG Te.cmp p q = R := ⟨_, rfl⟩
  rw [hR] at hc ⊢
  clear hR
  have hl' : q.length = p.length := hl.symm
  rw [hl'] at hc ⊢
  clear hl hl'
  have n1 : ((p.length : Int) != (p.length : Int)) = false := by simp
  go_enter Tryz.func113, Tryz.ntmps113
  go_wp2_with (go_at_call 160; refine hc.mono ?_; rintro e w1 ⟨rfl, hb1⟩)
  go_ret
  exact ⟨rfl, hb1⟩
 ·have e : cmpGL Te.cmp p q = M.sgI p.length q.length := by unfold cmpGL; rw [if_neg hl]
  rw [e]
  clear hcf e
  obtain ⟨A, hA⟩ : ∃ A : Nat, p.length = A := ⟨_, rfl⟩
  obtain ⟨B, hB⟩ : ∃ B : Nat, q.length = B := ⟨_, rfl⟩
  rw [hA, hB] at hl ⊢
  have n1 : ((A : Int) != (B : Int)) = true := by simp only [bne_iff_ne, ne_eq]; omega
  have n2 : ((A : Int) == (B : Int)) = false := beq_eq_false_iff_ne.2 (by omega)
  have n3 : ¬ ((A : Int) = (B : Int)) := by omega
  clear hA hB hl
  go_enter Tryz.func113, Tryz.ntmps113
  go_wp2_with (go_at_call 155; refine (cmpI_any _ _ _).mono ?_; rintro e w1 ⟨rfl, rfl⟩)
  go_ret
  exact ⟨rfl, Below.refl _ _⟩
end Go.Proofs.YtelcoihmiglceaaGreat
