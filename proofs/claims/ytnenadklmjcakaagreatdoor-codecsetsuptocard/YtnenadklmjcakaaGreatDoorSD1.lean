import Derived.Test.YtnenadklmjcakaaGreatDoorCL1
import Derived.Test.YtnenadklmjcakaaGreatDoorL1
import Derived.Deep.RegionHeld3
namespace Go.Proofs.YtnenadklmjcakaaGreatDoor
open Go.RowKit

structure DBelow (B : Nat) (w w' : World) : Prop extends Go.RowKit.Below B w w' where
 drawn : w.drawn <= w'.drawn
instance {B : Nat} {w w' : World} : Coe (DBelow B w w') (Go.RowKit.Below B w w') := ⟨DBelow.toBelow⟩
theorem DBelow.refl (B : Nat) (w : World) : DBelow B w w := ⟨Go.RowKit.Below.refl _ _, Nat.le_refl _⟩
theorem DBelow.trans {B : Nat} {a b c : World} (h : DBelow B a b) (k : DBelow B b c) : DBelow B a c := ⟨h.toBelow.trans k.toBelow, Nat.le_trans h.drawn k.drawn⟩
theorem DBelow.mono {B B' : Nat} {w w' : World} (h : DBelow B w w') (hB : B' <= B) : DBelow B' w w' := ⟨h.toBelow.mono hB, h.drawn⟩
theorem DBelow.drew {B : Nat} {a w : World} (h : DBelow B a w) : DBelow B a w.drew := ⟨h.toBelow.drew, Nat.le_trans h.drawn (Nat.le_succ _)⟩
theorem DBelow.alloc {B : Nat} {a w : World} (h : DBelow B a w) (hB : B <= w.heap.size) (o : Obj) : DBelow B a (w.alloc o) := ⟨h.toBelow.alloc hB o, h.drawn⟩
theorem dbelow1 (w : World) (o : Obj) : DBelow w.heap.size w (w.alloc o) := (DBelow.refl _ _).alloc (Nat.le_refl _) _
theorem dbelow2 (w : World) (o p : Obj) : DBelow w.heap.size w ((w.alloc o).alloc p) := (dbelow1 w o).alloc (by simp) _
theorem dbelow_step {W w' w3 : World} (h : DBelow W.heap.size W w') (h3 : DBelow w'.heap.size w' w3) : DBelow W.heap.size W w3 := h.trans (h3.mono h.toBelow.size)
set_option maxHeartbeats 400000 in
theorem compareD_any (a b : Tm) (w : World) :
  Calls Tryz.prog 151 #[a.v, b.v] w fun e w' => e = .returned (.int .i64 (a.cmp b)) /\ DBelow w.heap.size w w' := by
 obtain ⟨k, n, s⟩ := a
 obtain ⟨k', n', s'⟩ := b
 go_enter Tryz.func151, Tryz.ntmps151
 go_wp2_with (first
  | (go_at_call 149; refine (cmpI_any _ _ _).mono ?_; rintro e w1 ⟨rfl, rfl⟩)
  | (go_at_call 148; refine (cmpS_any _ _ _).mono ?_; rintro e w1 ⟨rfl, rfl⟩))
 all_goals go_ret
 all_goals refine ⟨ret_i ?_, dbelow2 _ _ _⟩
 all_goals unfold Tm.cmp
 all_goals simp_all
 exact ((M.sgL_zero _ _).2 rfl).symm
theorem placesD_any (a : At) (x : Value) (w : World) (h : Ts w x a.args) :
  Calls Tryz.prog 150 #[a.v x] w fun e w' => e = .returned (.int .i64 a.pl.length) /\ DBelow w.heap.size w w' := by
 obtain ⟨⟨k, n, s⟩, nm, l⟩ := a
 obtain ⟨ad, cap, rfl, hl, -⟩ := h
 simp only at hl
 go_enter Tryz.func150, Tryz.ntmps150
 go_wp2
 go_ret
 exact ⟨ret_i (by simp [At.pl]; omega), dbelow1 _ _⟩
set_option maxHeartbeats 400000 in
theorem placeD_any (a : At) (x : Value) (i : Nat) (t : Tm) (ht : a.pl[i]? = some t) (w : World) (h : Ts w x a.args) :
  Calls Tryz.prog 152 #[a.v x, .int .i64 i] w fun e w' => e = .returned t.v /\ DBelow w.heap.size w w' := by
 obtain ⟨⟨k, n, s⟩, nm, l⟩ := a
 obtain ⟨ad, cap, rfl, hl, h⟩ := h
 simp only at hl
 cases i with
 | zero =>
  simp only [At.pl, List.getElem?_cons_zero, Option.some.injEq] at ht
  subst ht
  go_enter Tryz.func152, Tryz.ntmps152
  go_wp2
  exact bodyPost_ret (v := Tm.v ⟨k, n, s⟩) (by simp [results, Tryz.results152, go_sem]) rfl ⟨rfl, dbelow2 _ _ _⟩
 | succ i =>
  simp only [At.pl, List.getElem?_cons_succ] at ht
  have hi : i < l.length := (List.getElem?_eq_some_iff.1 ht).1
  rcases h with h | ⟨b, o, rfl, hbs, h⟩
  ·subst h; simp at hi
  ·obtain ⟨c0, c1, c2⟩ := h i t ht
   obtain ⟨k', n', s'⟩ := t
   simp only at c0 c1 c2
   have TT : Hid (l[i]? = some ⟨k', n', s'⟩) := ht
   clear h ht
   have i1 : (0 : Int) <= (i : Int) := by omega
   have i2 : (i : Int) < (l.length : Int) := by omega
   have e1 : ((i + 1 : Nat) : Int) - 1 = i := by omega
   go_enter Tryz.func152, Tryz.ntmps152
   go_wp2
   exact bodyPost_ret (v := Tm.v ⟨k', n', s'⟩) (by simp [results, Tryz.results152, go_sem]) rfl ⟨rfl, dbelow2 _ _ _⟩
def DBox2 (w W : World) (c d : Array Value) : Prop := W.heap[w.heap.size]? = some (.cells c 54 (0, 0)) /\ W.heap[w.heap.size + 1]? = some (.cells d 54 (0, 0)) /\ DBelow w.heap.size w W
theorem DBox2.start (w : World) (c d : Array Value) : DBox2 w ((w.alloc (.cells c 54)).alloc (.cells d 54)) c d := ⟨heap_alloc2_old _ _ _, heap_alloc2_new _ _ _, dbelow2 _ _ _⟩
theorem DBox2.later {w W W' : World} {c d : Array Value} (h : DBox2 w W c d) (hb : DBelow W.heap.size W W') : DBox2 w W' c d :=
 ⟨(hb.block _ (Array.getElem?_eq_some_iff.1 h.1).1).trans h.1, (hb.block _ (Array.getElem?_eq_some_iff.1 h.2.1).1).trans h.2.1, h.2.2.trans (hb.mono h.2.2.size)⟩
theorem DBox2.old {w W : World} {c d : Array Value} (h : DBox2 w W c d) : Box2 w W c d := ⟨h.1, h.2.1, h.2.2.toBelow⟩
theorem DBox2.lt {w W : World} {c d : Array Value} (h : DBox2 w W c d) : w.heap.size + 1 < W.heap.size := h.old.lt
set_option maxHeartbeats 2000000 in
theorem cmpAD_go (k n k' n' : Int) (ss nm ss' nm' : ByteArray) (l l' : List Tm) (P A : At) (hP : P = At.mk ⟨k, n, ss⟩ nm l) (hA : A = At.mk ⟨k', n', ss'⟩ nm' l')
  (x y : Value) (w : World) (hx : Ts w x l) (hy : Ts w y l') :
  Calls Tryz.prog 109 #[(At.mk ⟨k, n, ss⟩ nm l).v x, (At.mk ⟨k', n', ss'⟩ nm' l').v y] w fun e w' => e = .returned (.int .i64 (P.cmp A)) /\ DBelow w.heap.size w w' := by
 have HX : Hid (Ts w x P.args) := by rw [hP]; exact hx
 have HY : Hid (Ts w y A.args) := by rw [hA]; exact hy
 obtain ⟨r, hr⟩ : ∃ r, P.cmp A = r := ⟨_, rfl⟩
 rw [hr]
 have HR : Hid ((if nm.toList ≠ nm'.toList then M.sgL nm.toList nm'.toList else if l.length ≠ l'.length then M.sgI l.length l'.length else cmpL P.pl A.pl) = r) := by
  show (if _ then _ else _) = r
  rw [<- hr]; unfold At.cmp; rw [hP, hA]
 have ep : ∀ z, (P.v z) = (At.mk ⟨k, n, ss⟩ nm l).v z := fun z => by rw [hP]
 have ea : ∀ z, (A.v z) = (At.mk ⟨k', n', ss'⟩ nm' l').v z := fun z => by rw [hA]
 have h3 := fun W (h : DBelow w.heap.size w W) => placesD_any P x W (HX.out.later h)
 rw [ep] at h3
 have H3 : Hid (∀ W, DBelow w.heap.size w W -> Calls Tryz.prog 150 #[(At.mk ⟨k, n, ss⟩ nm l).v x] W fun e w' => e = .returned (.int .i64 P.pl.length) /\ DBelow W.heap.size W w') := h3
 have h4 := fun i t (ht : P.pl[i]? = some t) W (h : DBelow w.heap.size w W) => placeD_any P x i t ht W (HX.out.later h)
 have h5 := fun i t (ht : A.pl[i]? = some t) W (h : DBelow w.heap.size w W) => placeD_any A y i t ht W (HY.out.later h)
 rw [ep] at h4
 rw [ea] at h5
 have H4 : Hid (∀ (i : Nat) (t : Tm), P.pl[i]? = some t -> ∀ W, DBelow w.heap.size w W -> Calls Tryz.prog 152 #[(At.mk ⟨k, n, ss⟩ nm l).v x, .int .i64 i] W fun e w' => e = .returned t.v /\ DBelow W.heap.size W w') := h4
 have H5 : Hid (∀ (i : Nat) (t : Tm), A.pl[i]? = some t -> ∀ W, DBelow w.heap.size w W -> Calls Tryz.prog 152 #[(At.mk ⟨k', n', ss'⟩ nm' l').v y, .int .i64 i] W fun e w' => e = .returned t.v /\ DBelow W.heap.size W w') := h5
 have HP : Hid (P.pl.length = l.length + 1) := by show P.pl.length = _; rw [pl_len, hP]
 have HA : Hid (A.pl.length = l'.length + 1) := by show A.pl.length = _; rw [pl_len, hA]
 obtain ⟨ad, cap, rfl, hl, -⟩ := hx
 obtain ⟨ad', cap', rfl, hl', -⟩ := hy
 clear h3 h4 h5 ep ea hr hP hA HX HY
 by_cases e1 : nm.toList = nm'.toList
 ·have hq1 : (nm.toList == nm'.toList) = true := by simpa using e1
  by_cases e2 : l.length = l'.length
  ·have hq2 : ((l.length : Int) == (l'.length : Int)) = true := by simp; omega
   have HR2 : Hid (cmpL P.pl A.pl = r) := by show cmpL P.pl A.pl = r; rw [<- HR.out]; simp [e1, e2]
   have E2 : Hid (l.length = l'.length) := e2
   have hpn : P.pl.length <= 1000000000000000000 := by have := HP.out; omega
   clear e1 e2 HR
   go_enter Tryz.func109, Tryz.ntmps109
   go_wp2_with (go_at_call 150; refine (H3.out _ (dbelow2 _ _ _)).mono ?_; rintro e w1 ⟨rfl, hb1⟩)
   have B5 := (DBox2.start w _ _).later hb1
   clear hb1
   go_loopg [33] P.pl.length (fun g i wr => ∃ j : Nat, j + g = P.pl.length /\ i = .int .i64 j /\ cmpL P.pl A.pl = cmpL (P.pl.drop j) (A.pl.drop j) /\ DBox2 w wr #[.int .i64 k, .int .i64 n, .string ss, .string nm, .slice ad l.length cap] #[.int .i64 k', .int .i64 n', .string ss', .string nm', .slice ad' l'.length cap'])
   case atStart => exact ⟨0, by omega, rfl, by simp, B5⟩
   case round =>
    clear B5
    obtain ⟨j, hj, rfl, hgo, hbox⟩ := hrel
    have HG : Hid (cmpL P.pl A.pl = cmpL (P.pl.drop j) (A.pl.drop j)) := hgo
    have HB : Hid (DBox2 w wr #[.int .i64 k, .int .i64 n, .string ss, .string nm, .slice ad l.length cap] #[.int .i64 k', .int .i64 n', .string ss', .string nm', .slice ad' l'.length cap']) := hbox
    clear hgo hbox
    cases gk with
    | succ g =>
     have hlt : (j : Int) < (P.pl.length : Int) := by omega
     obtain ⟨t, ht⟩ : ∃ t, P.pl[j]? = some t := ⟨_, List.getElem?_eq_getElem (by omega)⟩
     obtain ⟨u, hu⟩ : ∃ u, A.pl[j]? = some u := ⟨_, List.getElem?_eq_getElem (by have := HP.out; have := HA.out; have := E2.out; omega)⟩
     obtain ⟨c, hc⟩ : ∃ c, t.cmp u = c := ⟨_, rfl⟩
     have HT : Hid (P.pl[j]? = some t) := ht
     have HU : Hid (A.pl[j]? = some u) := hu
     have HC : Hid (t.cmp u = c) := hc
     clear ht hu hc
     obtain ⟨tk, tn, ts⟩ := t
     obtain ⟨uk, un, us⟩ := u
     obtain ⟨⟨p0, p1, p2, p3, p4⟩, q0, q1, q2, q3, q4⟩ := HB.out.old.cells
     have zz := HB.out.lt
     have zz0 : w.heap.size < wr.heap.size := by omega
     go_wp2
     refine wp_region_held_drew (S := fun w' => DBelow wr.heap.size wr w') (by kernel_rfl) (DBelow.refl _ _).drew (fun hH => ?_)
     refine wTk 0 (.agg #[.int .i64 k, .int .i64 n, .string ss, .string nm, .slice ad l.length cap]) rfl (by kernel_rfl) (fun _ _ _ h => h) (Or.inl ⟨by rfl, fun w' h => by have a0 := cell_step (DBelow.toBelow h) zz0 p0; have a1 := cell_step (DBelow.toBelow h) zz0 p1; have a2 := cell_step (DBelow.toBelow h) zz0 p2; have a3 := cell_step (DBelow.toBelow h) zz0 p3; have a4 := cell_step (DBelow.toBelow h) zz0 p4; clear p0 p1 p2 p3 p4 q0 q1 q2 q3 q4; go_simp⟩) hH ?_
     simp only [wA8, wB8, wC8, wD8]
     refine wTk 1 (.int .i64 j) rfl (by kernel_rfl) (fun _ _ _ h => h) (Or.inl ⟨by rfl, fun w' _ => by go_simp⟩) hH ?_
     simp only [wA8, wB8, wC8, wD8]
     refine wTk 3 (.agg #[.int .i64 k', .int .i64 n', .string ss', .string nm', .slice ad' l'.length cap']) rfl (by kernel_rfl) (fun _ _ _ h => h) (Or.inl ⟨by rfl, fun w' h => by have a0 := cell_step (DBelow.toBelow h) zz q0; have a1 := cell_step (DBelow.toBelow h) zz q1; have a2 := cell_step (DBelow.toBelow h) zz q2; have a3 := cell_step (DBelow.toBelow h) zz q3; have a4 := cell_step (DBelow.toBelow h) zz q4; clear p0 p1 p2 p3 p4 q0 q1 q2 q3 q4; go_simp⟩) hH ?_
     simp only [wA8, wB8, wC8, wD8]
     refine wTk 4 (.int .i64 j) rfl (by kernel_rfl) (fun _ _ _ h => h) (Or.inl ⟨by rfl, fun w' _ => by go_simp⟩) hH ?_
     simp only [wA8, wB8, wC8, wD8]
     clear p0 p1 p2 p3 p4 q0 q1 q2 q3 q4
     refine wRd 2 (by kernel_rfl) rfl (fun K hK => ?_)
     go_simp
     refine (H4.out j ⟨tk, tn, ts⟩ HT.out _ (dbelow_step HB.out.2.2 hH)).mono ?_
     rintro e w3 ⟨rfl, hb⟩
     refine hK.out _ _ (dbelow_step hH hb) (fun hH => ?_)
     clear hb hK K
     refine wRd 5 (by kernel_rfl) rfl (fun K hK => ?_)
     go_simp
     refine (H5.out j ⟨uk, un, us⟩ HU.out _ (dbelow_step HB.out.2.2 hH)).mono ?_
     rintro e w4 ⟨rfl, hb⟩
     refine hK.out _ _ (dbelow_step hH hb) (fun hH => ?_)
     clear hb hK K
     refine wRd 6 (by kernel_rfl) rfl (fun K hK => ?_)
     go_simp
     refine (compareD_any ⟨tk, tn, ts⟩ ⟨uk, un, us⟩ _).mono ?_
     rw [HC.out]
     rintro e w5 ⟨rfl, hb⟩
     refine hK.out _ _ (dbelow_step hH hb) (fun hH => ?_)
     clear hb hK K
     refine wTk 7 (.int .i64 c) rfl (by kernel_rfl) (fun _ _ _ h => h) (Or.inl ⟨by rfl, fun w' _ => by go_simp⟩) hH ?_
     simp only [wA8, wB8, wC8, wD8]
     refine wpAnyH_done (by kernel_rfl) ?_ _
     by_cases h0 : c = 0
     ·have HG2 : Hid (cmpL P.pl A.pl = cmpL (P.pl.drop (j + 1)) (A.pl.drop (j + 1))) := HG.out.trans (cmpL_eq _ _ j _ _ HT.out HU.out (HC.out.trans h0))
      have hq : (c == 0) = true := by simpa using h0
      clear h0
      go_wp2
      go_roundg g
      case measure => omega
      case rel => exact ⟨j + 1, by omega, by go_num, HG2.out, HB.out.later hH⟩
     ·have HG2 : Hid (c = r) := by show c = r; rw [<- HR2.out, HG.out, cmpL_ne _ _ j _ _ HT.out HU.out (by rw [HC.out]; exact h0), HC.out]
      have hq : (c == 0) = false := by simpa using h0
      clear h0
      go_wp2
      go_ret
      exact ⟨ret_i HG2.out, (HB.out.later hH).2.2⟩
    | zero =>
     have hlt : ¬ (j : Int) < (P.pl.length : Int) := by omega
     have HG2 : Hid (0 = r) := by show 0 = r; rw [<- HR2.out, HG.out, List.drop_eq_nil_of_le (by omega)]; rfl
     clear hj
     go_wp2
     go_ret
     exact ⟨ret_i HG2.out, HB.out.2.2⟩
  ·have hq2 : ((l.length : Int) == (l'.length : Int)) = false := by simp; omega
   have HR2 : Hid (M.sgI l.length l'.length = r) := by show M.sgI l.length l'.length = r; rw [<- HR.out]; simp [e1, e2]
   clear e1 e2 HR
   go_enter Tryz.func109, Tryz.ntmps109
   go_wp2_with (go_at_call 149; refine (cmpI_any _ _ _).mono ?_; rintro e w1 ⟨rfl, rfl⟩)
   go_ret
   exact ⟨ret_i HR2.out, dbelow2 _ _ _⟩
 ·have hq1 : (nm.toList == nm'.toList) = false := by simpa using e1
  have HR2 : Hid (sgS nm nm' = r) := by show sgS nm nm' = r; rw [<- HR.out]; simp [e1]
  clear e1 HR
  go_enter Tryz.func109, Tryz.ntmps109
  go_wp2_with (go_at_call 148; refine (cmpS_any _ _ _).mono ?_; rintro e w1 ⟨rfl, rfl⟩)
  go_ret
  exact ⟨ret_i HR2.out, dbelow2 _ _ _⟩
theorem cmpAD_any (p a : At) (x y : Value) (w : World) (hx : Ts w x p.args) (hy : Ts w y a.args) :
  Calls Tryz.prog 109 #[p.v x, a.v y] w fun e w' => e = .returned (.int .i64 (p.cmp a)) /\ DBelow w.heap.size w w' := by
 obtain ⟨⟨k, n, ss⟩, nm, l⟩ := p
 obtain ⟨⟨k', n', ss'⟩, nm', l'⟩ := a
 exact cmpAD_go k n k' n' ss nm ss' nm' l l' _ _ rfl rfl x y w hx hy
set_option maxHeartbeats 2000000 in
theorem cmpTD_any (t u : Te) (w : World) : Calls Tryz.prog 112 #[t.v, u.v] w fun e w' => e = .returned (.int .i64 (t.cmp u)) /\ DBelow w.heap.size w w' := by
 have cl := fun X => compareD_any t.l u.l X
 have cr := fun X => compareD_any t.r u.r X
 obtain ⟨R, hR⟩ : ∃ R, t.cmp u = R := ⟨_, rfl⟩
 have HR : Hid (t.cmp u = R) := hR
 unfold Te.cmp at hR
 rw [show t.cmp u = R from HR.out]
 obtain ⟨rl, hrl⟩ : ∃ r, t.l.cmp u.l = r := ⟨_, rfl⟩
 obtain ⟨rr, hrr⟩ : ∃ r, t.r.cmp u.r = r := ⟨_, rfl⟩
 rw [hrl, hrr] at hR
 simp only [hrl] at cl
 simp only [hrr] at cr
 clear HR hrl hrr
 obtain ⟨op, ⟨kl, ml, sl⟩, ⟨kr, mr, sr⟩⟩ := t
 obtain ⟨oq, ⟨kp, mp, sp⟩, ⟨kq, mq, sq⟩⟩ := u
 simp only at cl cr hR
 by_cases q0 : op = oq
 ·have hz : M.sgI op oq = 0 := sgI_zero.2 q0
  rw [hz] at hR
  simp only [ne_eq, not_true, if_false] at hR
  subst q0
  by_cases q1 : rl = 0
  ·subst q1
   simp only [not_true, if_false] at hR
   subst hR
   clear hz
   go_enter Tryz.func112, Tryz.ntmps112
   go_wp2_with (first
    | (go_at_call 151; refine (cl _).mono ?_; clear cl; rintro e w1 ⟨rfl, hb1⟩; obtain ⟨y0, y1, y2, y3, y4, y5, y6⟩ := cseven (two_boxes (hb1).toBelow).1; obtain ⟨z0, z1, z2, z3, z4, z5, z6⟩ := cseven (two_boxes (hb1).toBelow).2; have HB1 : Hid (DBelow _ _ _) := hb1; clear hb1)
    | (go_at_call 151; refine (cr _).mono ?_; clear cr; rintro e w2 ⟨rfl, hb2⟩))
   go_ret
   exact ⟨rfl, dbelow_step (dbelow_step (dbelow2 _ _ _) HB1.out) hb2⟩
  ·have n1 : (rl == 0) = false := beq_eq_false_iff_ne.2 q1
   have n2 : (rl != 0) = true := by rw [bne, n1]; rfl
   rw [if_pos q1] at hR
   subst hR
   clear hz q1
   go_enter Tryz.func112, Tryz.ntmps112
   go_wp2_with (go_at_call 151; refine (cl _).mono ?_; clear cl; rintro e w1 ⟨rfl, hb1⟩)
   go_ret
   exact ⟨rfl, dbelow_step (dbelow2 _ _ _) hb1⟩
 ·have hz : ¬ M.sgI op oq = 0 := fun h => q0 (sgI_zero.1 h)
  rw [if_pos hz] at hR
  have HRR : Hid (M.sgI op oq = R) := hR
  have n1 : (op == oq) = false := beq_eq_false_iff_ne.2 q0
  have n2 : (op != oq) = true := by rw [bne, n1]; rfl
  clear hR hz q0
  go_enter Tryz.func112, Tryz.ntmps112
  go_wp2_with (go_at_call 149; refine (cmpI_any _ _ _).mono ?_; rintro e w1 ⟨rfl, rfl⟩)
  go_ret
  exact ⟨ret_i HRR.out, dbelow2 _ _ _⟩

set_option maxRecDepth 20000 in
set_option maxHeartbeats 2000000 in
theorem CFAtomD_any (p q : List (At × Value)) (u v : Value) (w : World) (hu : As w u p) (hv : As w v q) (hl : p.length = q.length) :
  Calls Tryz.prog 153 #[u, v, .func (.func 109) #[] #[]] w fun e w' => e = .returned (.int .i64 (cmpG cmpX p q)) /\ DBelow w.heap.size w w' := by
 have HU : Hid (As w u p) := hu
 have HV : Hid (As w v q) := hv
 obtain ⟨ua, uc, rfl, hul, hum, hxs⟩ := hu
 obtain ⟨va, vc, rfl, -, hvm, hys⟩ := hv
 have HLL : Hid (p.length = q.length) := hl
 obtain ⟨R, hR⟩ : ∃ R, cmpG cmpX p q = R := ⟨_, rfl⟩
 have HR : Hid (cmpG cmpX p q = R) := hR
 rw [hR, <- hl]
 clear hR hum hvm hl
 go_enter Tryz.func153, Tryz.ntmps153
 go_wp2
 go_loopg [13] p.length (fun g i wr => ∃ j : Nat, j + g = p.length /\ i = .int .i64 (j : Int) /\ cmpG cmpX (p.drop j) (q.drop j) = R /\ DBelow w.heap.size w wr)
 case atStart => exact ⟨0, by omega, rfl, HR.out, DBelow.refl _ _⟩
 case round =>
  obtain ⟨j, hj, rfl, hr, hbr⟩ := hrel
  have HRj : Hid (cmpG cmpX (p.drop j) (q.drop j) = R) := hr
  have HBr : Hid (DBelow w.heap.size w wr) := hbr
  cases gk with
  | succ g =>
   have hlt : j < p.length := by omega
   have i0 : (0 : Int) <= (j : Int) := by omega
   have i1 : (j : Int) < (p.length : Int) := by omega
   have i2 : ¬ ((p.length : Int) <= (j : Int)) := by omega
   obtain ⟨x, hx⟩ : ∃ x, p[j]? = some x := ⟨_, List.getElem?_eq_getElem hlt⟩
   obtain ⟨y, hy⟩ : ∃ y, q[j]? = some y := ⟨_, List.getElem?_eq_getElem (by rw [<- HLL.out]; exact hlt)⟩
   obtain ⟨a1, cap1, hv, -, hm, hts⟩ :=  HU.out.later hbr.toBelow
   simp only [Value.slice.injEq, true_and] at hv
   obtain ⟨rfl, rfl⟩ := hv
   rcases hm with hm | ⟨b, o, rfl, hm⟩
   ·rw [hm] at hlt; simp at hlt
   obtain ⟨e0, e1, e2, e3, e4⟩ := hm.2 j x hx
   clear hm
   obtain ⟨a1, cap1, hv, -, hm, hts⟩ :=  HV.out.later hbr.toBelow
   simp only [Value.slice.injEq] at hv
   obtain ⟨rfl, -, rfl⟩ := hv
   rcases hm with hm | ⟨b', o', rfl, hm⟩
   ·rw [hm] at hy; simp at hy
   obtain ⟨d0, d1, d2, d3, d4⟩ := hm.2 j y hy
   have hz2 := hm.1
   clear hm
   have hc := fun (X : World) (hX : DBelow w.heap.size w X) => cmpAD_any x.1 y.1 x.2 y.2 X ((hxs x (List.mem_of_getElem? hx)).later hX) ((hys y (List.mem_of_getElem? hy)).later hX)
   obtain ⟨ax, cx, hax, -⟩ := hxs x (List.mem_of_getElem? hx)
   obtain ⟨ay, cy, hay, -⟩ := hys y (List.mem_of_getElem? hy)
   have HX : Hid (p[j]? = some x) := hx
   have HY : Hid (q[j]? = some y) := hy
   obtain ⟨r, hrr⟩ : ∃ r, cmpX x y = r := ⟨_, rfl⟩
   have HRR : Hid (cmpX x y = r) := hrr
   have hrr' : At.cmp x.1 y.1 = r := hrr
   simp only [hrr'] at hc
   clear hx hy hr hbr hrr hrr'
   obtain ⟨⟨⟨kx, mx, sx⟩, nx, lx⟩, vx⟩ := x
   obtain ⟨⟨⟨ky, my, sy⟩, ny, ly⟩, vy⟩ := y
   simp only at hax hay
   subst hax hay
   simp only at e0 e1 e2 e3 e4 d0 d1 d2 d3 d4 hc
   by_cases q0 : r = 0
   ·subst q0
    go_wp2_with (go_at_call 109; refine (hc _ (dbelow_step (dbelow_step HBr.out (dbelow1 _ _)) (dbelow1 _ _))).mono ?_; clear hc; rintro e w1 ⟨rfl, hb1⟩; have HB1 : Hid (DBelow _ _ _) := hb1; clear hb1)
    go_roundg g
    case measure => omega
    case rel => exact ⟨j + 1, by omega, by go_num, by rw [<- HRj.out, cmpG_eq HX.out HY.out HRR.out], dbelow_step (dbelow_step (dbelow_step HBr.out (dbelow1 _ _)) (dbelow1 _ _)) HB1.out⟩
   ·have n1 : (r == 0) = false := beq_eq_false_iff_ne.2 q0
    have n2 : (r != 0) = true := by rw [bne, n1]; rfl
    have HQ : Hid (¬ r = 0) := q0
    clear q0
    go_wp2_with (go_at_call 109; refine (hc _ (dbelow_step (dbelow_step HBr.out (dbelow1 _ _)) (dbelow1 _ _))).mono ?_; clear hc; rintro e w1 ⟨rfl, hb1⟩; have HB1 : Hid (DBelow _ _ _) := hb1; clear hb1)
    go_ret
    exact ⟨ret_i (by rw [<- HRj.out, cmpG_ne HX.out HY.out (by rw [HRR.out]; exact HQ.out), HRR.out]), dbelow_step (dbelow_step (dbelow_step HBr.out (dbelow1 _ _)) (dbelow1 _ _)) HB1.out⟩
  | zero =>
   obtain rfl : j = p.length := by omega
   have hz : ¬ ((p.length : Int) < (p.length : Int)) := by omega
   clear hr hbr
   go_wp2
   go_ret
   refine ⟨ret_i ?_, HBr.out⟩
   rw [<- HRj.out, List.drop_length, HLL.out, List.drop_length]; rfl
theorem CLAtomD_any (p q : List (At × Value)) (u v : Value) (w : World) (hu : As w u p) (hv : As w v q) :
  Calls Tryz.prog 110 #[u, v, .func (.func 109) #[] #[]] w fun e w' => e = .returned (.int .i64 (cmpGL cmpX p q)) /\ DBelow w.heap.size w w' := by
 have hcf := fun (hl : p.length = q.length) => CFAtomD_any p q u v w hu hv hl
 obtain ⟨ua, uc, rfl, hul, -⟩ := hu
 obtain ⟨va, vc, rfl, hvl, -⟩ := hv
 by_cases hl : p.length = q.length
 ·have e : cmpGL cmpX p q = cmpG cmpX p q := by unfold cmpGL; rw [if_pos hl]
  have hc := hcf hl
  rw [e]
  clear hcf e
  obtain ⟨R, hR⟩ : ∃ R, cmpG cmpX p q = R := ⟨_, rfl⟩
  rw [hR] at hc ⊢
  clear hR
  have hl' : q.length = p.length := hl.symm
  rw [hl'] at hc ⊢
  clear hl hl'
  have n1 : ((p.length : Int) != (p.length : Int)) = false := by simp
  go_enter Tryz.func110, Tryz.ntmps110
  go_wp2_with (go_at_call 153; refine hc.mono ?_; rintro e w1 ⟨rfl, hb1⟩)
  go_ret
  exact ⟨rfl, hb1⟩
 ·have e : cmpGL cmpX p q = M.sgI p.length q.length := by unfold cmpGL; rw [if_neg hl]
  rw [e]
  clear hcf e
  obtain ⟨A, hA⟩ : ∃ A : Nat, p.length = A := ⟨_, rfl⟩
  obtain ⟨B, hB⟩ : ∃ B : Nat, q.length = B := ⟨_, rfl⟩
  rw [hA, hB] at hl ⊢
  have n1 : ((A : Int) != (B : Int)) = true := by simp only [bne_iff_ne, ne_eq]; omega
  have n2 : ((A : Int) == (B : Int)) = false := beq_eq_false_iff_ne.2 (by omega)
  have n3 : ¬ ((A : Int) = (B : Int)) := by omega
  clear hA hB hl
  go_enter Tryz.func110, Tryz.ntmps110
  go_wp2_with (go_at_call 149; refine (cmpI_any _ _ _).mono ?_; rintro e w1 ⟨rfl, rfl⟩)
  go_ret
  exact ⟨rfl, DBelow.refl _ _⟩

set_option maxRecDepth 20000 in
set_option maxHeartbeats 2000000 in
theorem CFTestD_any (p q : List (Te)) (u v : Value) (w : World) (hu : Es w u p) (hv : Es w v q) (hl : p.length = q.length) :
  Calls Tryz.prog 154 #[u, v, .func (.func 112) #[] #[]] w fun e w' => e = .returned (.int .i64 (cmpG Te.cmp p q)) /\ DBelow w.heap.size w w' := by
 have HU : Hid (Es w u p) := hu
 have HV : Hid (Es w v q) := hv
 obtain ⟨ua, uc, rfl, hul, hum⟩ := hu
 obtain ⟨va, vc, rfl, -, hvm⟩ := hv
 have HLL : Hid (p.length = q.length) := hl
 obtain ⟨R, hR⟩ : ∃ R, cmpG Te.cmp p q = R := ⟨_, rfl⟩
 have HR : Hid (cmpG Te.cmp p q = R) := hR
 rw [hR, <- hl]
 clear hR hum hvm hl
 go_enter Tryz.func154, Tryz.ntmps154
 go_wp2
 go_loopg [13] p.length (fun g i wr => ∃ j : Nat, j + g = p.length /\ i = .int .i64 (j : Int) /\ cmpG Te.cmp (p.drop j) (q.drop j) = R /\ DBelow w.heap.size w wr)
 case atStart => exact ⟨0, by omega, rfl, HR.out, DBelow.refl _ _⟩
 case round =>
  obtain ⟨j, hj, rfl, hr, hbr⟩ := hrel
  have HRj : Hid (cmpG Te.cmp (p.drop j) (q.drop j) = R) := hr
  have HBr : Hid (DBelow w.heap.size w wr) := hbr
  cases gk with
  | succ g =>
   have hlt : j < p.length := by omega
   have i0 : (0 : Int) <= (j : Int) := by omega
   have i1 : (j : Int) < (p.length : Int) := by omega
   have i2 : ¬ ((p.length : Int) <= (j : Int)) := by omega
   obtain ⟨x, hx⟩ : ∃ x, p[j]? = some x := ⟨_, List.getElem?_eq_getElem hlt⟩
   obtain ⟨y, hy⟩ : ∃ y, q[j]? = some y := ⟨_, List.getElem?_eq_getElem (by rw [<- HLL.out]; exact hlt)⟩
   obtain ⟨a1, cap1, hv, -, hm⟩ :=  HU.out.later hbr.toBelow
   simp only [Value.slice.injEq, true_and] at hv
   obtain ⟨rfl, rfl⟩ := hv
   rcases hm with hm | ⟨b, o, rfl, hm⟩
   ·rw [hm] at hlt; simp at hlt
   obtain ⟨e0, e1, e2, e3, e4, e5, e6⟩ := hm.2 j x hx
   clear hm
   obtain ⟨a1, cap1, hv, -, hm⟩ :=  HV.out.later hbr.toBelow
   simp only [Value.slice.injEq] at hv
   obtain ⟨rfl, -, rfl⟩ := hv
   rcases hm with hm | ⟨b', o', rfl, hm⟩
   ·rw [hm] at hy; simp at hy
   obtain ⟨d0, d1, d2, d3, d4, d5, d6⟩ := hm.2 j y hy
   have hz2 := hm.1
   clear hm
   have hc := fun (X : World) (_ : DBelow w.heap.size w X) => cmpTD_any x y X
   have HX : Hid (p[j]? = some x) := hx
   have HY : Hid (q[j]? = some y) := hy
   obtain ⟨r, hrr⟩ : ∃ r, Te.cmp x y = r := ⟨_, rfl⟩
   have HRR : Hid (Te.cmp x y = r) := hrr
   have hrr' : Te.cmp x y = r := hrr
   simp only [hrr'] at hc
   clear hx hy hr hbr hrr hrr'
   obtain ⟨op, ⟨kl, ml, sl⟩, ⟨kr, mr, sr⟩⟩ := x
   obtain ⟨oq, ⟨kp, mp, sp⟩, ⟨kq, mq, sq⟩⟩ := y
   simp only at e0 e1 e2 e3 e4 e5 e6 d0 d1 d2 d3 d4 d5 d6 hc
   by_cases q0 : r = 0
   ·subst q0
    go_wp2_with (go_at_call 112; refine (hc _ (dbelow_step (dbelow_step HBr.out (dbelow1 _ _)) (dbelow1 _ _))).mono ?_; clear hc; rintro e w1 ⟨rfl, hb1⟩; have HB1 : Hid (DBelow _ _ _) := hb1; clear hb1)
    go_roundg g
    case measure => omega
    case rel => exact ⟨j + 1, by omega, by go_num, by rw [<- HRj.out, cmpG_eq HX.out HY.out HRR.out], dbelow_step (dbelow_step (dbelow_step HBr.out (dbelow1 _ _)) (dbelow1 _ _)) HB1.out⟩
   ·have n1 : (r == 0) = false := beq_eq_false_iff_ne.2 q0
    have n2 : (r != 0) = true := by rw [bne, n1]; rfl
    have HQ : Hid (¬ r = 0) := q0
    clear q0
    go_wp2_with (go_at_call 112; refine (hc _ (dbelow_step (dbelow_step HBr.out (dbelow1 _ _)) (dbelow1 _ _))).mono ?_; clear hc; rintro e w1 ⟨rfl, hb1⟩; have HB1 : Hid (DBelow _ _ _) := hb1; clear hb1)
    go_ret
    exact ⟨ret_i (by rw [<- HRj.out, cmpG_ne HX.out HY.out (by rw [HRR.out]; exact HQ.out), HRR.out]), dbelow_step (dbelow_step (dbelow_step HBr.out (dbelow1 _ _)) (dbelow1 _ _)) HB1.out⟩
  | zero =>
   obtain rfl : j = p.length := by omega
   have hz : ¬ ((p.length : Int) < (p.length : Int)) := by omega
   clear hr hbr
   go_wp2
   go_ret
   refine ⟨ret_i ?_, HBr.out⟩
   rw [<- HRj.out, List.drop_length, HLL.out, List.drop_length]; rfl
theorem CLTestD_any (p q : List (Te)) (u v : Value) (w : World) (hu : Es w u p) (hv : Es w v q) :
  Calls Tryz.prog 111 #[u, v, .func (.func 112) #[] #[]] w fun e w' => e = .returned (.int .i64 (cmpGL Te.cmp p q)) /\ DBelow w.heap.size w w' := by
 have hcf := fun (hl : p.length = q.length) => CFTestD_any p q u v w hu hv hl
 obtain ⟨ua, uc, rfl, hul, -⟩ := hu
 obtain ⟨va, vc, rfl, hvl, -⟩ := hv
 by_cases hl : p.length = q.length
 ·have e : cmpGL Te.cmp p q = cmpG Te.cmp p q := by unfold cmpGL; rw [if_pos hl]
  have hc := hcf hl
  rw [e]
  clear hcf e
  obtain ⟨R, hR⟩ : ∃ R, cmpG Te.cmp p q = R := ⟨_, rfl⟩
  rw [hR] at hc ⊢
  clear hR
  have hl' : q.length = p.length := hl.symm
  rw [hl'] at hc ⊢
  clear hl hl'
  have n1 : ((p.length : Int) != (p.length : Int)) = false := by simp
  go_enter Tryz.func111, Tryz.ntmps111
  go_wp2_with (go_at_call 154; refine hc.mono ?_; rintro e w1 ⟨rfl, hb1⟩)
  go_ret
  exact ⟨rfl, hb1⟩
 ·have e : cmpGL Te.cmp p q = M.sgI p.length q.length := by unfold cmpGL; rw [if_neg hl]
  rw [e]
  clear hcf e
  obtain ⟨A, hA⟩ : ∃ A : Nat, p.length = A := ⟨_, rfl⟩
  obtain ⟨B, hB⟩ : ∃ B : Nat, q.length = B := ⟨_, rfl⟩
  rw [hA, hB] at hl ⊢
  have n1 : ((A : Int) != (B : Int)) = true := by simp only [bne_iff_ne, ne_eq]; omega
  have n2 : ((A : Int) == (B : Int)) = false := beq_eq_false_iff_ne.2 (by omega)
  have n3 : ¬ ((A : Int) = (B : Int)) := by omega
  clear hA hB hl
  go_enter Tryz.func111, Tryz.ntmps111
  go_wp2_with (go_at_call 149; refine (cmpI_any _ _ _).mono ?_; rintro e w1 ⟨rfl, rfl⟩)
  go_ret
  exact ⟨rfl, DBelow.refl _ _⟩
set_option maxRecDepth 20000 in
set_option maxHeartbeats 2000000 in
theorem compareCD_any (c d : Cm) (w : World) (hc : c.ok w) (hd : d.ok w) : Calls Tryz.prog 59 #[c.v, d.v] w fun e w' => e = .returned (.int .i64 (c.cmp d)) /\ DBelow w.heap.size w w' := by
 obtain ⟨⟨a1, n1, cap1, x1⟩, ⟨a2, cap2, x2⟩, ⟨a3, cap3, x3⟩, l1, l2⟩ := hc.shape
 obtain ⟨⟨b1, m1, bap1, y1⟩, ⟨b2, bap2, y2⟩, ⟨b3, bap3, y3⟩, l3, l4⟩ := hd.shape
 have hb2 := dbelow2 w (.cells c.cs 58) (.cells d.cs 58)
 have K1 := fun (X : World) (hX : DBelow ((w.alloc (.cells c.cs 58)).alloc (.cells d.cs 58)).heap.size ((w.alloc (.cells c.cs 58)).alloc (.cells d.cs 58)) X) => cmpAD_any c.head.1 d.head.1 c.head.2 d.head.2 X (hc.h.later (dbelow_step hb2 hX)) (hd.h.later (dbelow_step hb2 hX))
 have K2 := fun (X : World) (hX : DBelow ((w.alloc (.cells c.cs 58)).alloc (.cells d.cs 58)).heap.size ((w.alloc (.cells c.cs 58)).alloc (.cells d.cs 58)) X) => CLAtomD_any c.body d.body c.bv d.bv X (hc.b.later (dbelow_step hb2 hX)) (hd.b.later (dbelow_step hb2 hX))
 have K3 := fun (X : World) (hX : DBelow ((w.alloc (.cells c.cs 58)).alloc (.cells d.cs 58)).heap.size ((w.alloc (.cells c.cs 58)).alloc (.cells d.cs 58)) X) => CLTestD_any c.tests d.tests c.tv d.tv X (hc.t.later (dbelow_step hb2 hX)) (hd.t.later (dbelow_step hb2 hX))
 unfold Cm.cmp
 obtain ⟨r1, h1⟩ : ∃ r, c.head.1.cmp d.head.1 = r := ⟨_, rfl⟩
 obtain ⟨r2, h2⟩ : ∃ r, cmpGL cmpX c.body d.body = r := ⟨_, rfl⟩
 obtain ⟨r3, h3⟩ : ∃ r, cmpGL Te.cmp c.tests d.tests = r := ⟨_, rfl⟩
 simp only [h1, h2, h3] at K1 K2 K3 ⊢
 clear h1 h2 h3 hc hd hb2
 obtain ⟨⟨⟨⟨k, m, s⟩, nm, ls⟩, hx⟩, body, bv, tests, tv⟩ := c
 obtain ⟨⟨⟨⟨k', m', s'⟩, nm', ls'⟩, hx'⟩, body', bv', tests', tv'⟩ := d
 simp only at x1 x2 x3 y1 y2 y3 K1 K2 K3 l1 l2 l3 l4
 subst x1 x2 x3 y1 y2 y3
 by_cases q1 : r1 = 0
 ·subst q1
  by_cases q2 : r2 = 0
  ·subst q2
   simp only [ne_eq, not_true, if_false]
   go_enter Tryz.func59, Tryz.ntmps59
   go_wp2_with (first | (go_at_call 109; refine (K1 _ (DBelow.refl _ _)).mono ?_; clear K1; rintro e w1 ⟨rfl, hb⟩; have HB1 : Hid (DBelow _ _ w1) := hb; clear hb; obtain ⟨p0, p1, p2, p3, p4, p5, p6⟩ := cseven (two_boxes (HB1.out).toBelow).1; obtain ⟨q0, q1, q2, q3, q4, q5, q6⟩ := cseven (two_boxes (HB1.out).toBelow).2) | (go_at_call 110; refine (K2 _ HB1.out).mono ?_; clear K2; rintro e w2 ⟨rfl, hb⟩; have HB2 : Hid (DBelow _ _ w2) := (dbelow_step HB1.out hb); clear hb; clear p0 p1 p2 p3 p4 p5 p6 q0 q1 q2 q3 q4 q5 q6; obtain ⟨p0, p1, p2, p3, p4, p5, p6⟩ := cseven (two_boxes (HB2.out).toBelow).1; obtain ⟨q0, q1, q2, q3, q4, q5, q6⟩ := cseven (two_boxes (HB2.out).toBelow).2) | (go_at_call 111; refine (K3 _ HB2.out).mono ?_; clear K3; rintro e w3 ⟨rfl, hb⟩; have HB3 : Hid (DBelow _ _ w3) := (dbelow_step HB2.out hb); clear hb; clear p0 p1 p2 p3 p4 p5 p6 q0 q1 q2 q3 q4 q5 q6; obtain ⟨p0, p1, p2, p3, p4, p5, p6⟩ := cseven (two_boxes (HB3.out).toBelow).1; obtain ⟨q0, q1, q2, q3, q4, q5, q6⟩ := cseven (two_boxes (HB3.out).toBelow).2))
   go_ret
   exact ⟨rfl, dbelow_step (dbelow2 _ _ _) HB3.out⟩
  ·have n1 : (r2 == 0) = false := beq_eq_false_iff_ne.2 q2
   have n2 : (r2 != 0) = true := by rw [bne, n1]; rfl
   simp only [ne_eq, not_true, if_false, q2, not_false_eq_true, if_true]
   clear q2 K3
   go_enter Tryz.func59, Tryz.ntmps59
   go_wp2_with (first | (go_at_call 109; refine (K1 _ (DBelow.refl _ _)).mono ?_; clear K1; rintro e w1 ⟨rfl, hb⟩; have HB1 : Hid (DBelow _ _ w1) := hb; clear hb; obtain ⟨p0, p1, p2, p3, p4, p5, p6⟩ := cseven (two_boxes (HB1.out).toBelow).1; obtain ⟨q0, q1, q2, q3, q4, q5, q6⟩ := cseven (two_boxes (HB1.out).toBelow).2) | (go_at_call 110; refine (K2 _ HB1.out).mono ?_; clear K2; rintro e w2 ⟨rfl, hb⟩; have HB2 : Hid (DBelow _ _ w2) := (dbelow_step HB1.out hb); clear hb; clear p0 p1 p2 p3 p4 p5 p6 q0 q1 q2 q3 q4 q5 q6; obtain ⟨p0, p1, p2, p3, p4, p5, p6⟩ := cseven (two_boxes (HB2.out).toBelow).1; obtain ⟨q0, q1, q2, q3, q4, q5, q6⟩ := cseven (two_boxes (HB2.out).toBelow).2))
   go_ret
   exact ⟨rfl, dbelow_step (dbelow2 _ _ _) HB2.out⟩
 ·have n1 : (r1 == 0) = false := beq_eq_false_iff_ne.2 q1
  have n2 : (r1 != 0) = true := by rw [bne, n1]; rfl
  rw [if_pos q1]
  clear q1 K2 K3
  go_enter Tryz.func59, Tryz.ntmps59
  go_wp2_with ((go_at_call 109; refine (K1 _ (DBelow.refl _ _)).mono ?_; clear K1; rintro e w1 ⟨rfl, hb⟩; have HB1 : Hid (DBelow _ _ w1) := hb; clear hb; obtain ⟨p0, p1, p2, p3, p4, p5, p6⟩ := cseven (two_boxes (HB1.out).toBelow).1; obtain ⟨q0, q1, q2, q3, q4, q5, q6⟩ := cseven (two_boxes (HB1.out).toBelow).2))
  go_ret
  exact ⟨rfl, dbelow_step (dbelow2 _ _ _) HB1.out⟩
end Go.Proofs.YtnenadklmjcakaaGreatDoor
