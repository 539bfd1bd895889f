import Derived.Test.YtechceagghcipaaGreatDoorAA0
import Derived.Deep.RegionHeld3
import Derived.Test.YtechceagghcipaaGreatDoorCL14
namespace Go.Proofs.YtechceagghcipaaGreatDoor
open Go.RowKit

structure DBelow (B : Nat) (w w' : World) : Prop extends Go.RowKit.Below B w w' where
 drawn : w.drawn <= w'.drawn
instance {B : Nat} {w w' : World} : Coe (DBelow B w w') (Go.RowKit.Below B w w') := ⟨DBelow.toBelow⟩
theorem DBelow.refl (B : Nat) (w : World) : DBelow B w w := ⟨Go.RowKit.Below.refl _ _, Nat.le_refl _⟩
theorem DBelow.trans {B : Nat} {a b c : World} (h : DBelow B a b) (k : DBelow B b c) : DBelow B a c := ⟨h.toBelow.trans k.toBelow, Nat.le_trans h.drawn k.drawn⟩
theorem DBelow.mono {B B' : Nat} {w w' : World} (h : DBelow B w w') (hB : B' <= B) : DBelow B' w w' := ⟨h.toBelow.mono hB, h.drawn⟩
theorem DBelow.drew {B : Nat} {a w : World} (h : DBelow B a w) : DBelow B a w.drew := ⟨h.toBelow.drew, Nat.le_trans h.drawn (Nat.le_succ _)⟩
theorem DBelow.alloc {B : Nat} {a w : World} (h : DBelow B a w) (hB : B <= w.heap.size) (o : Obj) : DBelow B a (w.alloc o) := ⟨h.toBelow.alloc hB o, h.drawn⟩
theorem dbelow1 (w : World) (o : Obj) : DBelow w.heap.size w (w.alloc o) := (DBelow.refl _ _).alloc (Nat.le_refl _) _
theorem dbelow2 (w : World) (o p : Obj) : DBelow w.heap.size w ((w.alloc o).alloc p) := (dbelow1 w o).alloc (by simp) _
theorem dbelow_step {W w' w3 : World} (h : DBelow W.heap.size W w') (h3 : DBelow w'.heap.size w' w3) : DBelow W.heap.size W w3 := h.trans (h3.mono h.toBelow.size)
set_option maxHeartbeats 400000 in
theorem compareD_any (a b : Tm) (w : World) :
  Calls Tryz.prog 65 #[a.v, b.v] w fun e w' => e = .returned (.int .i64 (a.cmp b)) /\ DBelow w.heap.size w w' := by
 obtain ⟨k, n, s⟩ := a
 obtain ⟨k', n', s'⟩ := b
 go_enter Tryz.func65, Tryz.ntmps65
 go_wp2_with (first
  | (go_at_call 46; refine (cmpI_any _ _ _).mono ?_; rintro e w1 ⟨rfl, rfl⟩)
  | (go_at_call 45; refine (cmpS_any _ _ _).mono ?_; rintro e w1 ⟨rfl, rfl⟩))
 all_goals go_ret
 all_goals refine ⟨ret_i ?_, dbelow2 _ _ _⟩
 all_goals unfold Tm.cmp
 all_goals simp_all
 exact ((M.sgL_zero _ _).2 rfl).symm
theorem placesD_any (a : At) (x : Value) (w : World) (h : Ts w x a.args) :
  Calls Tryz.prog 50 #[a.v x] w fun e w' => e = .returned (.int .i64 a.pl.length) /\ DBelow w.heap.size w w' := by
 obtain ⟨⟨k, n, s⟩, nm, l⟩ := a
 obtain ⟨ad, cap, rfl, hl, -⟩ := h
 simp only at hl
 go_enter Tryz.func50, Tryz.ntmps50
 go_wp2
 go_ret
 exact ⟨ret_i (by simp [At.pl]; omega), dbelow1 _ _⟩
set_option maxHeartbeats 400000 in
theorem placeD_any (a : At) (x : Value) (i : Nat) (t : Tm) (ht : a.pl[i]? = some t) (w : World) (h : Ts w x a.args) :
  Calls Tryz.prog 52 #[a.v x, .int .i64 i] w fun e w' => e = .returned t.v /\ DBelow w.heap.size w w' := by
 obtain ⟨⟨k, n, s⟩, nm, l⟩ := a
 obtain ⟨ad, cap, rfl, hl, h⟩ := h
 simp only at hl
 cases i with
 | zero =>
  simp only [At.pl, List.getElem?_cons_zero, Option.some.injEq] at ht
  subst ht
  go_enter Tryz.func52, Tryz.ntmps52
  go_wp2
  exact bodyPost_ret (v := Tm.v ⟨k, n, s⟩) (by simp [results, Tryz.results52, go_sem]) rfl ⟨rfl, dbelow2 _ _ _⟩
 | succ i =>
  simp only [At.pl, List.getElem?_cons_succ] at ht
  have hi : i < l.length := (List.getElem?_eq_some_iff.1 ht).1
  rcases h with h | ⟨b, o, rfl, hbs, h⟩
  ·subst h; simp at hi
  ·obtain ⟨c0, c1, c2⟩ := h i t ht
   obtain ⟨k', n', s'⟩ := t
   simp only at c0 c1 c2
   have TT : Hid (l[i]? = some ⟨k', n', s'⟩) := ht
   clear h ht
   have i1 : (0 : Int) <= (i : Int) := by omega
   have i2 : (i : Int) < (l.length : Int) := by omega
   have e1 : ((i + 1 : Nat) : Int) - 1 = i := by omega
   go_enter Tryz.func52, Tryz.ntmps52
   go_wp2
   exact bodyPost_ret (v := Tm.v ⟨k', n', s'⟩) (by simp [results, Tryz.results52, go_sem]) rfl ⟨rfl, dbelow2 _ _ _⟩
def DBox2 (w W : World) (c d : Array Value) : Prop := W.heap[w.heap.size]? = some (.cells c 27 (0, 0)) /\ W.heap[w.heap.size + 1]? = some (.cells d 27 (0, 0)) /\ DBelow w.heap.size w W
theorem DBox2.start (w : World) (c d : Array Value) : DBox2 w ((w.alloc (.cells c 27)).alloc (.cells d 27)) c d := ⟨heap_alloc2_old _ _ _, heap_alloc2_new _ _ _, dbelow2 _ _ _⟩
theorem DBox2.later {w W W' : World} {c d : Array Value} (h : DBox2 w W c d) (hb : DBelow W.heap.size W W') : DBox2 w W' c d :=
 ⟨(hb.block _ (Array.getElem?_eq_some_iff.1 h.1).1).trans h.1, (hb.block _ (Array.getElem?_eq_some_iff.1 h.2.1).1).trans h.2.1, h.2.2.trans (hb.mono h.2.2.size)⟩
theorem DBox2.old {w W : World} {c d : Array Value} (h : DBox2 w W c d) : Box2 w W c d := ⟨h.1, h.2.1, h.2.2.toBelow⟩
theorem DBox2.lt {w W : World} {c d : Array Value} (h : DBox2 w W c d) : w.heap.size + 1 < W.heap.size := h.old.lt
set_option maxHeartbeats 2000000 in
theorem cmpAD_go (k n k' n' : Int) (ss nm ss' nm' : ByteArray) (l l' : List Tm) (P A : At) (hP : P = At.mk ⟨k, n, ss⟩ nm l) (hA : A = At.mk ⟨k', n', ss'⟩ nm' l')
  (x y : Value) (w : World) (hx : Ts w x l) (hy : Ts w y l') :
  Calls Tryz.prog 40 #[(At.mk ⟨k, n, ss⟩ nm l).v x, (At.mk ⟨k', n', ss'⟩ nm' l').v y] w fun e w' => e = .returned (.int .i64 (P.cmp A)) /\ DBelow w.heap.size w w' := by
 have HX : Hid (Ts w x P.args) := by rw [hP]; exact hx
 have HY : Hid (Ts w y A.args) := by rw [hA]; exact hy
 obtain ⟨r, hr⟩ : ∃ r, P.cmp A = r := ⟨_, rfl⟩
 rw [hr]
 have HR : Hid ((if nm.toList ≠ nm'.toList then M.sgL nm.toList nm'.toList else if l.length ≠ l'.length then M.sgI l.length l'.length else cmpL P.pl A.pl) = r) := by
  show (if _ then _ else _) = r
  rw [<- hr]; unfold At.cmp; rw [hP, hA]
 have ep : ∀ z, (P.v z) = (At.mk ⟨k, n, ss⟩ nm l).v z := fun z => by rw [hP]
 have ea : ∀ z, (A.v z) = (At.mk ⟨k', n', ss'⟩ nm' l').v z := fun z => by rw [hA]
 have h3 := fun W (h : DBelow w.heap.size w W) => placesD_any P x W (HX.out.later h)
 rw [ep] at h3
 have H3 : Hid (∀ W, DBelow w.heap.size w W -> Calls Tryz.prog 50 #[(At.mk ⟨k, n, ss⟩ nm l).v x] W fun e w' => e = .returned (.int .i64 P.pl.length) /\ DBelow W.heap.size W w') := h3
 have h4 := fun i t (ht : P.pl[i]? = some t) W (h : DBelow w.heap.size w W) => placeD_any P x i t ht W (HX.out.later h)
 have h5 := fun i t (ht : A.pl[i]? = some t) W (h : DBelow w.heap.size w W) => placeD_any A y i t ht W (HY.out.later h)
 rw [ep] at h4
 rw [ea] at h5
 have H4 : Hid (∀ (i : Nat) (t : Tm), P.pl[i]? = some t -> ∀ W, DBelow w.heap.size w W -> Calls Tryz.prog 52 #[(At.mk ⟨k, n, ss⟩ nm l).v x, .int .i64 i] W fun e w' => e = .returned t.v /\ DBelow W.heap.size W w') := h4
 have H5 : Hid (∀ (i : Nat) (t : Tm), A.pl[i]? = some t -> ∀ W, DBelow w.heap.size w W -> Calls Tryz.prog 52 #[(At.mk ⟨k', n', ss'⟩ nm' l').v y, .int .i64 i] W fun e w' => e = .returned t.v /\ DBelow W.heap.size W w') := h5
 have HP : Hid (P.pl.length = l.length + 1) := by show P.pl.length = _; rw [pl_len, hP]
 have HA : Hid (A.pl.length = l'.length + 1) := by show A.pl.length = _; rw [pl_len, hA]
 obtain ⟨ad, cap, rfl, hl, -⟩ := hx
 obtain ⟨ad', cap', rfl, hl', -⟩ := hy
 clear h3 h4 h5 ep ea hr hP hA HX HY
 by_cases e1 : nm.toList = nm'.toList
 ·have hq1 : (nm.toList == nm'.toList) = true := by simpa using e1
  by_cases e2 : l.length = l'.length
  ·have hq2 : ((l.length : Int) == (l'.length : Int)) = true := by simp; omega
   have HR2 : Hid (cmpL P.pl A.pl = r) := by show cmpL P.pl A.pl = r; rw [<- HR.out]; simp [e1, e2]
   have E2 : Hid (l.length = l'.length) := e2
   have hpn : P.pl.length <= 1000000000000000000 := by have := HP.out; omega
   clear e1 e2 HR
   go_enter Tryz.func40, Tryz.ntmps40
   go_wp2_with (go_at_call 50; refine (H3.out _ (dbelow2 _ _ _)).mono ?_; rintro e w1 ⟨rfl, hb1⟩)
   have B5 := (DBox2.start w _ _).later hb1
   clear hb1
   go_loopg [33] P.pl.length (fun g i wr => ∃ j : Nat, j + g = P.pl.length /\ i = .int .i64 j /\ cmpL P.pl A.pl = cmpL (P.pl.drop j) (A.pl.drop j) /\ DBox2 w wr #[.int .i64 k, .int .i64 n, .string ss, .string nm, .slice ad l.length cap] #[.int .i64 k', .int .i64 n', .string ss', .string nm', .slice ad' l'.length cap'])
   case atStart => exact ⟨0, by omega, rfl, by simp, B5⟩
   case round =>
    clear B5
    obtain ⟨j, hj, rfl, hgo, hbox⟩ := hrel
    have HG : Hid (cmpL P.pl A.pl = cmpL (P.pl.drop j) (A.pl.drop j)) := hgo
    have HB : Hid (DBox2 w wr #[.int .i64 k, .int .i64 n, .string ss, .string nm, .slice ad l.length cap] #[.int .i64 k', .int .i64 n', .string ss', .string nm', .slice ad' l'.length cap']) := hbox
    clear hgo hbox
    cases gk with
    | succ g =>
     have hlt : (j : Int) < (P.pl.length : Int) := by omega
     obtain ⟨t, ht⟩ : ∃ t, P.pl[j]? = some t := ⟨_, List.getElem?_eq_getElem (by omega)⟩
     obtain ⟨u, hu⟩ : ∃ u, A.pl[j]? = some u := ⟨_, List.getElem?_eq_getElem (by have := HP.out; have := HA.out; have := E2.out; omega)⟩
     obtain ⟨c, hc⟩ : ∃ c, t.cmp u = c := ⟨_, rfl⟩
     have HT : Hid (P.pl[j]? = some t) := ht
     have HU : Hid (A.pl[j]? = some u) := hu
     have HC : Hid (t.cmp u = c) := hc
     clear ht hu hc
     obtain ⟨tk, tn, ts⟩ := t
     obtain ⟨uk, un, us⟩ := u
     obtain ⟨⟨p0, p1, p2, p3, p4⟩, q0, q1, q2, q3, q4⟩ := HB.out.old.cells
     have zz := HB.out.lt
     have zz0 : w.heap.size < wr.heap.size := by omega
     go_wp2
     refine wp_region_held_drew (S := fun w' => DBelow wr.heap.size wr w') (by kernel_rfl) (DBelow.refl _ _).drew (fun hH => ?_)
     refine wTk 0 (.agg #[.int .i64 k, .int .i64 n, .string ss, .string nm, .slice ad l.length cap]) rfl (by kernel_rfl) (fun _ _ _ h => h) (Or.inl ⟨by rfl, fun w' h => by have a0 := cell_step (DBelow.toBelow h) zz0 p0; have a1 := cell_step (DBelow.toBelow h) zz0 p1; have a2 := cell_step (DBelow.toBelow h) zz0 p2; have a3 := cell_step (DBelow.toBelow h) zz0 p3; have a4 := cell_step (DBelow.toBelow h) zz0 p4; clear p0 p1 p2 p3 p4 q0 q1 q2 q3 q4; go_simp⟩) hH ?_
     simp only [wA8, wB8, wC8, wD8]
     refine wTk 1 (.int .i64 j) rfl (by kernel_rfl) (fun _ _ _ h => h) (Or.inl ⟨by rfl, fun w' _ => by go_simp⟩) hH ?_
     simp only [wA8, wB8, wC8, wD8]
     refine wTk 3 (.agg #[.int .i64 k', .int .i64 n', .string ss', .string nm', .slice ad' l'.length cap']) rfl (by kernel_rfl) (fun _ _ _ h => h) (Or.inl ⟨by rfl, fun w' h => by have a0 := cell_step (DBelow.toBelow h) zz q0; have a1 := cell_step (DBelow.toBelow h) zz q1; have a2 := cell_step (DBelow.toBelow h) zz q2; have a3 := cell_step (DBelow.toBelow h) zz q3; have a4 := cell_step (DBelow.toBelow h) zz q4; clear p0 p1 p2 p3 p4 q0 q1 q2 q3 q4; go_simp⟩) hH ?_
     simp only [wA8, wB8, wC8, wD8]
     refine wTk 4 (.int .i64 j) rfl (by kernel_rfl) (fun _ _ _ h => h) (Or.inl ⟨by rfl, fun w' _ => by go_simp⟩) hH ?_
     simp only [wA8, wB8, wC8, wD8]
     clear p0 p1 p2 p3 p4 q0 q1 q2 q3 q4
     refine wRd 2 (by kernel_rfl) rfl (fun K hK => ?_)
     go_simp
     refine (H4.out j ⟨tk, tn, ts⟩ HT.out _ (dbelow_step HB.out.2.2 hH)).mono ?_
     rintro e w3 ⟨rfl, hb⟩
     refine hK.out _ _ (dbelow_step hH hb) (fun hH => ?_)
     clear hb hK K
     refine wRd 5 (by kernel_rfl) rfl (fun K hK => ?_)
     go_simp
     refine (H5.out j ⟨uk, un, us⟩ HU.out _ (dbelow_step HB.out.2.2 hH)).mono ?_
     rintro e w4 ⟨rfl, hb⟩
     refine hK.out _ _ (dbelow_step hH hb) (fun hH => ?_)
     clear hb hK K
     refine wRd 6 (by kernel_rfl) rfl (fun K hK => ?_)
     go_simp
     refine (compareD_any ⟨tk, tn, ts⟩ ⟨uk, un, us⟩ _).mono ?_
     rw [HC.out]
     rintro e w5 ⟨rfl, hb⟩
     refine hK.out _ _ (dbelow_step hH hb) (fun hH => ?_)
     clear hb hK K
     refine wTk 7 (.int .i64 c) rfl (by kernel_rfl) (fun _ _ _ h => h) (Or.inl ⟨by rfl, fun w' _ => by go_simp⟩) hH ?_
     simp only [wA8, wB8, wC8, wD8]
     refine wpAnyH_done (by kernel_rfl) ?_ _
     by_cases h0 : c = 0
     ·have HG2 : Hid (cmpL P.pl A.pl = cmpL (P.pl.drop (j + 1)) (A.pl.drop (j + 1))) := HG.out.trans (cmpL_eq _ _ j _ _ HT.out HU.out (HC.out.trans h0))
      have hq : (c == 0) = true := by simpa using h0
      clear h0
      go_wp2
      go_roundg g
      case measure => omega
      case rel => exact ⟨j + 1, by omega, by go_num, HG2.out, HB.out.later hH⟩
     ·have HG2 : Hid (c = r) := by show c = r; rw [<- HR2.out, HG.out, cmpL_ne _ _ j _ _ HT.out HU.out (by rw [HC.out]; exact h0), HC.out]
      have hq : (c == 0) = false := by simpa using h0
      clear h0
      go_wp2
      go_ret
      exact ⟨ret_i HG2.out, (HB.out.later hH).2.2⟩
    | zero =>
     have hlt : ¬ (j : Int) < (P.pl.length : Int) := by omega
     have HG2 : Hid (0 = r) := by show 0 = r; rw [<- HR2.out, HG.out, List.drop_eq_nil_of_le (by omega)]; rfl
     clear hj
     go_wp2
     go_ret
     exact ⟨ret_i HG2.out, HB.out.2.2⟩
  ·have hq2 : ((l.length : Int) == (l'.length : Int)) = false := by simp; omega
   have HR2 : Hid (M.sgI l.length l'.length = r) := by show M.sgI l.length l'.length = r; rw [<- HR.out]; simp [e1, e2]
   clear e1 e2 HR
   go_enter Tryz.func40, Tryz.ntmps40
   go_wp2_with (go_at_call 46; refine (cmpI_any _ _ _).mono ?_; rintro e w1 ⟨rfl, rfl⟩)
   go_ret
   exact ⟨ret_i HR2.out, dbelow2 _ _ _⟩
 ·have hq1 : (nm.toList == nm'.toList) = false := by simpa using e1
  have HR2 : Hid (sgS nm nm' = r) := by show sgS nm nm' = r; rw [<- HR.out]; simp [e1]
  clear e1 HR
  go_enter Tryz.func40, Tryz.ntmps40
  go_wp2_with (go_at_call 45; refine (cmpS_any _ _ _).mono ?_; rintro e w1 ⟨rfl, rfl⟩)
  go_ret
  exact ⟨ret_i HR2.out, dbelow2 _ _ _⟩
theorem cmpAD_any (p a : At) (x y : Value) (w : World) (hx : Ts w x p.args) (hy : Ts w y a.args) :
  Calls Tryz.prog 40 #[p.v x, a.v y] w fun e w' => e = .returned (.int .i64 (p.cmp a)) /\ DBelow w.heap.size w w' := by
 obtain ⟨⟨k, n, ss⟩, nm, l⟩ := p
 obtain ⟨⟨k', n', ss'⟩, nm', l'⟩ := a
 exact cmpAD_go k n k' n' ss nm ss' nm' l l' _ _ rfl rfl x y w hx hy
end Go.Proofs.YtechceagghcipaaGreatDoor
