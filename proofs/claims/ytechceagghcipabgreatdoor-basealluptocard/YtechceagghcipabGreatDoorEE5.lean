import Derived.Test.YtechceagghcipabGreatDoorRA2
import Derived.Deep.RegionHeld3
import Derived.Test.YtechceagghcipabGreatDoorEB6
import Derived.Test.YtechceagghcipabGreatDoorEE4
import Derived.Test.YtechceagghcipabGreatDoorA1
import Derived.Test.YtechceagghcipabGreatDoorShelf
import Derived.Sort.OwnSorted
import Derived.Laws.AppendOwn
namespace Go.Proofs.YtechceagghcipabGreatDoor
open Go.RowKit
structure DBelow (B : Nat) (w w' : World) : Prop extends Go.RowKit.Below B w w' where
 drawn : w.drawn <= w'.drawn
instance {B : Nat} {w w' : World} : Coe (DBelow B w w') (Go.RowKit.Below B w w') := ⟨DBelow.toBelow⟩
theorem DBelow.refl (B : Nat) (w : World) : DBelow B w w := ⟨Go.RowKit.Below.refl _ _, Nat.le_refl _⟩
theorem DBelow.trans {B : Nat} {a b c : World} (h : DBelow B a b) (k : DBelow B b c) : DBelow B a c := ⟨h.toBelow.trans k.toBelow, Nat.le_trans h.drawn k.drawn⟩
theorem DBelow.mono {B B' : Nat} {w w' : World} (h : DBelow B w w') (hB : B' <= B) : DBelow B' w w' := ⟨h.toBelow.mono hB, h.drawn⟩
theorem DBelow.drew {B : Nat} {a w : World} (h : DBelow B a w) : DBelow B a w.drew := ⟨h.toBelow.drew, Nat.le_trans h.drawn (Nat.le_succ _)⟩
theorem DBelow.alloc {B : Nat} {a w : World} (h : DBelow B a w) (hB : B <= w.heap.size) (o : Obj) : DBelow B a (w.alloc o) := ⟨h.toBelow.alloc hB o, h.drawn⟩
theorem dbelow1 (w : World) (o : Obj) : DBelow w.heap.size w (w.alloc o) := (DBelow.refl _ _).alloc (Nat.le_refl _) _
theorem dbelow2 (w : World) (o p : Obj) : DBelow w.heap.size w ((w.alloc o).alloc p) := (dbelow1 w o).alloc (by simp) _
theorem dbelow_step {W w' w3 : World} (h : DBelow W.heap.size W w') (h3 : DBelow w'.heap.size w' w3) : DBelow W.heap.size W w3 := h.trans (h3.mono h.toBelow.size)
set_option maxHeartbeats 400000 in
theorem compareD_any (a b : Tm) (w : World) :
  Calls Tryz.prog 81 #[a.v, b.v] w fun e w' => e = .returned (.int .i64 (a.cmp b)) /\ DBelow w.heap.size w w' := by
 obtain ⟨k, n, s⟩ := a
 obtain ⟨k', n', s'⟩ := b
 go_enter Tryz.func81, Tryz.ntmps81
 go_wp2_with (first
  | (go_at_call 54; refine (cmpI_any _ _ _).mono ?_; rintro e w1 ⟨rfl, rfl⟩)
  | (go_at_call 53; refine (cmpS_any _ _ _).mono ?_; rintro e w1 ⟨rfl, rfl⟩))
 all_goals go_ret
 all_goals refine ⟨ret_i ?_, dbelow2 _ _ _⟩
 all_goals unfold Tm.cmp
 all_goals simp_all
 exact ((M.sgL_zero _ _).2 rfl).symm
theorem placesD_any (a : At) (x : Value) (w : World) (h : Ts w x a.args) :
  Calls Tryz.prog 60 #[a.v x] w fun e w' => e = .returned (.int .i64 a.pl.length) /\ DBelow w.heap.size w w' := by
 obtain ⟨⟨k, n, s⟩, nm, l⟩ := a
 obtain ⟨ad, cap, rfl, hl, -⟩ := h
 simp only at hl
 go_enter Tryz.func60, Tryz.ntmps60
 go_wp2
 go_ret
 exact ⟨ret_i (by simp [At.pl]; omega), dbelow1 _ _⟩
set_option maxHeartbeats 400000 in
theorem placeD_any (a : At) (x : Value) (i : Nat) (t : Tm) (ht : a.pl[i]? = some t) (w : World) (h : Ts w x a.args) :
  Calls Tryz.prog 62 #[a.v x, .int .i64 i] w fun e w' => e = .returned t.v /\ DBelow w.heap.size w w' := by
 obtain ⟨⟨k, n, s⟩, nm, l⟩ := a
 obtain ⟨ad, cap, rfl, hl, h⟩ := h
 simp only at hl
 cases i with
 | zero =>
  simp only [At.pl, List.getElem?_cons_zero, Option.some.injEq] at ht
  subst ht
  go_enter Tryz.func62, Tryz.ntmps62
  go_wp2
  exact bodyPost_ret (v := Tm.v ⟨k, n, s⟩) (by simp [results, Tryz.results62, go_sem]) rfl ⟨rfl, dbelow2 _ _ _⟩
 | succ i =>
  simp only [At.pl, List.getElem?_cons_succ] at ht
  have hi : i < l.length := (List.getElem?_eq_some_iff.1 ht).1
  rcases h with h | ⟨b, o, rfl, hbs, h⟩
  ·subst h; simp at hi
  ·obtain ⟨c0, c1, c2⟩ := h i t ht
   obtain ⟨k', n', s'⟩ := t
   simp only at c0 c1 c2
   have TT : Hid (l[i]? = some ⟨k', n', s'⟩) := ht
   clear h ht
   have i1 : (0 : Int) <= (i : Int) := by omega
   have i2 : (i : Int) < (l.length : Int) := by omega
   have e1 : ((i + 1 : Nat) : Int) - 1 = i := by omega
   go_enter Tryz.func62, Tryz.ntmps62
   go_wp2
   exact bodyPost_ret (v := Tm.v ⟨k', n', s'⟩) (by simp [results, Tryz.results62, go_sem]) rfl ⟨rfl, dbelow2 _ _ _⟩
def DBox2 (w W : World) (c d : Array Value) : Prop := W.heap[w.heap.size]? = some (.cells c 33 (0, 0)) /\ W.heap[w.heap.size + 1]? = some (.cells d 33 (0, 0)) /\ DBelow w.heap.size w W
theorem DBox2.start (w : World) (c d : Array Value) : DBox2 w ((w.alloc (.cells c 33)).alloc (.cells d 33)) c d := ⟨heap_alloc2_old _ _ _, heap_alloc2_new _ _ _, dbelow2 _ _ _⟩
theorem DBox2.later {w W W' : World} {c d : Array Value} (h : DBox2 w W c d) (hb : DBelow W.heap.size W W') : DBox2 w W' c d :=
 ⟨(hb.block _ (Array.getElem?_eq_some_iff.1 h.1).1).trans h.1, (hb.block _ (Array.getElem?_eq_some_iff.1 h.2.1).1).trans h.2.1, h.2.2.trans (hb.mono h.2.2.size)⟩
theorem DBox2.old {w W : World} {c d : Array Value} (h : DBox2 w W c d) : Box2 w W c d := ⟨h.1, h.2.1, h.2.2.toBelow⟩
theorem DBox2.lt {w W : World} {c d : Array Value} (h : DBox2 w W c d) : w.heap.size + 1 < W.heap.size := h.old.lt
set_option maxHeartbeats 2000000 in
theorem cmpAD_go (k n k' n' : Int) (ss nm ss' nm' : ByteArray) (l l' : List Tm) (P A : At) (hP : P = At.mk ⟨k, n, ss⟩ nm l) (hA : A = At.mk ⟨k', n', ss'⟩ nm' l')
  (x y : Value) (w : World) (hx : Ts w x l) (hy : Ts w y l') :
  Calls Tryz.prog 47 #[(At.mk ⟨k, n, ss⟩ nm l).v x, (At.mk ⟨k', n', ss'⟩ nm' l').v y] w fun e w' => e = .returned (.int .i64 (P.cmp A)) /\ DBelow w.heap.size w w' := by
 have HX : Hid (Ts w x P.args) := by rw [hP]; exact hx
 have HY : Hid (Ts w y A.args) := by rw [hA]; exact hy
 obtain ⟨r, hr⟩ : ∃ r, P.cmp A = r := ⟨_, rfl⟩
 rw [hr]
 have HR : Hid ((if nm.toList ≠ nm'.toList then M.sgL nm.toList nm'.toList else if l.length ≠ l'.length then M.sgI l.length l'.length else cmpL P.pl A.pl) = r) := by
  show (if _ then _ else _) = r
  rw [<- hr]; unfold At.cmp; rw [hP, hA]
 have ep : ∀ z, (P.v z) = (At.mk ⟨k, n, ss⟩ nm l).v z := fun z => by rw [hP]
 have ea : ∀ z, (A.v z) = (At.mk ⟨k', n', ss'⟩ nm' l').v z := fun z => by rw [hA]
 have h3 := fun W (h : DBelow w.heap.size w W) => placesD_any P x W (HX.out.later h)
 rw [ep] at h3
 have H3 : Hid (∀ W, DBelow w.heap.size w W -> Calls Tryz.prog 60 #[(At.mk ⟨k, n, ss⟩ nm l).v x] W fun e w' => e = .returned (.int .i64 P.pl.length) /\ DBelow W.heap.size W w') := h3
 have h4 := fun i t (ht : P.pl[i]? = some t) W (h : DBelow w.heap.size w W) => placeD_any P x i t ht W (HX.out.later h)
 have h5 := fun i t (ht : A.pl[i]? = some t) W (h : DBelow w.heap.size w W) => placeD_any A y i t ht W (HY.out.later h)
 rw [ep] at h4
 rw [ea] at h5
 have H4 : Hid (∀ (i : Nat) (t : Tm), P.pl[i]? = some t -> ∀ W, DBelow w.heap.size w W -> Calls Tryz.prog 62 #[(At.mk ⟨k, n, ss⟩ nm l).v x, .int .i64 i] W fun e w' => e = .returned t.v /\ DBelow W.heap.size W w') := h4
 have H5 : Hid (∀ (i : Nat) (t : Tm), A.pl[i]? = some t -> ∀ W, DBelow w.heap.size w W -> Calls Tryz.prog 62 #[(At.mk ⟨k', n', ss'⟩ nm' l').v y, .int .i64 i] W fun e w' => e = .returned t.v /\ DBelow W.heap.size W w') := h5
 have HP : Hid (P.pl.length = l.length + 1) := by show P.pl.length = _; rw [pl_len, hP]
 have HA : Hid (A.pl.length = l'.length + 1) := by show A.pl.length = _; rw [pl_len, hA]
 obtain ⟨ad, cap, rfl, hl, -⟩ := hx
 obtain ⟨ad', cap', rfl, hl', -⟩ := hy
 clear h3 h4 h5 ep ea hr hP hA HX HY
 by_cases e1 : nm.toList = nm'.toList
 ·have hq1 : (nm.toList == nm'.toList) = true := by simpa using e1
  by_cases e2 : l.length = l'.length
  ·have hq2 : ((l.length : Int) == (l'.length : Int)) = true := by simp; omega
   have HR2 : Hid (cmpL P.pl A.pl = r) := by show cmpL P.pl A.pl = r; rw [<- HR.out]; simp [e1, e2]
   have E2 : Hid (l.length = l'.length) := e2
   have hpn : P.pl.length <= 1000000000000000000 := by have := HP.out; omega
   clear e1 e2 HR
   go_enter Tryz.func47, Tryz.ntmps47
   go_wp2_with (go_at_call 60; refine (H3.out _ (dbelow2 _ _ _)).mono ?_; rintro e w1 ⟨rfl, hb1⟩)
   have B5 := (DBox2.start w _ _).later hb1
   clear hb1
   go_loopg [33] P.pl.length (fun g i wr => ∃ j : Nat, j + g = P.pl.length /\ i = .int .i64 j /\ cmpL P.pl A.pl = cmpL (P.pl.drop j) (A.pl.drop j) /\ DBox2 w wr #[.int .i64 k, .int .i64 n, .string ss, .string nm, .slice ad l.length cap] #[.int .i64 k', .int .i64 n', .string ss', .string nm', .slice ad' l'.length cap'])
   case atStart => exact ⟨0, by omega, rfl, by simp, B5⟩
   case round =>
    clear B5
    obtain ⟨j, hj, rfl, hgo, hbox⟩ := hrel
    have HG : Hid (cmpL P.pl A.pl = cmpL (P.pl.drop j) (A.pl.drop j)) := hgo
    have HB : Hid (DBox2 w wr #[.int .i64 k, .int .i64 n, .string ss, .string nm, .slice ad l.length cap] #[.int .i64 k', .int .i64 n', .string ss', .string nm', .slice ad' l'.length cap']) := hbox
    clear hgo hbox
    cases gk with
    | succ g =>
     have hlt : (j : Int) < (P.pl.length : Int) := by omega
     obtain ⟨t, ht⟩ : ∃ t, P.pl[j]? = some t := ⟨_, List.getElem?_eq_getElem (by omega)⟩
     obtain ⟨u, hu⟩ : ∃ u, A.pl[j]? = some u := ⟨_, List.getElem?_eq_getElem (by have := HP.out; have := HA.out; have := E2.out; omega)⟩
     obtain ⟨c, hc⟩ : ∃ c, t.cmp u = c := ⟨_, rfl⟩
     have HT : Hid (P.pl[j]? = some t) := ht
     have HU : Hid (A.pl[j]? = some u) := hu
     have HC : Hid (t.cmp u = c) := hc
     clear ht hu hc
     obtain ⟨tk, tn, ts⟩ := t
     obtain ⟨uk, un, us⟩ := u
     obtain ⟨⟨p0, p1, p2, p3, p4⟩, q0, q1, q2, q3, q4⟩ := HB.out.old.cells
     have zz := HB.out.lt
     have zz0 : w.heap.size < wr.heap.size := by omega
     go_wp2
     refine wp_region_held_drew (S := fun w' => DBelow wr.heap.size wr w') (by kernel_rfl) (DBelow.refl _ _).drew (fun hH => ?_)
     refine wTl 0 (.agg #[.int .i64 k, .int .i64 n, .string ss, .string nm, .slice ad l.length cap]) rfl (by kernel_rfl) (fun _ _ _ h => h) rfl (fun w' h => by have a0 := cell_step (DBelow.toBelow h) zz0 p0; have a1 := cell_step (DBelow.toBelow h) zz0 p1; have a2 := cell_step (DBelow.toBelow h) zz0 p2; have a3 := cell_step (DBelow.toBelow h) zz0 p3; have a4 := cell_step (DBelow.toBelow h) zz0 p4; clear p0 p1 p2 p3 p4 q0 q1 q2 q3 q4; go_simp) hH ?_
     simp only [wA, wB, wC, wD]
     refine wTl 1 (.int .i64 j) rfl (by kernel_rfl) (fun _ _ _ h => h) rfl (fun w' _ => by go_simp) hH ?_
     simp only [wA, wB, wC, wD]
     refine wTl 3 (.agg #[.int .i64 k', .int .i64 n', .string ss', .string nm', .slice ad' l'.length cap']) rfl (by kernel_rfl) (fun _ _ _ h => h) rfl (fun w' h => by have a0 := cell_step (DBelow.toBelow h) zz q0; have a1 := cell_step (DBelow.toBelow h) zz q1; have a2 := cell_step (DBelow.toBelow h) zz q2; have a3 := cell_step (DBelow.toBelow h) zz q3; have a4 := cell_step (DBelow.toBelow h) zz q4; clear p0 p1 p2 p3 p4 q0 q1 q2 q3 q4; go_simp) hH ?_
     simp only [wA, wB, wC, wD]
     refine wTl 4 (.int .i64 j) rfl (by kernel_rfl) (fun _ _ _ h => h) rfl (fun w' _ => by go_simp) hH ?_
     simp only [wA, wB, wC, wD]
     clear p0 p1 p2 p3 p4 q0 q1 q2 q3 q4
     refine wRd 2 (by kernel_rfl) rfl (fun K hK => ?_)
     go_simp
     refine (H4.out j ⟨tk, tn, ts⟩ HT.out _ (dbelow_step HB.out.2.2 hH)).mono ?_
     rintro e w3 ⟨rfl, hb⟩
     refine hK.out _ _ (dbelow_step hH hb) (fun hH => ?_)
     clear hb hK K
     refine wRd 5 (by kernel_rfl) rfl (fun K hK => ?_)
     go_simp
     refine (H5.out j ⟨uk, un, us⟩ HU.out _ (dbelow_step HB.out.2.2 hH)).mono ?_
     rintro e w4 ⟨rfl, hb⟩
     refine hK.out _ _ (dbelow_step hH hb) (fun hH => ?_)
     clear hb hK K
     refine wRd 6 (by kernel_rfl) rfl (fun K hK => ?_)
     go_simp
     refine (compareD_any ⟨tk, tn, ts⟩ ⟨uk, un, us⟩ _).mono ?_
     rw [HC.out]
     rintro e w5 ⟨rfl, hb⟩
     refine hK.out _ _ (dbelow_step hH hb) (fun hH => ?_)
     clear hb hK K
     refine wTl 7 (.int .i64 c) rfl (by kernel_rfl) (fun _ _ _ h => h) rfl (fun w' _ => by go_simp) hH ?_
     simp only [wA, wB, wC, wD]
     refine wpAnyH_done (by kernel_rfl) ?_ _
     by_cases h0 : c = 0
     ·have HG2 : Hid (cmpL P.pl A.pl = cmpL (P.pl.drop (j + 1)) (A.pl.drop (j + 1))) := HG.out.trans (cmpL_eq _ _ j _ _ HT.out HU.out (HC.out.trans h0))
      have hq : (c == 0) = true := by simpa using h0
      clear h0
      go_wp2
      go_roundg g
      case measure => omega
      case rel => exact ⟨j + 1, by omega, by go_num, HG2.out, HB.out.later hH⟩
     ·have HG2 : Hid (c = r) := by show c = r; rw [<- HR2.out, HG.out, cmpL_ne _ _ j _ _ HT.out HU.out (by rw [HC.out]; exact h0), HC.out]
      have hq : (c == 0) = false := by simpa using h0
      clear h0
      go_wp2
      go_ret
      exact ⟨ret_i HG2.out, (HB.out.later hH).2.2⟩
    | zero =>
     have hlt : ¬ (j : Int) < (P.pl.length : Int) := by omega
     have HG2 : Hid (0 = r) := by show 0 = r; rw [<- HR2.out, HG.out, List.drop_eq_nil_of_le (by omega)]; rfl
     clear hj
     go_wp2
     go_ret
     exact ⟨ret_i HG2.out, HB.out.2.2⟩
  ·have hq2 : ((l.length : Int) == (l'.length : Int)) = false := by simp; omega
   have HR2 : Hid (M.sgI l.length l'.length = r) := by show M.sgI l.length l'.length = r; rw [<- HR.out]; simp [e1, e2]
   clear e1 e2 HR
   go_enter Tryz.func47, Tryz.ntmps47
   go_wp2_with (go_at_call 54; refine (cmpI_any _ _ _).mono ?_; rintro e w1 ⟨rfl, rfl⟩)
   go_ret
   exact ⟨ret_i HR2.out, dbelow2 _ _ _⟩
 ·have hq1 : (nm.toList == nm'.toList) = false := by simpa using e1
  have HR2 : Hid (sgS nm nm' = r) := by show sgS nm nm' = r; rw [<- HR.out]; simp [e1]
  clear e1 HR
  go_enter Tryz.func47, Tryz.ntmps47
  go_wp2_with (go_at_call 53; refine (cmpS_any _ _ _).mono ?_; rintro e w1 ⟨rfl, rfl⟩)
  go_ret
  exact ⟨ret_i HR2.out, dbelow2 _ _ _⟩
theorem cmpAD_any (p a : At) (x y : Value) (w : World) (hx : Ts w x p.args) (hy : Ts w y a.args) :
  Calls Tryz.prog 47 #[p.v x, a.v y] w fun e w' => e = .returned (.int .i64 (p.cmp a)) /\ DBelow w.heap.size w w' := by
 obtain ⟨⟨k, n, ss⟩, nm, l⟩ := p
 obtain ⟨⟨k', n', ss'⟩, nm', l'⟩ := a
 exact cmpAD_go k n k' n' ss nm ss' nm' l l' _ _ rfl rfl x y w hx hy
end Go.Proofs.YtechceagghcipabGreatDoor
namespace Go.Proofs.YtechceagghcipabGreatDoor
open Go.RowKit Go.Shelf Go.Lib Go.Sort
def sl8 (x : At × Nat) : Value := .slice (some ⟨x.2, 0, none⟩) x.1.args.length x.1.args.length
def enc8 (x : At × Nat) : At × Value := (x.1, sl8 x)
def acs8 (l : List (At × Nat)) : List Value := acs (l.map enc8)
theorem acs8_len (l : List (At × Nat)) : (acs8 l).length = l.length * 5 := by unfold acs8; rw [acs_len, List.length_map]
theorem acs8_get (l : List (At × Nat)) (j : Nat) (d : At × Nat) (h : l[j]? = some d) (i : Nat) (hi : i < 5) : (acs8 l)[j * 5 + i]? = (acell (enc8 d))[i]? := acs_get _ j _ (by rw [List.getElem?_map, h]; rfl) i hi
def OwnA8 (w : World) (base : Nat) (v : Value) (l : List (At × Nat)) : Prop := w.ownsRow base 33 5 v l.length (acs8 l)
theorem OwnA8.lt {w : World} {base : Nat} {v : Value} {l : List (At × Nat)} (h : OwnA8 w base v l) : ∀ k, v.ownBlock = some k -> base <= k /\ k < w.heap.size := World.ownsRow.lt h
theorem OwnA8.a {w : World} {base : Nat} {v : Value} {l : List (At × Nat)} (h : OwnA8 w base v l) : OwnA w base v (l.map enc8) := by unfold OwnA; rw [List.length_map]; exact h
theorem dbelow_grow8 {w w' : World} (h : DBelow w.heap.size w w') : ∃ q os', w' = grow (w.drewN q) os' := by
 refine ⟨w'.drawn - w.drawn, w'.heap.extract w.heap.size w'.heap.size, ?_⟩
 obtain ⟨hp, tp, dr, os, out⟩ := w
 obtain ⟨hp', tp', dr', os', out'⟩ := w'
 obtain ⟨⟨h1, h2, h3, h4, h5⟩, h6⟩ := h
 simp only at h1 h2 h3 h4 h5 h6
 subst h1 h2 h3
 have e1 : hp' = hp ++ hp'.extract hp.size hp'.size := by
  apply Array.ext_getElem?
  intro i
  by_cases hi : i < hp.size
  ·rw [Array.getElem?_append_left hi]; exact h5 i hi
  ·rw [Array.getElem?_append_right (by omega), Array.getElem?_extract]
   by_cases hi2 : i < hp'.size
   ·rw [if_pos (by omega), show hp.size + (i - hp.size) = i by omega]
   ·rw [if_neg (by omega), Array.getElem?_eq_none (by omega)]
 show World.mk hp' tp' dr' os' out' = World.mk (hp ++ hp'.extract hp.size hp'.size) tp' (dr + (dr' - dr)) os' out'
 rw [<- e1, show dr + (dr' - dr) = dr' by omega]
def Cf8 (w : World) (g : Nat) : Type := { x : At × Nat // ∀ X : World, Fr (fun b => b = g) w X -> Ts X (sl8 x) x.1.args }
instance (w : World) (g : Nat) : Inhabited (Cf8 w g) := ⟨⟨(⟨zt, ⟨#[]⟩, []⟩, 0), fun _ _ => ⟨_, 0, rfl, by simp, Or.inl rfl⟩⟩⟩
def Cf8.cs {w : World} {g : Nat} (x : Cf8 w g) : List Value := acell (enc8 x.1)
def cfC8 {w : World} {g : Nat} (x y : Cf8 w g) : Int := x.1.1.cmp y.1.1
theorem ltC8 {w : World} {g : Nat} (x y : Cf8 w g) : ltOf cfC8 x y = decide (x.1.1.cmp y.1.1 < 0) := rfl
theorem swoC8 (w : World) (g : Nat) : SWO (ltOf (cfC8 (w := w) (g := g))) where
 irrefl x := by rw [ltC8, ord_at.refl]; rfl
 trans x y z h1 h2 := by
  rw [ltC8] at *
  simp only [decide_eq_true_eq] at *
  exact (ord_at.tr _ _ _ (by omega) (by omega)).2 (Or.inl h1)
 ntrans x y z h1 h2 := by
  rw [ltC8] at *
  simp only [decide_eq_false_iff_not] at *
  have n1 := ord_at.neg x.1.1 y.1.1
  have n2 := ord_at.neg y.1.1 z.1.1
  have n3 := ord_at.neg x.1.1 z.1.1
  have := (ord_at.tr z.1.1 y.1.1 x.1.1 (by omega) (by omega)).1
  omega
theorem flatC8 {w : World} {g : Nat} (d : Array (Cf8 w g)) : flatK Cf8.cs 5 d = (acs8 (d.toList.map (·.1))).toArray := by
 apply Array.ext
 ·simp [acs8_len]
 ·intro t h1 h2
  have ht : t < d.size * 5 := by simpa using h1
  have hq : t / 5 < d.size := by omega
  have hd : (d.toList.map (·.1))[t / 5]? = some (d[t / 5]!).1 := by
   rw [getElem!_pos d (t / 5) hq]; simp [hq]
  have hg := acs8_get (d.toList.map (·.1)) (t / 5) _ hd (t % 5) (by omega)
  rw [show t / 5 * 5 + t % 5 = t by omega] at hg
  have e1 : (flatK Cf8.cs 5 d)[t] = (Cf8.cs d[t / 5]!)[t % 5]! := by
   have := get_flatK Cf8.cs 5 d t ht
   rwa [getElem!_pos _ t h1] at this
  rw [e1]
  have hc : t % 5 < (Cf8.cs d[t / 5]!).length := by simp [Cf8.cs, acell, enc8]; omega
  rw [getElem!_pos (Cf8.cs d[t / 5]!) (t % 5) hc]
  have h3 : t < (acs8 (d.toList.map (·.1))).length := by simpa using h2
  have hg2 : (acs8 (d.toList.map (·.1)))[t]? = (Cf8.cs d[t / 5]!)[t % 5]? := hg
  rw [List.getElem?_eq_getElem hc, List.getElem?_eq_getElem h3] at hg2
  simpa using (Option.some.inj hg2).symm
theorem holdsC8 {w : World} {base g cap : Nat} {d : Array (Cf8 w g)} (h : OwnA8 w base (.slice (some ⟨g, 0, none⟩) d.size cap) (d.toList.map (·.1))) : HoldsK Cf8.cs 5 w g 0 d := by
 rcases h.2 with ⟨h, _⟩ | ⟨g', cap', cur, hv, hb, hg, hn, hc, hs, ht⟩
 ·cases h
 ·simp only [Value.slice.injEq, Option.some.injEq, Addr.mk.injEq] at hv
  obtain ⟨⟨rfl, -⟩, -, rfl⟩ := hv
  intro j hj
  rw [flatC8] at hj ⊢
  have hj' : j < (acs8 (d.toList.map (·.1))).length := by simpa using hj
  refine ⟨?_, by simp [World.frozen?, hg]⟩
  rw [Nat.zero_add, cell_of_row _ _ _ _ _ _ hg, getElem!_pos _ j hj]
  have h1 : (cur.toList.take ((d.toList.map (·.1)).length * 5))[j]? = (acs8 (d.toList.map (·.1)))[j]? := by rw [ht]
  rw [List.getElem?_take_of_lt (by rw [acs8_len] at hj'; exact hj'), List.getElem?_eq_getElem hj'] at h1
  simpa using h1
theorem grownC8 {w : World} {g n : Nat} {os : Array Obj} {d' : Array (Cf8 w g)} : w.grownBy (sortWorldK Cf8.cs 5 w g 0 n d' os) (some g) := by
 refine ⟨rfl, rfl, rfl, by simp [sortWorldK, putRowK], fun k hk hne => ?_⟩
 unfold sortWorldK putRowK
 rw [heap_grow_old _ _ (by simpa using hk)]
 have : g ≠ k := fun e => hne (by rw [e])
 simp [putRow, mapBlock, Sort.ahead, Array.getElem?_modify, this]
theorem belowC8 {w : World} {g n : Nat} {os : Array Obj} {d' : Array (Cf8 w g)} : Fr (fun b => b = g) w (sortWorldK Cf8.cs 5 w g 0 n d' os) := Fr.grown grownC8 fun b e => by cases e; rfl
theorem cmpLaysC8 (blk size : Nat) (w : World) : CmpLays Tryz.prog 47 #[] (Cf8.cs (w := w) (g := blk)) 5 cfC8 blk 0 size w :=
 fun _ _ _ _ x y => (cmpAD_any x.1.1 y.1.1 (sl8 x.1) (sl8 y.1) _ (x.2 _ belowC8) (y.2 _ belowC8)).mono fun _ _ ⟨he, hb⟩ => ⟨he, dbelow_grow8 hb⟩
theorem ownC8 {w : World} {base g cap n : Nat} {os : Array Obj} {d d' : Array (Cf8 w g)} (h : OwnA8 w base (.slice (some ⟨g, 0, none⟩) d.size cap) (d.toList.map (·.1))) (hs : d'.size = d.size) :
  OwnA8 (sortWorldK Cf8.cs 5 w g 0 n d' os) base (.slice (some ⟨g, 0, none⟩) d.size cap) (d'.toList.map (·.1)) := by
 rcases h.2 with ⟨h, _⟩ | ⟨g', cap', cur, hv, hb, hg, hn, hc, hsz, ht⟩
 ·cases h
 ·simp only [Value.slice.injEq, Option.some.injEq, Addr.mk.injEq] at hv
  obtain ⟨⟨rfl, -⟩, -, rfl⟩ := hv
  have hgs : g < w.heap.size := (Array.getElem?_eq_some_iff.1 hg).1
  have hH : (sortWorldK Cf8.cs 5 w g 0 n d' os).heap[g]? = some (.cells (putCells id 0 (acs8 (d'.toList.map (·.1))).toArray cur) 33 (0, 0)) := by
   unfold sortWorldK putRowK
   rw [flatC8, heap_grow_old _ _ (by simpa using hgs)]
   simp [putRow, mapBlock, Sort.ahead, Array.getElem?_modify, hg, onCells]
  have hl : (d'.toList.map (·.1)).length = (d.toList.map (·.1)).length := by simp [hs]
  refine ⟨acs8_len _, Or.inr ⟨g, cap, _, by simp [hs], hb, hH, by rw [hl]; exact hn, hc, by simp [putCells, hsz], ?_⟩⟩
  apply List.ext_getElem?
  intro j
  by_cases hj : j < (d'.toList.map (·.1)).length * 5
  ·have hjc : j < cur.size := by rw [hsz]; rw [hl] at hj; exact Nat.lt_of_lt_of_le hj (Nat.mul_le_mul_right 5 hn)
   have hjb : j < (acs8 (d'.toList.map (·.1))).length := by rw [acs8_len]; exact hj
   rw [List.getElem?_take_of_lt hj, Array.getElem?_toList]
   simp [putCells, hjb, hjc]
  ·rw [List.getElem?_take_eq_none (by omega), List.getElem?_eq_none (by rw [acs8_len]; omega)]
def srtC8 (l : List (At × Nat)) : Prop := l.Pairwise fun a b => a.1.cmp b.1 <= 0
theorem perm_ofC8 {w : World} {g : Nat} {d d' : Array (Cf8 w g)} (h : PermIn 0 d.size d d') : (d'.toList.map (·.1)).Perm (d.toList.map (·.1)) := by
 obtain ⟨hs, -, hp⟩ := h
 have e1 : d'.extract 0 d.size = d' := by rw [<- hs]; simp
 have e2 : d.extract 0 d.size = d := by simp
 rw [e1, e2] at hp
 exact List.Perm.map _ hp
theorem srt_ofC8 {w : World} {g : Nat} {d d' : Array (Cf8 w g)} (hs : d'.size = d.size) (h : SortedIn (ltOf cfC8) 0 d.size d') : srtC8 (d'.toList.map (·.1)) := by
 unfold srtC8
 rw [List.pairwise_iff_getElem]
 intro i j hi hj hij
 have hj' : j < d'.size := by simpa using hj
 have hi' : i < d'.size := by simpa using hi
 have := h i j (Nat.zero_le _) hij (by omega)
 rw [ltC8, getElem!_pos d' j hj', getElem!_pos d' i hi'] at this
 simp only [decide_eq_false_iff_not] at this
 simp only [List.getElem_map, Array.getElem_toList]
 have := ord_at.neg (d'[i]).1.1 (d'[j]).1.1
 omega
set_option maxHeartbeats 2000000 in
theorem sortFuncC8_all (g cap base : Nat) (w : World) (d : Array (Cf8 w g)) (h : OwnA8 w base (.slice (some ⟨g, 0, none⟩) d.size cap) (d.toList.map (·.1))) (hsz : d.size < 4611686018427387904) :
  Calls Tryz.prog 46 #[.slice (some ⟨g, 0, none⟩) d.size cap, .func (.func 47) #[] #[]] w fun e w' => e = .returned (.tuple #[]) /\ ∃ l', OwnA8 w' base (.slice (some ⟨g, 0, none⟩) d.size cap) l' /\ l'.Perm (d.toList.map (·.1)) /\ srtC8 l' /\ Fr (fun b => b = g) w w' := by
 have hlt := h.lt g rfl
 have eg : ∀ args w, (callFunc 47 args).run Tryz.prog w = .ok (.enter 47 args) w := enters_of Tryz.func47 (by kernel_rfl) rfl
 have hlim : Lib.bitLen d.size < 4611686018427387904 := Nat.lt_of_le_of_lt (Lib.bitLen_le d.size 62 (by omega) (by omega)) (by omega)
 have hp := AnyQ.pdqsortCmpFunc_all (P := Tryz.prog) Tryz.pdqAt 5 Tryz.isAgg33 Tryz.sizeOf33 Cf8.cs cfC8 47 #[] (swoC8 w g) g 0 cap d w eg (cmpLaysC8 g d.size w)
  ⟨fun _ => rfl, fun x v hv => by
   simp only [Cf8.cs, acell, enc8, sl8] at hv
   simp at hv
   rcases hv with rfl | rfl | rfl | rfl | rfl <;> rfl, holdsC8 h, hlt.2⟩ (d.size + 1) 0 d.size (Lib.bitLen d.size) d w (by omega) rfl (SWK.start (holdsC8 h)) (Nat.zero_le _) (Nat.le_refl _) hsz hlim (Or.inl rfl)
 change Calls Tryz.prog 79 _ _ _ at hp
 have hl := Any.bits_Len Tryz.bitsLen (d.size : Int) w (by omega) (by omega)
 change Calls Tryz.prog 80 _ _ _ at hl
 rw [Int.toNat_natCast] at hl
 have hs := pdq_sorts (ltOf cfC8) (swoC8 w g) d 0 d.size (Lib.bitLen d.size) true true (Nat.zero_le _) (Nat.le_refl _) (Or.inl rfl)
 obtain ⟨d', hd'⟩ : ∃ d', pdq (ltOf cfC8) d 0 d.size (Lib.bitLen d.size) true true = d' := ⟨_, rfl⟩
 rw [hd'] at hp hs
 have HP : Hid (Calls Tryz.prog 79 #[.slice (some ⟨g, 0, none⟩) d.size cap, .int .i64 ((0 : Nat) : Int), .int .i64 d.size, .int .i64 (Lib.bitLen d.size), .func (.func 47) #[] #[]] w fun e w' => e = .returned (.tuple #[]) /\ SWK Cf8.cs 5 w g 0 d' w') := hp
 have HS : Hid (PermIn 0 d.size d d' /\ SortedIn (ltOf cfC8) 0 d.size d') := hs
 have HO : Hid (OwnA8 w base (.slice (some ⟨g, 0, none⟩) d.size cap) (d.toList.map (·.1))) := h
 have HL : Hid (Calls Tryz.prog 80 #[.int .u64 (d.size : Int)] w fun e w' => e = .returned (.int .i64 (Lib.bitLen d.size)) /\ w' = w) := hl
 have wr : IntKind.u64.wrap (d.size : Int) = d.size := by rw [IntKind.wrap_u64]; omega
 clear hp hs h hl hd' eg
 go_enter Tryz.func46, Tryz.ntmps46
 go_wp2_with (first
  | (go_at_call 80; refine HL.out.mono ?_; rintro e w1 ⟨rfl, rfl⟩)
  | (go_at_call 79; refine HP.out.mono ?_; rintro e w2 ⟨rfl, hw2⟩))
 go_end0
 obtain ⟨n, os, rfl⟩ := hw2
 exact ⟨rfl, d'.toList.map (·.1), ownC8 HO.out HS.out.1.1, perm_ofC8 HS.out.1, srt_ofC8 HS.out.1.1 HS.out.2, belowC8⟩
set_option maxRecDepth 100000 in
set_option maxHeartbeats 2000000 in
theorem insertA0_any (c : Value) (w : World) : Calls Tryz.prog 107 #[.slice none 0 0, .int .i64 0, .int .i64 0, c] w fun e w' => e = .returned (.tuple #[]) /\ w' = w := by
 go_enter Tryz.func107, Tryz.ntmps107
 go_wp2
 go_loopg [8] 0 (fun g i wr => i = .int .i64 1 /\ wr = w)
 case atStart => exact ⟨rfl, rfl⟩
 case round =>
  obtain ⟨rfl, rfl⟩ := hrel
  go_wp2
  go_end0
  exact ⟨rfl, rfl⟩
set_option maxRecDepth 100000 in
set_option maxHeartbeats 2000000 in
theorem pdqA0_any (c : Value) (l : Int) (w : World) : Calls Tryz.prog 79 #[.slice none 0 0, .int .i64 0, .int .i64 0, .int .i64 l, c] w fun e w' => e = .returned (.tuple #[]) /\ w' = w := by
 go_enter Tryz.func79, Tryz.ntmps79
 go_wp2
 go_loopg [1, 2, 3, 10, 11] 0 (fun g s1 s2 s3 s8 s9 wr => s1 = .int .i64 0 /\ s2 = .int .i64 0 /\ s3 = .int .i64 l /\ s8 = .bool true /\ s9 = .bool true /\ wr = w)
 case atStart => exact ⟨rfl, rfl, rfl, rfl, rfl, rfl⟩
 case round =>
  obtain ⟨rfl, rfl, rfl, rfl, rfl, rfl⟩ := hrel
  go_wp2_with (go_at_call 107; refine (insertA0_any _ _).mono ?_; rintro e w1 ⟨rfl, rfl⟩)
  (try simp only [Exit.inBlock, Exit.then])
  refine bodyPost_ret (results_none rfl _ _ _) rfl ?_
  exact ⟨rfl, rfl⟩
set_option maxRecDepth 20000 in
theorem sortA0_any (c : Value) (w : World) : Calls Tryz.prog 46 #[.slice none 0 0, c] w fun e w' => e = .returned (.tuple #[]) /\ w' = w := by
 have hl := Any.bits_Len Tryz.bitsLen 0 w (by omega) (by omega)
 change Calls Tryz.prog 80 _ _ _ at hl
 have HL := hm7 hl
 clear hl
 go_enter Tryz.func46, Tryz.ntmps46
 go_wp2_with (first | (go_at_call 80; refine HL.out.mono ?_; rintro e w1 ⟨rfl, rfl⟩) | (go_at_call 79; refine (pdqA0_any _ _ _).mono ?_; rintro e w2 ⟨rfl, rfl⟩))
 go_end0
 exact ⟨rfl, rfl⟩
structure AL8 (V : World) (base : Nat) (fv : Value) (Q : List (At × Nat)) : Prop where
 o : OwnA8 V base fv Q
 t : ∀ x ∈ Q, TBlk V x.2 x.1.args x.1.args.length /\ base <= x.2 /\ x.1.args.length <= 1000000000
 nd : (Q.map Prod.snd).Nodup
theorem TBlk.same8 {w w' : World} {g : Nat} {l : List Tm} {k : Nat} (h : TBlk w g l k) (hs : w'.heap[g]? = w.heap[g]?) : TBlk w' g l k := by
 obtain ⟨C, h1, h2⟩ := h
 exact ⟨C, hs.trans h1, h2⟩
theorem TBlk.lt8 {w : World} {g : Nat} {l : List Tm} {k : Nat} (h : TBlk w g l k) : g < w.heap.size := by
 obtain ⟨C, h1, -⟩ := h
 exact (Array.getElem?_eq_some_iff.1 h1).1
theorem AL8.nil (V : World) (base : Nat) : AL8 V base (.slice none 0 0) [] := ⟨World.ownsRow_nil _ _ _ _, by simp, by simp⟩
theorem AL8.same {V V' : World} {base : Nat} {fv : Value} {Q : List (At × Nat)} (h : AL8 V base fv Q) (hs : ∀ b, (fv.ownBlock = some b ∨ ∃ x ∈ Q, x.2 = b) -> V'.heap[b]? = V.heap[b]?) : AL8 V' base fv Q :=
 ⟨row7 h.o fun g hg => hs g (Or.inl hg), fun x hx => ⟨(h.t x hx).1.same8 (hs _ (Or.inr ⟨x, hx, rfl⟩)), (h.t x hx).2⟩, h.nd⟩
theorem AL8.lt {V : World} {base : Nat} {fv : Value} {Q : List (At × Nat)} (h : AL8 V base fv Q) {b : Nat} (hb : fv.ownBlock = some b ∨ ∃ x ∈ Q, x.2 = b) : base <= b /\ b < V.heap.size := by
 rcases hb with hb | ⟨x, hx, rfl⟩
 ·exact h.o.lt b hb
 ·exact ⟨(h.t x hx).2.1, (h.t x hx).1.lt8⟩
theorem AL8.below {V V' : World} {base : Nat} {fv : Value} {Q : List (At × Nat)} (h : AL8 V base fv Q) (hb : Below V.heap.size V V') : AL8 V' base fv Q := h.same fun b hq => hb.block b (h.lt hq).2
theorem AL8.mono {V : World} {base base' : Nat} {fv : Value} {Q : List (At × Nat)} (h : AL8 V base fv Q) (hb : base' <= base) : AL8 V base' fv Q :=
 ⟨row7_mono h.o hb, fun x hx => ⟨(h.t x hx).1, Nat.le_trans hb (h.t x hx).2.1, (h.t x hx).2.2⟩, h.nd⟩
theorem AL8.ne {V : World} {base : Nat} {fv : Value} {Q : List (At × Nat)} (h : AL8 V base fv Q) {x : At × Nat} (hx : x ∈ Q) : fv.ownBlock ≠ some x.2 := fun e => by
 obtain ⟨c, hc⟩ := row7_blk h.o e
 obtain ⟨C, h1, -⟩ := (h.t x hx).1
 unfold Bk at hc
 rw [hc] at h1
 exact absurd h1 (by simp)
theorem AL8.snoc {V V' : World} {base : Nat} {fv fv' : Value} {Q : List (At × Nat)} {x : At × Nat} (h : AL8 V base fv Q) (ho : OwnA V' base fv' ((Q ++ [x]).map enc8)) (hf : V.grownBy V' fv.ownBlock) (hx : TBlk V x.2 x.1.args x.1.args.length) (hb : base <= x.2) (hn : x.1.args.length <= 1000000000) (hw : ∀ y ∈ Q, y.2 ≠ x.2) (hne : fv.ownBlock ≠ some x.2) : AL8 V' base fv' (Q ++ [x]) := by
 refine ⟨by unfold OwnA at ho; rw [List.length_map] at ho; exact ho, fun y hy => ?_, ?_⟩
 ·rcases List.mem_append.1 hy with hy | hy
  ·exact ⟨(h.t y hy).1.same8 (hf.block _ (h.t y hy).1.lt8 fun e => h.ne hy e.symm), (h.t y hy).2⟩
  ·rw [List.mem_singleton] at hy
   subst hy
   exact ⟨hx.same8 (hf.block _ hx.lt8 fun e => hne e.symm), hb, hn⟩
 ·rw [List.map_append, List.nodup_append]
  refine ⟨h.nd, by simp, fun a ha b hb' => ?_⟩
  simp only [List.map_cons, List.map_nil, List.mem_singleton] at hb'
  obtain ⟨y, hy, rfl⟩ := List.mem_map.1 ha
  rw [hb']
  exact hw y hy
def SO8 (base : Nat) (fv : Value) (Q : List (At × Nat)) (V : World) (e : Ending) (V' : World) : Prop :=
 e = .returned (.tuple #[]) /\ ∃ Q', AL8 V' base fv Q' /\ Q'.Perm Q /\ srtC8 Q' /\ Fr (fun b => fv.ownBlock = some b) V V'
def toCf8 {w : World} {g : Nat} : (P : List (At × Nat)) -> (∀ p ∈ P, ∀ X : World, Fr (fun b => b = g) w X -> Ts X (sl8 p) p.1.args) -> List (Cf8 w g)
 | [], _ => []
 | p :: P, h => ⟨p, h p (by simp)⟩ :: toCf8 P fun q hq => h q (by simp [hq])
theorem toCf8_map {w : World} {g : Nat} : ∀ (P : List (At × Nat)) (h : ∀ p ∈ P, ∀ X : World, Fr (fun b => b = g) w X -> Ts X (sl8 p) p.1.args), (toCf8 P h).map (fun x : Cf8 w g => x.1) = P
 | [], _ => rfl
 | p :: P, h => congrArg (p :: ·) (toCf8_map P fun q hq => h q (by simp [hq]))
theorem sortA8_any (base : Nat) (fv : Value) (Q : List (At × Nat)) (V : World) (h : AL8 V base fv Q) (hl : Q.length <= 1000000000000) : Calls Tryz.prog 46 #[fv, .func (.func 47) #[] #[]] V (SO8 base fv Q V) := by
 rcases h.o.2 with ⟨rfl, hn⟩ | ⟨g, cap, cur, rfl, -⟩
 ·obtain rfl : Q = [] := List.eq_nil_of_length_eq_zero hn
  refine (sortA0_any _ V).mono ?_
  rintro e w' ⟨rfl, rfl⟩
  exact ⟨rfl, [], AL8.nil _ _, List.Perm.refl _, List.Pairwise.nil, Fr.refl _ _⟩
 ·have hst : ∀ p ∈ Q, ∀ X : World, Fr (fun b => b = g) V X -> Ts X (sl8 p) p.1.args := fun p hp X hX => ((h.t p hp).1.same8 (hX.block _ (h.t p hp).1.lt8 fun e => h.ne hp (by rw [e]; rfl))).ts rfl (by have := (h.t p hp).2.2; omega)
  obtain ⟨d, hd⟩ : ∃ d : Array (Cf8 V g), d.toList = toCf8 Q hst := ⟨(toCf8 Q hst).toArray, rfl⟩
  have hdm : d.toList.map (fun x : Cf8 V g => x.1) = Q := by rw [hd]; exact toCf8_map Q hst
  have hds : d.size = Q.length := by rw [<- hdm]; simp
  have ho := h.o
  rw [<- hds]
  rw [<- hdm, List.length_map, Array.length_toList] at ho
  refine (sortFuncC8_all g cap base V d ho (by omega)).mono ?_
  rintro e w' ⟨rfl, l', k1, k2, k3, k4⟩
  rw [hdm] at k2
  refine ⟨rfl, l', ⟨k1, fun x hx => ?_, (k2.map Prod.snd).nodup_iff.2 h.nd⟩, k2, k3, k4.mono fun b _ e => by rw [e]; rfl⟩
  have hx' := k2.mem_iff.1 hx
  exact ⟨(h.t x hx').1.same8 (k4.block _ (h.t x hx').1.lt8 fun e => h.ne hx' (by rw [e]; rfl)), (h.t x hx').2⟩
end Go.Proofs.YtechceagghcipabGreatDoor
