import Derived.Test.YtdfgijdededolabGreatDoorB7
/-
  CompareAtoms.
-/
namespace Go.Proofs.YtdfgijdededolabGreatDoor
open Go.RowKit
attribute [local go_sem ↓] Go.wp_at_zero Go.wp_at_succ

def cmpL : List Tm → List Tm → Int
  | x :: xs, y :: ys => if x.cmp y ≠ 0 then x.cmp y else cmpL xs ys
  | _, _ => 0
def At.cmp (a b : At) : Int := if a.name.toList ≠ b.name.toList then M.sgL a.name.toList b.name.toList else if a.args.length ≠ b.args.length then M.sgI a.args.length b.args.length else cmpL a.pl b.pl
theorem cmpL_ne (p a : List Tm) (i : Nat) (t u : Tm) (ht : p[i]? = some t) (hu : a[i]? = some u) (h : ¬ t.cmp u = 0) : cmpL (p.drop i) (a.drop i) = t.cmp u := by
  obtain ⟨h1, rfl⟩ := List.getElem?_eq_some_iff.1 ht
  obtain ⟨h2, rfl⟩ := List.getElem?_eq_some_iff.1 hu
  rw [List.drop_eq_getElem_cons h1, List.drop_eq_getElem_cons h2, cmpL, if_pos h]
theorem cmpL_eq (p a : List Tm) (i : Nat) (t u : Tm) (ht : p[i]? = some t) (hu : a[i]? = some u) (h : t.cmp u = 0) : cmpL (p.drop i) (a.drop i) = cmpL (p.drop (i + 1)) (a.drop (i + 1)) := by
  obtain ⟨h1, rfl⟩ := List.getElem?_eq_some_iff.1 ht
  obtain ⟨h2, rfl⟩ := List.getElem?_eq_some_iff.1 hu
  rw [List.drop_eq_getElem_cons h1, List.drop_eq_getElem_cons h2, cmpL, if_neg (by simpa using h)]
set_option maxHeartbeats 2000000 in
theorem cmpA_go (k n k' n' : Int) (ss nm ss' nm' : ByteArray) (l l' : List Tm) (P A : At) (hP : P = At.mk ⟨k, n, ss⟩ nm l) (hA : A = At.mk ⟨k', n', ss'⟩ nm' l')
    (x y : Value) (w : World) (hx : Ts w x l) (hy : Ts w y l') :
    Calls Tryz.prog 50 #[(At.mk ⟨k, n, ss⟩ nm l).v x, (At.mk ⟨k', n', ss'⟩ nm' l').v y] w fun e w' => e = .returned (.int .i64 (P.cmp A)) ∧ Below w.heap.size w w' := by
  have HX : Hid (Ts w x P.args) := by rw [hP]; exact hx
  have HY : Hid (Ts w y A.args) := by rw [hA]; exact hy
  obtain ⟨r, hr⟩ : ∃ r, P.cmp A = r := ⟨_, rfl⟩
  rw [hr]
  have HR : Hid ((if nm.toList ≠ nm'.toList then M.sgL nm.toList nm'.toList else if l.length ≠ l'.length then M.sgI l.length l'.length else cmpL P.pl A.pl) = r) := by
    show (if _ then _ else _) = r
    rw [← hr]; unfold At.cmp; rw [hP, hA]
  have ep : ∀ z, (P.v z) = (At.mk ⟨k, n, ss⟩ nm l).v z := fun z => by rw [hP]
  have ea : ∀ z, (A.v z) = (At.mk ⟨k', n', ss'⟩ nm' l').v z := fun z => by rw [hA]
  have h3 := fun W (h : Below w.heap.size w W) => places_any P x W (HX.out.later h)
  rw [ep] at h3
  have H3 : Hid (∀ W, Below w.heap.size w W → Calls Tryz.prog 94 #[(At.mk ⟨k, n, ss⟩ nm l).v x] W fun e w' => e = .returned (.int .i64 P.pl.length) ∧ Below W.heap.size W w') := h3
  have h4 := fun i t (ht : P.pl[i]? = some t) W (h : Below w.heap.size w W) => place_any P x i t ht W (HX.out.later h)
  have h5 := fun i t (ht : A.pl[i]? = some t) W (h : Below w.heap.size w W) => place_any A y i t ht W (HY.out.later h)
  rw [ep] at h4
  rw [ea] at h5
  have H4 : Hid (∀ (i : Nat) (t : Tm), P.pl[i]? = some t → ∀ W, Below w.heap.size w W → Calls Tryz.prog 95 #[(At.mk ⟨k, n, ss⟩ nm l).v x, .int .i64 i] W fun e w' => e = .returned t.v ∧ Below W.heap.size W w') := h4
  have H5 : Hid (∀ (i : Nat) (t : Tm), A.pl[i]? = some t → ∀ W, Below w.heap.size w W → Calls Tryz.prog 95 #[(At.mk ⟨k', n', ss'⟩ nm' l').v y, .int .i64 i] W fun e w' => e = .returned t.v ∧ Below W.heap.size W w') := h5
  have HP : Hid (P.pl.length = l.length + 1) := by show P.pl.length = _; rw [pl_len, hP]
  have HA : Hid (A.pl.length = l'.length + 1) := by show A.pl.length = _; rw [pl_len, hA]
  obtain ⟨ad, cap, rfl, hl, -⟩ := hx
  obtain ⟨ad', cap', rfl, hl', -⟩ := hy
  clear h3 h4 h5 ep ea hr hP hA HX HY
  by_cases e1 : nm.toList = nm'.toList
  · have hq1 : (nm.toList == nm'.toList) = true := by simpa using e1
    by_cases e2 : l.length = l'.length
    · have hq2 : ((l.length : Int) == (l'.length : Int)) = true := by simp; omega
      have HR2 : Hid (cmpL P.pl A.pl = r) := by show cmpL P.pl A.pl = r; rw [← HR.out]; simp [e1, e2]
      have E2 : Hid (l.length = l'.length) := e2
      have hpn : P.pl.length ≤ 1000000000000000000 := by have := HP.out; omega
      clear e1 e2 HR
      go_enter Tryz.func50, Tryz.ntmps50
      go_wp2_with (go_at_call 94; refine (H3.out _ (below2 _ _ _)).mono ?_; rintro e w1 ⟨rfl, hb1⟩)
      have B5 := (Box2.start w _ _).later hb1
      clear hb1
      go_loopg [33] P.pl.length (fun g i wr => ∃ j : Nat, j + g = P.pl.length ∧ i = .int .i64 j ∧ cmpL P.pl A.pl = cmpL (P.pl.drop j) (A.pl.drop j) ∧ Box2 w wr #[.int .i64 k, .int .i64 n, .string ss, .string nm, .slice ad l.length cap] #[.int .i64 k', .int .i64 n', .string ss', .string nm', .slice ad' l'.length cap'])
      case atStart => exact ⟨0, by omega, rfl, by simp, B5⟩
      case round =>
        clear B5
        obtain ⟨j, hj, rfl, hgo, hbox⟩ := hrel
        have HG : Hid (cmpL P.pl A.pl = cmpL (P.pl.drop j) (A.pl.drop j)) := hgo
        have HB : Hid (Box2 w wr #[.int .i64 k, .int .i64 n, .string ss, .string nm, .slice ad l.length cap] #[.int .i64 k', .int .i64 n', .string ss', .string nm', .slice ad' l'.length cap']) := hbox
        clear hgo hbox
        cases gk with
        | succ g =>
          have hlt : (j : Int) < (P.pl.length : Int) := by omega
          obtain ⟨t, ht⟩ : ∃ t, P.pl[j]? = some t := ⟨_, List.getElem?_eq_getElem (by omega)⟩
          obtain ⟨u, hu⟩ : ∃ u, A.pl[j]? = some u := ⟨_, List.getElem?_eq_getElem (by have := HP.out; have := HA.out; have := E2.out; omega)⟩
          obtain ⟨c, hc⟩ : ∃ c, t.cmp u = c := ⟨_, rfl⟩
          have HT : Hid (P.pl[j]? = some t) := ht
          have HU : Hid (A.pl[j]? = some u) := hu
          have HC : Hid (t.cmp u = c) := hc
          clear ht hu hc
          obtain ⟨tk, tn, ts⟩ := t
          obtain ⟨uk, un, us⟩ := u
          obtain ⟨⟨p0, p1, p2, p3, p4⟩, q0, q1, q2, q3, q4⟩ := HB.out.cells
          have zz := HB.out.lt
          have zz0 : w.heap.size < wr.heap.size := by omega
          go_wp2
          refine wp_region_held_drew (S := fun w' => Below wr.heap.size wr w') (by kernel_rfl) (Below.refl _ _).drew (fun hH => ?_)
          refine wpAnyH_take (i := 0) (oi := ⟨_, _, _, _, _, _⟩) (v := .agg #[.int .i64 k, .int .i64 n, .string ss, .string nm, .slice ad l.length cap]) rfl (by kernel_rfl) (by kernel_rfl) (by kernel_rfl) (fun _ _ _ h => h) (Or.inl ⟨by rfl, fun w' h => by have a0 := cell_step h zz0 p0; have a1 := cell_step h zz0 p1; have a2 := cell_step h zz0 p2; have a3 := cell_step h zz0 p3; have a4 := cell_step h zz0 p4; clear p0 p1 p2 p3 p4 q0 q1 q2 q3 q4; go_simp⟩) hH ?_
          simp only [Act.put, List.setIfInBounds_toArray, List.set_cons_zero, List.set_cons_succ]
          refine wpAnyH_take (i := 1) (oi := ⟨_, _, _, _, _, _⟩) (v := .int .i64 j) rfl (by kernel_rfl) (by kernel_rfl) (by kernel_rfl) (fun _ _ _ h => h) (Or.inl ⟨by rfl, fun w' _ => by go_simp⟩) hH ?_
          simp only [Act.put, List.setIfInBounds_toArray, List.set_cons_zero, List.set_cons_succ]
          refine wpAnyH_take (i := 3) (oi := ⟨_, _, _, _, _, _⟩) (v := .agg #[.int .i64 k', .int .i64 n', .string ss', .string nm', .slice ad' l'.length cap']) rfl (by kernel_rfl) (by kernel_rfl) (by kernel_rfl) (fun _ _ _ h => h) (Or.inl ⟨by rfl, fun w' h => by have a0 := cell_step h zz q0; have a1 := cell_step h zz q1; have a2 := cell_step h zz q2; have a3 := cell_step h zz q3; have a4 := cell_step h zz q4; clear p0 p1 p2 p3 p4 q0 q1 q2 q3 q4; go_simp⟩) hH ?_
          simp only [Act.put, List.setIfInBounds_toArray, List.set_cons_zero, List.set_cons_succ]
          refine wpAnyH_take (i := 4) (oi := ⟨_, _, _, _, _, _⟩) (v := .int .i64 j) rfl (by kernel_rfl) (by kernel_rfl) (by kernel_rfl) (fun _ _ _ h => h) (Or.inl ⟨by rfl, fun w' _ => by go_simp⟩) hH ?_
          simp only [Act.put, List.setIfInBounds_toArray, List.set_cons_zero, List.set_cons_succ]
          clear p0 p1 p2 p3 p4 q0 q1 q2 q3 q4
          refine wpAnyH_ready (rs := [2]) (by kernel_rfl) (by simp) ?_
          refine (AllReadyH.cons (o := ⟨_, _, _, _, _, _⟩) rfl (fun K hK => ?_) AllReadyH.nil)
          go_simp
          refine (H4.out j ⟨tk, tn, ts⟩ HT.out _ (below_step HB.out.2.2 hH)).mono ?_
          rintro e w3 ⟨rfl, hb⟩
          refine hK.out _ _ (below_step hH hb) (fun hH => ?_)
          clear hb hK K
          refine wpAnyH_ready (rs := [5]) (by kernel_rfl) (by simp) ?_
          refine (AllReadyH.cons (o := ⟨_, _, _, _, _, _⟩) rfl (fun K hK => ?_) AllReadyH.nil)
          go_simp
          refine (H5.out j ⟨uk, un, us⟩ HU.out _ (below_step HB.out.2.2 hH)).mono ?_
          rintro e w4 ⟨rfl, hb⟩
          refine hK.out _ _ (below_step hH hb) (fun hH => ?_)
          clear hb hK K
          refine wpAnyH_ready (rs := [6]) (by kernel_rfl) (by simp) ?_
          refine (AllReadyH.cons (o := ⟨_, _, _, _, _, _⟩) rfl (fun K hK => ?_) AllReadyH.nil)
          go_simp
          refine (compare_any ⟨tk, tn, ts⟩ ⟨uk, un, us⟩ _).mono ?_
          rw [HC.out]
          rintro e w5 ⟨rfl, hb⟩
          refine hK.out _ _ (below_step hH hb) (fun hH => ?_)
          clear hb hK K
          refine wpAnyH_take (i := 7) (oi := ⟨_, _, _, _, _, _⟩) (v := .int .i64 c) rfl (by kernel_rfl) (by kernel_rfl) (by kernel_rfl) (fun _ _ _ h => h) (Or.inl ⟨by rfl, fun w' _ => by go_simp⟩) hH ?_
          simp only [Act.put, List.setIfInBounds_toArray, List.set_cons_zero, List.set_cons_succ]
          refine wpAnyH_done (by kernel_rfl) ?_ _
          by_cases h0 : c = 0
          · have HG2 : Hid (cmpL P.pl A.pl = cmpL (P.pl.drop (j + 1)) (A.pl.drop (j + 1))) := HG.out.trans (cmpL_eq _ _ j _ _ HT.out HU.out (HC.out.trans h0))
            have hq : (c == 0) = true := by simpa using h0
            clear h0
            go_wp2
            go_roundg g
            case measure => omega
            case rel => exact ⟨j + 1, by omega, by go_num, HG2.out, HB.out.later hH⟩
          · have HG2 : Hid (c = r) := by show c = r; rw [← HR2.out, HG.out, cmpL_ne _ _ j _ _ HT.out HU.out (by rw [HC.out]; exact h0), HC.out]
            have hq : (c == 0) = false := by simpa using h0
            clear h0
            go_wp2
            go_ret
            exact ⟨ret_i HG2.out, (HB.out.later hH).2.2⟩
        | zero =>
          have hlt : ¬ (j : Int) < (P.pl.length : Int) := by omega
          have HG2 : Hid (0 = r) := by show 0 = r; rw [← HR2.out, HG.out, List.drop_eq_nil_of_le (by omega)]; rfl
          clear hj
          go_wp2
          go_ret
          exact ⟨ret_i HG2.out, HB.out.2.2⟩
    · have hq2 : ((l.length : Int) == (l'.length : Int)) = false := by simp; omega
      have HR2 : Hid (M.sgI l.length l'.length = r) := by show M.sgI l.length l'.length = r; rw [← HR.out]; simp [e1, e2]
      clear e1 e2 HR
      go_enter Tryz.func50, Tryz.ntmps50
      go_wp2_with (go_at_call 78; refine (cmpI_any _ _ _).mono ?_; rintro e w1 ⟨rfl, rfl⟩)
      go_ret
      exact ⟨ret_i HR2.out, below2 _ _ _⟩
  · have hq1 : (nm.toList == nm'.toList) = false := by simpa using e1
    have HR2 : Hid (sgS nm nm' = r) := by show sgS nm nm' = r; rw [← HR.out]; simp [e1]
    clear e1 HR
    go_enter Tryz.func50, Tryz.ntmps50
    go_wp2_with (go_at_call 79; refine (cmpS_any _ _ _).mono ?_; rintro e w1 ⟨rfl, rfl⟩)
    go_ret
    exact ⟨ret_i HR2.out, below2 _ _ _⟩
theorem cmpA_any (p a : At) (x y : Value) (w : World) (hx : Ts w x p.args) (hy : Ts w y a.args) :
    Calls Tryz.prog 50 #[p.v x, a.v y] w fun e w' => e = .returned (.int .i64 (p.cmp a)) ∧ Below w.heap.size w w' := by
  obtain ⟨⟨k, n, ss⟩, nm, l⟩ := p
  obtain ⟨⟨k', n', ss'⟩, nm', l'⟩ := a
  exact cmpA_go k n k' n' ss nm ss' nm' l l' _ _ rfl rfl x y w hx hy
end Go.Proofs.YtdfgijdededolabGreatDoor
/-
  Compare of tests and of lists. (Written by CL13.py.)
-/
namespace Go.Proofs.YtdfgijdededolabGreatDoor
open Go.RowKit

def cmpG {α : Type} (f : α → α → Int) : List α → List α → Int
  | x :: p, y :: q => if f x y = 0 then cmpG f p q else f x y
  | _, _ => 0
def cmpGL {α : Type} (f : α → α → Int) (p q : List α) : Int := if p.length = q.length then cmpG f p q else M.sgI p.length q.length
theorem cmpG_eq {α : Type} {f : α → α → Int} {p q : List α} {j : Nat} {x y : α} (hx : p[j]? = some x) (hy : q[j]? = some y) (h : f x y = 0) : cmpG f (p.drop j) (q.drop j) = cmpG f (p.drop (j + 1)) (q.drop (j + 1)) := by
  obtain ⟨h1, rfl⟩ := List.getElem?_eq_some_iff.1 hx
  obtain ⟨h2, rfl⟩ := List.getElem?_eq_some_iff.1 hy
  rw [List.drop_eq_getElem_cons h1, List.drop_eq_getElem_cons h2, cmpG, if_pos h]
theorem cmpG_ne {α : Type} {f : α → α → Int} {p q : List α} {j : Nat} {x y : α} (hx : p[j]? = some x) (hy : q[j]? = some y) (h : ¬ f x y = 0) : cmpG f (p.drop j) (q.drop j) = f x y := by
  obtain ⟨h1, rfl⟩ := List.getElem?_eq_some_iff.1 hx
  obtain ⟨h2, rfl⟩ := List.getElem?_eq_some_iff.1 hy
  rw [List.drop_eq_getElem_cons h1, List.drop_eq_getElem_cons h2, cmpG, if_neg h]
theorem two_boxes {w w1 : World} {c d : Array Value} {t u : TypeId} (hb : Below ((w.alloc (.cells c t)).alloc (.cells d u)).heap.size ((w.alloc (.cells c t)).alloc (.cells d u)) w1) : CBlk w1 w.heap.size c t ∧ CBlk w1 (w.heap.size + 1) d u := by
  have h1 := ((CBlk.new w c t).later (below1 _ (.cells d u))).later hb
  have h2 := (CBlk.new (w.alloc (.cells c t)) d u).later hb
  rw [show (w.alloc (.cells c t)).heap.size = w.heap.size + 1 by simp] at h2
  exact ⟨h1, h2⟩
def cmpX (x y : At × Value) : Int := x.1.cmp y.1
def Te.cmp (t u : Te) : Int := if M.sgI t.op u.op ≠ 0 then M.sgI t.op u.op else if t.l.cmp u.l ≠ 0 then t.l.cmp u.l else t.r.cmp u.r
theorem sgI_zero {a b : Int} : M.sgI a b = 0 ↔ a = b := by
  unfold M.sgI
  constructor
  · intro h; split at h
    · omega
    · split at h <;> omega
  · rintro rfl; simp
set_option maxHeartbeats 2000000 in
theorem cmpT_any (t u : Te) (w : World) : Calls Tryz.prog 53 #[t.v, u.v] w fun e w' => e = .returned (.int .i64 (t.cmp u)) ∧ Below w.heap.size w w' := by
  have cl := fun X => compare_any t.l u.l X
  have cr := fun X => compare_any t.r u.r X
  obtain ⟨R, hR⟩ : ∃ R, t.cmp u = R := ⟨_, rfl⟩
  have HR : Hid (t.cmp u = R) := hR
  unfold Te.cmp at hR
  rw [show t.cmp u = R from HR.out]
  obtain ⟨rl, hrl⟩ : ∃ r, t.l.cmp u.l = r := ⟨_, rfl⟩
  obtain ⟨rr, hrr⟩ : ∃ r, t.r.cmp u.r = r := ⟨_, rfl⟩
  rw [hrl, hrr] at hR
  simp only [hrl] at cl
  simp only [hrr] at cr
  clear HR hrl hrr
  obtain ⟨op, ⟨kl, ml, sl⟩, ⟨kr, mr, sr⟩⟩ := t
  obtain ⟨oq, ⟨kp, mp, sp⟩, ⟨kq, mq, sq⟩⟩ := u
  simp only at cl cr hR
  by_cases q0 : op = oq
  · have hz : M.sgI op oq = 0 := sgI_zero.2 q0
    rw [hz] at hR
    simp only [ne_eq, not_true, if_false] at hR
    subst q0
    by_cases q1 : rl = 0
    · subst q1
      simp only [not_true, if_false] at hR
      subst hR
      clear hz
      go_enter Tryz.func53, Tryz.ntmps53
      go_wp2_with (first
        | (go_at_call 33; refine (cl _).mono ?_; clear cl; rintro e w1 ⟨rfl, hb1⟩; obtain ⟨y0, y1, y2, y3, y4, y5, y6⟩ := cseven (two_boxes hb1).1; obtain ⟨z0, z1, z2, z3, z4, z5, z6⟩ := cseven (two_boxes hb1).2; have HB1 : Hid (Below _ _ _) := hb1; clear hb1)
        | (go_at_call 33; refine (cr _).mono ?_; clear cr; rintro e w2 ⟨rfl, hb2⟩))
      go_ret
      exact ⟨rfl, below_step (below_step (below2 _ _ _) HB1.out) hb2⟩
    · have n1 : (rl == 0) = false := beq_eq_false_iff_ne.2 q1
      have n2 : (rl != 0) = true := by rw [bne, n1]; rfl
      rw [if_pos q1] at hR
      subst hR
      clear hz q1
      go_enter Tryz.func53, Tryz.ntmps53
      go_wp2_with (go_at_call 33; refine (cl _).mono ?_; clear cl; rintro e w1 ⟨rfl, hb1⟩)
      go_ret
      exact ⟨rfl, below_step (below2 _ _ _) hb1⟩
  · have hz : ¬ M.sgI op oq = 0 := fun h => q0 (sgI_zero.1 h)
    rw [if_pos hz] at hR
    have HRR : Hid (M.sgI op oq = R) := hR
    have n1 : (op == oq) = false := beq_eq_false_iff_ne.2 q0
    have n2 : (op != oq) = true := by rw [bne, n1]; rfl
    clear hR hz q0
    go_enter Tryz.func53, Tryz.ntmps53
    go_wp2_with (go_at_call 78; refine (cmpI_any _ _ _).mono ?_; rintro e w1 ⟨rfl, rfl⟩)
    go_ret
    exact ⟨ret_i HRR.out, below2 _ _ _⟩

set_option maxRecDepth 20000 in
set_option maxHeartbeats 2000000 in
theorem CFAtom_any (p q : List (At × Value)) (u v : Value) (w : World) (hu : As w u p) (hv : As w v q) (hl : p.length = q.length) :
    Calls Tryz.prog 96 #[u, v, .func (.func 50) #[] #[]] w fun e w' => e = .returned (.int .i64 (cmpG cmpX p q)) ∧ Below w.heap.size w w' := by
  have HU : Hid (As w u p) := hu
  have HV : Hid (As w v q) := hv
  obtain ⟨ua, uc, rfl, hul, hum, hxs⟩ := hu
  obtain ⟨va, vc, rfl, -, hvm, hys⟩ := hv
  have HLL : Hid (p.length = q.length) := hl
  obtain ⟨R, hR⟩ : ∃ R, cmpG cmpX p q = R := ⟨_, rfl⟩
  have HR : Hid (cmpG cmpX p q = R) := hR
  rw [hR, ← hl]
  clear hR hum hvm hl
  go_enter Tryz.func96, Tryz.ntmps96
  go_wp2
  go_loopg [13] p.length (fun g i wr => ∃ j : Nat, j + g = p.length ∧ i = .int .i64 (j : Int) ∧ cmpG cmpX (p.drop j) (q.drop j) = R ∧ Below w.heap.size w wr)
  case atStart => exact ⟨0, by omega, rfl, HR.out, Below.refl _ _⟩
  case round =>
    obtain ⟨j, hj, rfl, hr, hbr⟩ := hrel
    have HRj : Hid (cmpG cmpX (p.drop j) (q.drop j) = R) := hr
    have HBr : Hid (Below w.heap.size w wr) := hbr
    cases gk with
    | succ g =>
      have hlt : j < p.length := by omega
      have i0 : (0 : Int) ≤ (j : Int) := by omega
      have i1 : (j : Int) < (p.length : Int) := by omega
      have i2 : ¬ ((p.length : Int) ≤ (j : Int)) := by omega
      obtain ⟨x, hx⟩ : ∃ x, p[j]? = some x := ⟨_, List.getElem?_eq_getElem hlt⟩
      obtain ⟨y, hy⟩ : ∃ y, q[j]? = some y := ⟨_, List.getElem?_eq_getElem (by rw [← HLL.out]; exact hlt)⟩
      obtain ⟨a1, cap1, hv, -, hm, hts⟩ :=  HU.out.later hbr
      simp only [Value.slice.injEq, true_and] at hv
      obtain ⟨rfl, rfl⟩ := hv
      rcases hm with hm | ⟨b, o, rfl, hm⟩
      · rw [hm] at hlt; simp at hlt
      obtain ⟨e0, e1, e2, e3, e4⟩ := hm.2 j x hx
      clear hm
      obtain ⟨a1, cap1, hv, -, hm, hts⟩ :=  HV.out.later hbr
      simp only [Value.slice.injEq] at hv
      obtain ⟨rfl, -, rfl⟩ := hv
      rcases hm with hm | ⟨b', o', rfl, hm⟩
      · rw [hm] at hy; simp at hy
      obtain ⟨d0, d1, d2, d3, d4⟩ := hm.2 j y hy
      have hz2 := hm.1
      clear hm
      have hc := fun (X : World) (hX : Below w.heap.size w X) => cmpA_any x.1 y.1 x.2 y.2 X ((hxs x (List.mem_of_getElem? hx)).later hX) ((hys y (List.mem_of_getElem? hy)).later hX)
      obtain ⟨ax, cx, hax, -⟩ := hxs x (List.mem_of_getElem? hx)
      obtain ⟨ay, cy, hay, -⟩ := hys y (List.mem_of_getElem? hy)
      have HX : Hid (p[j]? = some x) := hx
      have HY : Hid (q[j]? = some y) := hy
      obtain ⟨r, hrr⟩ : ∃ r, cmpX x y = r := ⟨_, rfl⟩
      have HRR : Hid (cmpX x y = r) := hrr
      have hrr' : At.cmp x.1 y.1 = r := hrr
      simp only [hrr'] at hc
      clear hx hy hr hbr hrr hrr'
      obtain ⟨⟨⟨kx, mx, sx⟩, nx, lx⟩, vx⟩ := x
      obtain ⟨⟨⟨ky, my, sy⟩, ny, ly⟩, vy⟩ := y
      simp only at hax hay
      subst hax hay
      simp only at e0 e1 e2 e3 e4 d0 d1 d2 d3 d4 hc
      by_cases q0 : r = 0
      · subst q0
        go_wp2_with (go_at_call 50; refine (hc _ (below_step (below_step HBr.out (below1 _ _)) (below1 _ _))).mono ?_; clear hc; rintro e w1 ⟨rfl, hb1⟩; have HB1 : Hid (Below _ _ _) := hb1; clear hb1)
        go_roundg g
        case measure => omega
        case rel => exact ⟨j + 1, by omega, by go_num, by rw [← HRj.out, cmpG_eq HX.out HY.out HRR.out], below_step (below_step (below_step HBr.out (below1 _ _)) (below1 _ _)) HB1.out⟩
      · have n1 : (r == 0) = false := beq_eq_false_iff_ne.2 q0
        have n2 : (r != 0) = true := by rw [bne, n1]; rfl
        have HQ : Hid (¬ r = 0) := q0
        clear q0
        go_wp2_with (go_at_call 50; refine (hc _ (below_step (below_step HBr.out (below1 _ _)) (below1 _ _))).mono ?_; clear hc; rintro e w1 ⟨rfl, hb1⟩; have HB1 : Hid (Below _ _ _) := hb1; clear hb1)
        go_ret
        exact ⟨ret_i (by rw [← HRj.out, cmpG_ne HX.out HY.out (by rw [HRR.out]; exact HQ.out), HRR.out]), below_step (below_step (below_step HBr.out (below1 _ _)) (below1 _ _)) HB1.out⟩
    | zero =>
      obtain rfl : j = p.length := by omega
      have hz : ¬ ((p.length : Int) < (p.length : Int)) := by omega
      clear hr hbr
      go_wp2
      go_ret
      refine ⟨ret_i ?_, HBr.out⟩
      rw [← HRj.out, List.drop_length, HLL.out, List.drop_length]; rfl
theorem CLAtom_any (p q : List (At × Value)) (u v : Value) (w : World) (hu : As w u p) (hv : As w v q) :
    Calls Tryz.prog 51 #[u, v, .func (.func 50) #[] #[]] w fun e w' => e = .returned (.int .i64 (cmpGL cmpX p q)) ∧ Below w.heap.size w w' := by
  have hcf := fun (hl : p.length = q.length) => CFAtom_any p q u v w hu hv hl
  obtain ⟨ua, uc, rfl, hul, -⟩ := hu
  obtain ⟨va, vc, rfl, hvl, -⟩ := hv
  by_cases hl : p.length = q.length
  · have e : cmpGL cmpX p q = cmpG cmpX p q := by unfold cmpGL; rw [if_pos hl]
    have hc := hcf hl
    rw [e]
    clear hcf e
    obtain ⟨R, hR⟩ : ∃ R, cmpG cmpX p q = R := ⟨_, rfl⟩
    rw [hR] at hc ⊢
    clear hR
    have hl' : q.length = p.length := hl.symm
    rw [hl'] at hc ⊢
    clear hl hl'
    have n1 : ((p.length : Int) != (p.length : Int)) = false := by simp
    go_enter Tryz.func51, Tryz.ntmps51
    go_wp2_with (go_at_call 96; refine hc.mono ?_; rintro e w1 ⟨rfl, hb1⟩)
    go_ret
    exact ⟨rfl, hb1⟩
  · have e : cmpGL cmpX p q = M.sgI p.length q.length := by unfold cmpGL; rw [if_neg hl]
    rw [e]
    clear hcf e
    obtain ⟨A, hA⟩ : ∃ A : Nat, p.length = A := ⟨_, rfl⟩
    obtain ⟨B, hB⟩ : ∃ B : Nat, q.length = B := ⟨_, rfl⟩
    rw [hA, hB] at hl ⊢
    have n1 : ((A : Int) != (B : Int)) = true := by simp only [bne_iff_ne, ne_eq]; omega
    have n2 : ((A : Int) == (B : Int)) = false := beq_eq_false_iff_ne.2 (by omega)
    have n3 : ¬ ((A : Int) = (B : Int)) := by omega
    clear hA hB hl
    go_enter Tryz.func51, Tryz.ntmps51
    go_wp2_with (go_at_call 78; refine (cmpI_any _ _ _).mono ?_; rintro e w1 ⟨rfl, rfl⟩)
    go_ret
    exact ⟨rfl, Below.refl _ _⟩

set_option maxRecDepth 20000 in
set_option maxHeartbeats 2000000 in
theorem CFTest_any (p q : List (Te)) (u v : Value) (w : World) (hu : Es w u p) (hv : Es w v q) (hl : p.length = q.length) :
    Calls Tryz.prog 97 #[u, v, .func (.func 53) #[] #[]] w fun e w' => e = .returned (.int .i64 (cmpG Te.cmp p q)) ∧ Below w.heap.size w w' := by
  have HU : Hid (Es w u p) := hu
  have HV : Hid (Es w v q) := hv
  obtain ⟨ua, uc, rfl, hul, hum⟩ := hu
  obtain ⟨va, vc, rfl, -, hvm⟩ := hv
  have HLL : Hid (p.length = q.length) := hl
  obtain ⟨R, hR⟩ : ∃ R, cmpG Te.cmp p q = R := ⟨_, rfl⟩
  have HR : Hid (cmpG Te.cmp p q = R) := hR
  rw [hR, ← hl]
  clear hR hum hvm hl
  go_enter Tryz.func97, Tryz.ntmps97
  go_wp2
  go_loopg [13] p.length (fun g i wr => ∃ j : Nat, j + g = p.length ∧ i = .int .i64 (j : Int) ∧ cmpG Te.cmp (p.drop j) (q.drop j) = R ∧ Below w.heap.size w wr)
  case atStart => exact ⟨0, by omega, rfl, HR.out, Below.refl _ _⟩
  case round =>
    obtain ⟨j, hj, rfl, hr, hbr⟩ := hrel
    have HRj : Hid (cmpG Te.cmp (p.drop j) (q.drop j) = R) := hr
    have HBr : Hid (Below w.heap.size w wr) := hbr
    cases gk with
    | succ g =>
      have hlt : j < p.length := by omega
      have i0 : (0 : Int) ≤ (j : Int) := by omega
      have i1 : (j : Int) < (p.length : Int) := by omega
      have i2 : ¬ ((p.length : Int) ≤ (j : Int)) := by omega
      obtain ⟨x, hx⟩ : ∃ x, p[j]? = some x := ⟨_, List.getElem?_eq_getElem hlt⟩
      obtain ⟨y, hy⟩ : ∃ y, q[j]? = some y := ⟨_, List.getElem?_eq_getElem (by rw [← HLL.out]; exact hlt)⟩
      obtain ⟨a1, cap1, hv, -, hm⟩ :=  HU.out.later hbr
      simp only [Value.slice.injEq, true_and] at hv
      obtain ⟨rfl, rfl⟩ := hv
      rcases hm with hm | ⟨b, o, rfl, hm⟩
      · rw [hm] at hlt; simp at hlt
      obtain ⟨e0, e1, e2, e3, e4, e5, e6⟩ := hm.2 j x hx
      clear hm
      obtain ⟨a1, cap1, hv, -, hm⟩ :=  HV.out.later hbr
      simp only [Value.slice.injEq] at hv
      obtain ⟨rfl, -, rfl⟩ := hv
      rcases hm with hm | ⟨b', o', rfl, hm⟩
      · rw [hm] at hy; simp at hy
      obtain ⟨d0, d1, d2, d3, d4, d5, d6⟩ := hm.2 j y hy
      have hz2 := hm.1
      clear hm
      have hc := fun (X : World) (_ : Below w.heap.size w X) => cmpT_any x y X
      have HX : Hid (p[j]? = some x) := hx
      have HY : Hid (q[j]? = some y) := hy
      obtain ⟨r, hrr⟩ : ∃ r, Te.cmp x y = r := ⟨_, rfl⟩
      have HRR : Hid (Te.cmp x y = r) := hrr
      have hrr' : Te.cmp x y = r := hrr
      simp only [hrr'] at hc
      clear hx hy hr hbr hrr hrr'
      obtain ⟨op, ⟨kl, ml, sl⟩, ⟨kr, mr, sr⟩⟩ := x
      obtain ⟨oq, ⟨kp, mp, sp⟩, ⟨kq, mq, sq⟩⟩ := y
      simp only at e0 e1 e2 e3 e4 e5 e6 d0 d1 d2 d3 d4 d5 d6 hc
      by_cases q0 : r = 0
      · subst q0
        go_wp2_with (go_at_call 53; refine (hc _ (below_step (below_step HBr.out (below1 _ _)) (below1 _ _))).mono ?_; clear hc; rintro e w1 ⟨rfl, hb1⟩; have HB1 : Hid (Below _ _ _) := hb1; clear hb1)
        go_roundg g
        case measure => omega
        case rel => exact ⟨j + 1, by omega, by go_num, by rw [← HRj.out, cmpG_eq HX.out HY.out HRR.out], below_step (below_step (below_step HBr.out (below1 _ _)) (below1 _ _)) HB1.out⟩
      · have n1 : (r == 0) = false := beq_eq_false_iff_ne.2 q0
        have n2 : (r != 0) = true := by rw [bne, n1]; rfl
        have HQ : Hid (¬ r = 0) := q0
        clear q0
        go_wp2_with (go_at_call 53; refine (hc _ (below_step (below_step HBr.out (below1 _ _)) (below1 _ _))).mono ?_; clear hc; rintro e w1 ⟨rfl, hb1⟩; have HB1 : Hid (Below _ _ _) := hb1; clear hb1)
        go_ret
        exact ⟨ret_i (by rw [← HRj.out, cmpG_ne HX.out HY.out (by rw [HRR.out]; exact HQ.out), HRR.out]), below_step (below_step (below_step HBr.out (below1 _ _)) (below1 _ _)) HB1.out⟩
    | zero =>
      obtain rfl : j = p.length := by omega
      have hz : ¬ ((p.length : Int) < (p.length : Int)) := by omega
      clear hr hbr
      go_wp2
      go_ret
      refine ⟨ret_i ?_, HBr.out⟩
      rw [← HRj.out, List.drop_length, HLL.out, List.drop_length]; rfl
theorem CLTest_any (p q : List (Te)) (u v : Value) (w : World) (hu : Es w u p) (hv : Es w v q) :
    Calls Tryz.prog 52 #[u, v, .func (.func 53) #[] #[]] w fun e w' => e = .returned (.int .i64 (cmpGL Te.cmp p q)) ∧ Below w.heap.size w w' := by
  have hcf := fun (hl : p.length = q.length) => CFTest_any p q u v w hu hv hl
  obtain ⟨ua, uc, rfl, hul, -⟩ := hu
  obtain ⟨va, vc, rfl, hvl, -⟩ := hv
  by_cases hl : p.length = q.length
  · have e : cmpGL Te.cmp p q = cmpG Te.cmp p q := by unfold cmpGL; rw [if_pos hl]
    have hc := hcf hl
    rw [e]
    clear hcf e
    obtain ⟨R, hR⟩ : ∃ R, cmpG Te.cmp p q = R := ⟨_, rfl⟩
    rw [hR] at hc ⊢
    clear hR
    have hl' : q.length = p.length := hl.symm
    rw [hl'] at hc ⊢
    clear hl hl'
    have n1 : ((p.length : Int) != (p.length : Int)) = false := by simp
    go_enter Tryz.func52, Tryz.ntmps52
    go_wp2_with (go_at_call 97; refine hc.mono ?_; rintro e w1 ⟨rfl, hb1⟩)
    go_ret
    exact ⟨rfl, hb1⟩
  · have e : cmpGL Te.cmp p q = M.sgI p.length q.length := by unfold cmpGL; rw [if_neg hl]
    rw [e]
    clear hcf e
    obtain ⟨A, hA⟩ : ∃ A : Nat, p.length = A := ⟨_, rfl⟩
    obtain ⟨B, hB⟩ : ∃ B : Nat, q.length = B := ⟨_, rfl⟩
    rw [hA, hB] at hl ⊢
    have n1 : ((A : Int) != (B : Int)) = true := by simp only [bne_iff_ne, ne_eq]; omega
    have n2 : ((A : Int) == (B : Int)) = false := beq_eq_false_iff_ne.2 (by omega)
    have n3 : ¬ ((A : Int) = (B : Int)) := by omega
    clear hA hB hl
    go_enter Tryz.func52, Tryz.ntmps52
    go_wp2_with (go_at_call 78; refine (cmpI_any _ _ _).mono ?_; rintro e w1 ⟨rfl, rfl⟩)
    go_ret
    exact ⟨rfl, Below.refl _ _⟩
end Go.Proofs.YtdfgijdededolabGreatDoor
/-
  terms, same of the laws.
-/
namespace Go.Proofs.YtdfgijdededolabGreatDoor
open Go.RowKit
attribute [local go_sem ↓] Go.wp_at_zero Go.wp_at_succ

theorem drop_eq_step (a b : List Tm) (i : Nat) (t u : Tm) (ht : a[i]? = some t) (hu : b[i]? = some u) : (a.drop i = b.drop i) ↔ (t = u ∧ a.drop (i + 1) = b.drop (i + 1)) := by
  obtain ⟨h1, rfl⟩ := List.getElem?_eq_some_iff.1 ht
  obtain ⟨h2, rfl⟩ := List.getElem?_eq_some_iff.1 hu
  rw [List.drop_eq_getElem_cons h1, List.drop_eq_getElem_cons h2, List.cons.injEq]
instance : DecidableEq At := fun a b => decidable_of_iff (a.by_ = b.by_ ∧ a.name = b.name ∧ a.args = b.args) (by cases a; cases b; simp)
end Go.Proofs.YtdfgijdededolabGreatDoor
