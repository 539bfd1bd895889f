/-
  CompareAtoms.
-/
import Derived.Test.YtechceagghcipaaGreatCL6
namespace Go.Proofs.YtechceagghcipaaGreat
open Go.RowKit
attribute [local go_sem ↓] Go.wp_at_zero Go.wp_at_succ

def cmpL : List Tm → List Tm → Int
  | x :: xs, y :: ys => if x.cmp y ≠ 0 then x.cmp y else cmpL xs ys
  | _, _ => 0
def At.cmp (a b : At) : Int := if a.name.toList ≠ b.name.toList then M.sgL a.name.toList b.name.toList else if a.args.length ≠ b.args.length then M.sgI a.args.length b.args.length else cmpL a.pl b.pl
theorem cmpL_ne (p a : List Tm) (i : Nat) (t u : Tm) (ht : p[i]? = some t) (hu : a[i]? = some u) (h : ¬ t.cmp u = 0) : cmpL (p.drop i) (a.drop i) = t.cmp u := by
  obtain ⟨h1, rfl⟩ := List.getElem?_eq_some_iff.1 ht
  obtain ⟨h2, rfl⟩ := List.getElem?_eq_some_iff.1 hu
  rw [List.drop_eq_getElem_cons h1, List.drop_eq_getElem_cons h2, cmpL, if_pos h]
theorem cmpL_eq (p a : List Tm) (i : Nat) (t u : Tm) (ht : p[i]? = some t) (hu : a[i]? = some u) (h : t.cmp u = 0) : cmpL (p.drop i) (a.drop i) = cmpL (p.drop (i + 1)) (a.drop (i + 1)) := by
  obtain ⟨h1, rfl⟩ := List.getElem?_eq_some_iff.1 ht
  obtain ⟨h2, rfl⟩ := List.getElem?_eq_some_iff.1 hu
  rw [List.drop_eq_getElem_cons h1, List.drop_eq_getElem_cons h2, cmpL, if_neg (by simpa using h)]
set_option maxHeartbeats 2000000 in
theorem cmpA_go (k n k' n' : Int) (ss nm ss' nm' : ByteArray) (l l' : List Tm) (P A : At) (hP : P = At.mk ⟨k, n, ss⟩ nm l) (hA : A = At.mk ⟨k', n', ss'⟩ nm' l')
    (x y : Value) (w : World) (hx : Ts w x l) (hy : Ts w y l') :
    Calls Tryz.prog 25 #[(At.mk ⟨k, n, ss⟩ nm l).v x, (At.mk ⟨k', n', ss'⟩ nm' l').v y] w fun e w' => e = .returned (.int .i64 (P.cmp A)) ∧ Below w.heap.size w w' := by
  have HX : Hid (Ts w x P.args) := by rw [hP]; exact hx
  have HY : Hid (Ts w y A.args) := by rw [hA]; exact hy
  obtain ⟨r, hr⟩ : ∃ r, P.cmp A = r := ⟨_, rfl⟩
  rw [hr]
  have HR : Hid ((if nm.toList ≠ nm'.toList then M.sgL nm.toList nm'.toList else if l.length ≠ l'.length then M.sgI l.length l'.length else cmpL P.pl A.pl) = r) := by
    show (if _ then _ else _) = r
    rw [← hr]; unfold At.cmp; rw [hP, hA]
  have ep : ∀ z, (P.v z) = (At.mk ⟨k, n, ss⟩ nm l).v z := fun z => by rw [hP]
  have ea : ∀ z, (A.v z) = (At.mk ⟨k', n', ss'⟩ nm' l').v z := fun z => by rw [hA]
  have h3 := fun W (h : Below w.heap.size w W) => places_any P x W (HX.out.later h)
  rw [ep] at h3
  have H3 : Hid (∀ W, Below w.heap.size w W → Calls Tryz.prog 42 #[(At.mk ⟨k, n, ss⟩ nm l).v x] W fun e w' => e = .returned (.int .i64 P.pl.length) ∧ Below W.heap.size W w') := h3
  have h4 := fun i t (ht : P.pl[i]? = some t) W (h : Below w.heap.size w W) => place_any P x i t ht W (HX.out.later h)
  have h5 := fun i t (ht : A.pl[i]? = some t) W (h : Below w.heap.size w W) => place_any A y i t ht W (HY.out.later h)
  rw [ep] at h4
  rw [ea] at h5
  have H4 : Hid (∀ (i : Nat) (t : Tm), P.pl[i]? = some t → ∀ W, Below w.heap.size w W → Calls Tryz.prog 43 #[(At.mk ⟨k, n, ss⟩ nm l).v x, .int .i64 i] W fun e w' => e = .returned t.v ∧ Below W.heap.size W w') := h4
  have H5 : Hid (∀ (i : Nat) (t : Tm), A.pl[i]? = some t → ∀ W, Below w.heap.size w W → Calls Tryz.prog 43 #[(At.mk ⟨k', n', ss'⟩ nm' l').v y, .int .i64 i] W fun e w' => e = .returned t.v ∧ Below W.heap.size W w') := h5
  have HP : Hid (P.pl.length = l.length + 1) := by show P.pl.length = _; rw [pl_len, hP]
  have HA : Hid (A.pl.length = l'.length + 1) := by show A.pl.length = _; rw [pl_len, hA]
  obtain ⟨ad, cap, rfl, hl, -⟩ := hx
  obtain ⟨ad', cap', rfl, hl', -⟩ := hy
  clear h3 h4 h5 ep ea hr hP hA HX HY
  by_cases e1 : nm.toList = nm'.toList
  · have hq1 : (nm.toList == nm'.toList) = true := by simpa using e1
    by_cases e2 : l.length = l'.length
    · have hq2 : ((l.length : Int) == (l'.length : Int)) = true := by simp; omega
      have HR2 : Hid (cmpL P.pl A.pl = r) := by show cmpL P.pl A.pl = r; rw [← HR.out]; simp [e1, e2]
      have E2 : Hid (l.length = l'.length) := e2
      have hpn : P.pl.length ≤ 1000000000000000000 := by have := HP.out; omega
      clear e1 e2 HR
      go_enter Tryz.func25, Tryz.ntmps25
      go_wp2_with (go_at_call 42; refine (H3.out _ (below2 _ _ _)).mono ?_; rintro e w1 ⟨rfl, hb1⟩)
      have B5 := (Box2.start w _ _).later hb1
      clear hb1
      go_loopg [33] P.pl.length (fun g i wr => ∃ j : Nat, j + g = P.pl.length ∧ i = .int .i64 j ∧ cmpL P.pl A.pl = cmpL (P.pl.drop j) (A.pl.drop j) ∧ Box2 w wr #[.int .i64 k, .int .i64 n, .string ss, .string nm, .slice ad l.length cap] #[.int .i64 k', .int .i64 n', .string ss', .string nm', .slice ad' l'.length cap'])
      case atStart => exact ⟨0, by omega, rfl, by simp, B5⟩
      case round =>
        clear B5
        obtain ⟨j, hj, rfl, hgo, hbox⟩ := hrel
        have HG : Hid (cmpL P.pl A.pl = cmpL (P.pl.drop j) (A.pl.drop j)) := hgo
        have HB : Hid (Box2 w wr #[.int .i64 k, .int .i64 n, .string ss, .string nm, .slice ad l.length cap] #[.int .i64 k', .int .i64 n', .string ss', .string nm', .slice ad' l'.length cap']) := hbox
        clear hgo hbox
        cases gk with
        | succ g =>
          have hlt : (j : Int) < (P.pl.length : Int) := by omega
          obtain ⟨t, ht⟩ : ∃ t, P.pl[j]? = some t := ⟨_, List.getElem?_eq_getElem (by omega)⟩
          obtain ⟨u, hu⟩ : ∃ u, A.pl[j]? = some u := ⟨_, List.getElem?_eq_getElem (by have := HP.out; have := HA.out; have := E2.out; omega)⟩
          obtain ⟨c, hc⟩ : ∃ c, t.cmp u = c := ⟨_, rfl⟩
          have HT : Hid (P.pl[j]? = some t) := ht
          have HU : Hid (A.pl[j]? = some u) := hu
          have HC : Hid (t.cmp u = c) := hc
          clear ht hu hc
          obtain ⟨tk, tn, ts⟩ := t
          obtain ⟨uk, un, us⟩ := u
          obtain ⟨⟨p0, p1, p2, p3, p4⟩, q0, q1, q2, q3, q4⟩ := HB.out.cells
          have zz := HB.out.lt
          have zz0 : w.heap.size < wr.heap.size := by omega
          go_wp2
          refine wp_region_held_drew (S := fun w' => Below wr.heap.size wr w') (by kernel_rfl) (Below.refl _ _).drew (fun hH => ?_)
          refine wpAnyH_take (i := 0) (oi := ⟨_, _, _, _, _, _⟩) (v := .agg #[.int .i64 k, .int .i64 n, .string ss, .string nm, .slice ad l.length cap]) rfl (by kernel_rfl) (by kernel_rfl) (by kernel_rfl) (fun _ _ _ h => h) (Or.inl ⟨by rfl, fun w' h => by have a0 := cell_step h zz0 p0; have a1 := cell_step h zz0 p1; have a2 := cell_step h zz0 p2; have a3 := cell_step h zz0 p3; have a4 := cell_step h zz0 p4; clear p0 p1 p2 p3 p4 q0 q1 q2 q3 q4; go_simp⟩) hH ?_
          simp only [Act.put, List.setIfInBounds_toArray, List.set_cons_zero, List.set_cons_succ]
          refine wpAnyH_take (i := 1) (oi := ⟨_, _, _, _, _, _⟩) (v := .int .i64 j) rfl (by kernel_rfl) (by kernel_rfl) (by kernel_rfl) (fun _ _ _ h => h) (Or.inl ⟨by rfl, fun w' _ => by go_simp⟩) hH ?_
          simp only [Act.put, List.setIfInBounds_toArray, List.set_cons_zero, List.set_cons_succ]
          refine wpAnyH_take (i := 3) (oi := ⟨_, _, _, _, _, _⟩) (v := .agg #[.int .i64 k', .int .i64 n', .string ss', .string nm', .slice ad' l'.length cap']) rfl (by kernel_rfl) (by kernel_rfl) (by kernel_rfl) (fun _ _ _ h => h) (Or.inl ⟨by rfl, fun w' h => by have a0 := cell_step h zz q0; have a1 := cell_step h zz q1; have a2 := cell_step h zz q2; have a3 := cell_step h zz q3; have a4 := cell_step h zz q4; clear p0 p1 p2 p3 p4 q0 q1 q2 q3 q4; go_simp⟩) hH ?_
          simp only [Act.put, List.setIfInBounds_toArray, List.set_cons_zero, List.set_cons_succ]
          refine wpAnyH_take (i := 4) (oi := ⟨_, _, _, _, _, _⟩) (v := .int .i64 j) rfl (by kernel_rfl) (by kernel_rfl) (by kernel_rfl) (fun _ _ _ h => h) (Or.inl ⟨by rfl, fun w' _ => by go_simp⟩) hH ?_
          simp only [Act.put, List.setIfInBounds_toArray, List.set_cons_zero, List.set_cons_succ]
          clear p0 p1 p2 p3 p4 q0 q1 q2 q3 q4
          refine wpAnyH_ready (rs := [2]) (by kernel_rfl) (by simp) ?_
          refine (AllReadyH.cons (o := ⟨_, _, _, _, _, _⟩) rfl (fun K hK => ?_) AllReadyH.nil)
          go_simp
          refine (H4.out j ⟨tk, tn, ts⟩ HT.out _ (below_step HB.out.2.2 hH)).mono ?_
          rintro e w3 ⟨rfl, hb⟩
          refine hK.out _ _ (below_step hH hb) (fun hH => ?_)
          clear hb hK K
          refine wpAnyH_ready (rs := [5]) (by kernel_rfl) (by simp) ?_
          refine (AllReadyH.cons (o := ⟨_, _, _, _, _, _⟩) rfl (fun K hK => ?_) AllReadyH.nil)
          go_simp
          refine (H5.out j ⟨uk, un, us⟩ HU.out _ (below_step HB.out.2.2 hH)).mono ?_
          rintro e w4 ⟨rfl, hb⟩
          refine hK.out _ _ (below_step hH hb) (fun hH => ?_)
          clear hb hK K
          refine wpAnyH_ready (rs := [6]) (by kernel_rfl) (by simp) ?_
          refine (AllReadyH.cons (o := ⟨_, _, _, _, _, _⟩) rfl (fun K hK => ?_) AllReadyH.nil)
          go_simp
          refine (compare_any ⟨tk, tn, ts⟩ ⟨uk, un, us⟩ _).mono ?_
          rw [HC.out]
          rintro e w5 ⟨rfl, hb⟩
          refine hK.out _ _ (below_step hH hb) (fun hH => ?_)
          clear hb hK K
          refine wpAnyH_take (i := 7) (oi := ⟨_, _, _, _, _, _⟩) (v := .int .i64 c) rfl (by kernel_rfl) (by kernel_rfl) (by kernel_rfl) (fun _ _ _ h => h) (Or.inl ⟨by rfl, fun w' _ => by go_simp⟩) hH ?_
          simp only [Act.put, List.setIfInBounds_toArray, List.set_cons_zero, List.set_cons_succ]
          refine wpAnyH_done (by kernel_rfl) ?_ _
          by_cases h0 : c = 0
          · have HG2 : Hid (cmpL P.pl A.pl = cmpL (P.pl.drop (j + 1)) (A.pl.drop (j + 1))) := HG.out.trans (cmpL_eq _ _ j _ _ HT.out HU.out (HC.out.trans h0))
            have hq : (c == 0) = true := by simpa using h0
            clear h0
            go_wp2
            go_roundg g
            case measure => omega
            case rel => exact ⟨j + 1, by omega, by go_num, HG2.out, HB.out.later hH⟩
          · have HG2 : Hid (c = r) := by show c = r; rw [← HR2.out, HG.out, cmpL_ne _ _ j _ _ HT.out HU.out (by rw [HC.out]; exact h0), HC.out]
            have hq : (c == 0) = false := by simpa using h0
            clear h0
            go_wp2
            go_ret
            exact ⟨ret_i HG2.out, (HB.out.later hH).2.2⟩
        | zero =>
          have hlt : ¬ (j : Int) < (P.pl.length : Int) := by omega
          have HG2 : Hid (0 = r) := by show 0 = r; rw [← HR2.out, HG.out, List.drop_eq_nil_of_le (by omega)]; rfl
          clear hj
          go_wp2
          go_ret
          exact ⟨ret_i HG2.out, HB.out.2.2⟩
    · have hq2 : ((l.length : Int) == (l'.length : Int)) = false := by simp; omega
      have HR2 : Hid (M.sgI l.length l'.length = r) := by show M.sgI l.length l'.length = r; rw [← HR.out]; simp [e1, e2]
      clear e1 e2 HR
      go_enter Tryz.func25, Tryz.ntmps25
      go_wp2_with (go_at_call 36; refine (cmpI_any _ _ _).mono ?_; rintro e w1 ⟨rfl, rfl⟩)
      go_ret
      exact ⟨ret_i HR2.out, below2 _ _ _⟩
  · have hq1 : (nm.toList == nm'.toList) = false := by simpa using e1
    have HR2 : Hid (sgS nm nm' = r) := by show sgS nm nm' = r; rw [← HR.out]; simp [e1]
    clear e1 HR
    go_enter Tryz.func25, Tryz.ntmps25
    go_wp2_with (go_at_call 35; refine (cmpS_any _ _ _).mono ?_; rintro e w1 ⟨rfl, rfl⟩)
    go_ret
    exact ⟨ret_i HR2.out, below2 _ _ _⟩
theorem cmpA_any (p a : At) (x y : Value) (w : World) (hx : Ts w x p.args) (hy : Ts w y a.args) :
    Calls Tryz.prog 25 #[p.v x, a.v y] w fun e w' => e = .returned (.int .i64 (p.cmp a)) ∧ Below w.heap.size w w' := by
  obtain ⟨⟨k, n, ss⟩, nm, l⟩ := p
  obtain ⟨⟨k', n', ss'⟩, nm', l'⟩ := a
  exact cmpA_go k n k' n' ss nm ss' nm' l l' _ _ rfl rfl x y w hx hy
end Go.Proofs.YtechceagghcipaaGreat
