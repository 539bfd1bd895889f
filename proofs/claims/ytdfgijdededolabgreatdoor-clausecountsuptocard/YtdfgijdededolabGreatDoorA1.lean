import Derived.Test.YtdfgijdededolabGreatDoorO2
import Derived.Deep.RegionHeld3
import Derived.BigQuiet
import Derived.Test.YtdfgijdededolabGreatDoorB7
/-
  The same, of the laws: terms, atoms, tests, clauses. (Written by CL14.py.)
-/
namespace Go.Proofs.YtdfgijdededolabGreatDoor
open Go.RowKit
attribute [local go_sem ↓] Go.wp_at_zero Go.wp_at_succ

set_option maxHeartbeats 1000000 in
theorem sameTerms_any (a b : List Tm) (x y : Value) (w : World) (h : Ts w x a) (h' : Ts w y b) :
    Calls Tryz.prog 10 #[x, y] w fun e w' => e = .returned (.bool (decide (a = b))) ∧ Below w.heap.size w w' := by
  obtain ⟨ad, cap, rfl, hl, h⟩ := h
  obtain ⟨ad', cap', rfl, hl', h'⟩ := h'
  by_cases e2 : a.length = b.length
  · have hq2 : ((a.length : Int) == (b.length : Int)) = true := by simp; omega
    have E2 : Hid (a.length = b.length) := e2
    clear e2
    go_enter Tryz.func10, Tryz.ntmps10
    go_wp2
    go_loopg [5] a.length (fun g i wr => ∃ j : Nat, j + g = a.length ∧ i = .int .i64 j ∧ (a = b ↔ a.drop j = b.drop j) ∧ Below w.heap.size w wr)
    case atStart => exact ⟨0, by omega, rfl, by simp, Below.refl _ _⟩
    case round =>
      obtain ⟨j, hj, rfl, hgo, hb⟩ := hrel
      have HG : Hid (a = b ↔ a.drop j = b.drop j) := hgo
      clear hgo
      cases gk with
      | succ g =>
        have hlt : (j : Int) < (a.length : Int) := by omega
        have hlt' : (j : Int) < (b.length : Int) := by have := E2.out; omega
        have j0 : (0 : Int) ≤ (j : Int) := by omega
        obtain ⟨t, ht⟩ : ∃ t, a[j]? = some t := ⟨_, List.getElem?_eq_getElem (by omega)⟩
        obtain ⟨u, hu⟩ : ∃ u, b[j]? = some u := ⟨_, List.getElem?_eq_getElem (by omega)⟩
        have HS : Hid ((a = b) ↔ (t = u ∧ a.drop (j + 1) = b.drop (j + 1))) := HG.out.trans (drop_eq_step a b j t u ht hu)
        rcases h with h | ⟨b1, o1, rfl, hb1, h⟩
        · subst h; simp at hj
        rcases h' with h' | ⟨b2, o2, rfl, hb2, h'⟩
        · subst h'; simp at hu
        obtain ⟨p0, p1, p2⟩ := h j t ht
        obtain ⟨q0, q1, q2⟩ := h' j u hu
        rw [← hb.cell (p := ⟨b1, _, none⟩) hb1] at p0 p1 p2
        rw [← hb.cell (p := ⟨b2, _, none⟩) hb2] at q0 q1 q2
        have he := run_neq_tm t u
        clear h h' ht hu
        obtain ⟨tk, tn, ts⟩ := t
        obtain ⟨uk, un, us⟩ := u
        simp only at p0 p1 p2 q0 q1 q2
        by_cases htu : Tm.mk tk tn ts = ⟨uk, un, us⟩
        · have HS2 : Hid (a = b ↔ a.drop (j + 1) = b.drop (j + 1)) := by
            have := HS.out; show a = b ↔ _; simpa [htu] using this
          rw [decide_eq_true htu] at he
          clear htu
          go_wp2
          go_quiet (fail)
          go_wp2
          go_roundg g
          case measure => omega
          case rel => exact ⟨j + 1, by omega, by go_num, HS2.out, below_drewN hb _⟩
        · have HS2 : Hid (decide (a = b) = false) := decide_eq_false fun e => htu (HS.out.1 e).1
          rw [decide_eq_false htu] at he
          clear htu
          go_wp2
          go_quiet (fail)
          go_wp2
          go_ret
          exact ⟨ret_b HS2.out.symm, below_drewN hb _⟩
      | zero =>
        have hlt : ¬ (j : Int) < (a.length : Int) := by omega
        have HS2 : Hid (decide (a = b) = true) := decide_eq_true (HG.out.2 (by rw [List.drop_eq_nil_of_le (by omega), List.drop_eq_nil_of_le (by have := E2.out; omega)]))
        clear hj h h'
        go_wp2
        go_ret
        exact ⟨ret_b HS2.out.symm, hb⟩
  · have hq2 : ((a.length : Int) == (b.length : Int)) = false := by simp; omega
    have HS2 : Hid (decide (a = b) = false) := decide_eq_false fun e => e2 (by rw [e])
    clear e2 h h'
    go_enter Tryz.func10, Tryz.ntmps10
    go_wp2
    go_ret
    exact ⟨ret_b HS2.out.symm, Below.refl _ _⟩

theorem drop_eq_stepE (a b : List Te) (i : Nat) (t u : Te) (ht : a[i]? = some t) (hu : b[i]? = some u) : (a.drop i = b.drop i) ↔ (t = u ∧ a.drop (i + 1) = b.drop (i + 1)) := by
  obtain ⟨h1, rfl⟩ := List.getElem?_eq_some_iff.1 ht
  obtain ⟨h2, rfl⟩ := List.getElem?_eq_some_iff.1 hu
  rw [List.drop_eq_getElem_cons h1, List.drop_eq_getElem_cons h2, List.cons.injEq]
theorem run_neq_te (t u : Te) (w : World) : (binOp .neq 88 t.v u.v).run Tryz.prog w = .ok (.bool (!decide (t = u))) w := by
  obtain ⟨op, ⟨kl, ml, sl⟩, ⟨kr, mr, sr⟩⟩ := t
  obtain ⟨oq, ⟨kp, mp, sp⟩, ⟨kq, mq, sq⟩⟩ := u
  by_cases h0 : op = oq
  · subst h0
    by_cases h1 : kl = kp
    · subst h1
      by_cases h2 : ml = mp
      · subst h2
        by_cases h3 : sl = sp
        · subst h3
          by_cases h4 : kr = kq
          · subst h4
            by_cases h5 : mr = mq
            · subst h5
              by_cases h6 : sr = sq
              · subst h6; go_simp
              · have h7 : ¬ sr.toList = sq.toList := fun e => h6 (toList_inj e)
                go_simp
            · go_simp
          · go_simp
        · have h7 : ¬ sl.toList = sp.toList := fun e => h3 (toList_inj e)
          go_simp
      · go_simp
    · go_simp
  · go_simp
set_option maxHeartbeats 1000000 in
theorem sameTests_any (a b : List Te) (x y : Value) (w : World) (h : Es w x a) (h' : Es w y b) :
    Calls Tryz.prog 61 #[x, y] w fun e w' => e = .returned (.bool (decide (a = b))) ∧ Below w.heap.size w w' := by
  obtain ⟨ad, cap, rfl, hl, h⟩ := h
  obtain ⟨ad', cap', rfl, hl', h'⟩ := h'
  by_cases e2 : a.length = b.length
  · have hq2 : ((a.length : Int) == (b.length : Int)) = true := by simp; omega
    have E2 : Hid (a.length = b.length) := e2
    clear e2
    go_enter Tryz.func61, Tryz.ntmps61
    go_wp2
    go_loopg [5] a.length (fun g i wr => ∃ j : Nat, j + g = a.length ∧ i = .int .i64 j ∧ (a = b ↔ a.drop j = b.drop j) ∧ Below w.heap.size w wr)
    case atStart => exact ⟨0, by omega, rfl, by simp, Below.refl _ _⟩
    case round =>
      obtain ⟨j, hj, rfl, hgo, hb⟩ := hrel
      have HG : Hid (a = b ↔ a.drop j = b.drop j) := hgo
      clear hgo
      cases gk with
      | succ g =>
        have hlt : (j : Int) < (a.length : Int) := by omega
        have hlt' : (j : Int) < (b.length : Int) := by have := E2.out; omega
        have j0 : (0 : Int) ≤ (j : Int) := by omega
        obtain ⟨t, ht⟩ : ∃ t, a[j]? = some t := ⟨_, List.getElem?_eq_getElem (by omega)⟩
        obtain ⟨u, hu⟩ : ∃ u, b[j]? = some u := ⟨_, List.getElem?_eq_getElem (by omega)⟩
        have HS : Hid ((a = b) ↔ (t = u ∧ a.drop (j + 1) = b.drop (j + 1))) := HG.out.trans (drop_eq_stepE a b j t u ht hu)
        rcases h with h | ⟨b1, o1, rfl, hb1, h⟩
        · subst h; simp at hj
        rcases h' with h' | ⟨b2, o2, rfl, hb2, h'⟩
        · subst h'; simp at hu
        obtain ⟨p0, p1, p2, p3, p4, p5, p6⟩ := h j t ht
        obtain ⟨q0, q1, q2, q3, q4, q5, q6⟩ := h' j u hu
        rw [← hb.cell (p := ⟨b1, _, none⟩) hb1] at p0 p1 p2 p3 p4 p5 p6
        rw [← hb.cell (p := ⟨b2, _, none⟩) hb2] at q0 q1 q2 q3 q4 q5 q6
        have he := run_neq_te t u
        clear h h' ht hu
        obtain ⟨op, ⟨kl, ml, sl⟩, ⟨kr, mr, sr⟩⟩ := t
        obtain ⟨oq, ⟨kp, mp, sp⟩, ⟨kq, mq, sq⟩⟩ := u
        simp only at p0 p1 p2 p3 p4 p5 p6 q0 q1 q2 q3 q4 q5 q6
        by_cases htu : Te.mk op ⟨kl, ml, sl⟩ ⟨kr, mr, sr⟩ = ⟨oq, ⟨kp, mp, sp⟩, ⟨kq, mq, sq⟩⟩
        · have HS2 : Hid (a = b ↔ a.drop (j + 1) = b.drop (j + 1)) := by
            have := HS.out; show a = b ↔ _; simpa [htu] using this
          rw [decide_eq_true htu] at he
          clear htu
          go_wp2
          go_quiet (fail)
          go_wp2
          go_roundg g
          case measure => omega
          case rel => exact ⟨j + 1, by omega, by go_num, HS2.out, below_drewN hb _⟩
        · have HS2 : Hid (decide (a = b) = false) := decide_eq_false fun e => htu (HS.out.1 e).1
          rw [decide_eq_false htu] at he
          clear htu
          go_wp2
          go_quiet (fail)
          go_wp2
          go_ret
          exact ⟨ret_b HS2.out.symm, below_drewN hb _⟩
      | zero =>
        have hlt : ¬ (j : Int) < (a.length : Int) := by omega
        have HS2 : Hid (decide (a = b) = true) := decide_eq_true (HG.out.2 (by rw [List.drop_eq_nil_of_le (by omega), List.drop_eq_nil_of_le (by have := E2.out; omega)]))
        clear hj h h'
        go_wp2
        go_ret
        exact ⟨ret_b HS2.out.symm, hb⟩
  · have hq2 : ((a.length : Int) == (b.length : Int)) = false := by simp; omega
    have HS2 : Hid (decide (a = b) = false) := decide_eq_false fun e => e2 (by rw [e])
    clear e2 h h'
    go_enter Tryz.func61, Tryz.ntmps61
    go_wp2
    go_ret
    exact ⟨ret_b HS2.out.symm, Below.refl _ _⟩

set_option maxHeartbeats 1000000 in
theorem sameAtom_any (a b : At) (x y : Value) (w : World) (h : Ts w x a.args) (h' : Ts w y b.args) :
    Calls Tryz.prog 102 #[a.v x, b.v y] w fun e w' => e = .returned (.bool (decide (a = b))) ∧ Below w.heap.size w w' := by
  obtain ⟨⟨k, n, s⟩, nm, l⟩ := a
  obtain ⟨⟨k', n', s'⟩, nm', l'⟩ := b
  have HX : Hid (Ts w x l) := h
  have HY : Hid (Ts w y l') := h'
  obtain ⟨xa, xc, hxs, -⟩ := h
  obtain ⟨ya, yc, hys, -⟩ := h'
  simp only at hxs hys
  subst hxs hys
  obtain ⟨r, hr⟩ : ∃ r, decide (At.mk ⟨k, n, s⟩ nm l = At.mk ⟨k', n', s'⟩ nm' l') = r := ⟨_, rfl⟩
  rw [hr]
  have HR : Hid ((decide (Tm.mk k n s = ⟨k', n', s'⟩) && (decide (nm.toList = nm'.toList) && decide (l = l'))) = r) := by
    show _ = r
    rw [← hr, Bool.eq_iff_iff]
    simp only [Bool.and_eq_true, decide_eq_true_eq, At.mk.injEq]
    exact ⟨fun ⟨p, q, r⟩ => ⟨p, toList_inj q, r⟩, fun ⟨p, q, r⟩ => ⟨p, by rw [q], r⟩⟩
  clear hr
  have he := run_eql_tm ⟨k, n, s⟩ ⟨k', n', s'⟩
  by_cases e2 : Tm.mk k n s = ⟨k', n', s'⟩
  · rw [decide_eq_true e2] at he
    by_cases e1 : nm.toList = nm'.toList
    · have hq1 : (nm.toList == nm'.toList) = true := by simpa using e1
      have HR2 : Hid (decide (l = l') = r) := by show _ = r; rw [← HR.out]; simp [e1, e2]
      clear e1 e2 HR
      go_enter Tryz.func102, Tryz.ntmps102
      go_wp2_with (go_at_call 10; refine (sameTerms_any l l' _ _ _ (HX.out.later (below2 _ _ _)) (HY.out.later (below2 _ _ _))).mono ?_; rw [HR2.out]; rintro e w1 ⟨rfl, hb1⟩)
      go_ret
      exact ⟨rfl, below_step (below2 _ _ _) hb1⟩
    · have HR2 : Hid (false = r) := by show false = r; rw [← HR.out]; simp [e1]
      have hq1 : (nm.toList == nm'.toList) = false := by simpa using e1
      clear e1 e2 HR
      go_enter Tryz.func102, Tryz.ntmps102
      go_wp2
      go_ret
      exact ⟨ret_b HR2.out, below2 _ _ _⟩
  · have HR2 : Hid (false = r) := by show false = r; rw [← HR.out]; simp [e2]
    rw [decide_eq_false e2] at he
    clear e2 HR
    go_enter Tryz.func102, Tryz.ntmps102
    go_wp2
    go_ret
    exact ⟨ret_b HR2.out, below2 _ _ _⟩
def fsts (l : List (At × Value)) : List At := l.map (·.1)
theorem fsts_step {a b : List (At × Value)} {i : Nat} {t u : At × Value} (ht : a[i]? = some t) (hu : b[i]? = some u) : (fsts (a.drop i) = fsts (b.drop i)) ↔ (t.1 = u.1 ∧ fsts (a.drop (i + 1)) = fsts (b.drop (i + 1))) := by
  obtain ⟨h1, rfl⟩ := List.getElem?_eq_some_iff.1 ht
  obtain ⟨h2, rfl⟩ := List.getElem?_eq_some_iff.1 hu
  unfold fsts
  rw [List.drop_eq_getElem_cons h1, List.drop_eq_getElem_cons h2, List.map_cons, List.map_cons, List.cons.injEq]
set_option maxRecDepth 20000 in
set_option maxHeartbeats 2000000 in
theorem sameAtoms_any (p q : List (At × Value)) (x y : Value) (w : World) (h : As w x p) (h' : As w y q) :
    Calls Tryz.prog 103 #[x, y] w fun e w' => e = .returned (.bool (decide (fsts p = fsts q))) ∧ Below w.heap.size w w' := by
  obtain ⟨ad, cap, rfl, hl, h, hts⟩ := h
  obtain ⟨ad', cap', rfl, hl', h', hts'⟩ := h'
  by_cases e2 : p.length = q.length
  · have hq2 : ((p.length : Int) == (q.length : Int)) = true := by simp; omega
    have hq3 : ((p.length : Int) != (q.length : Int)) = false := by simp; omega
    have E2 : Hid (p.length = q.length) := e2
    clear e2
    go_enter Tryz.func103, Tryz.ntmps103
    go_wp2
    go_loopg [5] p.length (fun g i wr => ∃ j : Nat, j + g = p.length ∧ i = .int .i64 j ∧ (fsts p = fsts q ↔ fsts (p.drop j) = fsts (q.drop j)) ∧ Below w.heap.size w wr)
    case atStart => exact ⟨0, by omega, rfl, by simp, Below.refl _ _⟩
    case round =>
      obtain ⟨j, hj, rfl, hgo, hb⟩ := hrel
      have HG : Hid (fsts p = fsts q ↔ fsts (p.drop j) = fsts (q.drop j)) := hgo
      have HBr : Hid (Below w.heap.size w wr) := hb
      clear hgo
      cases gk with
      | succ g =>
        have hlt : (j : Int) < (p.length : Int) := by omega
        have hlt' : (j : Int) < (q.length : Int) := by have := E2.out; omega
        have j0 : (0 : Int) ≤ (j : Int) := by omega
        obtain ⟨t, ht⟩ : ∃ t, p[j]? = some t := ⟨_, List.getElem?_eq_getElem (by omega)⟩
        obtain ⟨u, hu⟩ : ∃ u, q[j]? = some u := ⟨_, List.getElem?_eq_getElem (by omega)⟩
        have HS : Hid ((fsts p = fsts q) ↔ (t.1 = u.1 ∧ fsts (p.drop (j + 1)) = fsts (q.drop (j + 1)))) := HG.out.trans (fsts_step ht hu)
        rcases h with h | ⟨b1, o1, rfl, h⟩
        · subst h; simp at hj
        rcases h' with h' | ⟨b2, o2, rfl, h'⟩
        · subst h'; simp at hu
        have k1 := (h.later hb).2 j t ht
        have k2 := (h'.later hb).2 j u hu
        have HZ1 : Hid (b1 < wr.heap.size) := (h.later hb).1
        have HZ2 : Hid (b2 < wr.heap.size) := (h'.later hb).1
        have t1 := (hts t (List.mem_of_getElem? ht)).later hb
        have t2 := (hts' u (List.mem_of_getElem? hu)).later hb
        have HC0 := fun (X : World) (hX : Below wr.heap.size wr X) => sameAtom_any t.1 u.1 t.2 u.2 X (t1.later hX) (t2.later hX)
        obtain ⟨ax, cx, hax, -⟩ := t1
        obtain ⟨ay, cy, hay, -⟩ := t2
        obtain ⟨⟨⟨kx, mx, sx⟩, nx, lx⟩, vx⟩ := t
        obtain ⟨⟨⟨ky, my, sy⟩, ny, ly⟩, vy⟩ := u
        simp only at hax hay k1 k2 HC0
        subst hax hay
        have HE : Hid _ := k1
        have HD : Hid _ := k2
        by_cases htu : At.mk ⟨kx, mx, sx⟩ nx lx = ⟨⟨ky, my, sy⟩, ny, ly⟩
        · have HS2 : Hid (fsts p = fsts q ↔ fsts (p.drop (j + 1)) = fsts (q.drop (j + 1))) := by
            have := HS.out; show fsts p = fsts q ↔ _; simpa [htu] using this
          rw [decide_eq_true htu] at HC0
          have HC : Hid (∀ (X : World), Below wr.heap.size wr X → Calls Tryz.prog 102 #[.agg #[.int .i64 kx, .int .i64 mx, .string sx, .string nx, .slice ax lx.length cx], .agg #[.int .i64 ky, .int .i64 my, .string sy, .string ny, .slice ay ly.length cy]] X fun e w' => e = .returned (.bool true) ∧ Below X.heap.size X w') := HC0
          clear htu k1 k2 h h' ht hu HC0 hb
          go_upto_region 6 with fail
          refine wp_region_held_drew (S := fun w' => Below wr.heap.size wr w') (by kernel_rfl) (Below.refl _ _).drew (fun hH => ?_)
          revert hH
          generalize wr.drew = V
          intro hH
          refine wpAnyH_take (i := 0) (oi := ⟨_, _, _, _, _, _⟩) (v := .slice (some ⟨b1, o1, none⟩) p.length cap) rfl (by kernel_rfl) (by kernel_rfl) (by kernel_rfl) (fun _ _ _ h => h) (Or.inl ⟨by rfl, fun w' _ => by go_simp⟩) hH ?_
          simp only [Act.put, List.setIfInBounds_toArray, List.set_cons_zero, List.set_cons_succ]
          refine wpAnyH_take (i := 1) (oi := ⟨_, _, _, _, _, _⟩) (v := .int .i64 (j : Int)) rfl (by kernel_rfl) (by kernel_rfl) (by kernel_rfl) (fun _ _ _ h => h) (Or.inl ⟨by rfl, fun w' _ => by go_simp⟩) hH ?_
          simp only [Act.put, List.setIfInBounds_toArray, List.set_cons_zero, List.set_cons_succ]
          refine wpAnyH_take (i := 2) (oi := ⟨_, _, _, _, _, _⟩) (v := .pointer (some ⟨b1, o1 + j * 5, none⟩)) rfl (by kernel_rfl) (by kernel_rfl) (by kernel_rfl) (fun _ _ _ h => h) (Or.inl ⟨by rfl, fun w' _ => by go_simp⟩) hH ?_
          simp only [Act.put, List.setIfInBounds_toArray, List.set_cons_zero, List.set_cons_succ]
          refine wpAnyH_take (i := 3) (oi := ⟨_, _, _, _, _, _⟩) (v := .agg #[.int .i64 kx, .int .i64 mx, .string sx, .string nx, .slice ax lx.length cx]) rfl (by kernel_rfl) (by kernel_rfl) (by kernel_rfl) (fun _ _ _ h => h) (Or.inl ⟨by rfl, fun w' h => by obtain ⟨p0, p1, p2, p3, p4⟩ := HE.out; have z := HZ1.out; have a0 := cell_step h z p0; have a1 := cell_step h z p1; have a2 := cell_step h z p2; have a3 := cell_step h z p3; have a4 := cell_step h z p4; clear p0 p1 p2 p3 p4; go_simp⟩) hH ?_
          simp only [Act.put, List.setIfInBounds_toArray, List.set_cons_zero, List.set_cons_succ]
          refine wpAnyH_take (i := 4) (oi := ⟨_, _, _, _, _, _⟩) (v := (.slice (some ⟨b2, o2, none⟩) q.length cap')) rfl (by kernel_rfl) (by kernel_rfl) (by kernel_rfl) (fun _ _ _ h => h) (Or.inl ⟨by rfl, fun w' _ => by go_simp⟩) hH ?_
          simp only [Act.put, List.setIfInBounds_toArray, List.set_cons_zero, List.set_cons_succ]
          refine wpAnyH_take (i := 5) (oi := ⟨_, _, _, _, _, _⟩) (v := .int .i64 (j : Int)) rfl (by kernel_rfl) (by kernel_rfl) (by kernel_rfl) (fun _ _ _ h => h) (Or.inl ⟨by rfl, fun w' _ => by go_simp⟩) hH ?_
          simp only [Act.put, List.setIfInBounds_toArray, List.set_cons_zero, List.set_cons_succ]
          refine wpAnyH_take (i := 6) (oi := ⟨_, _, _, _, _, _⟩) (v := .pointer (some ⟨b2, o2 + j * 5, none⟩)) rfl (by kernel_rfl) (by kernel_rfl) (by kernel_rfl) (fun _ _ _ h => h) (Or.inl ⟨by rfl, fun w' _ => by go_simp⟩) hH ?_
          simp only [Act.put, List.setIfInBounds_toArray, List.set_cons_zero, List.set_cons_succ]
          refine wpAnyH_take (i := 7) (oi := ⟨_, _, _, _, _, _⟩) (v := .agg #[.int .i64 ky, .int .i64 my, .string sy, .string ny, .slice ay ly.length cy]) rfl (by kernel_rfl) (by kernel_rfl) (by kernel_rfl) (fun _ _ _ h => h) (Or.inl ⟨by rfl, fun w' h => by obtain ⟨p0, p1, p2, p3, p4⟩ := HD.out; have z := HZ2.out; have a0 := cell_step h z p0; have a1 := cell_step h z p1; have a2 := cell_step h z p2; have a3 := cell_step h z p3; have a4 := cell_step h z p4; clear p0 p1 p2 p3 p4; go_simp⟩) hH ?_
          simp only [Act.put, List.setIfInBounds_toArray, List.set_cons_zero, List.set_cons_succ]
          refine wpAnyH_ready (rs := [8]) (by kernel_rfl) (by simp) ?_
          refine (AllReadyH.cons (o := ⟨_, _, _, _, _, _⟩) rfl (fun K hK => ?_) AllReadyH.nil)
          go_simp
          refine (HC.out _ hH).mono ?_
          rintro x1 V2 ⟨rfl, hb⟩
          refine hK.out _ _ (below_step hH hb) (fun hH => ?_)
          clear hK K
          refine wpAnyH_take (i := 9) (oi := ⟨_, _, _, _, _, _⟩) (v := .bool false) rfl (by kernel_rfl) (by kernel_rfl) (by kernel_rfl) (fun _ _ _ h => h) (Or.inl ⟨by rfl, fun w' _ => by go_simp⟩) hH ?_
          simp only [Act.put, List.setIfInBounds_toArray, List.set_cons_zero, List.set_cons_succ]
          refine wpAnyH_done (by kernel_rfl) ?_ _
          have HV : Hid (Below wr.heap.size wr V2) := hH
          clear hH hb
          go_wp2
          go_roundg g
          case measure => omega
          case rel => exact ⟨j + 1, by omega, by go_num, HS2.out, below_step HBr.out HV.out⟩
        · have HS2 : Hid (decide (fsts p = fsts q) = false) := decide_eq_false fun e => htu (HS.out.1 e).1
          rw [decide_eq_false htu] at HC0
          have HC : Hid (∀ (X : World), Below wr.heap.size wr X → Calls Tryz.prog 102 #[.agg #[.int .i64 kx, .int .i64 mx, .string sx, .string nx, .slice ax lx.length cx], .agg #[.int .i64 ky, .int .i64 my, .string sy, .string ny, .slice ay ly.length cy]] X fun e w' => e = .returned (.bool false) ∧ Below X.heap.size X w') := HC0
          clear htu k1 k2 h h' ht hu HC0 hb
          go_upto_region 6 with fail
          refine wp_region_held_drew (S := fun w' => Below wr.heap.size wr w') (by kernel_rfl) (Below.refl _ _).drew (fun hH => ?_)
          revert hH
          generalize wr.drew = V
          intro hH
          refine wpAnyH_take (i := 0) (oi := ⟨_, _, _, _, _, _⟩) (v := .slice (some ⟨b1, o1, none⟩) p.length cap) rfl (by kernel_rfl) (by kernel_rfl) (by kernel_rfl) (fun _ _ _ h => h) (Or.inl ⟨by rfl, fun w' _ => by go_simp⟩) hH ?_
          simp only [Act.put, List.setIfInBounds_toArray, List.set_cons_zero, List.set_cons_succ]
          refine wpAnyH_take (i := 1) (oi := ⟨_, _, _, _, _, _⟩) (v := .int .i64 (j : Int)) rfl (by kernel_rfl) (by kernel_rfl) (by kernel_rfl) (fun _ _ _ h => h) (Or.inl ⟨by rfl, fun w' _ => by go_simp⟩) hH ?_
          simp only [Act.put, List.setIfInBounds_toArray, List.set_cons_zero, List.set_cons_succ]
          refine wpAnyH_take (i := 2) (oi := ⟨_, _, _, _, _, _⟩) (v := .pointer (some ⟨b1, o1 + j * 5, none⟩)) rfl (by kernel_rfl) (by kernel_rfl) (by kernel_rfl) (fun _ _ _ h => h) (Or.inl ⟨by rfl, fun w' _ => by go_simp⟩) hH ?_
          simp only [Act.put, List.setIfInBounds_toArray, List.set_cons_zero, List.set_cons_succ]
          refine wpAnyH_take (i := 3) (oi := ⟨_, _, _, _, _, _⟩) (v := .agg #[.int .i64 kx, .int .i64 mx, .string sx, .string nx, .slice ax lx.length cx]) rfl (by kernel_rfl) (by kernel_rfl) (by kernel_rfl) (fun _ _ _ h => h) (Or.inl ⟨by rfl, fun w' h => by obtain ⟨p0, p1, p2, p3, p4⟩ := HE.out; have z := HZ1.out; have a0 := cell_step h z p0; have a1 := cell_step h z p1; have a2 := cell_step h z p2; have a3 := cell_step h z p3; have a4 := cell_step h z p4; clear p0 p1 p2 p3 p4; go_simp⟩) hH ?_
          simp only [Act.put, List.setIfInBounds_toArray, List.set_cons_zero, List.set_cons_succ]
          refine wpAnyH_take (i := 4) (oi := ⟨_, _, _, _, _, _⟩) (v := (.slice (some ⟨b2, o2, none⟩) q.length cap')) rfl (by kernel_rfl) (by kernel_rfl) (by kernel_rfl) (fun _ _ _ h => h) (Or.inl ⟨by rfl, fun w' _ => by go_simp⟩) hH ?_
          simp only [Act.put, List.setIfInBounds_toArray, List.set_cons_zero, List.set_cons_succ]
          refine wpAnyH_take (i := 5) (oi := ⟨_, _, _, _, _, _⟩) (v := .int .i64 (j : Int)) rfl (by kernel_rfl) (by kernel_rfl) (by kernel_rfl) (fun _ _ _ h => h) (Or.inl ⟨by rfl, fun w' _ => by go_simp⟩) hH ?_
          simp only [Act.put, List.setIfInBounds_toArray, List.set_cons_zero, List.set_cons_succ]
          refine wpAnyH_take (i := 6) (oi := ⟨_, _, _, _, _, _⟩) (v := .pointer (some ⟨b2, o2 + j * 5, none⟩)) rfl (by kernel_rfl) (by kernel_rfl) (by kernel_rfl) (fun _ _ _ h => h) (Or.inl ⟨by rfl, fun w' _ => by go_simp⟩) hH ?_
          simp only [Act.put, List.setIfInBounds_toArray, List.set_cons_zero, List.set_cons_succ]
          refine wpAnyH_take (i := 7) (oi := ⟨_, _, _, _, _, _⟩) (v := .agg #[.int .i64 ky, .int .i64 my, .string sy, .string ny, .slice ay ly.length cy]) rfl (by kernel_rfl) (by kernel_rfl) (by kernel_rfl) (fun _ _ _ h => h) (Or.inl ⟨by rfl, fun w' h => by obtain ⟨p0, p1, p2, p3, p4⟩ := HD.out; have z := HZ2.out; have a0 := cell_step h z p0; have a1 := cell_step h z p1; have a2 := cell_step h z p2; have a3 := cell_step h z p3; have a4 := cell_step h z p4; clear p0 p1 p2 p3 p4; go_simp⟩) hH ?_
          simp only [Act.put, List.setIfInBounds_toArray, List.set_cons_zero, List.set_cons_succ]
          refine wpAnyH_ready (rs := [8]) (by kernel_rfl) (by simp) ?_
          refine (AllReadyH.cons (o := ⟨_, _, _, _, _, _⟩) rfl (fun K hK => ?_) AllReadyH.nil)
          go_simp
          refine (HC.out _ hH).mono ?_
          rintro x1 V2 ⟨rfl, hb⟩
          refine hK.out _ _ (below_step hH hb) (fun hH => ?_)
          clear hK K
          refine wpAnyH_take (i := 9) (oi := ⟨_, _, _, _, _, _⟩) (v := .bool true) rfl (by kernel_rfl) (by kernel_rfl) (by kernel_rfl) (fun _ _ _ h => h) (Or.inl ⟨by rfl, fun w' _ => by go_simp⟩) hH ?_
          simp only [Act.put, List.setIfInBounds_toArray, List.set_cons_zero, List.set_cons_succ]
          refine wpAnyH_done (by kernel_rfl) ?_ _
          have HV : Hid (Below wr.heap.size wr V2) := hH
          clear hH hb
          go_wp2
          go_ret
          exact ⟨ret_b HS2.out.symm, below_step HBr.out HV.out⟩
      | zero =>
        have hlt : ¬ (j : Int) < (p.length : Int) := by omega
        have HS2 : Hid (decide (fsts p = fsts q) = true) := decide_eq_true (HG.out.2 (by rw [List.drop_eq_nil_of_le (by omega), List.drop_eq_nil_of_le (by have := E2.out; omega)]))
        clear hj h h' hb
        go_wp2
        go_ret
        exact ⟨ret_b HS2.out.symm, HBr.out⟩
  · have hq2 : ((p.length : Int) == (q.length : Int)) = false := by simp; omega
    have HS2 : Hid (decide (fsts p = fsts q) = false) := decide_eq_false fun e => e2 (by have := congrArg List.length e; simpa [fsts] using this)
    clear e2 h h'
    go_enter Tryz.func103, Tryz.ntmps103
    go_wp2
    go_ret
    exact ⟨ret_b HS2.out.symm, Below.refl _ _⟩
end Go.Proofs.YtdfgijdededolabGreatDoor
/-
  Compare and SameClause of clauses. (Written by CL15.py.)
-/
namespace Go.Proofs.YtdfgijdededolabGreatDoor
open Go.RowKit

def Cm.cmp (c d : Cm) : Int := if c.head.1.cmp d.head.1 ≠ 0 then c.head.1.cmp d.head.1 else if cmpGL cmpX c.body d.body ≠ 0 then cmpGL cmpX c.body d.body else cmpGL Te.cmp c.tests d.tests
set_option maxRecDepth 20000 in
set_option maxHeartbeats 2000000 in
theorem compareC_any (c d : Cm) (w : World) (hc : c.ok w) (hd : d.ok w) : Calls Tryz.prog 19 #[c.v, d.v] w fun e w' => e = .returned (.int .i64 (c.cmp d)) ∧ Below w.heap.size w w' := by
  obtain ⟨⟨a1, n1, cap1, x1⟩, ⟨a2, cap2, x2⟩, ⟨a3, cap3, x3⟩, l1, l2⟩ := hc.shape
  obtain ⟨⟨b1, m1, bap1, y1⟩, ⟨b2, bap2, y2⟩, ⟨b3, bap3, y3⟩, l3, l4⟩ := hd.shape
  have hb2 := below2 w (.cells c.cs 41) (.cells d.cs 41)
  have K1 := fun (X : World) (hX : Below ((w.alloc (.cells c.cs 41)).alloc (.cells d.cs 41)).heap.size ((w.alloc (.cells c.cs 41)).alloc (.cells d.cs 41)) X) => cmpA_any c.head.1 d.head.1 c.head.2 d.head.2 X (hc.h.later (below_step hb2 hX)) (hd.h.later (below_step hb2 hX))
  have K2 := fun (X : World) (hX : Below ((w.alloc (.cells c.cs 41)).alloc (.cells d.cs 41)).heap.size ((w.alloc (.cells c.cs 41)).alloc (.cells d.cs 41)) X) => CLAtom_any c.body d.body c.bv d.bv X (hc.b.later (below_step hb2 hX)) (hd.b.later (below_step hb2 hX))
  have K3 := fun (X : World) (hX : Below ((w.alloc (.cells c.cs 41)).alloc (.cells d.cs 41)).heap.size ((w.alloc (.cells c.cs 41)).alloc (.cells d.cs 41)) X) => CLTest_any c.tests d.tests c.tv d.tv X (hc.t.later (below_step hb2 hX)) (hd.t.later (below_step hb2 hX))
  unfold Cm.cmp
  obtain ⟨r1, h1⟩ : ∃ r, c.head.1.cmp d.head.1 = r := ⟨_, rfl⟩
  obtain ⟨r2, h2⟩ : ∃ r, cmpGL cmpX c.body d.body = r := ⟨_, rfl⟩
  obtain ⟨r3, h3⟩ : ∃ r, cmpGL Te.cmp c.tests d.tests = r := ⟨_, rfl⟩
  simp only [h1, h2, h3] at K1 K2 K3 ⊢
  clear h1 h2 h3 hc hd hb2
  obtain ⟨⟨⟨⟨k, m, s⟩, nm, ls⟩, hx⟩, body, bv, tests, tv⟩ := c
  obtain ⟨⟨⟨⟨k', m', s'⟩, nm', ls'⟩, hx'⟩, body', bv', tests', tv'⟩ := d
  simp only at x1 x2 x3 y1 y2 y3 K1 K2 K3 l1 l2 l3 l4
  subst x1 x2 x3 y1 y2 y3
  by_cases q1 : r1 = 0
  · subst q1
    by_cases q2 : r2 = 0
    · subst q2
      simp only [ne_eq, not_true, if_false]
      go_enter Tryz.func19, Tryz.ntmps19
      go_wp2_with (first | (go_at_call 50; refine (K1 _ (Below.refl _ _)).mono ?_; clear K1; rintro e w1 ⟨rfl, hb⟩; have HB1 : Hid (Below _ _ w1) := hb; clear hb; obtain ⟨p0, p1, p2, p3, p4, p5, p6⟩ := cseven (two_boxes HB1.out).1; obtain ⟨q0, q1, q2, q3, q4, q5, q6⟩ := cseven (two_boxes HB1.out).2) | (go_at_call 51; refine (K2 _ HB1.out).mono ?_; clear K2; rintro e w2 ⟨rfl, hb⟩; have HB2 : Hid (Below _ _ w2) := (below_step HB1.out hb); clear hb; clear p0 p1 p2 p3 p4 p5 p6 q0 q1 q2 q3 q4 q5 q6; obtain ⟨p0, p1, p2, p3, p4, p5, p6⟩ := cseven (two_boxes HB2.out).1; obtain ⟨q0, q1, q2, q3, q4, q5, q6⟩ := cseven (two_boxes HB2.out).2) | (go_at_call 52; refine (K3 _ HB2.out).mono ?_; clear K3; rintro e w3 ⟨rfl, hb⟩; have HB3 : Hid (Below _ _ w3) := (below_step HB2.out hb); clear hb; clear p0 p1 p2 p3 p4 p5 p6 q0 q1 q2 q3 q4 q5 q6; obtain ⟨p0, p1, p2, p3, p4, p5, p6⟩ := cseven (two_boxes HB3.out).1; obtain ⟨q0, q1, q2, q3, q4, q5, q6⟩ := cseven (two_boxes HB3.out).2))
      go_ret
      exact ⟨rfl, below_step (below2 _ _ _) HB3.out⟩
    · have n1 : (r2 == 0) = false := beq_eq_false_iff_ne.2 q2
      have n2 : (r2 != 0) = true := by rw [bne, n1]; rfl
      simp only [ne_eq, not_true, if_false, q2, not_false_eq_true, if_true]
      clear q2 K3
      go_enter Tryz.func19, Tryz.ntmps19
      go_wp2_with (first | (go_at_call 50; refine (K1 _ (Below.refl _ _)).mono ?_; clear K1; rintro e w1 ⟨rfl, hb⟩; have HB1 : Hid (Below _ _ w1) := hb; clear hb; obtain ⟨p0, p1, p2, p3, p4, p5, p6⟩ := cseven (two_boxes HB1.out).1; obtain ⟨q0, q1, q2, q3, q4, q5, q6⟩ := cseven (two_boxes HB1.out).2) | (go_at_call 51; refine (K2 _ HB1.out).mono ?_; clear K2; rintro e w2 ⟨rfl, hb⟩; have HB2 : Hid (Below _ _ w2) := (below_step HB1.out hb); clear hb; clear p0 p1 p2 p3 p4 p5 p6 q0 q1 q2 q3 q4 q5 q6; obtain ⟨p0, p1, p2, p3, p4, p5, p6⟩ := cseven (two_boxes HB2.out).1; obtain ⟨q0, q1, q2, q3, q4, q5, q6⟩ := cseven (two_boxes HB2.out).2))
      go_ret
      exact ⟨rfl, below_step (below2 _ _ _) HB2.out⟩
  · have n1 : (r1 == 0) = false := beq_eq_false_iff_ne.2 q1
    have n2 : (r1 != 0) = true := by rw [bne, n1]; rfl
    rw [if_pos q1]
    clear q1 K2 K3
    go_enter Tryz.func19, Tryz.ntmps19
    go_wp2_with ((go_at_call 50; refine (K1 _ (Below.refl _ _)).mono ?_; clear K1; rintro e w1 ⟨rfl, hb⟩; have HB1 : Hid (Below _ _ w1) := hb; clear hb; obtain ⟨p0, p1, p2, p3, p4, p5, p6⟩ := cseven (two_boxes HB1.out).1; obtain ⟨q0, q1, q2, q3, q4, q5, q6⟩ := cseven (two_boxes HB1.out).2))
    go_ret
    exact ⟨rfl, below_step (below2 _ _ _) HB1.out⟩
def Cm.same (c d : Cm) : Bool := decide (c.head.1 = d.head.1) && (decide (fsts c.body = fsts d.body) && decide (c.tests = d.tests))
set_option maxRecDepth 20000 in
set_option maxHeartbeats 2000000 in
theorem sameC_any (c d : Cm) (w : World) (hc : c.ok w) (hd : d.ok w) : Calls Tryz.prog 57 #[c.v, d.v] w fun e w' => e = .returned (.bool (c.same d)) ∧ Below w.heap.size w w' := by
  obtain ⟨⟨a1, n1, cap1, x1⟩, ⟨a2, cap2, x2⟩, ⟨a3, cap3, x3⟩, l1, l2⟩ := hc.shape
  obtain ⟨⟨b1, m1, bap1, y1⟩, ⟨b2, bap2, y2⟩, ⟨b3, bap3, y3⟩, l3, l4⟩ := hd.shape
  have hb2 := below2 w (.cells c.cs 41) (.cells d.cs 41)
  have K1 := fun (X : World) (hX : Below ((w.alloc (.cells c.cs 41)).alloc (.cells d.cs 41)).heap.size ((w.alloc (.cells c.cs 41)).alloc (.cells d.cs 41)) X) => sameAtom_any c.head.1 d.head.1 c.head.2 d.head.2 X (hc.h.later (below_step hb2 hX)) (hd.h.later (below_step hb2 hX))
  have K2 := fun (X : World) (hX : Below ((w.alloc (.cells c.cs 41)).alloc (.cells d.cs 41)).heap.size ((w.alloc (.cells c.cs 41)).alloc (.cells d.cs 41)) X) => sameAtoms_any c.body d.body c.bv d.bv X (hc.b.later (below_step hb2 hX)) (hd.b.later (below_step hb2 hX))
  have K3 := fun (X : World) (hX : Below ((w.alloc (.cells c.cs 41)).alloc (.cells d.cs 41)).heap.size ((w.alloc (.cells c.cs 41)).alloc (.cells d.cs 41)) X) => sameTests_any c.tests d.tests c.tv d.tv X (hc.t.later (below_step hb2 hX)) (hd.t.later (below_step hb2 hX))
  unfold Cm.same
  obtain ⟨r1, h1⟩ : ∃ r, decide (c.head.1 = d.head.1) = r := ⟨_, rfl⟩
  obtain ⟨r2, h2⟩ : ∃ r, decide (fsts c.body = fsts d.body) = r := ⟨_, rfl⟩
  obtain ⟨r3, h3⟩ : ∃ r, decide (c.tests = d.tests) = r := ⟨_, rfl⟩
  rw [h1, h2, h3]
  rw [h1] at K1
  rw [h2] at K2
  rw [h3] at K3
  clear h1 h2 h3 hc hd hb2
  obtain ⟨⟨⟨⟨k, m, s⟩, nm, ls⟩, hx⟩, body, bv, tests, tv⟩ := c
  obtain ⟨⟨⟨⟨k', m', s'⟩, nm', ls'⟩, hx'⟩, body', bv', tests', tv'⟩ := d
  simp only at x1 x2 x3 y1 y2 y3 K1 K2 K3 l1 l2 l3 l4
  subst x1 x2 x3 y1 y2 y3
  cases r1 with
  | true =>
    cases r2 with
    | true =>
      simp only [Bool.true_and]
      go_enter Tryz.func57, Tryz.ntmps57
      go_wp2_with (first | (go_at_call 102; refine (K1 _ (Below.refl _ _)).mono ?_; clear K1; rintro e w1 ⟨rfl, hb⟩; have HB1 : Hid (Below _ _ w1) := hb; clear hb; obtain ⟨p0, p1, p2, p3, p4, p5, p6⟩ := cseven (two_boxes HB1.out).1; obtain ⟨q0, q1, q2, q3, q4, q5, q6⟩ := cseven (two_boxes HB1.out).2) | (go_at_call 103; refine (K2 _ HB1.out).mono ?_; clear K2; rintro e w2 ⟨rfl, hb⟩; have HB2 : Hid (Below _ _ w2) := (below_step HB1.out hb); clear hb; clear p0 p1 p2 p3 p4 p5 p6 q0 q1 q2 q3 q4 q5 q6; obtain ⟨p0, p1, p2, p3, p4, p5, p6⟩ := cseven (two_boxes HB2.out).1; obtain ⟨q0, q1, q2, q3, q4, q5, q6⟩ := cseven (two_boxes HB2.out).2) | (go_at_call 61; refine (K3 _ HB2.out).mono ?_; clear K3; rintro e w3 ⟨rfl, hb⟩; have HB3 : Hid (Below _ _ w3) := (below_step HB2.out hb); clear hb; clear p0 p1 p2 p3 p4 p5 p6 q0 q1 q2 q3 q4 q5 q6; obtain ⟨p0, p1, p2, p3, p4, p5, p6⟩ := cseven (two_boxes HB3.out).1; obtain ⟨q0, q1, q2, q3, q4, q5, q6⟩ := cseven (two_boxes HB3.out).2))
      go_ret
      exact ⟨rfl, below_step (below2 _ _ _) HB3.out⟩
    | false =>
      simp only [Bool.true_and, Bool.false_and]
      clear K3
      go_enter Tryz.func57, Tryz.ntmps57
      go_wp2_with (first | (go_at_call 102; refine (K1 _ (Below.refl _ _)).mono ?_; clear K1; rintro e w1 ⟨rfl, hb⟩; have HB1 : Hid (Below _ _ w1) := hb; clear hb; obtain ⟨p0, p1, p2, p3, p4, p5, p6⟩ := cseven (two_boxes HB1.out).1; obtain ⟨q0, q1, q2, q3, q4, q5, q6⟩ := cseven (two_boxes HB1.out).2) | (go_at_call 103; refine (K2 _ HB1.out).mono ?_; clear K2; rintro e w2 ⟨rfl, hb⟩; have HB2 : Hid (Below _ _ w2) := (below_step HB1.out hb); clear hb; clear p0 p1 p2 p3 p4 p5 p6 q0 q1 q2 q3 q4 q5 q6; obtain ⟨p0, p1, p2, p3, p4, p5, p6⟩ := cseven (two_boxes HB2.out).1; obtain ⟨q0, q1, q2, q3, q4, q5, q6⟩ := cseven (two_boxes HB2.out).2))
      go_ret
      exact ⟨rfl, below_step (below2 _ _ _) HB2.out⟩
  | false =>
    simp only [Bool.false_and]
    clear K2 K3
    go_enter Tryz.func57, Tryz.ntmps57
    go_wp2_with ((go_at_call 102; refine (K1 _ (Below.refl _ _)).mono ?_; clear K1; rintro e w1 ⟨rfl, hb⟩; have HB1 : Hid (Below _ _ w1) := hb; clear hb; obtain ⟨p0, p1, p2, p3, p4, p5, p6⟩ := cseven (two_boxes HB1.out).1; obtain ⟨q0, q1, q2, q3, q4, q5, q6⟩ := cseven (two_boxes HB1.out).2))
    go_ret
    exact ⟨rfl, below_step (below2 _ _ _) HB1.out⟩
end Go.Proofs.YtdfgijdededolabGreatDoor
/-
  replace, ApplyTest.
-/
namespace Go.Proofs.YtdfgijdededolabGreatDoor
open Go.RowKit
attribute [local go_sem ↓] Go.wp_at_zero Go.wp_at_succ

/-- What a term becomes. -/
def become (s : List Bd) (t : Tm) : Tm := if t.var then (look s t.n).getD t else t
def BoxB (w W : World) (c d : Array Value) (t t' : TypeId) : Prop := W.heap[w.heap.size]? = some (.cells c t (0, 0)) ∧ W.heap[w.heap.size + 1]? = some (.cells d t' (0, 0)) ∧ Below w.heap.size w W
theorem BoxB.start (w : World) (c d : Array Value) (t t' : TypeId) : BoxB w ((w.alloc (.cells c t)).alloc (.cells d t')) c d t t' := ⟨heap_alloc2_old _ _ _, heap_alloc2_new _ _ _, below2 _ _ _⟩
theorem BoxB.later {w W W' : World} {c d : Array Value} {t t' : TypeId} (h : BoxB w W c d t t') (hb : Below W.heap.size W W') : BoxB w W' c d t t' :=
  ⟨(hb.block _ (Array.getElem?_eq_some_iff.1 h.1).1).trans h.1, (hb.block _ (Array.getElem?_eq_some_iff.1 h.2.1).1).trans h.2.1, h.2.2.trans (hb.mono h.2.2.size)⟩
theorem BoxB.lt {w W : World} {c d : Array Value} {t t' : TypeId} (h : BoxB w W c d t t') : w.heap.size + 1 < W.heap.size := (Array.getElem?_eq_some_iff.1 h.2.1).1
def applyTe (s : List Bd) (t : Te) : Te := ⟨t.op, become s t.l, become s t.r⟩
theorem seven {w : World} {x : Nat} {a b c d e f g : Value} {ty : TypeId} (h : w.heap[x]? = some (.cells #[a, b, c, d, e, f, g] ty (0, 0))) :
    (w.cell? ⟨x, 0, none⟩ = some a ∧ w.cell? ⟨x, 1, none⟩ = some b ∧ w.cell? ⟨x, 2, none⟩ = some c ∧ w.cell? ⟨x, 3, none⟩ = some d ∧ w.cell? ⟨x, 4, none⟩ = some e ∧ w.cell? ⟨x, 5, none⟩ = some f ∧ w.cell? ⟨x, 6, none⟩ = some g) ∧
    (w.frozen? ⟨x, 0, none⟩ = false ∧ w.frozen? ⟨x, 1, none⟩ = false ∧ w.frozen? ⟨x, 2, none⟩ = false ∧ w.frozen? ⟨x, 3, none⟩ = false ∧ w.frozen? ⟨x, 4, none⟩ = false ∧ w.frozen? ⟨x, 5, none⟩ = false ∧ w.frozen? ⟨x, 6, none⟩ = false) :=
  ⟨⟨cell_of_row _ _ _ _ _ _ h, cell_of_row _ _ _ _ _ _ h, cell_of_row _ _ _ _ _ _ h, cell_of_row _ _ _ _ _ _ h, cell_of_row _ _ _ _ _ _ h, cell_of_row _ _ _ _ _ _ h, cell_of_row _ _ _ _ _ _ h⟩,
   ⟨frozen_of_row _ _ _ _ _ h, frozen_of_row _ _ _ _ _ h, frozen_of_row _ _ _ _ _ h, frozen_of_row _ _ _ _ _ h, frozen_of_row _ _ _ _ _ h, frozen_of_row _ _ _ _ _ h, frozen_of_row _ _ _ _ _ h⟩⟩
theorem cell_stepB {B : Nat} {w' w3 : World} {b o : Nat} {v : Value} (h3 : Below B w' w3) (hb : b < B) (hc : w'.cell? ⟨b, o, none⟩ = some v) : w3.cell? ⟨b, o, none⟩ = some v := by
  rw [h3.cell (p := ⟨b, o, none⟩) hb]; exact hc
end Go.Proofs.YtdfgijdededolabGreatDoor
/-
  Apply. (Written by genA.py out of A1.head.)
-/
namespace Go.Proofs.YtdfgijdededolabGreatDoor
open Go.RowKit
attribute [local go_sem ↓] Go.wp_at_zero Go.wp_at_succ

theorem Tryz.infoTerm : (Tryz.prog.info? 35).map (fun i => (i.zero, i.size, i.bytes)) = some (some (.agg #[.int .i64 0, .int .i64 0, .string ⟨#[]⟩]), 3, 32) := by kernel_rfl
def MC (n : Nat) : Array Value := madeCells #[.int .i64 0, .int .i64 0, .string ⟨#[]⟩] (n * 3)
theorem mk_terms (n : Nat) (hn : n ≤ 4398046511104) (w : World) : (Instr.makeSlice 24 (.int .i64 (n : Int)) (.int .i64 (n : Int))).run Tryz.prog w = .ok (.slice (some ⟨w.heap.size, 0, none⟩) n n) (w.alloc (.cells (MC n) 35)) := by
  obtain ⟨i, hi, h0, h1, h2⟩ := info_parts Tryz.infoTerm
  have h := run_make (P := Tryz.prog) w 24 35 i _ Tryz.underlying24 hi h0 .i64 .i64 n n (by omega) (Int.le_refl _) (by rw [h2]; omega) (by omega)
  rw [h1, Int.toNat_natCast] at h
  exact h
theorem fiveF {w : World} {g : Nat} {a b c d f : Value} {t : TypeId} (h : w.heap[g]? = some (.cells #[a, b, c, d, f] t (0, 0))) :
    (w.cell? ⟨g, 0, none⟩ = some a ∧ w.cell? ⟨g, 1, none⟩ = some b ∧ w.cell? ⟨g, 2, none⟩ = some c ∧ w.cell? ⟨g, 3, none⟩ = some d ∧ w.cell? ⟨g, 4, none⟩ = some f) ∧
    w.frozen? ⟨g, 0, none⟩ = false ∧ w.frozen? ⟨g, 1, none⟩ = false ∧ w.frozen? ⟨g, 2, none⟩ = false ∧ w.frozen? ⟨g, 3, none⟩ = false ∧ w.frozen? ⟨g, 4, none⟩ = false :=
  ⟨five h, frozen_of_row _ _ _ _ _ h, frozen_of_row _ _ _ _ _ h, frozen_of_row _ _ _ _ _ h, frozen_of_row _ _ _ _ _ h, frozen_of_row _ _ _ _ _ h⟩
theorem store5 {W : World} {G : Nat} {a b c d e a' b' c' d' e' : Value} {t : TypeId} (h : W.heap[G]? = some (.cells #[a, b, c, d, e] t (0, 0))) :
    (((((W.setCell ⟨G, 0, none⟩ a').setCell ⟨G, 1, none⟩ b').setCell ⟨G, 2, none⟩ c').setCell ⟨G, 3, none⟩ d').setCell ⟨G, 4, none⟩ e').heap[G]? = some (.cells #[a', b', c', d', e'] t (0, 0)) := by
  have h1 := heap_setCell_same _ _ 0 _ _ a' h
  have h2 := heap_setCell_same _ _ 1 _ _ b' h1
  have h3 := heap_setCell_same _ _ 2 _ _ c' h2
  have h4 := heap_setCell_same _ _ 3 _ _ d' h3
  exact heap_setCell_same _ _ 4 _ _ e' h4
theorem store5_other {W : World} {G k : Nat} {o : Obj} (a' b' c' d' e' : Value) (hk : k ≠ G) (h : W.heap[k]? = some o) :
    (((((W.setCell ⟨G, 0, none⟩ a').setCell ⟨G, 1, none⟩ b').setCell ⟨G, 2, none⟩ c').setCell ⟨G, 3, none⟩ d').setCell ⟨G, 4, none⟩ e').heap[k]? = some o := by
  rw [heap_setCell_other _ _ _ _ hk, heap_setCell_other _ _ _ _ hk, heap_setCell_other _ _ _ _ hk, heap_setCell_other _ _ _ _ hk, heap_setCell_other _ _ _ _ hk]; exact h
/-- Block g holds the first k of the terms l, and has room for all. -/
def TBlk (w : World) (g : Nat) (l : List Tm) (k : Nat) : Prop := ∃ C : Array Value, w.heap[g]? = some (.cells C 35 (0, 0)) ∧ C.size = l.length * 3 ∧
  ∀ i t, i < k → l[i]? = some t → C[i * 3]? = some (.int .i64 t.k) ∧ C[i * 3 + 1]? = some (.int .i64 t.n) ∧ C[i * 3 + 2]? = some (.string t.s)
theorem TBlk.start {w : World} {g : Nat} {l : List Tm} {n : Nat} (hn : n = l.length) (h : w.heap[g]? = some (.cells (MC n) 35 (0, 0))) : TBlk w g l 0 :=
  ⟨_, h, by rw [MC, size_madeCells, hn], fun i t hi => absurd hi (Nat.not_lt_zero _)⟩
theorem TBlk.later {w w' : World} {g : Nat} {l : List Tm} {k : Nat} (h : TBlk w g l k) (hb : Below w.heap.size w w') : TBlk w' g l k := by
  obtain ⟨C, h1, h2⟩ := h
  exact ⟨C, (hb.block _ (Array.getElem?_eq_some_iff.1 h1).1).trans h1, h2⟩
theorem TBlk.other {w : World} {g G i : Nat} {a : Value} {l : List Tm} {k : Nat} (h : TBlk w g l k) (hk : g ≠ G) : TBlk (w.setCell ⟨G, i, none⟩ a) g l k := by
  obtain ⟨C, h1, h2⟩ := h
  exact ⟨C, by rw [heap_setCell_other _ _ _ _ hk]; exact h1, h2⟩
theorem TBlk.cells {w : World} {g : Nat} {l : List Tm} {k j : Nat} (h : TBlk w g l k) (hj : j < l.length * 3) : (∃ c, w.cell? ⟨g, j, none⟩ = some c) ∧ w.frozen? ⟨g, j, none⟩ = false := by
  obtain ⟨C, h1, h2, -⟩ := h
  refine ⟨⟨C[j], ?_⟩, frozen_of_row _ _ _ _ _ h1⟩
  rw [cell_of_row _ _ _ _ _ _ h1]; simp
theorem TBlk.put {w : World} {g : Nat} {l : List Tm} {k : Nat} {t : Tm} (h : TBlk w g l k) (ht : l[k]? = some t) :
    TBlk (((w.setCell ⟨g, k * 3, none⟩ (.int .i64 t.k)).setCell ⟨g, k * 3 + 1, none⟩ (.int .i64 t.n)).setCell ⟨g, k * 3 + 2, none⟩ (.string t.s)) g l (k + 1) := by
  obtain ⟨C, h1, h2, h3⟩ := h
  have hk := (List.getElem?_eq_some_iff.1 ht).1
  have e1 := heap_setCell_same _ _ (k * 3) _ _ (.int .i64 t.k) h1
  have e2 := heap_setCell_same _ _ (k * 3 + 1) _ _ (.int .i64 t.n) e1
  have e3 := heap_setCell_same _ _ (k * 3 + 2) _ _ (.string t.s) e2
  refine ⟨_, e3, by simp [h2], fun i u hi hu => ?_⟩
  by_cases hik : i = k
  · subst hik
    rw [ht] at hu
    obtain rfl := Option.some.inj hu
    refine ⟨?_, ?_, ?_⟩ <;> simp [Array.getElem?_setIfInBounds, h2] <;> omega
  · obtain ⟨a, b, c⟩ := h3 i u (by omega) hu
    refine ⟨?_, ?_, ?_⟩
    · rw [Array.getElem?_setIfInBounds_ne (by omega), Array.getElem?_setIfInBounds_ne (by omega), Array.getElem?_setIfInBounds_ne (by omega)]; exact a
    · rw [Array.getElem?_setIfInBounds_ne (by omega), Array.getElem?_setIfInBounds_ne (by omega), Array.getElem?_setIfInBounds_ne (by omega)]; exact b
    · rw [Array.getElem?_setIfInBounds_ne (by omega), Array.getElem?_setIfInBounds_ne (by omega), Array.getElem?_setIfInBounds_ne (by omega)]; exact c
theorem TBlk.ts {w : World} {g : Nat} {l : List Tm} {n cap : Nat} (hn : n = l.length) (hl : n ≤ 4398046511104) (h : TBlk w g l n) : Ts w (.slice (some ⟨g, 0, none⟩) n cap) l := by
  subst hn
  obtain ⟨C, h1, h2, h3⟩ := h
  refine ⟨_, cap, rfl, by omega, Or.inr ⟨g, 0, rfl, (Array.getElem?_eq_some_iff.1 h1).1, fun i t ht => ?_⟩⟩
  obtain ⟨a, b, c⟩ := h3 i t (List.getElem?_eq_some_iff.1 ht).1 ht
  rw [cell_of_row _ _ _ _ _ _ h1, cell_of_row _ _ _ _ _ _ h1, cell_of_row _ _ _ _ _ _ h1]
  simp only [Nat.zero_add]
  exact ⟨a, b, c⟩
theorem BoxB.later2 {w W W' : World} {c d : Array Value} {t t' : TypeId} (h : BoxB w W c d t t') (hb : Below (w.heap.size + 2) W W') : BoxB w W' c d t t' :=
  ⟨(hb.block _ (by omega)).trans h.1, (hb.block _ (by omega)).trans h.2.1, h.2.2.trans (hb.mono (by omega))⟩
theorem bset3 {B : Nat} {W V : World} {G i j m : Nat} {a b c : Value} (h : Below B W V) (hg : B ≤ G) : Below B W (((V.setCell ⟨G, i, none⟩ a).setCell ⟨G, j, none⟩ b).setCell ⟨G, m, none⟩ c) :=
  ((h.setCell (p := ⟨G, i, none⟩) hg _).setCell (p := ⟨G, j, none⟩) hg _).setCell (p := ⟨G, m, none⟩) hg _
theorem putO {W : World} {G k i j m : Nat} {o : Obj} (a' b' c' : Value) (hk : k ≠ G) (h : W.heap[k]? = some o) :
    (((W.setCell ⟨G, i, none⟩ a').setCell ⟨G, j, none⟩ b').setCell ⟨G, m, none⟩ c').heap[k]? = some o := by
  rw [heap_setCell_other _ _ _ _ hk, heap_setCell_other _ _ _ _ hk, heap_setCell_other _ _ _ _ hk]; exact h
end Go.Proofs.YtdfgijdededolabGreatDoor
