import Derived.Test.YtdfgijdededolabGreatDoorA1
import Derived.Deep.RegionHeld3
import Derived.Test.YtdfgijdededolabGreatDoorCN4
import Derived.LoopN
import Derived.Test.YtdfgijdededolabGreatDoorCL1
/-
  Compare of clauses, and all that it calls, with the number of draws. (Written by SD1.py, out of B2, B4, B7, O1, CL13, CL15.)
-/
namespace Go.Proofs.YtdfgijdededolabGreatDoor
open Go.RowKit

/-- Below, and no draw is taken back. -/
structure DBelow (B : Nat) (w w' : World) : Prop extends Go.RowKit.Below B w w' where
  drawn : w.drawn ≤ w'.drawn
instance {B : Nat} {w w' : World} : Coe (DBelow B w w') (Go.RowKit.Below B w w') := ⟨DBelow.toBelow⟩
theorem DBelow.refl (B : Nat) (w : World) : DBelow B w w := ⟨Go.RowKit.Below.refl _ _, Nat.le_refl _⟩
theorem DBelow.trans {B : Nat} {a b c : World} (h : DBelow B a b) (k : DBelow B b c) : DBelow B a c := ⟨h.toBelow.trans k.toBelow, Nat.le_trans h.drawn k.drawn⟩
theorem DBelow.mono {B B' : Nat} {w w' : World} (h : DBelow B w w') (hB : B' ≤ B) : DBelow B' w w' := ⟨h.toBelow.mono hB, h.drawn⟩
theorem DBelow.drew {B : Nat} {a w : World} (h : DBelow B a w) : DBelow B a w.drew := ⟨h.toBelow.drew, Nat.le_trans h.drawn (Nat.le_succ _)⟩
theorem DBelow.alloc {B : Nat} {a w : World} (h : DBelow B a w) (hB : B ≤ w.heap.size) (o : Obj) : DBelow B a (w.alloc o) := ⟨h.toBelow.alloc hB o, h.drawn⟩
theorem dbelow1 (w : World) (o : Obj) : DBelow w.heap.size w (w.alloc o) := (DBelow.refl _ _).alloc (Nat.le_refl _) _
theorem dbelow2 (w : World) (o p : Obj) : DBelow w.heap.size w ((w.alloc o).alloc p) := (dbelow1 w o).alloc (by simp) _
set_option maxHeartbeats 400000 in
theorem compareD_any (a b : Tm) (w : World) :
    Calls Tryz.prog 33 #[a.v, b.v] w fun e w' => e = .returned (.int .i64 (a.cmp b)) ∧ DBelow w.heap.size w w' := by
  obtain ⟨k, n, s⟩ := a
  obtain ⟨k', n', s'⟩ := b
  go_enter Tryz.func33, Tryz.ntmps33
  go_wp2_with (first
    | (go_at_call 78; refine (cmpI_any _ _ _).mono ?_; rintro e w1 ⟨rfl, rfl⟩)
    | (go_at_call 79; refine (cmpS_any _ _ _).mono ?_; rintro e w1 ⟨rfl, rfl⟩))
  all_goals go_ret
  all_goals refine ⟨ret_i ?_, dbelow2 _ _ _⟩
  all_goals unfold Tm.cmp
  all_goals simp_all
  exact ((M.sgL_zero _ _).2 rfl).symm
/-- The two atoms' boxes, as Match lays them. -/
def DBox2 (w W : World) (c d : Array Value) : Prop := W.heap[w.heap.size]? = some (.cells c 37 (0, 0)) ∧ W.heap[w.heap.size + 1]? = some (.cells d 37 (0, 0)) ∧ DBelow w.heap.size w W
theorem DBox2.start (w : World) (c d : Array Value) : DBox2 w ((w.alloc (.cells c 37)).alloc (.cells d 37)) c d := ⟨heap_alloc2_old _ _ _, heap_alloc2_new _ _ _, dbelow2 _ _ _⟩
theorem DBox2.later {w W W' : World} {c d : Array Value} (h : DBox2 w W c d) (hb : DBelow W.heap.size W W') : DBox2 w W' c d :=
  ⟨(hb.block _ (Array.getElem?_eq_some_iff.1 h.1).1).trans h.1, (hb.block _ (Array.getElem?_eq_some_iff.1 h.2.1).1).trans h.2.1, h.2.2.trans (hb.mono h.2.2.size)⟩
theorem DBox2.old {w W : World} {c d : Array Value} (h : DBox2 w W c d) : Box2 w W c d := ⟨h.1, h.2.1, h.2.2.toBelow⟩
theorem DBox2.lt {w W : World} {c d : Array Value} (h : DBox2 w W c d) : w.heap.size + 1 < W.heap.size := h.old.lt
end Go.Proofs.YtdfgijdededolabGreatDoor
/-
  comparePreds.
-/
namespace Go.Proofs.YtdfgijdededolabGreatDoor
open Go.RowKit

set_option maxHeartbeats 400000 in
theorem or2_any (x y : Int) (b : Nat) (w : World) (h : CBlk w b #[.int .i64 x, .int .i64 y] 3) :
    Calls Tryz.prog 82 #[.slice (some ⟨b, 0, none⟩) 2 2] w fun e w' => e = .returned (.int .i64 (if x ≠ 0 then x else y)) ∧ w' = w := by
  have c0 : w.cell? ⟨b, 0, none⟩ = some (.int .i64 x) := cell_of_row _ _ _ _ _ _ h
  have c1 : w.cell? ⟨b, 1, none⟩ = some (.int .i64 y) := cell_of_row _ _ _ _ _ _ h
  clear h
  obtain ⟨R, hR⟩ : ∃ R, (if x ≠ 0 then x else y) = R := ⟨_, rfl⟩
  rw [hR]
  by_cases hx : x = 0
  · by_cases hy : y = 0
    · have HR : Hid ((0 : Int) = R) := by rw [← hR, if_neg (by simp [hx])]; exact hy.symm
      subst hx hy
      clear hR
      go_enter Tryz.func82, Tryz.ntmps82
      go_wp2
      refine wp_loop_rounds 3 ?_
      rw [rounds_succ]; go_wp2
      rw [rounds_succ]; go_wp2
      rw [rounds_succ]; go_wp2
      go_ret
      exact ⟨ret_i HR.out, rfl⟩
    · have HR : Hid (y = R) := (by rw [← hR, if_neg (by simp [hx])] : y = R)
      have n1 : (y == 0) = false := beq_eq_false_iff_ne.2 hy
      have n2 : (y != 0) = true := by rw [bne, n1]; rfl
      subst hx
      clear hR hy
      go_enter Tryz.func82, Tryz.ntmps82
      go_wp2
      refine wp_loop_rounds 2 ?_
      rw [rounds_succ]; go_wp2
      rw [rounds_succ]; go_wp2
      go_ret
      exact ⟨ret_i HR.out, rfl⟩
  · have HR : Hid (x = R) := (by rw [← hR, if_pos hx] : x = R)
    have n1 : (x == 0) = false := beq_eq_false_iff_ne.2 hx
    have n2 : (x != 0) = true := by rw [bne, n1]; rfl
    clear hR hx
    go_enter Tryz.func82, Tryz.ntmps82
    go_wp2
    refine wp_loop_rounds 1 ?_
    rw [rounds_succ]; go_wp2
    go_ret
    exact ⟨ret_i HR.out, rfl⟩
set_option maxRecDepth 20000 in
set_option maxHeartbeats 4000000 in
theorem comparePD_any (p q : Pd) (w : World) : Calls Tryz.prog 36 #[p.v, q.v] w fun e w' => e = .returned (.int .i64 (cmpP p q)) ∧ DBelow w.heap.size w w' := by
  have HR : Hid (∀ (b : Nat) (X : World), CBlk X b #[.int .i64 (M.sgL p.nm.toList q.nm.toList), .int .i64 (M.sgI p.ar q.ar)] 3 → Calls Tryz.prog 82 #[.slice (some ⟨b, 0, none⟩) 2 2] X fun e w' => e = .returned (.int .i64 (cmpP p q)) ∧ w' = X) := fun b X h => or2_any _ _ b X h
  obtain ⟨R, hR⟩ : ∃ R, cmpP p q = R := ⟨_, rfl⟩
  rw [hR] at HR ⊢
  clear hR
  obtain ⟨n, a⟩ := p
  obtain ⟨m, b⟩ := q
  have B1 : Hid (CBlk ((w.alloc (.cells #[.string n, .int .i64 a] 61)).alloc (.cells #[.string m, .int .i64 b] 61)) w.heap.size #[.string n, .int .i64 a] 61) := (CBlk.new _ _ _).later (below1 _ _)
  have B2 : Hid (CBlk ((w.alloc (.cells #[.string n, .int .i64 a] 61)).alloc (.cells #[.string m, .int .i64 b] 61)) (w.heap.size + 1) #[.string m, .int .i64 b] 61) := by
    have := CBlk.new (w.alloc (.cells #[.string n, .int .i64 a] 61)) #[.string m, .int .i64 b] 61
    rw [show (w.alloc (.cells #[.string n, .int .i64 a] 61)).heap.size = w.heap.size + 1 by simp] at this
    exact this
  have HB : Hid (DBelow w.heap.size w ((w.alloc (.cells #[.string n, .int .i64 a] 61)).alloc (.cells #[.string m, .int .i64 b] 61))) := dbelow2 _ _ _
  go_enter Tryz.func36, Tryz.ntmps36
  go_upto_region 1 with fail
  revert B1 B2 HB
  generalize (w.alloc (.cells #[.string n, .int .i64 a] 61)).alloc (.cells #[.string m, .int .i64 b] 61) = W
  intro B1 B2 HB
  refine wp_region_held_drew (S := fun w' => DBelow W.heap.size W w') (by kernel_rfl) (DBelow.refl _ _).drew (fun hH => ?_)
  revert hH
  generalize W.drew = V
  intro hH
  refine wpAnyH_take (i := 0) (oi := ⟨_, _, _, _, _, _⟩) (v := .pointer (some ⟨w.heap.size, 0, none⟩)) rfl (by kernel_rfl) (by kernel_rfl) (by kernel_rfl) (fun _ _ _ h => h) (Or.inl ⟨by rfl, fun w' h => by clear h; go_simp⟩) hH ?_
  simp only [Act.put, List.setIfInBounds_toArray, List.set_cons_zero, List.set_cons_succ]
  refine wpAnyH_take (i := 1) (oi := ⟨_, _, _, _, _, _⟩) (v := .string n) rfl (by kernel_rfl) (by kernel_rfl) (by kernel_rfl) (fun _ _ _ h => h) (Or.inl ⟨by rfl, fun w' h => by have hc := CBlk.later (Hid.out B1) h.toBelow; have y0 : w'.cell? ⟨w.heap.size, 0, none⟩ = some (.string n) := cell_of_row _ _ _ _ _ _ hc; clear h hc; go_simp⟩) hH ?_
  simp only [Act.put, List.setIfInBounds_toArray, List.set_cons_zero, List.set_cons_succ]
  refine wpAnyH_take (i := 2) (oi := ⟨_, _, _, _, _, _⟩) (v := .pointer (some ⟨w.heap.size + 1, 0, none⟩)) rfl (by kernel_rfl) (by kernel_rfl) (by kernel_rfl) (fun _ _ _ h => h) (Or.inl ⟨by rfl, fun w' h => by clear h; go_simp⟩) hH ?_
  simp only [Act.put, List.setIfInBounds_toArray, List.set_cons_zero, List.set_cons_succ]
  refine wpAnyH_take (i := 3) (oi := ⟨_, _, _, _, _, _⟩) (v := .string m) rfl (by kernel_rfl) (by kernel_rfl) (by kernel_rfl) (fun _ _ _ h => h) (Or.inl ⟨by rfl, fun w' h => by have hc := CBlk.later (Hid.out B2) h.toBelow; have y0 : w'.cell? ⟨w.heap.size + 1, 0, none⟩ = some (.string m) := cell_of_row _ _ _ _ _ _ hc; clear h hc; go_simp⟩) hH ?_
  simp only [Act.put, List.setIfInBounds_toArray, List.set_cons_zero, List.set_cons_succ]
  refine wpAnyH_take (i := 5) (oi := ⟨_, _, _, _, _, _⟩) (v := .pointer (some ⟨w.heap.size, 1, none⟩)) rfl (by kernel_rfl) (by kernel_rfl) (by kernel_rfl) (fun _ _ _ h => h) (Or.inl ⟨by rfl, fun w' h => by clear h; go_simp⟩) hH ?_
  simp only [Act.put, List.setIfInBounds_toArray, List.set_cons_zero, List.set_cons_succ]
  refine wpAnyH_take (i := 6) (oi := ⟨_, _, _, _, _, _⟩) (v := .int .i64 a) rfl (by kernel_rfl) (by kernel_rfl) (by kernel_rfl) (fun _ _ _ h => h) (Or.inl ⟨by rfl, fun w' h => by have hc := CBlk.later (Hid.out B1) h.toBelow; have y0 : w'.cell? ⟨w.heap.size, 1, none⟩ = some (.int .i64 a) := cell_of_row _ _ _ _ _ _ hc; clear h hc; go_simp⟩) hH ?_
  simp only [Act.put, List.setIfInBounds_toArray, List.set_cons_zero, List.set_cons_succ]
  refine wpAnyH_take (i := 7) (oi := ⟨_, _, _, _, _, _⟩) (v := .pointer (some ⟨w.heap.size + 1, 1, none⟩)) rfl (by kernel_rfl) (by kernel_rfl) (by kernel_rfl) (fun _ _ _ h => h) (Or.inl ⟨by rfl, fun w' h => by clear h; go_simp⟩) hH ?_
  simp only [Act.put, List.setIfInBounds_toArray, List.set_cons_zero, List.set_cons_succ]
  refine wpAnyH_take (i := 8) (oi := ⟨_, _, _, _, _, _⟩) (v := .int .i64 b) rfl (by kernel_rfl) (by kernel_rfl) (by kernel_rfl) (fun _ _ _ h => h) (Or.inl ⟨by rfl, fun w' h => by have hc := CBlk.later (Hid.out B2) h.toBelow; have y0 : w'.cell? ⟨w.heap.size + 1, 1, none⟩ = some (.int .i64 b) := cell_of_row _ _ _ _ _ _ hc; clear h hc; go_simp⟩) hH ?_
  simp only [Act.put, List.setIfInBounds_toArray, List.set_cons_zero, List.set_cons_succ]
  refine wpAnyH_ready (rs := [4]) (by kernel_rfl) (by simp) ?_
  refine (AllReadyH.cons (o := ⟨_, _, _, _, _, _⟩) rfl (fun K hK => ?_) AllReadyH.nil)
  go_simp
  refine (cmpS_any _ _ _).mono ?_
  rintro e V1 ⟨rfl, rfl⟩
  refine hK.out _ _ hH (fun hH => ?_)
  clear hK K
  refine wpAnyH_ready (rs := [9]) (by kernel_rfl) (by simp) ?_
  refine (AllReadyH.cons (o := ⟨_, _, _, _, _, _⟩) rfl (fun K hK => ?_) AllReadyH.nil)
  go_simp
  refine (cmpI_any _ _ _).mono ?_
  rintro e V1 ⟨rfl, rfl⟩
  refine hK.out _ _ hH (fun hH => ?_)
  clear hK K
  refine wpAnyH_ready (rs := [10]) (by kernel_rfl) (by simp) ?_
  refine (AllReadyH.cons (o := ⟨_, _, _, _, _, _⟩) rfl (fun K hK => ?_) AllReadyH.nil)
  go_simp
  refine hK.out _ _ (hH.alloc hH.toBelow.size _) (fun hH => ?_)
  clear hK K
  refine wpAnyH_ready (rs := [11]) (by kernel_rfl) (by simp) ?_
  refine (AllReadyH.cons (o := ⟨_, _, _, _, _, _⟩) rfl (fun K hK => ?_) AllReadyH.nil)
  go_simp
  refine (HR.out _ _ (CBlk.new _ _ _)).mono ?_
  rintro e V2 ⟨rfl, rfl⟩
  refine hK.out _ _ hH (fun hH => ?_)
  clear hK K
  refine wpAnyH_take (i := 12) (oi := ⟨_, _, _, _, _, _⟩) (v := .int .i64 R) rfl (by kernel_rfl) (by kernel_rfl) (by kernel_rfl) (fun _ _ _ h => h) (Or.inl ⟨by rfl, fun w' h => by clear h; go_simp⟩) hH ?_
  simp only [Act.put, List.setIfInBounds_toArray, List.set_cons_zero, List.set_cons_succ]
  refine wpAnyH_done (by kernel_rfl) ?_ _
  go_wp2
  go_ret
  exact ⟨rfl, HB.out.trans (hH.mono HB.out.toBelow.size)⟩
end Go.Proofs.YtdfgijdededolabGreatDoor
/-
  Predicates compared: ==, ahead, preds.
-/
namespace Go.Proofs.YtdfgijdededolabGreatDoor
open Go.RowKit
attribute [local go_sem ↓] Go.wp_at_zero Go.wp_at_succ

instance : DecidableEq Pd := fun p q => decidable_of_iff (p.nm = q.nm ∧ p.ar = q.ar) ⟨fun h => Pd.ext' h.1 h.2, fun h => by subst h; exact ⟨rfl, rfl⟩⟩
theorem pd_eq {s t : ByteArray} {n m : Int} : (Pd.mk s n = Pd.mk t m) ↔ (s = t ∧ n = m) := ⟨fun h => by cases h; exact ⟨rfl, rfl⟩, fun h => by obtain ⟨rfl, rfl⟩ := h; rfl⟩
theorem run_neq_pd (t u : Pd) (w : World) : (binOp .neq 61 t.v u.v).run Tryz.prog w = .ok (.bool (!decide (t = u))) w := by
  obtain ⟨s, n⟩ := t
  obtain ⟨s', n'⟩ := u
  simp only [pd_eq]
  by_cases h3 : s = s'
  · by_cases h2 : n = n'
    · subst h3 h2
      go_simp
    · subst h3
      go_simp
  · have h4 : ¬ s.toList = s'.toList := fun e => h3 (toList_inj e)
    go_simp
set_option maxRecDepth 20000 in
set_option maxHeartbeats 2000000 in
theorem ahead_any (p q : Pd) (w : World) : Calls Tryz.prog 87 #[p.v, q.v] w fun e w' => e = .returned (.bool (decide (cmpP p q < 0))) ∧ Below w.heap.size w w' := by
  obtain ⟨s, n⟩ := p
  obtain ⟨t, m⟩ := q
  go_enter Tryz.func87, Tryz.ntmps87
  go_wp2
  all_goals go_ret
  all_goals refine ⟨ret_b ?_, below2 _ _ _⟩
  · rename_i h
    have : M.sgL s.toList t.toList = -1 := by unfold M.sgL M.bl; rw [if_pos h]
    simp [cmpP, this]
  · rename_i h1 h2
    have : M.sgL s.toList t.toList = 0 := (M.sgL_zero _ _).2 h2
    simp only [cmpP, this, ne_eq, not_true_eq_false, if_false]
    unfold M.sgI
    by_cases h : n < m
    · simp [h]
    · simp only [h, if_false, decide_false]; symm; rw [decide_eq_false_iff_not]; split <;> omega
  · rename_i h1 h2
    have h0 : ¬ M.sgL s.toList t.toList = 0 := fun e => h2 ((M.sgL_zero _ _).1 e)
    have h3 : ¬ M.sgL s.toList t.toList = -1 := by unfold M.sgL M.bl; rw [if_neg h1]; split <;> omega
    have h4 := M.sgL_rng s.toList t.toList
    simp only [cmpP, if_pos h0]
    symm; rw [decide_eq_false_iff_not]; omega
set_option maxHeartbeats 1000000 in
theorem preds_same (l : List Pd) (x y : Value) (w : World) (h : PsP w x l) (h' : PsP w y l) (hl : l.length ≤ 3000000000000) :
    Calls Tryz.prog 12 #[x, y] w fun e w' => e = .returned (.bool true) ∧ Below w.heap.size w w' := by
  have HX : Hid (PsP w x l) := h
  have HY : Hid (PsP w y l) := h'
  obtain ⟨ad, cap, rfl⟩ := h.form
  obtain ⟨ad', cap', rfl⟩ := h'.form
  clear h h'
  go_enter Tryz.func12, Tryz.ntmps12
  go_wp2
  go_loopg [5] l.length (fun g i wr => ∃ j : Nat, j + g = l.length ∧ i = .int .i64 j ∧ Below w.heap.size w wr)
  case atStart => exact ⟨0, by omega, rfl, Below.refl _ _⟩
  case round =>
    obtain ⟨j, hj, rfl, hb⟩ := hrel
    cases gk with
    | succ g =>
      have hlt : (j : Int) < (l.length : Int) := by omega
      have j0 : (0 : Int) ≤ (j : Int) := by omega
      obtain ⟨t, ht⟩ : ∃ t, l[j]? = some t := ⟨_, List.getElem?_eq_getElem (by omega)⟩
      obtain ⟨b1, o1, rfl, hr1⟩ := (HX.out.later hb).get ht
      obtain ⟨b2, o2, rfl, hr2⟩ := (HY.out.later hb).get ht
      obtain ⟨p0, p1⟩ := hr1.2 _ _ ht
      obtain ⟨q0, q1⟩ := hr2.2 _ _ ht
      have he := run_neq_pd t t
      rw [decide_eq_true rfl] at he
      clear hr1 hr2 ht
      obtain ⟨ts, tn⟩ := t
      simp only at p0 p1 q0 q1
      go_wp2
      go_quiet (fail)
      go_wp2
      go_roundg g
      case measure => omega
      case rel => exact ⟨j + 1, by omega, by go_num, below_drewN hb _⟩
    | zero =>
      have hlt : ¬ (j : Int) < (l.length : Int) := by omega
      go_wp2
      go_ret
      exact ⟨rfl, hb⟩
end Go.Proofs.YtdfgijdededolabGreatDoor
