import Derived.Test.YtechceagghcipaaGreatDoorAA0
import Derived.Test.YtechceagghcipaaGreatDoorO2
import Derived.Deep.RegionHeld3
import Derived.BigQuiet
import Derived.Test.YtechceagghcipaaGreatDoorCL1
import Derived.Test.YtechceagghcipaaGreatDoorO1
namespace Go.Proofs.YtechceagghcipaaGreatDoor
open Go.RowKit
attribute [local go_sem ↓] Go.wp_at_zero Go.wp_at_succ

set_option maxHeartbeats 1000000 in
theorem sameTerms_any (a b : List Tm) (x y : Value) (w : World) (h : Ts w x a) (h' : Ts w y b) :
  Calls Tryz.prog 36 #[x, y] w fun e w' => e = .returned (.bool (decide (a = b))) /\ Below w.heap.size w w' := by
 obtain ⟨ad, cap, rfl, hl, h⟩ := h
 obtain ⟨ad', cap', rfl, hl', h'⟩ := h'
 by_cases e2 : a.length = b.length
 ·have hq2 : ((a.length : Int) == (b.length : Int)) = true := by simp; omega
  have E2 : Hid (a.length = b.length) := e2
  clear e2
  go_enter Tryz.func36, Tryz.ntmps36
  go_wp2
  go_loopg [5] a.length (fun g i wr => ∃ j : Nat, j + g = a.length /\ i = .int .i64 j /\ (a = b ↔ a.drop j = b.drop j) /\ Below w.heap.size w wr)
  case atStart => exact ⟨0, by omega, rfl, by simp, Below.refl _ _⟩
  case round =>
   obtain ⟨j, hj, rfl, hgo, hb⟩ := hrel
   have HG : Hid (a = b ↔ a.drop j = b.drop j) := hgo
   clear hgo
   cases gk with
   | succ g =>
    have hlt : (j : Int) < (a.length : Int) := by omega
    have hlt' : (j : Int) < (b.length : Int) := by have := E2.out; omega
    have j0 : (0 : Int) <= (j : Int) := by omega
    obtain ⟨t, ht⟩ : ∃ t, a[j]? = some t := ⟨_, List.getElem?_eq_getElem (by omega)⟩
    obtain ⟨u, hu⟩ : ∃ u, b[j]? = some u := ⟨_, List.getElem?_eq_getElem (by omega)⟩
    have HS : Hid ((a = b) ↔ (t = u /\ a.drop (j + 1) = b.drop (j + 1))) := HG.out.trans (drop_eq_step a b j t u ht hu)
    rcases h with h | ⟨b1, o1, rfl, hb1, h⟩
    ·subst h; simp at hj
    rcases h' with h' | ⟨b2, o2, rfl, hb2, h'⟩
    ·subst h'; simp at hu
    obtain ⟨p0, p1, p2⟩ := h j t ht
    obtain ⟨q0, q1, q2⟩ := h' j u hu
    rw [<- hb.cell (p := ⟨b1, _, none⟩) hb1] at p0 p1 p2
    rw [<- hb.cell (p := ⟨b2, _, none⟩) hb2] at q0 q1 q2
    have he := run_neq_tm t u
    clear h h' ht hu
    obtain ⟨tk, tn, ts⟩ := t
    obtain ⟨uk, un, us⟩ := u
    simp only at p0 p1 p2 q0 q1 q2
    by_cases htu : Tm.mk tk tn ts = ⟨uk, un, us⟩
    ·have HS2 : Hid (a = b ↔ a.drop (j + 1) = b.drop (j + 1)) := by
      have := HS.out; show a = b ↔ _; simpa [htu] using this
     rw [decide_eq_true htu] at he
     clear htu
     go_wp2
     go_quiet (fail)
     go_wp2
     go_roundg g
     case measure => omega
     case rel => exact ⟨j + 1, by omega, by go_num, HS2.out, below_drewN hb _⟩
    ·have HS2 : Hid (decide (a = b) = false) := decide_eq_false fun e => htu (HS.out.1 e).1
     rw [decide_eq_false htu] at he
     clear htu
     go_wp2
     go_quiet (fail)
     go_wp2
     go_ret
     exact ⟨ret_b HS2.out.symm, below_drewN hb _⟩
   | zero =>
    have hlt : ¬ (j : Int) < (a.length : Int) := by omega
    have HS2 : Hid (decide (a = b) = true) := decide_eq_true (HG.out.2 (by rw [List.drop_eq_nil_of_le (by omega), List.drop_eq_nil_of_le (by have := E2.out; omega)]))
    clear hj h h'
    go_wp2
    go_ret
    exact ⟨ret_b HS2.out.symm, hb⟩
 ·have hq2 : ((a.length : Int) == (b.length : Int)) = false := by simp; omega
  have HS2 : Hid (decide (a = b) = false) := decide_eq_false fun e => e2 (by rw [e])
  clear e2 h h'
  go_enter Tryz.func36, Tryz.ntmps36
  go_wp2
  go_ret
  exact ⟨ret_b HS2.out.symm, Below.refl _ _⟩

set_option maxHeartbeats 1000000 in
theorem sameAtom_any (a b : At) (x y : Value) (w : World) (h : Ts w x a.args) (h' : Ts w y b.args) :
  Calls Tryz.prog 13 #[a.v x, b.v y] w fun e w' => e = .returned (.bool (decide (a = b))) /\ Below w.heap.size w w' := by
 obtain ⟨⟨k, n, s⟩, nm, l⟩ := a
 obtain ⟨⟨k', n', s'⟩, nm', l'⟩ := b
 have HX : Hid (Ts w x l) := h
 have HY : Hid (Ts w y l') := h'
 obtain ⟨xa, xc, hxs, -⟩ := h
 obtain ⟨ya, yc, hys, -⟩ := h'
 simp only at hxs hys
 subst hxs hys
 obtain ⟨r, hr⟩ : ∃ r, decide (At.mk ⟨k, n, s⟩ nm l = At.mk ⟨k', n', s'⟩ nm' l') = r := ⟨_, rfl⟩
 rw [hr]
 have HR : Hid ((decide (Tm.mk k n s = ⟨k', n', s'⟩) && (decide (nm.toList = nm'.toList) && decide (l = l'))) = r) := by
  show _ = r
  rw [<- hr, Bool.eq_iff_iff]
  simp only [Bool.and_eq_true, decide_eq_true_eq, At.mk.injEq]
  exact ⟨fun ⟨p, q, r⟩ => ⟨p, toList_inj q, r⟩, fun ⟨p, q, r⟩ => ⟨p, by rw [q], r⟩⟩
 clear hr
 have he := run_eql_tm ⟨k, n, s⟩ ⟨k', n', s'⟩
 by_cases e2 : Tm.mk k n s = ⟨k', n', s'⟩
 ·rw [decide_eq_true e2] at he
  by_cases e1 : nm.toList = nm'.toList
  ·have hq1 : (nm.toList == nm'.toList) = true := by simpa using e1
   have HR2 : Hid (decide (l = l') = r) := by show _ = r; rw [<- HR.out]; simp [e1, e2]
   clear e1 e2 HR
   go_enter Tryz.func13, Tryz.ntmps13
   go_wp2_with (go_at_call 36; refine (sameTerms_any l l' _ _ _ (HX.out.later (below2 _ _ _)) (HY.out.later (below2 _ _ _))).mono ?_; rw [HR2.out]; rintro e w1 ⟨rfl, hb1⟩)
   go_ret
   exact ⟨rfl, below_step (below2 _ _ _) hb1⟩
  ·have HR2 : Hid (false = r) := by show false = r; rw [<- HR.out]; simp [e1]
   have hq1 : (nm.toList == nm'.toList) = false := by simpa using e1
   clear e1 e2 HR
   go_enter Tryz.func13, Tryz.ntmps13
   go_wp2
   go_ret
   exact ⟨ret_b HR2.out, below2 _ _ _⟩
 ·have HR2 : Hid (false = r) := by show false = r; rw [<- HR.out]; simp [e2]
  rw [decide_eq_false e2] at he
  clear e2 HR
  go_enter Tryz.func13, Tryz.ntmps13
  go_wp2
  go_ret
  exact ⟨ret_b HR2.out, below2 _ _ _⟩
def fsts (l : List (At × Value)) : List At := l.map (·.1)
theorem fsts_step {a b : List (At × Value)} {i : Nat} {t u : At × Value} (ht : a[i]? = some t) (hu : b[i]? = some u) : (fsts (a.drop i) = fsts (b.drop i)) ↔ (t.1 = u.1 /\ fsts (a.drop (i + 1)) = fsts (b.drop (i + 1))) := by
 obtain ⟨h1, rfl⟩ := List.getElem?_eq_some_iff.1 ht
 obtain ⟨h2, rfl⟩ := List.getElem?_eq_some_iff.1 hu
 unfold fsts
 rw [List.drop_eq_getElem_cons h1, List.drop_eq_getElem_cons h2, List.map_cons, List.map_cons, List.cons.injEq]
set_option maxRecDepth 20000 in
set_option maxHeartbeats 2000000 in
theorem sameAtoms_any (p q : List (At × Value)) (x y : Value) (w : World) (h : As w x p) (h' : As w y q) :
  Calls Tryz.prog 19 #[x, y] w fun e w' => e = .returned (.bool (decide (fsts p = fsts q))) /\ Below w.heap.size w w' := by
 obtain ⟨ad, cap, rfl, hl, h, hts⟩ := h
 obtain ⟨ad', cap', rfl, hl', h', hts'⟩ := h'
 by_cases e2 : p.length = q.length
 ·have hq2 : ((p.length : Int) == (q.length : Int)) = true := by simp; omega
  have hq3 : ((p.length : Int) != (q.length : Int)) = false := by simp; omega
  have E2 : Hid (p.length = q.length) := e2
  clear e2
  go_enter Tryz.func19, Tryz.ntmps19
  go_wp2
  go_loopg [5] p.length (fun g i wr => ∃ j : Nat, j + g = p.length /\ i = .int .i64 j /\ (fsts p = fsts q ↔ fsts (p.drop j) = fsts (q.drop j)) /\ Below w.heap.size w wr)
  case atStart => exact ⟨0, by omega, rfl, by simp, Below.refl _ _⟩
  case round =>
   obtain ⟨j, hj, rfl, hgo, hb⟩ := hrel
   have HG : Hid (fsts p = fsts q ↔ fsts (p.drop j) = fsts (q.drop j)) := hgo
   have HBr : Hid (Below w.heap.size w wr) := hb
   clear hgo
   cases gk with
   | succ g =>
    have hlt : (j : Int) < (p.length : Int) := by omega
    have hlt' : (j : Int) < (q.length : Int) := by have := E2.out; omega
    have j0 : (0 : Int) <= (j : Int) := by omega
    obtain ⟨t, ht⟩ : ∃ t, p[j]? = some t := ⟨_, List.getElem?_eq_getElem (by omega)⟩
    obtain ⟨u, hu⟩ : ∃ u, q[j]? = some u := ⟨_, List.getElem?_eq_getElem (by omega)⟩
    have HS : Hid ((fsts p = fsts q) ↔ (t.1 = u.1 /\ fsts (p.drop (j + 1)) = fsts (q.drop (j + 1)))) := HG.out.trans (fsts_step ht hu)
    rcases h with h | ⟨b1, o1, rfl, h⟩
    ·subst h; simp at hj
    rcases h' with h' | ⟨b2, o2, rfl, h'⟩
    ·subst h'; simp at hu
    have k1 := (h.later hb).2 j t ht
    have k2 := (h'.later hb).2 j u hu
    have HZ1 : Hid (b1 < wr.heap.size) := (h.later hb).1
    have HZ2 : Hid (b2 < wr.heap.size) := (h'.later hb).1
    have t1 := (hts t (List.mem_of_getElem? ht)).later hb
    have t2 := (hts' u (List.mem_of_getElem? hu)).later hb
    have HC0 := fun (X : World) (hX : Below wr.heap.size wr X) => sameAtom_any t.1 u.1 t.2 u.2 X (t1.later hX) (t2.later hX)
    obtain ⟨ax, cx, hax, -⟩ := t1
    obtain ⟨ay, cy, hay, -⟩ := t2
    obtain ⟨⟨⟨kx, mx, sx⟩, nx, lx⟩, vx⟩ := t
    obtain ⟨⟨⟨ky, my, sy⟩, ny, ly⟩, vy⟩ := u
    simp only at hax hay k1 k2 HC0
    subst hax hay
    have HE : Hid _ := k1
    have HD : Hid _ := k2
    by_cases htu : At.mk ⟨kx, mx, sx⟩ nx lx = ⟨⟨ky, my, sy⟩, ny, ly⟩
    ·have HS2 : Hid (fsts p = fsts q ↔ fsts (p.drop (j + 1)) = fsts (q.drop (j + 1))) := by
      have := HS.out; show fsts p = fsts q ↔ _; simpa [htu] using this
     rw [decide_eq_true htu] at HC0
     have HC : Hid (∀ (X : World), Below wr.heap.size wr X -> Calls Tryz.prog 13 #[.agg #[.int .i64 kx, .int .i64 mx, .string sx, .string nx, .slice ax lx.length cx], .agg #[.int .i64 ky, .int .i64 my, .string sy, .string ny, .slice ay ly.length cy]] X fun e w' => e = .returned (.bool true) /\ Below X.heap.size X w') := HC0
     clear htu k1 k2 h h' ht hu HC0 hb
     go_upto_region 6 with fail
     refine wp_region_held_drew (S := fun w' => Below wr.heap.size wr w') (by kernel_rfl) (Below.refl _ _).drew (fun hH => ?_)
     revert hH
     generalize wr.drew = V
     intro hH
     refine wTk 0 (.slice (some ⟨b1, o1, none⟩) p.length cap) rfl (by kernel_rfl) (fun _ _ _ h => h) (Or.inl ⟨by rfl, fun w' _ => by go_simp⟩) hH ?_
     simp only [wA8, wB8, wC8, wD8]
     refine wTk 1 (.int .i64 (j : Int)) rfl (by kernel_rfl) (fun _ _ _ h => h) (Or.inl ⟨by rfl, fun w' _ => by go_simp⟩) hH ?_
     simp only [wA8, wB8, wC8, wD8]
     refine wTk 2 (.pointer (some ⟨b1, o1 + j * 5, none⟩)) rfl (by kernel_rfl) (fun _ _ _ h => h) (Or.inl ⟨by rfl, fun w' _ => by go_simp⟩) hH ?_
     simp only [wA8, wB8, wC8, wD8]
     refine wTk 3 (.agg #[.int .i64 kx, .int .i64 mx, .string sx, .string nx, .slice ax lx.length cx]) rfl (by kernel_rfl) (fun _ _ _ h => h) (Or.inl ⟨by rfl, fun w' h => by obtain ⟨p0, p1, p2, p3, p4⟩ := HE.out; have z := HZ1.out; have a0 := cell_step h z p0; have a1 := cell_step h z p1; have a2 := cell_step h z p2; have a3 := cell_step h z p3; have a4 := cell_step h z p4; clear p0 p1 p2 p3 p4; go_simp⟩) hH ?_
     simp only [wA8, wB8, wC8, wD8]
     refine wTk 4 ((.slice (some ⟨b2, o2, none⟩) q.length cap')) rfl (by kernel_rfl) (fun _ _ _ h => h) (Or.inl ⟨by rfl, fun w' _ => by go_simp⟩) hH ?_
     simp only [wA8, wB8, wC8, wD8]
     refine wTk 5 (.int .i64 (j : Int)) rfl (by kernel_rfl) (fun _ _ _ h => h) (Or.inl ⟨by rfl, fun w' _ => by go_simp⟩) hH ?_
     simp only [wA8, wB8, wC8, wD8]
     refine wTk 6 (.pointer (some ⟨b2, o2 + j * 5, none⟩)) rfl (by kernel_rfl) (fun _ _ _ h => h) (Or.inl ⟨by rfl, fun w' _ => by go_simp⟩) hH ?_
     simp only [wA8, wB8, wC8, wD8]
     refine wTk 7 (.agg #[.int .i64 ky, .int .i64 my, .string sy, .string ny, .slice ay ly.length cy]) rfl (by kernel_rfl) (fun _ _ _ h => h) (Or.inl ⟨by rfl, fun w' h => by obtain ⟨p0, p1, p2, p3, p4⟩ := HD.out; have z := HZ2.out; have a0 := cell_step h z p0; have a1 := cell_step h z p1; have a2 := cell_step h z p2; have a3 := cell_step h z p3; have a4 := cell_step h z p4; clear p0 p1 p2 p3 p4; go_simp⟩) hH ?_
     simp only [wA8, wB8, wC8, wD8]
     refine wRd 8 (by kernel_rfl) rfl (fun K hK => ?_)
     go_simp
     refine (HC.out _ hH).mono ?_
     rintro x1 V2 ⟨rfl, hb⟩
     refine hK.out _ _ (below_step hH hb) (fun hH => ?_)
     clear hK K
     refine wTk 9 (.bool false) rfl (by kernel_rfl) (fun _ _ _ h => h) (Or.inl ⟨by rfl, fun w' _ => by go_simp⟩) hH ?_
     simp only [wA8, wB8, wC8, wD8]
     refine wpAnyH_done (by kernel_rfl) ?_ _
     have HV : Hid (Below wr.heap.size wr V2) := hH
     clear hH hb
     go_wp2
     go_roundg g
     case measure => omega
     case rel => exact ⟨j + 1, by omega, by go_num, HS2.out, below_step HBr.out HV.out⟩
    ·have HS2 : Hid (decide (fsts p = fsts q) = false) := decide_eq_false fun e => htu (HS.out.1 e).1
     rw [decide_eq_false htu] at HC0
     have HC : Hid (∀ (X : World), Below wr.heap.size wr X -> Calls Tryz.prog 13 #[.agg #[.int .i64 kx, .int .i64 mx, .string sx, .string nx, .slice ax lx.length cx], .agg #[.int .i64 ky, .int .i64 my, .string sy, .string ny, .slice ay ly.length cy]] X fun e w' => e = .returned (.bool false) /\ Below X.heap.size X w') := HC0
     clear htu k1 k2 h h' ht hu HC0 hb
     go_upto_region 6 with fail
     refine wp_region_held_drew (S := fun w' => Below wr.heap.size wr w') (by kernel_rfl) (Below.refl _ _).drew (fun hH => ?_)
     revert hH
     generalize wr.drew = V
     intro hH
     refine wTk 0 (.slice (some ⟨b1, o1, none⟩) p.length cap) rfl (by kernel_rfl) (fun _ _ _ h => h) (Or.inl ⟨by rfl, fun w' _ => by go_simp⟩) hH ?_
     simp only [wA8, wB8, wC8, wD8]
     refine wTk 1 (.int .i64 (j : Int)) rfl (by kernel_rfl) (fun _ _ _ h => h) (Or.inl ⟨by rfl, fun w' _ => by go_simp⟩) hH ?_
     simp only [wA8, wB8, wC8, wD8]
     refine wTk 2 (.pointer (some ⟨b1, o1 + j * 5, none⟩)) rfl (by kernel_rfl) (fun _ _ _ h => h) (Or.inl ⟨by rfl, fun w' _ => by go_simp⟩) hH ?_
     simp only [wA8, wB8, wC8, wD8]
     refine wTk 3 (.agg #[.int .i64 kx, .int .i64 mx, .string sx, .string nx, .slice ax lx.length cx]) rfl (by kernel_rfl) (fun _ _ _ h => h) (Or.inl ⟨by rfl, fun w' h => by obtain ⟨p0, p1, p2, p3, p4⟩ := HE.out; have z := HZ1.out; have a0 := cell_step h z p0; have a1 := cell_step h z p1; have a2 := cell_step h z p2; have a3 := cell_step h z p3; have a4 := cell_step h z p4; clear p0 p1 p2 p3 p4; go_simp⟩) hH ?_
     simp only [wA8, wB8, wC8, wD8]
     refine wTk 4 ((.slice (some ⟨b2, o2, none⟩) q.length cap')) rfl (by kernel_rfl) (fun _ _ _ h => h) (Or.inl ⟨by rfl, fun w' _ => by go_simp⟩) hH ?_
     simp only [wA8, wB8, wC8, wD8]
     refine wTk 5 (.int .i64 (j : Int)) rfl (by kernel_rfl) (fun _ _ _ h => h) (Or.inl ⟨by rfl, fun w' _ => by go_simp⟩) hH ?_
     simp only [wA8, wB8, wC8, wD8]
     refine wTk 6 (.pointer (some ⟨b2, o2 + j * 5, none⟩)) rfl (by kernel_rfl) (fun _ _ _ h => h) (Or.inl ⟨by rfl, fun w' _ => by go_simp⟩) hH ?_
     simp only [wA8, wB8, wC8, wD8]
     refine wTk 7 (.agg #[.int .i64 ky, .int .i64 my, .string sy, .string ny, .slice ay ly.length cy]) rfl (by kernel_rfl) (fun _ _ _ h => h) (Or.inl ⟨by rfl, fun w' h => by obtain ⟨p0, p1, p2, p3, p4⟩ := HD.out; have z := HZ2.out; have a0 := cell_step h z p0; have a1 := cell_step h z p1; have a2 := cell_step h z p2; have a3 := cell_step h z p3; have a4 := cell_step h z p4; clear p0 p1 p2 p3 p4; go_simp⟩) hH ?_
     simp only [wA8, wB8, wC8, wD8]
     refine wRd 8 (by kernel_rfl) rfl (fun K hK => ?_)
     go_simp
     refine (HC.out _ hH).mono ?_
     rintro x1 V2 ⟨rfl, hb⟩
     refine hK.out _ _ (below_step hH hb) (fun hH => ?_)
     clear hK K
     refine wTk 9 (.bool true) rfl (by kernel_rfl) (fun _ _ _ h => h) (Or.inl ⟨by rfl, fun w' _ => by go_simp⟩) hH ?_
     simp only [wA8, wB8, wC8, wD8]
     refine wpAnyH_done (by kernel_rfl) ?_ _
     have HV : Hid (Below wr.heap.size wr V2) := hH
     clear hH hb
     go_wp2
     go_ret
     exact ⟨ret_b HS2.out.symm, below_step HBr.out HV.out⟩
   | zero =>
    have hlt : ¬ (j : Int) < (p.length : Int) := by omega
    have HS2 : Hid (decide (fsts p = fsts q) = true) := decide_eq_true (HG.out.2 (by rw [List.drop_eq_nil_of_le (by omega), List.drop_eq_nil_of_le (by have := E2.out; omega)]))
    clear hj h h' hb
    go_wp2
    go_ret
    exact ⟨ret_b HS2.out.symm, HBr.out⟩
 ·have hq2 : ((p.length : Int) == (q.length : Int)) = false := by simp; omega
  have HS2 : Hid (decide (fsts p = fsts q) = false) := decide_eq_false fun e => e2 (by have := congrArg List.length e; simpa [fsts] using this)
  clear e2 h h'
  go_enter Tryz.func19, Tryz.ntmps19
  go_wp2
  go_ret
  exact ⟨ret_b HS2.out.symm, Below.refl _ _⟩
end Go.Proofs.YtechceagghcipaaGreatDoor
