import Derived.Test.YtechceagghcipabGreatDoorB7
import Derived.Test.YtechceagghcipabGreatDoorRA2
import Derived.Deep.RegionHeld3
import Derived.BigQuiet
import Derived.Test.YtechceagghcipabGreatDoorB6
import Derived.Test.YtechceagghcipabGreatDoorA1
import Derived.Laws.EntriesVeiled
import Derived.Test.YtechceagghcipabGreatDoorEB3
import Derived.Test.YtechceagghcipabGreatDoorW2
import Derived.Lib.AppendZeros
import Derived.LoopN
namespace Go.Proofs.YtechceagghcipabGreatDoor
open Go.RowKit
attribute [local go_sem ↓] Go.wp_at_zero Go.wp_at_succ
theorem drop_eq_step (a b : List Tm) (i : Nat) (t u : Tm) (ht : a[i]? = some t) (hu : b[i]? = some u) : (a.drop i = b.drop i) ↔ (t = u /\ a.drop (i + 1) = b.drop (i + 1)) := by
 obtain ⟨h1, rfl⟩ := List.getElem?_eq_some_iff.1 ht
 obtain ⟨h2, rfl⟩ := List.getElem?_eq_some_iff.1 hu
 rw [List.drop_eq_getElem_cons h1, List.drop_eq_getElem_cons h2, List.cons.injEq]
instance : DecidableEq At := fun a b => decidable_of_iff (a.by_ = b.by_ /\ a.name = b.name /\ a.args = b.args) (by cases a; cases b; simp)
end Go.Proofs.YtechceagghcipabGreatDoor
namespace Go.Proofs.YtechceagghcipabGreatDoor
open Go.RowKit
attribute [local go_sem ↓] Go.wp_at_zero Go.wp_at_succ
set_option maxHeartbeats 1000000 in
theorem sameTerms_any (a b : List Tm) (x y : Value) (w : World) (h : Ts w x a) (h' : Ts w y b) :
  Calls Tryz.prog 58 #[x, y] w fun e w' => e = .returned (.bool (decide (a = b))) /\ Below w.heap.size w w' := by
 obtain ⟨ad, cap, rfl, hl, h⟩ := h
 obtain ⟨ad', cap', rfl, hl', h'⟩ := h'
 by_cases e2 : a.length = b.length
 ·have hq2 : ((a.length : Int) == (b.length : Int)) = true := by simp; omega
  have E2 : Hid (a.length = b.length) := e2
  clear e2
  go_enter Tryz.func58, Tryz.ntmps58
  go_wp2
  go_loopg [5] a.length (fun g i wr => ∃ j : Nat, j + g = a.length /\ i = .int .i64 j /\ (a = b ↔ a.drop j = b.drop j) /\ Below w.heap.size w wr)
  case atStart => exact ⟨0, by omega, rfl, by simp, Below.refl _ _⟩
  case round =>
   obtain ⟨j, hj, rfl, hgo, hb⟩ := hrel
   have HG : Hid (a = b ↔ a.drop j = b.drop j) := hgo
   clear hgo
   cases gk with
   | succ g =>
    have hlt : (j : Int) < (a.length : Int) := by omega
    have hlt' : (j : Int) < (b.length : Int) := by have := E2.out; omega
    have j0 : (0 : Int) <= (j : Int) := by omega
    obtain ⟨t, ht⟩ : ∃ t, a[j]? = some t := ⟨_, List.getElem?_eq_getElem (by omega)⟩
    obtain ⟨u, hu⟩ : ∃ u, b[j]? = some u := ⟨_, List.getElem?_eq_getElem (by omega)⟩
    have HS : Hid ((a = b) ↔ (t = u /\ a.drop (j + 1) = b.drop (j + 1))) := HG.out.trans (drop_eq_step a b j t u ht hu)
    rcases h with h | ⟨b1, o1, rfl, hb1, h⟩
    ·subst h; simp at hj
    rcases h' with h' | ⟨b2, o2, rfl, hb2, h'⟩
    ·subst h'; simp at hu
    obtain ⟨p0, p1, p2⟩ := h j t ht
    obtain ⟨q0, q1, q2⟩ := h' j u hu
    rw [<- hb.cell (p := ⟨b1, _, none⟩) hb1] at p0 p1 p2
    rw [<- hb.cell (p := ⟨b2, _, none⟩) hb2] at q0 q1 q2
    have he := run_neq_tm t u
    clear h h' ht hu
    obtain ⟨tk, tn, ts⟩ := t
    obtain ⟨uk, un, us⟩ := u
    simp only at p0 p1 p2 q0 q1 q2
    by_cases htu : Tm.mk tk tn ts = ⟨uk, un, us⟩
    ·have HS2 : Hid (a = b ↔ a.drop (j + 1) = b.drop (j + 1)) := by
      have := HS.out; show a = b ↔ _; simpa [htu] using this
     rw [decide_eq_true htu] at he
     clear htu
     go_wp2
     go_quiet (fail)
     go_wp2
     go_roundg g
     case measure => omega
     case rel => exact ⟨j + 1, by omega, by go_num, HS2.out, below_drewN hb _⟩
    ·have HS2 : Hid (decide (a = b) = false) := decide_eq_false fun e => htu (HS.out.1 e).1
     rw [decide_eq_false htu] at he
     clear htu
     go_wp2
     go_quiet (fail)
     go_wp2
     go_ret
     exact ⟨ret_b HS2.out.symm, below_drewN hb _⟩
   | zero =>
    have hlt : ¬ (j : Int) < (a.length : Int) := by omega
    have HS2 : Hid (decide (a = b) = true) := decide_eq_true (HG.out.2 (by rw [List.drop_eq_nil_of_le (by omega), List.drop_eq_nil_of_le (by have := E2.out; omega)]))
    clear hj h h'
    go_wp2
    go_ret
    exact ⟨ret_b HS2.out.symm, hb⟩
 ·have hq2 : ((a.length : Int) == (b.length : Int)) = false := by simp; omega
  have HS2 : Hid (decide (a = b) = false) := decide_eq_false fun e => e2 (by rw [e])
  clear e2 h h'
  go_enter Tryz.func58, Tryz.ntmps58
  go_wp2
  go_ret
  exact ⟨ret_b HS2.out.symm, Below.refl _ _⟩
set_option maxHeartbeats 1000000 in
theorem sameAtom_any (a b : At) (x y : Value) (w : World) (h : Ts w x a.args) (h' : Ts w y b.args) :
  Calls Tryz.prog 30 #[a.v x, b.v y] w fun e w' => e = .returned (.bool (decide (a = b))) /\ Below w.heap.size w w' := by
 obtain ⟨⟨k, n, s⟩, nm, l⟩ := a
 obtain ⟨⟨k', n', s'⟩, nm', l'⟩ := b
 have HX : Hid (Ts w x l) := h
 have HY : Hid (Ts w y l') := h'
 obtain ⟨xa, xc, hxs, -⟩ := h
 obtain ⟨ya, yc, hys, -⟩ := h'
 simp only at hxs hys
 subst hxs hys
 obtain ⟨r, hr⟩ : ∃ r, decide (At.mk ⟨k, n, s⟩ nm l = At.mk ⟨k', n', s'⟩ nm' l') = r := ⟨_, rfl⟩
 rw [hr]
 have HR : Hid ((decide (Tm.mk k n s = ⟨k', n', s'⟩) && (decide (nm.toList = nm'.toList) && decide (l = l'))) = r) := by
  show _ = r
  rw [<- hr, Bool.eq_iff_iff]
  simp only [Bool.and_eq_true, decide_eq_true_eq, At.mk.injEq]
  exact ⟨fun ⟨p, q, r⟩ => ⟨p, toList_inj q, r⟩, fun ⟨p, q, r⟩ => ⟨p, by rw [q], r⟩⟩
 clear hr
 have he := run_eql_tm ⟨k, n, s⟩ ⟨k', n', s'⟩
 by_cases e2 : Tm.mk k n s = ⟨k', n', s'⟩
 ·rw [decide_eq_true e2] at he
  by_cases e1 : nm.toList = nm'.toList
  ·have hq1 : (nm.toList == nm'.toList) = true := by simpa using e1
   have HR2 : Hid (decide (l = l') = r) := by show _ = r; rw [<- HR.out]; simp [e1, e2]
   clear e1 e2 HR
   go_enter Tryz.func30, Tryz.ntmps30
   go_wp2_with (go_at_call 58; refine (sameTerms_any l l' _ _ _ (HX.out.later (below2 _ _ _)) (HY.out.later (below2 _ _ _))).mono ?_; rw [HR2.out]; rintro e w1 ⟨rfl, hb1⟩)
   go_ret
   exact ⟨rfl, below_step (below2 _ _ _) hb1⟩
  ·have HR2 : Hid (false = r) := by show false = r; rw [<- HR.out]; simp [e1]
   have hq1 : (nm.toList == nm'.toList) = false := by simpa using e1
   clear e1 e2 HR
   go_enter Tryz.func30, Tryz.ntmps30
   go_wp2
   go_ret
   exact ⟨ret_b HR2.out, below2 _ _ _⟩
 ·have HR2 : Hid (false = r) := by show false = r; rw [<- HR.out]; simp [e2]
  rw [decide_eq_false e2] at he
  clear e2 HR
  go_enter Tryz.func30, Tryz.ntmps30
  go_wp2
  go_ret
  exact ⟨ret_b HR2.out, below2 _ _ _⟩
def fsts (l : List (At × Value)) : List At := l.map (·.1)
theorem fsts_step {a b : List (At × Value)} {i : Nat} {t u : At × Value} (ht : a[i]? = some t) (hu : b[i]? = some u) : (fsts (a.drop i) = fsts (b.drop i)) ↔ (t.1 = u.1 /\ fsts (a.drop (i + 1)) = fsts (b.drop (i + 1))) := by
 obtain ⟨h1, rfl⟩ := List.getElem?_eq_some_iff.1 ht
 obtain ⟨h2, rfl⟩ := List.getElem?_eq_some_iff.1 hu
 unfold fsts
 rw [List.drop_eq_getElem_cons h1, List.drop_eq_getElem_cons h2, List.map_cons, List.map_cons, List.cons.injEq]
set_option maxRecDepth 20000 in
set_option maxHeartbeats 2000000 in
theorem sameAtoms_any (p q : List (At × Value)) (x y : Value) (w : World) (h : As w x p) (h' : As w y q) :
  Calls Tryz.prog 20 #[x, y] w fun e w' => e = .returned (.bool (decide (fsts p = fsts q))) /\ Below w.heap.size w w' := by
 obtain ⟨ad, cap, rfl, hl, h, hts⟩ := h
 obtain ⟨ad', cap', rfl, hl', h', hts'⟩ := h'
 by_cases e2 : p.length = q.length
 ·have hq2 : ((p.length : Int) == (q.length : Int)) = true := by simp; omega
  have hq3 : ((p.length : Int) != (q.length : Int)) = false := by simp; omega
  have E2 : Hid (p.length = q.length) := e2
  clear e2
  go_enter Tryz.func20, Tryz.ntmps20
  go_wp2
  go_loopg [5] p.length (fun g i wr => ∃ j : Nat, j + g = p.length /\ i = .int .i64 j /\ (fsts p = fsts q ↔ fsts (p.drop j) = fsts (q.drop j)) /\ Below w.heap.size w wr)
  case atStart => exact ⟨0, by omega, rfl, by simp, Below.refl _ _⟩
  case round =>
   obtain ⟨j, hj, rfl, hgo, hb⟩ := hrel
   have HG : Hid (fsts p = fsts q ↔ fsts (p.drop j) = fsts (q.drop j)) := hgo
   have HBr : Hid (Below w.heap.size w wr) := hb
   clear hgo
   cases gk with
   | succ g =>
    have hlt : (j : Int) < (p.length : Int) := by omega
    have hlt' : (j : Int) < (q.length : Int) := by have := E2.out; omega
    have j0 : (0 : Int) <= (j : Int) := by omega
    obtain ⟨t, ht⟩ : ∃ t, p[j]? = some t := ⟨_, List.getElem?_eq_getElem (by omega)⟩
    obtain ⟨u, hu⟩ : ∃ u, q[j]? = some u := ⟨_, List.getElem?_eq_getElem (by omega)⟩
    have HS : Hid ((fsts p = fsts q) ↔ (t.1 = u.1 /\ fsts (p.drop (j + 1)) = fsts (q.drop (j + 1)))) := HG.out.trans (fsts_step ht hu)
    rcases h with h | ⟨b1, o1, rfl, h⟩
    ·subst h; simp at hj
    rcases h' with h' | ⟨b2, o2, rfl, h'⟩
    ·subst h'; simp at hu
    have k1 := (h.later hb).2 j t ht
    have k2 := (h'.later hb).2 j u hu
    have HZ1 : Hid (b1 < wr.heap.size) := (h.later hb).1
    have HZ2 : Hid (b2 < wr.heap.size) := (h'.later hb).1
    have t1 := (hts t (List.mem_of_getElem? ht)).later hb
    have t2 := (hts' u (List.mem_of_getElem? hu)).later hb
    have HC0 := fun (X : World) (hX : Below wr.heap.size wr X) => sameAtom_any t.1 u.1 t.2 u.2 X (t1.later hX) (t2.later hX)
    obtain ⟨ax, cx, hax, -⟩ := t1
    obtain ⟨ay, cy, hay, -⟩ := t2
    obtain ⟨⟨⟨kx, mx, sx⟩, nx, lx⟩, vx⟩ := t
    obtain ⟨⟨⟨ky, my, sy⟩, ny, ly⟩, vy⟩ := u
    simp only at hax hay k1 k2 HC0
    subst hax hay
    have HE : Hid _ := k1
    have HD : Hid _ := k2
    by_cases htu : At.mk ⟨kx, mx, sx⟩ nx lx = ⟨⟨ky, my, sy⟩, ny, ly⟩
    ·have HS2 : Hid (fsts p = fsts q ↔ fsts (p.drop (j + 1)) = fsts (q.drop (j + 1))) := by
      have := HS.out; show fsts p = fsts q ↔ _; simpa [htu] using this
     rw [decide_eq_true htu] at HC0
     have HC : Hid (∀ (X : World), Below wr.heap.size wr X -> Calls Tryz.prog 30 #[.agg #[.int .i64 kx, .int .i64 mx, .string sx, .string nx, .slice ax lx.length cx], .agg #[.int .i64 ky, .int .i64 my, .string sy, .string ny, .slice ay ly.length cy]] X fun e w' => e = .returned (.bool true) /\ Below X.heap.size X w') := HC0
     clear htu k1 k2 h h' ht hu HC0 hb
     go_upto_region 6 with fail
     refine wp_region_held_drew (S := fun w' => Below wr.heap.size wr w') (by kernel_rfl) (Below.refl _ _).drew (fun hH => ?_)
     revert hH
     generalize wr.drew = V
     intro hH
     refine wTl 0 (.slice (some ⟨b1, o1, none⟩) p.length cap) rfl (by kernel_rfl) (fun _ _ _ h => h) rfl (fun w' _ => by go_simp) hH ?_
     simp only [wA, wB, wC, wD]
     refine wTl 1 (.int .i64 (j : Int)) rfl (by kernel_rfl) (fun _ _ _ h => h) rfl (fun w' _ => by go_simp) hH ?_
     simp only [wA, wB, wC, wD]
     refine wTl 2 (.pointer (some ⟨b1, o1 + j * 5, none⟩)) rfl (by kernel_rfl) (fun _ _ _ h => h) rfl (fun w' _ => by go_simp) hH ?_
     simp only [wA, wB, wC, wD]
     refine wTl 3 (.agg #[.int .i64 kx, .int .i64 mx, .string sx, .string nx, .slice ax lx.length cx]) rfl (by kernel_rfl) (fun _ _ _ h => h) rfl (fun w' h => by obtain ⟨p0, p1, p2, p3, p4⟩ := HE.out; have z := HZ1.out; have a0 := cell_step h z p0; have a1 := cell_step h z p1; have a2 := cell_step h z p2; have a3 := cell_step h z p3; have a4 := cell_step h z p4; clear p0 p1 p2 p3 p4; go_simp) hH ?_
     simp only [wA, wB, wC, wD]
     refine wTl 4 ((.slice (some ⟨b2, o2, none⟩) q.length cap')) rfl (by kernel_rfl) (fun _ _ _ h => h) rfl (fun w' _ => by go_simp) hH ?_
     simp only [wA, wB, wC, wD]
     refine wTl 5 (.int .i64 (j : Int)) rfl (by kernel_rfl) (fun _ _ _ h => h) rfl (fun w' _ => by go_simp) hH ?_
     simp only [wA, wB, wC, wD]
     refine wTl 6 (.pointer (some ⟨b2, o2 + j * 5, none⟩)) rfl (by kernel_rfl) (fun _ _ _ h => h) rfl (fun w' _ => by go_simp) hH ?_
     simp only [wA, wB, wC, wD]
     refine wTl 7 (.agg #[.int .i64 ky, .int .i64 my, .string sy, .string ny, .slice ay ly.length cy]) rfl (by kernel_rfl) (fun _ _ _ h => h) rfl (fun w' h => by obtain ⟨p0, p1, p2, p3, p4⟩ := HD.out; have z := HZ2.out; have a0 := cell_step h z p0; have a1 := cell_step h z p1; have a2 := cell_step h z p2; have a3 := cell_step h z p3; have a4 := cell_step h z p4; clear p0 p1 p2 p3 p4; go_simp) hH ?_
     simp only [wA, wB, wC, wD]
     refine wRd 8 (by kernel_rfl) rfl (fun K hK => ?_)
     go_simp
     refine (HC.out _ hH).mono ?_
     rintro x1 V2 ⟨rfl, hb⟩
     refine hK.out _ _ (below_step hH hb) (fun hH => ?_)
     clear hK K
     refine wTl 9 (.bool false) rfl (by kernel_rfl) (fun _ _ _ h => h) rfl (fun w' _ => by go_simp) hH ?_
     simp only [wA, wB, wC, wD]
     refine wpAnyH_done (by kernel_rfl) ?_ _
     have HV : Hid (Below wr.heap.size wr V2) := hH
     clear hH hb
     go_wp2
     go_roundg g
     case measure => omega
     case rel => exact ⟨j + 1, by omega, by go_num, HS2.out, below_step HBr.out HV.out⟩
    ·have HS2 : Hid (decide (fsts p = fsts q) = false) := decide_eq_false fun e => htu (HS.out.1 e).1
     rw [decide_eq_false htu] at HC0
     have HC : Hid (∀ (X : World), Below wr.heap.size wr X -> Calls Tryz.prog 30 #[.agg #[.int .i64 kx, .int .i64 mx, .string sx, .string nx, .slice ax lx.length cx], .agg #[.int .i64 ky, .int .i64 my, .string sy, .string ny, .slice ay ly.length cy]] X fun e w' => e = .returned (.bool false) /\ Below X.heap.size X w') := HC0
     clear htu k1 k2 h h' ht hu HC0 hb
     go_upto_region 6 with fail
     refine wp_region_held_drew (S := fun w' => Below wr.heap.size wr w') (by kernel_rfl) (Below.refl _ _).drew (fun hH => ?_)
     revert hH
     generalize wr.drew = V
     intro hH
     refine wTl 0 (.slice (some ⟨b1, o1, none⟩) p.length cap) rfl (by kernel_rfl) (fun _ _ _ h => h) rfl (fun w' _ => by go_simp) hH ?_
     simp only [wA, wB, wC, wD]
     refine wTl 1 (.int .i64 (j : Int)) rfl (by kernel_rfl) (fun _ _ _ h => h) rfl (fun w' _ => by go_simp) hH ?_
     simp only [wA, wB, wC, wD]
     refine wTl 2 (.pointer (some ⟨b1, o1 + j * 5, none⟩)) rfl (by kernel_rfl) (fun _ _ _ h => h) rfl (fun w' _ => by go_simp) hH ?_
     simp only [wA, wB, wC, wD]
     refine wTl 3 (.agg #[.int .i64 kx, .int .i64 mx, .string sx, .string nx, .slice ax lx.length cx]) rfl (by kernel_rfl) (fun _ _ _ h => h) rfl (fun w' h => by obtain ⟨p0, p1, p2, p3, p4⟩ := HE.out; have z := HZ1.out; have a0 := cell_step h z p0; have a1 := cell_step h z p1; have a2 := cell_step h z p2; have a3 := cell_step h z p3; have a4 := cell_step h z p4; clear p0 p1 p2 p3 p4; go_simp) hH ?_
     simp only [wA, wB, wC, wD]
     refine wTl 4 ((.slice (some ⟨b2, o2, none⟩) q.length cap')) rfl (by kernel_rfl) (fun _ _ _ h => h) rfl (fun w' _ => by go_simp) hH ?_
     simp only [wA, wB, wC, wD]
     refine wTl 5 (.int .i64 (j : Int)) rfl (by kernel_rfl) (fun _ _ _ h => h) rfl (fun w' _ => by go_simp) hH ?_
     simp only [wA, wB, wC, wD]
     refine wTl 6 (.pointer (some ⟨b2, o2 + j * 5, none⟩)) rfl (by kernel_rfl) (fun _ _ _ h => h) rfl (fun w' _ => by go_simp) hH ?_
     simp only [wA, wB, wC, wD]
     refine wTl 7 (.agg #[.int .i64 ky, .int .i64 my, .string sy, .string ny, .slice ay ly.length cy]) rfl (by kernel_rfl) (fun _ _ _ h => h) rfl (fun w' h => by obtain ⟨p0, p1, p2, p3, p4⟩ := HD.out; have z := HZ2.out; have a0 := cell_step h z p0; have a1 := cell_step h z p1; have a2 := cell_step h z p2; have a3 := cell_step h z p3; have a4 := cell_step h z p4; clear p0 p1 p2 p3 p4; go_simp) hH ?_
     simp only [wA, wB, wC, wD]
     refine wRd 8 (by kernel_rfl) rfl (fun K hK => ?_)
     go_simp
     refine (HC.out _ hH).mono ?_
     rintro x1 V2 ⟨rfl, hb⟩
     refine hK.out _ _ (below_step hH hb) (fun hH => ?_)
     clear hK K
     refine wTl 9 (.bool true) rfl (by kernel_rfl) (fun _ _ _ h => h) rfl (fun w' _ => by go_simp) hH ?_
     simp only [wA, wB, wC, wD]
     refine wpAnyH_done (by kernel_rfl) ?_ _
     have HV : Hid (Below wr.heap.size wr V2) := hH
     clear hH hb
     go_wp2
     go_ret
     exact ⟨ret_b HS2.out.symm, below_step HBr.out HV.out⟩
   | zero =>
    have hlt : ¬ (j : Int) < (p.length : Int) := by omega
    have HS2 : Hid (decide (fsts p = fsts q) = true) := decide_eq_true (HG.out.2 (by rw [List.drop_eq_nil_of_le (by omega), List.drop_eq_nil_of_le (by have := E2.out; omega)]))
    clear hj h h' hb
    go_wp2
    go_ret
    exact ⟨ret_b HS2.out.symm, HBr.out⟩
 ·have hq2 : ((p.length : Int) == (q.length : Int)) = false := by simp; omega
  have HS2 : Hid (decide (fsts p = fsts q) = false) := decide_eq_false fun e => e2 (by have := congrArg List.length e; simpa [fsts] using this)
  clear e2 h h'
  go_enter Tryz.func20, Tryz.ntmps20
  go_wp2
  go_ret
  exact ⟨ret_b HS2.out.symm, Below.refl _ _⟩
end Go.Proofs.YtechceagghcipabGreatDoor
namespace Go.Proofs.YtechceagghcipabGreatDoor
open Go.RowKit
def grd (t : Tm) : Tm := if t.k = 3 then ⟨1, t.n, ⟨#[]⟩⟩ else t
def sf (l : List Tm) (t : Tm) : Tm := if t ∈ l then t else grd t
def ix : List Tm -> Tm -> Nat
 | [], _ => 0
 | x :: l, t => if x = t then 0 else ix l t + 1
end Go.Proofs.YtechceagghcipabGreatDoor
namespace Go.Proofs.YtechceagghcipabGreatDoor
open Go.RowKit
theorem Tryz.infoAtom : (Tryz.prog.info? 33).map (fun i => (i.zero, i.size, i.bytes)) = some (some (.agg #[.int .i64 0, .int .i64 0, .string ⟨#[]⟩, .string ⟨#[]⟩, .slice none 0 0]), 5, 72) := by kernel_rfl
end Go.Proofs.YtechceagghcipabGreatDoor
namespace Go.Proofs.YtechceagghcipabGreatDoor
open Go.RowKit
attribute [local go_sem ↓] Go.wp_at_zero Go.wp_at_succ
def qa (u : ByteArray) (x : At) : At := if x.by_ = zt then ⟨⟨2, 0, u⟩, x.name, x.args⟩ else x
theorem CBlk.froz {w : World} {g i : Nat} {c : Array Value} {t : TypeId} (h : CBlk w g c t) : w.frozen? ⟨g, i, none⟩ = false := frozen_of_row _ _ _ _ _ h
end Go.Proofs.YtechceagghcipabGreatDoor
namespace Go.Proofs.YtechceagghcipabGreatDoor
open Go.RowKit
attribute [local go_sem ↓] Go.wp_at_zero Go.wp_at_succ
def TsP (w : World) (v : Value) (l : List Tm) : Prop := (v = .slice none 0 0 /\ l = []) ∨ ∃ ad cap, v = .slice (some ad) l.length cap /\ (l = [] ∨ ∃ b o, ad = ⟨b, o, none⟩ /\ TRow w b o l)
theorem TsP.later {w w' : World} {v : Value} {l : List Tm} (h : TsP w v l) (hb : Below w.heap.size w w') : TsP w' v l := by
 rcases h with h | ⟨ad, cap, h1, h2⟩
 ·exact Or.inl h
 ·refine Or.inr ⟨ad, cap, h1, ?_⟩
  rcases h2 with h2 | ⟨b, o, h2, h3⟩
  ·exact Or.inl h2
  ·exact Or.inr ⟨b, o, h2, h3.later hb⟩
theorem TsP.ts {w : World} {v : Value} {l : List Tm} (h : TsP w v l) (hl : l.length < 1000000000000000000) : Ts w v l := by
 rcases h with ⟨rfl, rfl⟩ | ⟨ad, cap, rfl, h2⟩
 ·exact ⟨none, 0, rfl, by simp, Or.inl rfl⟩
 ·refine ⟨some ad, cap, rfl, hl, ?_⟩
  rcases h2 with h2 | ⟨b, o, rfl, h3⟩
  ·exact Or.inl h2
  ·exact Or.inr ⟨b, o, rfl, h3⟩
theorem OwnT.tsP {w : World} {base : Nat} {v : Value} {l : List Tm} (h : OwnT w base v l) : TsP w v l := by
 have hh := h
 rcases h.2 with ⟨rfl, hn⟩ | ⟨g, cap, cur, rfl, hb, hg, -⟩
 ·exact Or.inl ⟨rfl, List.length_eq_zero_iff.1 hn⟩
 ·refine Or.inr ⟨_, cap, rfl, Or.inr ⟨g, 0, rfl, (Array.getElem?_eq_some_iff.1 hg).1, fun i t ht => ?_⟩⟩
  simpa using ownT_cells hh i t ht
theorem tcs_app (l m : List Tm) : tcs (l ++ m) = tcs l ++ tcs m := by simp [tcs]
theorem ownT_nil (w : World) (base : Nat) : OwnT w base (.slice none 0 0) [] := World.ownsRow_nil _ _ _ _
theorem grown_below3 {w w' : World} {base : Nat} {v : Value} (hg : w.grownBy w' v.ownBlock) (h : ∀ k, v.ownBlock = some k -> base <= k) (hb : base <= w.heap.size) : Below base w w' :=
 (Below.refl _ _).grown hg hb h
theorem app_terms {ops : Array Oper} {rest : List Oper} {o : Oper} {a : Act} {Q : Exit -> Act -> World -> Prop} {w : World} (hgd : o.guard = none) (s x : Operand)
  (ho : o.op = .call { callee := .builtin .append, args := #[s, x], argTypes := #[31, 31] }) (base : Nat) (v : Value) (l : List Tm) (hs : a.eval s = v) (hown : OwnT w base v l)
  (y : Value) (m : List Tm) (hx : a.eval x = y) (hy : TsP w y m) (hlen : l.length + m.length <= 4000000000000) (hbase : base <= w.heap.size)
  (h : ∀ v' w', OwnT w' base v' (l ++ m) -> Below base w w' -> w.grownBy w' v.ownBlock -> wpList Tryz.prog ops Q rest (a.put o.dst v') w') : wpList Tryz.prog ops Q (o :: rest) a w := by
 obtain ⟨i0, hi0, hz0, hz1, hz2⟩ := info_parts Tryz.infoTerm
 rcases hy with ⟨rfl, rfl⟩ | ⟨ad, cap, rfl, hm⟩
 ·refine wpList_append_own_none hgd s x 31 ho base 30 i0 3 Tryz.underlying31 hi0 v l.length (tcs l) hs hown hx ?_
  refine h v w (by rw [List.append_nil]; exact hown) (Below.refl _ _) ?_
  exact World.grownBy.refl _ _
 ·refine wpList_append_own _ hgd s x 31 ho base 30 i0 _ 3 32 Tryz.underlying31 hi0 hz0 hz1 hz2 rfl (by omega) v l.length (tcs l) hs hown ad m.length cap (tcs m) hx (tcs_len m) ?_ (fun u hu => tcs_mem hu) (by unfold maxLen; omega) (by omega) hbase ?_
  ·rcases hm with rfl | ⟨b, o', rfl, hm⟩
   ·intro j u hu; simp [tcs] at hu
   ·exact trow_get hm
  ·intro v' w' h1 h2 _
   refine h v' w' ?_ (grown_below3 h2 (fun k hk => (World.ownsRow.lt hown k hk).1) hbase) h2
   unfold OwnT
   rw [List.length_append, tcs_app]
   exact h1
theorem TsP.one {w : World} {b : Nat} {t : Tm} (h : CBlk w b #[.int .i64 t.k, .int .i64 t.n, .string t.s] 30) : TsP w (.slice (some ⟨b, 0, none⟩) 1 1) [t] := by
 refine Or.inr ⟨_, 1, rfl, Or.inr ⟨b, 0, rfl, h.lt, fun i u hu => ?_⟩⟩
 obtain ⟨c0, c1, c2⟩ := cthree h
 cases i with
 | zero => simp at hu; subst hu; exact ⟨c0, c1, c2⟩
 | succ i => simp at hu
end Go.Proofs.YtechceagghcipabGreatDoor
namespace Go.Proofs.YtechceagghcipabGreatDoor
open Go.RowKit
attribute [local go_sem ↓] Go.wp_at_zero Go.wp_at_succ
set_option maxRecDepth 100000 in
theorem app_zeros8 {ops : Array Oper} {rest : List Oper} {o : Oper} {a : Act} {Q : Exit -> Act -> World -> Prop} {w : World} (hgd : o.guard = none) (s x : Operand)
  (ho : o.op = .call { callee := .builtin .append, args := #[s, x], argTypes := #[31, 3] }) (hs : a.eval s = .slice none 0 0) (n : Nat) (hx : a.eval x = .int .i64 (n : Int)) (h0 : 0 < n) (hn : n <= 1000000000000)
  (h : ∀ cap w', OwnT w' w.heap.size (.slice (some ⟨w.heap.size, 0, none⟩) 0 cap) [] -> n <= cap -> Below w.heap.size w w' -> wpList Tryz.prog ops Q rest (a.put o.dst (.slice (some ⟨w.heap.size, 0, none⟩) n cap)) w') : wpList Tryz.prog ops Q (o :: rest) a w := by
 obtain ⟨i, hi, hz0, hz1, hz2⟩ := info7 Tryz.infoTerm8
 have hrun := Lib.run_append_nil_zeros (P := Tryz.prog) w 31 3 o.type 30 i _ .i64 .i64 Tryz.underlying31 Tryz.underlying3 hi hz0 n h0 (by omega) (by omega) (by rw [hz2]; omega)
 refine wpList_plain hgd fun K hK => ?_
 simp [Oper.wp, execOp, ho, resolve, invoke, builtin, hs, hx, hrun, Result.andThen]
 refine hK _ _ (h _ _ ?_ (grownCap_ge _ _ _ _) ?_)
 ·refine ⟨rfl, Or.inr ⟨w.heap.size, grownCap w n 0 30, _, rfl, Nat.le_refl _, heap_alloc_new _ _, Nat.zero_le _, grownCap_le_maxLen _ _ _ _ (by unfold maxLen; omega), ?_, by simp [tcs]⟩⟩
  have hc : n <= grownCap w n 0 30 := grownCap_ge _ _ _ _
  rw [Array.size_append, size_zeroCells, size_zeroCells]
  have e3 : (Value.agg #[.int .i64 0, .int .i64 0, .string ⟨#[]⟩]).cells.size = 3 := rfl
  rw [e3, <- Nat.add_mul]
  congr 1
  omega
 ·exact (show Below w.heap.size w w.drew from ⟨rfl, rfl, rfl, Nat.le_refl _, fun _ _ => rfl⟩).trans (show Below w.heap.size w.drew _ from below1 w.drew _)
set_option maxRecDepth 20000 in
theorem grow8_any (n : Nat) (h0 : 0 < n) (hn : n <= 1000000000000) (Y : World) : Calls Tryz.prog 125 #[.slice none 0 0, .int .i64 (n : Int)] Y fun e Y' => ∃ g cap, e = .returned (.slice (some ⟨g, 0, none⟩) 0 cap) /\ OwnT Y' Y.heap.size (.slice (some ⟨g, 0, none⟩) 0 cap) [] /\ Below Y.heap.size Y Y' := by
 have n0 : ¬ (n : Int) < 0 := by omega
 have n1 : (0 : Int) < (n : Int) := by omega
 have n2 : (n : Int) - (0 - 0) = (n : Int) := by omega
 have n3 : (n : Int) > 0 := n1
 go_enter Tryz.func125, Tryz.ntmps125
 go_wp2_with (at_builtin; refine app_zeros8 rfl _ _ rfl rfl n rfl h0 hn ?_; intro cap w' ho hc hb; have HO := hm7 ho; have HB := hm7 hb; clear ho hb)
 go_ret
 exact ⟨_, _, rfl, HO.out, HB.out⟩
end Go.Proofs.YtechceagghcipabGreatDoor
namespace Go.Proofs.YtechceagghcipabGreatDoor
open Go.RowKit
attribute [local go_sem ↓] Go.wp_at_zero Go.wp_at_succ
theorem TsP.shape {w : World} {v : Value} {l : List Tm} (h : TsP w v l) : ∃ ad cap, v = .slice ad l.length cap := by
 rcases h with ⟨rfl, rfl⟩ | ⟨ad, cap, rfl, -⟩
 ·exact ⟨none, 0, rfl⟩
 ·exact ⟨_, _, rfl⟩
set_option maxRecDepth 20000 in
set_option maxHeartbeats 2000000 in
theorem concat8_any (b : Nat) (x y : Value) (l m : List Tm) (Y : World) (hb : Bk Y b #[x, y] 31) (hx : TsP Y x l) (hy : TsP Y y m) (h0 : 0 < l.length) (hl : l.length <= 10000) (hm : m.length <= 100000000000) :
  Calls Tryz.prog 97 #[.slice (some ⟨b, 0, none⟩) 2 2] Y fun e Y' => ∃ v, e = .returned v /\ OwnT Y' Y.heap.size v (l ++ m) /\ Below Y.heap.size Y Y' := by
 have HX := hm7 hx
 have HY := hm7 hy
 have HK := hm7 hb
 obtain ⟨ax, cx, rfl⟩ := hx.shape
 obtain ⟨ay, cy, rfl⟩ := hy.shape
 have c0 := hb.cell (i := 0) rfl
 have c1 := hb.cell (i := 1) rfl
 have HG : Hid (∀ X : World, Calls Tryz.prog 125 #[.slice none 0 0, .int .i64 ((l.length : Int) + (m.length : Int))] X fun e Y' => ∃ g cap, e = .returned (.slice (some ⟨g, 0, none⟩) 0 cap) /\ OwnT Y' X.heap.size (.slice (some ⟨g, 0, none⟩) 0 cap) [] /\ Below X.heap.size X Y') := fun X => by
  have := grow8_any (l.length + m.length) (by omega) (by omega) X
  rw [show (((l.length + m.length : Nat)) : Int) = (l.length : Int) + (m.length : Int) by omega] at this
  exact this
 have HL := hm7 (show l.length + m.length <= 4000000000000 by omega)
 have HL1 := hm7 (show ([] : List Tm).length + l.length <= 4000000000000 by simp only [List.length_nil]; omega)
 have HL2 := hm7 (show ([] ++ l).length + m.length <= 4000000000000 by simp only [List.nil_append]; omega)
 have p0 : ¬ (l.length : Int) < 0 := by omega
 have p1 : ¬ (l.length : Int) + (m.length : Int) < 0 := by omega
 have p2 : (l.length : Int) <= 10000 := by omega
 have p3 : (m.length : Int) <= 100000000000 := by omega
 clear hx hy hb h0 hl hm
 go_enter Tryz.func97, Tryz.ntmps97
 go_wp2
 refine wp_loop_rounds 3 ?_
 rw [rounds_succ]; go_wp2
 rw [rounds_succ]; go_wp2
 rw [rounds_succ]; go_wp2_with (go_at_call 125; refine (HG.out _).mono ?_; clear HG; rintro e w1 ⟨g, cap, rfl, ho, hb⟩; have HO := hm7 ho; have c0 := (HK.out.below hb).cell (i := 0) rfl; have c1 := (HK.out.below hb).cell (i := 1) rfl; have HB := hm7 hb; clear ho hb)
 refine wp_loop_rounds 3 ?_
 rw [rounds_succ]; go_wp2_with (at_builtin; refine app_terms rfl _ _ rfl Y.heap.size _ [] (by rfl) HO.out _ l (by rfl) (HX.out.later HB.out) HL1.out HB.out.size ?_; intro v2 w2 ho hb hg; have HO2 := hm7 ho; have c0 := (HK.out.below (HB.out.trans hb)).cell (i := 0) rfl; have c1 := (HK.out.below (HB.out.trans hb)).cell (i := 1) rfl; have HB2 := hm7 (HB.out.trans hb); clear ho hb hg)
 rw [rounds_succ]; go_wp2_with (at_builtin; refine app_terms rfl _ _ rfl Y.heap.size _ _ (by rfl) HO2.out _ m (by rfl) (HY.out.later HB2.out) HL2.out HB2.out.size ?_; intro v3 w3 ho hb hg; have HO3 := hm7 ho; have HB3 := hm7 (HB2.out.trans hb); clear ho hb hg)
 rw [rounds_succ]; go_wp2
 go_ret
 exact ⟨_, rfl, by have := HO3.out; rw [List.nil_append] at this; exact this, HB3.out⟩
end Go.Proofs.YtechceagghcipabGreatDoor
namespace Go.Proofs.YtechceagghcipabGreatDoor
open Go.RowKit
attribute [local go_sem ↓] Go.wp_at_zero Go.wp_at_succ
theorem three8 (w : World) (c0 c1 c2 : Array Value) (t0 t1 t2 : TypeId) : Bk (((w.alloc (.cells c0 t0)).alloc (.cells c1 t1)).alloc (.cells c2 t2)) (w.heap.size + 2) c2 t2 /\ CBlk (((w.alloc (.cells c0 t0)).alloc (.cells c1 t1)).alloc (.cells c2 t2)) (w.heap.size + 1) c1 t1 /\ Below w.heap.size w (((w.alloc (.cells c0 t0)).alloc (.cells c1 t1)).alloc (.cells c2 t2)) := by
 refine ⟨?_, ?_, below_step (below_step (below1 _ _) (below1 _ _)) (below1 _ _)⟩
 ·have := Bk.new ((w.alloc (.cells c0 t0)).alloc (.cells c1 t1)) c2 t2
  rw [show ((w.alloc (.cells c0 t0)).alloc (.cells c1 t1)).heap.size = w.heap.size + 2 by simp] at this
  exact this
 ·have := (CBlk.new (w.alloc (.cells c0 t0)) c1 t1).later (below1 _ (.cells c2 t2))
  rw [show (w.alloc (.cells c0 t0)).heap.size = w.heap.size + 1 by simp] at this
  exact this
set_option maxRecDepth 20000 in
set_option maxHeartbeats 2000000 in
theorem terms8_any (a : At) (x : Value) (Y : World) (hx : TsP Y x a.args) (hm : a.args.length <= 100000000000) :
  Calls Tryz.prog 63 #[a.v x] Y fun e Y' => ∃ v, e = .returned v /\ OwnT Y' Y.heap.size v a.pl /\ Below Y.heap.size Y Y' := by
 have HC : Hid (∀ (b c : Nat) (X : World), Below Y.heap.size Y X -> Bk X b #[.slice (some ⟨c, 0, none⟩) 1 1, x] 31 -> CBlk X c #[.int .i64 a.by_.k, .int .i64 a.by_.n, .string a.by_.s] 30 -> Calls Tryz.prog 97 #[.slice (some ⟨b, 0, none⟩) 2 2] X fun e Y' => ∃ v, e = .returned v /\ OwnT Y' X.heap.size v a.pl /\ Below X.heap.size X Y') :=
  fun b c X hX h1 h2 => concat8_any b _ _ [a.by_] a.args X h1 (TsP.one h2) (hx.later hX) (by simp) (by simp) hm
 obtain ⟨ax, cx, rfl⟩ := hx.shape
 clear hx hm
 obtain ⟨⟨k, n, s⟩, nm, l⟩ := a
 go_enter Tryz.func63, Tryz.ntmps63
 go_wp2_with (go_at_call 97; refine (HC.out _ _ _ (by exact (three8 _ _ _ _ _ _ _).2.2) (by exact (three8 _ _ _ _ _ _ _).1) (by exact (three8 _ _ _ _ _ _ _).2.1)).mono ?_; clear HC; rintro e w1 ⟨v, rfl, ho, hb⟩; have HO := hm7 (ho.mono (b' := Y.heap.size) (by simp; omega)); have HB := hm7 (below_step (three8 Y _ _ _ _ _ _).2.2 hb); clear ho hb)
 go_ret
 exact ⟨_, rfl, HO.out, HB.out⟩
theorem two8 (w : World) (c0 c1 : Array Value) (t0 t1 : TypeId) : Bk ((w.alloc (.cells c0 t0)).alloc (.cells c1 t1)) (w.heap.size + 1) c1 t1 /\ Bk ((w.alloc (.cells c0 t0)).alloc (.cells c1 t1)) w.heap.size c0 t0 /\ Below w.heap.size w ((w.alloc (.cells c0 t0)).alloc (.cells c1 t1)) := by
 refine ⟨?_, (Bk.new _ _ _).below (below1 _ _), below_step (below1 _ _) (below1 _ _)⟩
 have := Bk.new (w.alloc (.cells c0 t0)) c1 t1
 rw [show (w.alloc (.cells c0 t0)).heap.size = w.heap.size + 1 by simp] at this
 exact this
set_option maxRecDepth 20000 in
set_option maxHeartbeats 2000000 in
theorem predOf8_any (a : At) (x : Value) (Y : World) (hx : ∃ ad cap, x = .slice ad a.args.length cap) :
  Calls Tryz.prog 35 #[a.v x] Y fun e Y' => e = .returned (.agg #[.string a.name, .int .i64 (a.args.length : Int)]) /\ Below Y.heap.size Y Y' := by
 obtain ⟨ax, cx, rfl⟩ := hx
 obtain ⟨⟨k, n, s⟩, nm, l⟩ := a
 have HT : Hid (Bk _ _ _ _ /\ Bk _ _ _ _ /\ Below _ _ _) := two8 Y #[.int .i64 k, .int .i64 n, .string s, .string nm, .slice ax l.length cx] #[.string ⟨#[]⟩, .int .i64 0] 33 72
 have r0 := HT.out.1.cell (i := 0) rfl
 have r1 := HT.out.1.cell (i := 1) rfl
 have f0 := HT.out.1.froz 0
 have f1 := HT.out.1.froz 1
 have l0 := HT.out.1.lt
 have q3 := HT.out.2.1.cell (i := 3) rfl
 have q4 := HT.out.2.1.cell (i := 4) rfl
 have nw : Y.heap.size <= Y.heap.size + 1 := by omega
 go_enter Tryz.func35, Tryz.ntmps35
 go_wp2
 exact bodyPost_ret (v := .agg #[.string nm, .int .i64 (l.length : Int)]) (by simp [results, Tryz.results35, go_sem]) rfl ⟨rfl, (two8 _ _ _ _ _).2.2⟩
set_option maxRecDepth 20000 in
set_option maxHeartbeats 2000000 in
theorem thing8_any (g : Nat) (tv : Value) (mn : Nat) (rm : Value) (T : List Tm) (i : Nat) (t : Tm) (Y : World) (h : TB8 g tv mn rm T Y) (ht : T[i]? = some t) :
  Calls Tryz.prog 106 #[.pointer (some ⟨g, 0, none⟩), .int .i64 (i : Int)] Y fun e Y' => e = .returned t.v /\ Below Y.heap.size Y Y' := by
 obtain ⟨ta, tc, rfl, htc⟩ := row7_form h.o
 have hi : i < T.length := (List.getElem?_eq_some_iff.1 ht).1
 obtain ⟨G, rfl⟩ : ∃ G, ta = some ⟨G, 0, none⟩ := by
  rcases h.o.2 with ⟨h1, h2⟩ | ⟨G, cap', cur, hv, -⟩
  ·simp only [Value.slice.injEq] at h1
   omega
  ·simp only [Value.slice.injEq] at hv
   exact ⟨G, hv.1⟩
 have hb0 := below1 Y (.cells #[.int .i64 0, .int .i64 0, .string ⟨#[]⟩] 30)
 have h' := h.below hb0
 obtain ⟨e0, e1, e2⟩ := ownT_cells h'.o i t ht
 have c0 := h'.b.cell (i := 0) rfl
 have gl := h'.b.lt
 have HN := Bk.new Y #[.int .i64 0, .int .i64 0, .string ⟨#[]⟩] 30
 have r0 := HN.cell (i := 0) rfl
 have r1 := HN.cell (i := 1) rfl
 have r2 := HN.cell (i := 2) rfl
 have f0 := HN.froz 0
 have f1 := HN.froz 1
 have f2 := HN.froz 2
 have l0 := HN.lt
 have i1 : (i : Int) < (T.length : Int) := by omega
 have i0 : ¬ (i : Int) < 0 := by omega
 have nw := Nat.le_refl Y.heap.size
 have HB := hm7 hb0
 clear h h' hb0 HN ht
 obtain ⟨k, n, s⟩ := t
 go_enter Tryz.func106, Tryz.ntmps106
 go_wp2
 exact bodyPost_ret (v := Tm.v ⟨k, n, s⟩) (by simp [results, Tryz.results106, go_sem]) rfl ⟨rfl, below1 _ _⟩
end Go.Proofs.YtechceagghcipabGreatDoor
