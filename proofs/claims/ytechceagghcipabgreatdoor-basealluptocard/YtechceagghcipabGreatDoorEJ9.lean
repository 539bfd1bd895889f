import Derived.Test.YtechceagghcipabGreatDoorRA2
import Derived.Test.YtechceagghcipabGreatDoorEJ8
import Derived.Deep.CutBlock
import Derived.Deep.CutRange
namespace Go.Proofs.YtechceagghcipabGreatDoor
open Go.RowKit
attribute [local go_sem ↓] Go.wp_at_zero Go.wp_at_succ
set_option maxRecDepth 20000 in
theorem rbadd8_no (a : At) (x : Value) (r : Nat) (Y : World) (hx : TsP Y x a.args) (hl : a.args.length <= 1000000000) (hf : a.fact = false) :
  Calls Tryz.prog 13 #[.pointer (some ⟨r, 0, none⟩), a.v x] Y fun e Y' => e = .returned (.tuple #[.bool false, .int .i64 81]) /\ Below Y.heap.size Y Y' := by
 obtain ⟨xa, xc, rfl⟩ := hx.shape
 have hb0 := below1 Y (.cells #[.int .i64 a.by_.k, .int .i64 a.by_.n, .string a.by_.s, .string a.name, .slice xa a.args.length xc] 33)
 have HF : Hid (∀ X : World, Below Y.heap.size Y X -> Calls Tryz.prog 37 #[a.v (.slice xa a.args.length xc)] X fun e Y' => e = .returned (.bool false) /\ Below X.heap.size X Y') := fun X hX => by
  have := rfact_any a (.slice xa a.args.length xc) X (tsO_of (hx.later hX) hl)
  rw [hf] at this
  exact this
 have HB0 := hm7 hb0
 obtain ⟨⟨k, n, s⟩, nm, l⟩ := a
 clear hx hl hf hb0
 go_enter Tryz.func13, Tryz.ntmps13
 go_wp2_with (go_at_call 37; refine (HF.out _ HB0.out).mono ?_; rintro e W ⟨rfl, hb⟩; have HB := hm7 (HB0.out.trans (hb.mono HB0.out.size)); clear hb)
 go_ret2
 exact ⟨rfl, HB.out⟩
def RAd8 (w0 : World) (A : Nat -> Prop) (r : Nat) (R : List It8) (f : At) (Y : World) (e : Ending) (Y' : World) : Prop :=
 ∃ (c : Bool) (R' : List It8), (c = true ↔ f ∉ (Ei R).map Prod.fst) /\ e = .returned (.tuple #[.bool c, .int .i64 0]) /\ so9 R' /\ (Ei R').Perm (aE8 (Ei R) f) /\ RW8 w0 A r R' Y Y'
set_option maxRecDepth 20000 in
set_option maxHeartbeats 8000000 in
theorem rbadd8_any (w0 : World) (A : Nat -> Prop) (r : Nat) (lv : Value) (R : List It8) (f : At) (fx : Value) (Y : World) (h : RB8 w0 A r lv R Y) (hf : TsP Y fx f.args) (hfl : f.args.length <= 1000000000) (hfa : f.fact = true) (hz : Sz8 f) (hk : Kd8 R) (hso : so9 R) (hl : R.length <= 1000000000) :
  Calls Tryz.prog 13 #[.pointer (some ⟨r, 0, none⟩), f.v fx] Y (RAd8 w0 A r R f Y) := by
 obtain ⟨ay, cy, rfl⟩ := hf.shape
 obtain ⟨f0, hf0⟩ : ∃ f0 : At, f0 = f := ⟨_, rfl⟩
 have H := hm7 h
 have HA := hm7 h.l.is
 have HK := hm7 hk
 have HSO := hm7 hso
 have HF0 := hm7 (show TsP Y (.slice ay f.args.length cy) f0.args by rw [hf0]; exact hf)
 have HZ := hm7 (show Sz8 f0 /\ f0.args.length <= 1000000000 /\ f0.fact = true by rw [hf0]; exact ⟨hz, hfl, hfa⟩)
 obtain ⟨la, cap, rfl⟩ := h.l.o.form
 have HTS : Hid (∀ x ∈ R, Ts Y x.1.2 x.1.1.args) := by obtain ⟨_, _, _, _, h⟩ := HA.out; exact h
 rw [show RAd8 w0 A r R f Y = RAd8 w0 A r R f0 Y by rw [hf0]]
 have HE := hm7 hf0
 clear hf hfl hfa hz hk hso h hf0
 obtain ⟨⟨ky, my, sy⟩, ny, ly⟩ := f
 have HF : Hid (TsP Y (.slice ay ly.length cy) f0.args) := HF0.out
 clear HF0
 obtain ⟨Y0, hY0⟩ : ∃ Y0, Y.alloc (.cells #[.int .i64 ky, .int .i64 my, .string sy, .string ny, .slice ay ly.length cy] 33) = Y0 := ⟨_, rfl⟩
 have hb0 : Below Y.heap.size Y Y0 := by rw [<- hY0]; exact below1 _ _
 have HBX : Hid (Bk Y0 Y.heap.size #[.int .i64 ky, .int .i64 my, .string sy, .string ny, .slice ay ly.length cy] 33) := by show Bk _ _ _ _; rw [<- hY0]; exact Bk.new _ _ _
 have HB0 := hm7 hb0
 have HFC : Hid (Calls Tryz.prog 37 #[.agg #[.int .i64 ky, .int .i64 my, .string sy, .string ny, .slice ay ly.length cy]] Y0 fun e Y' => e = .returned (.bool true) /\ Below Y0.heap.size Y0 Y') := by
  have := rfact_any f0 (.slice ay ly.length cy) Y0 (tsO_of (HF.out.later hb0) HZ.out.2.1)
  rw [HZ.out.2.2, HE.out] at this
  exact this
 obtain ⟨⟨x0, x1⟩, x2, x3, x4⟩ := five8 HBX.out
 clear hb0
 go_enter Tryz.func13, Tryz.ntmps13
 go_upto_region 1 with fail
 first | rw [hY0] | skip
 go_upto_region 3 with (go_at_call 37; refine HFC.out.mono ?_; rintro e W1 ⟨rfl, hb⟩; have HB1 := hm7 hb; clear hb HFC)
 clear x0 x1 x2 x3 x4
 go_upto_block 0 with fail
 go_cut [6] from 11 to 32 (fun s6 wx => ∃ j : Nat, s6 = .int .i64 (j : Int) /\ (j <= R.length /\ (∀ i x, i < j -> R[i]? = some x -> x.1.1.cmp f0 < 0) /\ ∀ x, R[j]? = some x -> ¬ x.1.1.cmp f0 < 0) /\ Below Y0.heap.size Y0 wx)
 case first =>
  go_wp2
  go_loopg [6] R.length (fun g i wr => ∃ j : Nat, j + g = R.length /\ i = .int .i64 j /\ (∀ i x, i < j -> R[i]? = some x -> x.1.1.cmp f0 < 0) /\ Below Y0.heap.size Y0 wr)
  case atStart => exact ⟨0, by omega, rfl, fun k y hk => by omega, HB1.out⟩
  case round =>
   obtain ⟨j, hj, rfl, hno, hw⟩ := hrel
   have HNO := hm7 hno
   have HW := hm7 hw
   have HB := hm7 (HB0.out.trans (hw.mono HB0.out.size))
   have HCR : Hid (∀ (X : World), Below wr.heap.size wr X -> X.cell? ⟨r, 0, none⟩ = some (.slice la R.length cap)) := fun X hX => ((H.out.below HB.out).below hX).cell
   have HX2 : Hid (∀ (X : World), Below wr.heap.size wr X -> X.cell? ⟨Y.heap.size, 0, none⟩ = some (.int .i64 ky) /\ X.cell? ⟨Y.heap.size, 1, none⟩ = some (.int .i64 my) /\ X.cell? ⟨Y.heap.size, 2, none⟩ = some (.string sy) /\ X.cell? ⟨Y.heap.size, 3, none⟩ = some (.string ny) /\ X.cell? ⟨Y.heap.size, 4, none⟩ = some (.slice ay ly.length cy)) := fun X hX => by
    obtain ⟨⟨q0, q1⟩, q2, q3, q4⟩ := five8 ((HBX.out.below HW.out).below hX)
    exact ⟨q0, q1, q2, q3, q4⟩
   have hb := HB.out
   cases gk with
   | succ g =>
    have hlt : (j : Int) < (R.length : Int) := by omega
    have j0 : (0 : Int) <= (j : Int) := by omega
    obtain ⟨x, hx⟩ : ∃ x, R[j]? = some x := ⟨_, List.getElem?_eq_getElem (by omega)⟩
    have t1 := HTS.out x (List.mem_of_getElem? hx)
    have s1 := HK.out.sz hx
    have HC0 := fun (X : World) (hX : Below wr.heap.size wr X) => rcmpA_any x.1.1 f0 x.1.2 (.slice ay ly.length cy) X ((t1.later hb).later hX) (((HF.out.later hb).later hX).ts (by have := HZ.out.2.1; omega)) s1.t HZ.out.1.t s1.n HZ.out.1.n
    obtain ⟨lb, lo, ax, cx, rfl, hax, c1⟩ := HA.out.get hx
    have HNX := hm7 hx
    obtain ⟨c, hc⟩ : ∃ c, x.1.1.cmp f0 = c := ⟨_, rfl⟩
    have HCC := hm7 hc
    obtain ⟨⟨⟨⟨kx, mx, sx⟩, nx, lx⟩, vx⟩, px⟩ := x
    simp only at hax c1 HC0 hc
    rw [hc] at HC0
    subst hax
    have HX1 := hm7 (fun (X : World) (hX : Below wr.heap.size wr X) => (c1 X (hb.trans (hX.mono hb.size))).1)
    have HCM : Hid (∀ (X : World), Below wr.heap.size wr X -> Calls Tryz.prog 38 #[.agg #[.int .i64 kx, .int .i64 mx, .string sx, .string nx, .slice ax lx.length cx], .agg #[.int .i64 ky, .int .i64 my, .string sy, .string ny, .slice ay ly.length cy]] X fun e w' => e = .returned (.int .i64 c) /\ Below X.heap.size X w') := fun X hX => by
     have := HC0 X hX
     rw [HE.out] at this
     exact this
    obtain ⟨d, hd⟩ : ∃ d, decide (c < 0) = d := ⟨_, rfl⟩
    have HD := hm7 hd
    clear hx t1 s1 c1 HC0 hc hb hno hw
    go_upto_region 4 with fail
    refine wp_region_held_drew (S := fun w' => Below wr.heap.size wr w') (by kernel_rfl) (by exact (Below.refl _ _).drew) (fun hH => ?_)
    revert hH
    generalize wr.drew = V
    intro hH
    refine wTl 0 (.int .i64 (j : Int)) rfl (by kernel_rfl) (fun _ _ _ h => h) rfl (fun w' h => by clear h; go_simp) hH ?_
    simp only [wA, wB, wC, wD]
    refine wTl 1 (.pointer (some ⟨r, 0, none⟩)) rfl (by kernel_rfl) (fun _ _ _ h => h) rfl (fun w' h => by clear h; go_simp) hH ?_
    simp only [wA, wB, wC, wD]
    refine wTl 2 (.pointer (some ⟨r, 0, none⟩)) rfl (by kernel_rfl) (fun _ _ _ h => h) rfl (fun w' h => by clear h; go_simp) hH ?_
    simp only [wA, wB, wC, wD]
    refine wTl 3 (.pointer (some ⟨r, 0, none⟩)) rfl (by kernel_rfl) (fun _ _ _ h => h) rfl (fun w' h => by clear h; go_simp) hH ?_
    simp only [wA, wB, wC, wD]
    refine wTl 4 (.slice (some ⟨lb, lo, none⟩) R.length cap) rfl (by kernel_rfl) (fun _ _ _ h => h) rfl (fun w' h => by have q0 := HCR.out w' h; clear h; go_simp) hH ?_
    simp only [wA, wB, wC, wD]
    refine wTl 5 (.int .i64 (R.length : Int)) rfl (by kernel_rfl) (fun _ _ _ h => h) rfl (fun w' h => by clear h; go_simp) hH ?_
    simp only [wA, wB, wC, wD]
    refine wTl 6 (.bool true) rfl (by kernel_rfl) (fun _ _ _ h => h) rfl (fun w' h => by clear h; go_simp) hH ?_
    simp only [wA, wB, wC, wD]
    refine wTl 7 (.bool true) rfl (by kernel_rfl) (fun _ _ _ h => h) rfl (fun w' h => by clear h; go_simp) hH ?_
    simp only [wA, wB, wC, wD]
    refine wTl 8 (.pointer (some ⟨r, 0, none⟩)) rfl (by kernel_rfl) (fun _ _ _ h => h) rfl (fun w' h => by clear h; go_simp) hH ?_
    simp only [wA, wB, wC, wD]
    refine wTl 9 (.pointer (some ⟨r, 0, none⟩)) rfl (by kernel_rfl) (fun _ _ _ h => h) rfl (fun w' h => by clear h; go_simp) hH ?_
    simp only [wA, wB, wC, wD]
    refine wTl 10 (.pointer (some ⟨r, 0, none⟩)) rfl (by kernel_rfl) (fun _ _ _ h => h) rfl (fun w' h => by clear h; go_simp) hH ?_
    simp only [wA, wB, wC, wD]
    refine wTl 11 (.slice (some ⟨lb, lo, none⟩) R.length cap) rfl (by kernel_rfl) (fun _ _ _ h => h) rfl (fun w' h => by have q0 := HCR.out w' h; clear h; go_simp) hH ?_
    simp only [wA, wB, wC, wD]
    refine wTl 12 (.int .i64 (j : Int)) rfl (by kernel_rfl) (fun _ _ _ h => h) rfl (fun w' h => by clear h; go_simp) hH ?_
    simp only [wA, wB, wC, wD]
    refine wTl 13 (.pointer (some ⟨lb, lo + j * 6, none⟩)) rfl (by kernel_rfl) (fun _ _ _ h => h) rfl (fun w' h => by clear h; go_simp) hH ?_
    simp only [wA, wB, wC, wD]
    refine wTl 14 (.pointer (some ⟨lb, lo + j * 6, none⟩)) rfl (by kernel_rfl) (fun _ _ _ h => h) rfl (fun w' h => by clear h; go_simp) hH ?_
    simp only [wA, wB, wC, wD]
    refine wTl 15 (.agg #[.int .i64 kx, .int .i64 mx, .string sx, .string nx, .slice ax lx.length cx]) rfl (by kernel_rfl) (fun _ _ _ h => h) rfl (fun w' h => by obtain ⟨p0, p1, p2, p3, p4⟩ := HX1.out w' h; clear h; go_simp) hH ?_
    simp only [wA, wB, wC, wD]
    refine wTl 16 (.agg #[.int .i64 ky, .int .i64 my, .string sy, .string ny, .slice ay ly.length cy]) rfl (by kernel_rfl) (fun _ _ _ h => h) rfl (fun w' h => by obtain ⟨p0, p1, p2, p3, p4⟩ := HX2.out w' h; clear h; go_simp) hH ?_
    simp only [wA, wB, wC, wD]
    refine wRd 17 (by kernel_rfl) rfl (fun K hK => ?_)
    go_simp
    refine (HCM.out _ hH).mono ?_
    rintro e V1 ⟨rfl, hb⟩
    refine hK.out _ _ (hH.trans (hb.mono hH.size)) (fun hH => ?_)
    clear hK hb
    try simp only [wA, wB, wC, wD]
    refine wTl 18 (.bool d) rfl (by kernel_rfl) (fun _ _ _ h => h) rfl (fun w' h => by clear h; go_simp) hH ?_
    simp only [wA, wB, wC, wD]
    refine wTl 19 (.bool d) rfl (by kernel_rfl) (fun _ _ _ h => h) rfl (fun w' h => by clear h; go_simp) hH ?_
    simp only [wA, wB, wC, wD]
    refine wpAnyH_done (by kernel_rfl) ?_ _
    have HV := hm7 hH
    clear hH
    have hd := HD.out
    cases d with
    | true =>
     have hcz := of_decide_eq_true hd
     go_wp2
     go_roundg g
     case measure => omega
     case rel =>
      refine ⟨j + 1, by omega, by go_num, fun k y hk hy => ?_, HW.out.trans (HV.out.mono HW.out.size)⟩
      rcases Nat.lt_or_ge k j with h1 | h1
      ·exact HNO.out k y h1 hy
      ·obtain rfl : k = j := by omega
       have e := HNX.out
       rw [hy] at e
       cases e
       have := HCC.out
       simp only at this ⊢
       omega
    | false =>
     have hcz := of_decide_eq_false hd
     go_wp2
     go_meet
     case rel =>
      refine ⟨j, rfl, ⟨by omega, HNO.out, fun y hy => ?_⟩, HW.out.trans (HV.out.mono HW.out.size)⟩
      have e := HNX.out
      rw [hy] at e
      cases e
      have := HCC.out
      simp only at this ⊢
      omega
   | zero =>
    have hlt : ¬ (j : Int) < (R.length : Int) := by omega
    clear hb hno hw
    go_upto_region 4 with fail
    refine wp_region_held_drew (S := fun w' => Below wr.heap.size wr w') (by kernel_rfl) (by exact (Below.refl _ _).drew) (fun hH => ?_)
    revert hH
    generalize wr.drew = V
    intro hH
    refine wTl 0 (.int .i64 (j : Int)) rfl (by kernel_rfl) (fun _ _ _ h => h) rfl (fun w' h => by clear h; go_simp) hH ?_
    simp only [wA, wB, wC, wD]
    refine wTl 1 (.pointer (some ⟨r, 0, none⟩)) rfl (by kernel_rfl) (fun _ _ _ h => h) rfl (fun w' h => by clear h; go_simp) hH ?_
    simp only [wA, wB, wC, wD]
    refine wTl 2 (.pointer (some ⟨r, 0, none⟩)) rfl (by kernel_rfl) (fun _ _ _ h => h) rfl (fun w' h => by clear h; go_simp) hH ?_
    simp only [wA, wB, wC, wD]
    refine wTl 3 (.pointer (some ⟨r, 0, none⟩)) rfl (by kernel_rfl) (fun _ _ _ h => h) rfl (fun w' h => by clear h; go_simp) hH ?_
    simp only [wA, wB, wC, wD]
    refine wTl 4 (.slice la R.length cap) rfl (by kernel_rfl) (fun _ _ _ h => h) rfl (fun w' h => by have q0 := HCR.out w' h; clear h; go_simp) hH ?_
    simp only [wA, wB, wC, wD]
    refine wTl 5 (.int .i64 (R.length : Int)) rfl (by kernel_rfl) (fun _ _ _ h => h) rfl (fun w' h => by clear h; go_simp) hH ?_
    simp only [wA, wB, wC, wD]
    refine wTl 6 (.bool false) rfl (by kernel_rfl) (fun _ _ _ h => h) rfl (fun w' h => by clear h; go_simp) hH ?_
    simp only [wA, wB, wC, wD]
    refine wTl 7 (.bool false) rfl (by kernel_rfl) (fun _ _ _ h => h) rfl (fun w' h => by clear h; go_simp) hH ?_
    simp only [wA, wB, wC, wD]
    refine wTk 8 (undef) rfl (by kernel_rfl) (fun _ _ _ h => h) (Or.inr ⟨by rfl, rfl⟩) hH ?_
    simp only [wA, wB, wC, wD]
    refine wTk 9 (undef) rfl (by kernel_rfl) (fun _ _ _ h => h) (Or.inr ⟨by rfl, rfl⟩) hH ?_
    simp only [wA, wB, wC, wD]
    refine wTk 10 (undef) rfl (by kernel_rfl) (fun _ _ _ h => h) (Or.inr ⟨by rfl, rfl⟩) hH ?_
    simp only [wA, wB, wC, wD]
    refine wTk 11 (undef) rfl (by kernel_rfl) (fun _ _ _ h => h) (Or.inr ⟨by rfl, rfl⟩) hH ?_
    simp only [wA, wB, wC, wD]
    refine wTk 12 (undef) rfl (by kernel_rfl) (fun _ _ _ h => h) (Or.inr ⟨by rfl, rfl⟩) hH ?_
    simp only [wA, wB, wC, wD]
    refine wTk 13 (undef) rfl (by kernel_rfl) (fun _ _ _ h => h) (Or.inr ⟨by rfl, rfl⟩) hH ?_
    simp only [wA, wB, wC, wD]
    refine wTk 14 (undef) rfl (by kernel_rfl) (fun _ _ _ h => h) (Or.inr ⟨by rfl, rfl⟩) hH ?_
    simp only [wA, wB, wC, wD]
    refine wTk 15 (undef) rfl (by kernel_rfl) (fun _ _ _ h => h) (Or.inr ⟨by rfl, rfl⟩) hH ?_
    simp only [wA, wB, wC, wD]
    refine wTk 16 (undef) rfl (by kernel_rfl) (fun _ _ _ h => h) (Or.inr ⟨by rfl, rfl⟩) hH ?_
    simp only [wA, wB, wC, wD]
    refine wTk 17 (undef) rfl (by kernel_rfl) (fun _ _ _ h => h) (Or.inr ⟨by rfl, rfl⟩) hH ?_
    simp only [wA, wB, wC, wD]
    refine wTk 18 (undef) rfl (by kernel_rfl) (fun _ _ _ h => h) (Or.inr ⟨by rfl, rfl⟩) hH ?_
    simp only [wA, wB, wC, wD]
    refine wTl 19 (.bool false) rfl (by kernel_rfl) (fun _ _ _ h => h) rfl (fun w' h => by clear h; go_simp) hH ?_
    simp only [wA, wB, wC, wD]
    refine wpAnyH_done (by kernel_rfl) ?_ _
    have HV := hm7 hH
    clear hH
    go_wp2
    go_meet
    case rel => exact ⟨j, rfl, ⟨by omega, HNO.out, fun y hy => by have := (List.getElem?_eq_some_iff.1 hy).1; omega⟩, HW.out.trans (HV.out.mono HW.out.size)⟩
 case rest =>
  obtain ⟨j, rfl, ⟨hjn, hlo, hhi⟩, hw⟩ := hcut
  obtain ⟨W5, rfl⟩ : ∃ W5, W5 = wc := ⟨_, rfl⟩
  have HW5 := hm7 hw
  have HNO := hm7 hlo
  have HHI := hm7 hhi
  have HB := hm7 (HB0.out.trans (hw.mono HB0.out.size))
  obtain ⟨d, hd⟩ : ∃ d, decide (∃ x, R[j]? = some x /\ x.1.1 = f0) = d := ⟨_, rfl⟩
  have HDD := hm7 hd
  clear hlo hhi hw hd
  go_upto_region 6 with fail
  go_cut [51] from 33 to 51 (fun s51 wx => s51 = .bool d /\ Below W5.heap.size W5 wx)
  case first =>
   have HCR : Hid (∀ (X : World), Below W5.heap.size W5 X -> X.cell? ⟨r, 0, none⟩ = some (.slice la R.length cap)) := fun X hX => ((H.out.below HB.out).below hX).cell
   have hb := HB.out
   by_cases hlt : (j : Int) < (R.length : Int)
   ·have j0 : (0 : Int) <= (j : Int) := by omega
    obtain ⟨x, hx⟩ : ∃ x, R[j]? = some x := ⟨_, List.getElem?_eq_getElem (by omega)⟩
    have t1 := HTS.out x (List.mem_of_getElem? hx)
    have s1 := HK.out.sz hx
    have HD0 := fun (X : World) (hX : Below W5.heap.size W5 X) => rsame_any x.1.1 f0 x.1.2 (.slice ay ly.length cy) X ((t1.later hb).later hX) (((HF.out.later hb).later hX).ts (by have := HZ.out.2.1; omega)) s1.t HZ.out.1.t s1.n HZ.out.1.n
    have hde : decide (x.1.1 = f0) = d := by
     rw [<- HDD.out]
     refine decide_eq_decide.2 ⟨fun e => ⟨x, hx, e⟩, ?_⟩
     rintro ⟨y, hy, e⟩
     rw [hx] at hy
     cases hy
     exact e
    have HX2 : Hid (∀ (X : World), Below W5.heap.size W5 X -> X.cell? ⟨Y.heap.size, 0, none⟩ = some (.int .i64 ky) /\ X.cell? ⟨Y.heap.size, 1, none⟩ = some (.int .i64 my) /\ X.cell? ⟨Y.heap.size, 2, none⟩ = some (.string sy) /\ X.cell? ⟨Y.heap.size, 3, none⟩ = some (.string ny) /\ X.cell? ⟨Y.heap.size, 4, none⟩ = some (.slice ay ly.length cy)) := fun X hX => by
     obtain ⟨⟨q0, q1⟩, q2, q3, q4⟩ := five8 ((HBX.out.below HW5.out).below hX)
     exact ⟨q0, q1, q2, q3, q4⟩
    obtain ⟨lb, lo, ax, cx, rfl, hax, c1⟩ := HA.out.get hx
    obtain ⟨⟨⟨⟨kx, mx, sx⟩, nx, lx⟩, vx⟩, px⟩ := x
    simp only at hax c1 HD0 hde
    rw [hde] at HD0
    subst hax
    have HX1 := hm7 (fun (X : World) (hX : Below W5.heap.size W5 X) => (c1 X (hb.trans (hX.mono hb.size))).1)
    have HSM : Hid (∀ (X : World), Below W5.heap.size W5 X -> Calls Tryz.prog 39 #[.agg #[.int .i64 kx, .int .i64 mx, .string sx, .string nx, .slice ax lx.length cx], .agg #[.int .i64 ky, .int .i64 my, .string sy, .string ny, .slice ay ly.length cy]] X fun e w' => e = .returned (.bool d) /\ Below X.heap.size X w') := fun X hX => by
     have := HD0 X hX
     rw [HE.out] at this
     exact this
    clear hx t1 s1 c1 HD0 hde hb
    refine wp_region_held_drew (S := fun w' => Below W5.heap.size W5 w') (by kernel_rfl) (by exact (Below.refl _ _).drew) (fun hH => ?_)
    revert hH
    generalize W5.drew = V
    intro hH
    refine wTl 0 (.int .i64 (j : Int)) rfl (by kernel_rfl) (fun _ _ _ h => h) rfl (fun w' h => by clear h; go_simp) hH ?_
    simp only [wA, wB, wC, wD]
    refine wTl 1 (.pointer (some ⟨r, 0, none⟩)) rfl (by kernel_rfl) (fun _ _ _ h => h) rfl (fun w' h => by clear h; go_simp) hH ?_
    simp only [wA, wB, wC, wD]
    refine wTl 2 (.pointer (some ⟨r, 0, none⟩)) rfl (by kernel_rfl) (fun _ _ _ h => h) rfl (fun w' h => by clear h; go_simp) hH ?_
    simp only [wA, wB, wC, wD]
    refine wTl 3 (.pointer (some ⟨r, 0, none⟩)) rfl (by kernel_rfl) (fun _ _ _ h => h) rfl (fun w' h => by clear h; go_simp) hH ?_
    simp only [wA, wB, wC, wD]
    refine wTl 4 (.slice (some ⟨lb, lo, none⟩) R.length cap) rfl (by kernel_rfl) (fun _ _ _ h => h) rfl (fun w' h => by have q0 := HCR.out w' h; clear h; go_simp) hH ?_
    simp only [wA, wB, wC, wD]
    refine wTl 5 (.int .i64 (R.length : Int)) rfl (by kernel_rfl) (fun _ _ _ h => h) rfl (fun w' h => by clear h; go_simp) hH ?_
    simp only [wA, wB, wC, wD]
    refine wTl 6 (.bool true) rfl (by kernel_rfl) (fun _ _ _ h => h) rfl (fun w' h => by clear h; go_simp) hH ?_
    simp only [wA, wB, wC, wD]
    refine wTl 7 (.bool true) rfl (by kernel_rfl) (fun _ _ _ h => h) rfl (fun w' h => by clear h; go_simp) hH ?_
    simp only [wA, wB, wC, wD]
    refine wTl 8 (.pointer (some ⟨r, 0, none⟩)) rfl (by kernel_rfl) (fun _ _ _ h => h) rfl (fun w' h => by clear h; go_simp) hH ?_
    simp only [wA, wB, wC, wD]
    refine wTl 9 (.pointer (some ⟨r, 0, none⟩)) rfl (by kernel_rfl) (fun _ _ _ h => h) rfl (fun w' h => by clear h; go_simp) hH ?_
    simp only [wA, wB, wC, wD]
    refine wTl 10 (.pointer (some ⟨r, 0, none⟩)) rfl (by kernel_rfl) (fun _ _ _ h => h) rfl (fun w' h => by clear h; go_simp) hH ?_
    simp only [wA, wB, wC, wD]
    refine wTl 11 (.slice (some ⟨lb, lo, none⟩) R.length cap) rfl (by kernel_rfl) (fun _ _ _ h => h) rfl (fun w' h => by have q0 := HCR.out w' h; clear h; go_simp) hH ?_
    simp only [wA, wB, wC, wD]
    refine wTl 12 (.int .i64 (j : Int)) rfl (by kernel_rfl) (fun _ _ _ h => h) rfl (fun w' h => by clear h; go_simp) hH ?_
    simp only [wA, wB, wC, wD]
    refine wTl 13 (.pointer (some ⟨lb, lo + j * 6, none⟩)) rfl (by kernel_rfl) (fun _ _ _ h => h) rfl (fun w' h => by clear h; go_simp) hH ?_
    simp only [wA, wB, wC, wD]
    refine wTl 14 (.pointer (some ⟨lb, lo + j * 6, none⟩)) rfl (by kernel_rfl) (fun _ _ _ h => h) rfl (fun w' h => by clear h; go_simp) hH ?_
    simp only [wA, wB, wC, wD]
    refine wTl 15 (.agg #[.int .i64 kx, .int .i64 mx, .string sx, .string nx, .slice ax lx.length cx]) rfl (by kernel_rfl) (fun _ _ _ h => h) rfl (fun w' h => by obtain ⟨p0, p1, p2, p3, p4⟩ := HX1.out w' h; clear h; go_simp) hH ?_
    simp only [wA, wB, wC, wD]
    refine wTl 16 (.agg #[.int .i64 ky, .int .i64 my, .string sy, .string ny, .slice ay ly.length cy]) rfl (by kernel_rfl) (fun _ _ _ h => h) rfl (fun w' h => by obtain ⟨p0, p1, p2, p3, p4⟩ := HX2.out w' h; clear h; go_simp) hH ?_
    simp only [wA, wB, wC, wD]
    refine wRd 17 (by kernel_rfl) rfl (fun K hK => ?_)
    go_simp
    refine (HSM.out _ hH).mono ?_
    rintro e V1 ⟨rfl, hb⟩
    refine hK.out _ _ (hH.trans (hb.mono hH.size)) (fun hH => ?_)
    clear hK hb
    try simp only [wA, wB, wC, wD]
    refine wTl 18 (.bool d) rfl (by kernel_rfl) (fun _ _ _ h => h) rfl (fun w' h => by clear h; go_simp) hH ?_
    simp only [wA, wB, wC, wD]
    refine wpAnyH_done (by kernel_rfl) ?_ _
    have HV := hm7 hH
    clear hH
    go_wp2
    go_meet
    case rel => exact ⟨rfl, HV.out⟩
   ·obtain rfl : d = false := by
     rw [<- HDD.out]
     refine decide_eq_false ?_
     rintro ⟨y, hy, -⟩
     have := (List.getElem?_eq_some_iff.1 hy).1
     omega
    clear hb
    refine wp_region_held_drew (S := fun w' => Below W5.heap.size W5 w') (by kernel_rfl) (by exact (Below.refl _ _).drew) (fun hH => ?_)
    revert hH
    generalize W5.drew = V
    intro hH
    refine wTl 0 (.int .i64 (j : Int)) rfl (by kernel_rfl) (fun _ _ _ h => h) rfl (fun w' h => by clear h; go_simp) hH ?_
    simp only [wA, wB, wC, wD]
    refine wTl 1 (.pointer (some ⟨r, 0, none⟩)) rfl (by kernel_rfl) (fun _ _ _ h => h) rfl (fun w' h => by clear h; go_simp) hH ?_
    simp only [wA, wB, wC, wD]
    refine wTl 2 (.pointer (some ⟨r, 0, none⟩)) rfl (by kernel_rfl) (fun _ _ _ h => h) rfl (fun w' h => by clear h; go_simp) hH ?_
    simp only [wA, wB, wC, wD]
    refine wTl 3 (.pointer (some ⟨r, 0, none⟩)) rfl (by kernel_rfl) (fun _ _ _ h => h) rfl (fun w' h => by clear h; go_simp) hH ?_
    simp only [wA, wB, wC, wD]
    refine wTl 4 (.slice la R.length cap) rfl (by kernel_rfl) (fun _ _ _ h => h) rfl (fun w' h => by have q0 := HCR.out w' h; clear h; go_simp) hH ?_
    simp only [wA, wB, wC, wD]
    refine wTl 5 (.int .i64 (R.length : Int)) rfl (by kernel_rfl) (fun _ _ _ h => h) rfl (fun w' h => by clear h; go_simp) hH ?_
    simp only [wA, wB, wC, wD]
    refine wTl 6 (.bool false) rfl (by kernel_rfl) (fun _ _ _ h => h) rfl (fun w' h => by clear h; go_simp) hH ?_
    simp only [wA, wB, wC, wD]
    refine wTl 7 (.bool false) rfl (by kernel_rfl) (fun _ _ _ h => h) rfl (fun w' h => by clear h; go_simp) hH ?_
    simp only [wA, wB, wC, wD]
    refine wTk 8 (undef) rfl (by kernel_rfl) (fun _ _ _ h => h) (Or.inr ⟨by rfl, rfl⟩) hH ?_
    simp only [wA, wB, wC, wD]
    refine wTk 9 (undef) rfl (by kernel_rfl) (fun _ _ _ h => h) (Or.inr ⟨by rfl, rfl⟩) hH ?_
    simp only [wA, wB, wC, wD]
    refine wTk 10 (undef) rfl (by kernel_rfl) (fun _ _ _ h => h) (Or.inr ⟨by rfl, rfl⟩) hH ?_
    simp only [wA, wB, wC, wD]
    refine wTk 11 (undef) rfl (by kernel_rfl) (fun _ _ _ h => h) (Or.inr ⟨by rfl, rfl⟩) hH ?_
    simp only [wA, wB, wC, wD]
    refine wTk 12 (undef) rfl (by kernel_rfl) (fun _ _ _ h => h) (Or.inr ⟨by rfl, rfl⟩) hH ?_
    simp only [wA, wB, wC, wD]
    refine wTk 13 (undef) rfl (by kernel_rfl) (fun _ _ _ h => h) (Or.inr ⟨by rfl, rfl⟩) hH ?_
    simp only [wA, wB, wC, wD]
    refine wTk 14 (undef) rfl (by kernel_rfl) (fun _ _ _ h => h) (Or.inr ⟨by rfl, rfl⟩) hH ?_
    simp only [wA, wB, wC, wD]
    refine wTk 15 (undef) rfl (by kernel_rfl) (fun _ _ _ h => h) (Or.inr ⟨by rfl, rfl⟩) hH ?_
    simp only [wA, wB, wC, wD]
    refine wTk 16 (undef) rfl (by kernel_rfl) (fun _ _ _ h => h) (Or.inr ⟨by rfl, rfl⟩) hH ?_
    simp only [wA, wB, wC, wD]
    refine wTk 17 (undef) rfl (by kernel_rfl) (fun _ _ _ h => h) (Or.inr ⟨by rfl, rfl⟩) hH ?_
    simp only [wA, wB, wC, wD]
    refine wTl 18 (.bool false) rfl (by kernel_rfl) (fun _ _ _ h => h) rfl (fun w' h => by clear h; go_simp) hH ?_
    simp only [wA, wB, wC, wD]
    refine wpAnyH_done (by kernel_rfl) ?_ _
    have HV := hm7 hH
    clear hH
    go_wp2
    go_meet
    case rel => exact ⟨rfl, HV.out⟩
  case rest =>
   obtain ⟨rfl, hw⟩ := hcut
   obtain ⟨U, rfl⟩ : ∃ U, U = wc := ⟨_, rfl⟩
   have HU0 := hm7 (HW5.out.trans (hw.mono HW5.out.size))
   have HU := hm7 (HB0.out.trans (HU0.out.mono HB0.out.size))
   clear hw
   cases d with
   | true =>
    have HIN : Hid (f0 ∈ (Ei R).map Prod.fst) := by
     obtain ⟨x, hx, e⟩ := of_decide_eq_true HDD.out
     exact List.mem_map.2 ⟨_, Ei_mem hx, e⟩
    go_wp2
    go_ret2
    exact ⟨false, R, ⟨fun h => (by cases h), fun h => absurd HIN.out h⟩, rfl, HSO.out, by unfold aE8; rw [if_pos HIN.out], A, _, H.out.below HU.out, Fr.of HU.out, fun b hb => Or.inl hb⟩
   | false =>
    have HBL : Hid (Bl8 R f0 j) := ⟨hjn, HNO.out, fun x hx => by
     have h1 := HHI.out x hx
     have h2 : ¬ x.1.1.cmp f0 = 0 := fun e => of_decide_eq_false HDD.out ⟨x, hx, ord_at.zero _ _ e⟩
     rw [ord_at.neg]
     omega⟩
    clear HDD HHI hjn
    have hjn := HBL.out.le
    have HRU := hm7 (H.out.below HU.out)
    have hcap : R.length <= cap := by
     obtain ⟨a', c', e, hc⟩ := row7_form HRU.out.l.o
     cases e
     exact hc
    have q0 := HRU.out.cell
    have k0 : (0 : Int) <= (j : Int) := by omega
    have k1 : j <= cap := by omega
    have k3 : (j : Int) <= (R.length : Int) := by omega
    have HST := hm7 (HRU.out.l.o.srcT rfl hjn)
    have HONE := hm7 HRU.out.l.one
    have HBK := hm7 HRU.out.b
    have hzu := HU.out.size
    have htl : (R.take j).length = j := by rw [List.length_take]; omega
    have HTL := hm7 htl
    go_upto_region 10 with (at_builtin; refine enappM rfl _ _ rfl U.heap.size (.slice none 0 0) [] rfl (OwnEn.nil _ _) (.slice la j cap) (R.take j) rfl HST.out (ic6_one fun x hx => HONE.out x (List.mem_of_mem_take hx)) (by simp; omega) (Nat.le_refl _) ?_; intro v9 w9 ho9 hg9 hv9; rw [List.nil_append] at ho9; obtain ⟨a9, q9, hv9'⟩ := ho9.form; rw [HTL.out] at hv9'; subst hv9'; have HO9 := hm7 ho9; have hb9 : Below U.heap.size U w9 := (Fr.grown (P := fun _ => False) hg9 fun b hb => by cases hb).below fun _ _ h => h; have HB9 := hm7 hb9; clear ho9 hg9 hv9 hb9)
    clear q0
    have hz9 := HB9.out.size
    have HU9 := hm7 (HU.out.trans (HB9.out.mono HU.out.size))
    have HOW : Hid (Calls Tryz.prog 40 #[.agg #[.int .i64 ky, .int .i64 my, .string sy, .string ny, .slice ay ly.length cy]] w9 fun e Y' => ∃ y, e = .returned ((At.mk ⟨ky, my, sy⟩ ny ly).v y) /\ OwnT Y' w9.heap.size y ly /\ Below w9.heap.size w9 Y') := by
     have := ownA8_any f0 (.slice ay ly.length cy) w9 ((HF.out.later HU9.out).ts (by have := HZ.out.2.1; omega)) HZ.out.2.1
     rw [HE.out] at this
     exact this
    obtain ⟨⟨x0, x1⟩, x2, x3, x4⟩ := five8 (HBX.out.below (HU0.out.trans (HB9.out.mono HU0.out.size)))
    go_upto_region 11 with (first | (go_at_call 40; refine HOW.out.mono ?_; rintro e w10 ⟨y, rfl, ho10, hb10⟩; obtain ⟨ya, yn, yc, rfl⟩ := ownT_form3 ho10; have HO10 := hm7 ho10; have HB10 := hm7 hb10; have hz10 := hb10.size; clear ho10 hb10 HOW x0 x1 x2 x3 x4) | (at_builtin; refine enapp_one rfl _ _ rfl U.heap.size (.slice a9 j q9) (R.take j) rfl ((HO9.out.later HB10.out).later (below1 _ _)) w10.heap.size ((⟨⟨ky, my, sy⟩, ny, ly⟩, .slice ya yn yc), 4) rfl (CBlk.new _ _ _) (icell_one rfl) (by omega) (by simp; omega) ?_; intro v11 w11 ho11 hb11 hg11 hk11; have HO11 := hm7 ho11; have HB11 := hm7 (((HB9.out.trans (HB10.out.mono HB9.out.size)).trans ((below1 _ _).mono (HB9.out.trans (HB10.out.mono HB9.out.size)).size)).trans hb11); have HG11 := hm7 hg11; clear ho11 hb11 hg11 hk11))
    have hz11 := HB11.out.size
    have HU11 := hm7 (HU.out.trans (HB11.out.mono HU.out.size))
    have HR11 := hm7 (H.out.below HU11.out)
    have q0 := HR11.out.cell
    have HSD := hm7 (HR11.out.l.o.srcD rfl hjn)
    obtain ⟨dv, hdv⟩ : ∃ dv, Value.slice (if cap = j then la else la.map (·.add (j * 6))) (R.length - j) (cap - j) = dv := ⟨_, rfl⟩
    have hcut : ∀ W, (Instr.sliceAt 45 (.slice la R.length cap) (some (.int .i64 (j : Int))) none none).run Tryz.prog W = .ok dv W := fun W => by rw [cut6 la hjn W, hdv]
    rw [hdv] at HSD
    clear hdv
    obtain ⟨a11, q11, hv11'⟩ := HO11.out.form
    have htl2 : (R.take j ++ [(((⟨⟨ky, my, sy⟩, ny, ly⟩ : At), (Value.slice ya yn yc)), (4 : Int))]).length = j + 1 := by rw [List.length_append, HTL.out]; rfl
    rw [htl2] at hv11'
    subst hv11'
    have htl3 : (R.take j ++ [(((⟨⟨ky, my, sy⟩, ny, ly⟩ : At), (Value.slice ya yn yc)), (4 : Int))] ++ R.drop j).length = R.length + 1 := by rw [List.length_append, htl2, List.length_drop]; omega
    have HTL3 := hm7 htl3
    have HT10 : Hid (OwnT w11 w9.heap.size (.slice ya yn yc) ly) := OwnT.grown (HO10.out.later (below1 _ _)) HG11.out fun k hk e => row7_ne HO10.out (HO9.out.later HB10.out) (by decide) k hk e
    go_upto_region 12 with (at_builtin; refine enappM rfl _ _ rfl U.heap.size (.slice a11 (j + 1) q11) (R.take j ++ [(((⟨⟨ky, my, sy⟩, ny, ly⟩ : At), (Value.slice ya yn yc)), (4 : Int))]) rfl HO11.out dv (R.drop j) rfl HSD.out (ic6_one fun x hx => HONE.out x (List.mem_of_mem_drop hx)) (by rw [htl2, List.length_drop]; omega) hz11 ?_; intro v12 w12 ho12 hg12 hv12; obtain ⟨a12, q12, hv12'⟩ := ho12.form; rw [HTL3.out] at hv12'; subst hv12'; have HO12 := hm7 ho12; have HT12 := hm7 (OwnT.grown HT10.out hg12 fun k hk e => row7_ne HT10.out HO11.out (by decide) k hk e); have HB12 := hm7 (HB11.out.trans (Fr.low (Fr.grown hg12 fun b hb => (HO11.out.lt b hb).1) hz11)); have z12 := (HBK.out.below HB12.out).froz 0; have c12 := (HBK.out.below HB12.out).cell (i := 0) rfl; clear ho12 hg12 hv12)
    go_wp2
    go_ret2
    have hU12 := HU.out.trans (HB12.out.mono HU.out.size)
    have eR : R.take j ++ [(((⟨⟨ky, my, sy⟩, ny, ly⟩ : At), (Value.slice ya yn yc)), (4 : Int))] ++ R.drop j = R.take j ++ ((f0, .slice ya yn yc), 4) :: R.drop j := by rw [HE.out]; simp
    have ho12 := HO12.out
    rw [eR] at ho12
    refine ⟨true, R.take j ++ ((f0, .slice ya yn yc), 4) :: R.drop j, ⟨fun _ => HBL.out.new HSO.out, fun _ => rfl⟩, rfl, HBL.out.so HSO.out _ rfl, HBL.out.perm HSO.out _, H.out.put hU12 rfl (row7_mono ho12 hzu) (fun x hx => ?_) (fun x hx => ?_) (fun x hx b hb => ?_)⟩
    all_goals rcases List.mem_append.1 hx with hx | hx
    all_goals first | (have hx' := List.mem_of_mem_take hx; skip) | (rcases List.mem_cons.1 hx with rfl | hx)
    all_goals first
     | exact ⟨Or.inl (H.out.l.t x (List.mem_of_mem_take hx)).1, (H.out.l.t x (List.mem_of_mem_take hx)).2⟩
     | exact ⟨Or.inl (H.out.l.t x (List.mem_of_mem_drop hx)).1, (H.out.l.t x (List.mem_of_mem_drop hx)).2⟩
     | exact ⟨Or.inr (by rw [HE.out]; exact HT12.out.mono (by omega)), HZ.out.2.1⟩
     | exact H.out.rt (List.mem_of_mem_take hx)
     | exact H.out.rt (List.mem_of_mem_drop hx)
     | (intro e; have := (HT12.out.lt _ e).1; have := H.out.b.lt; omega)
     | exact Or.inl ((H.out.a b).2 (Or.inr (Or.inr ⟨x, List.mem_of_mem_take hx, hb⟩)))
     | exact Or.inl ((H.out.a b).2 (Or.inr (Or.inr ⟨x, List.mem_of_mem_drop hx, hb⟩)))
     | (have := (HT12.out.lt b hb).1; exact Or.inr (by omega))
end Go.Proofs.YtechceagghcipabGreatDoor
