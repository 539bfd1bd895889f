import Derived.Test.YtechceagghcipabGreatDoorRA2
import Derived.Test.YtechceagghcipabGreatDoorEC5
import Derived.Test.YtechceagghcipabGreatDoorA1
namespace Go.Proofs.YtechceagghcipabGreatDoor
open Go.RowKit
attribute [local go_sem ↓] Go.wp_at_zero Go.wp_at_succ
set_option maxRecDepth 20000 in
set_option maxHeartbeats 1000000 in
theorem fact8_any (g : Nat) (tv : Value) (mn : Nat) (rm : Value) (T : List Tm) (nm : ByteArray) (rb ro rc n : Nat) (r : List Nat) (t0 : Tm) (l : List Tm) (Y : World) (h : TB8 g tv mn rm T Y) (hn : n <= 1000000000) (hrcap : n + 1 <= rc) (hrb : rb < Y.heap.size) (hr : ∀ (j i : Nat), r[j]? = some i -> Y.cell? ⟨rb, ro + j, none⟩ = some (.int .i64 (i : Int)))
  (h0 : ∃ i, r[0]? = some i /\ T[i]? = some t0) (hl : l.length = n) (ht : ∀ j t, l[j]? = some t -> ∃ i, r[j + 1]? = some i /\ T[i]? = some t) :
  Calls Tryz.prog 78 #[.pointer (some ⟨g, 0, none⟩), .string nm, .slice (some ⟨rb, ro, none⟩) (n + 1) rc] Y fun e Y' => ∃ A, e = .returned ((⟨t0, nm, l⟩ : At).v (.slice (some ⟨A, 0, none⟩) n n)) /\ TBlk Y' A l n /\ Y.heap.size <= A /\ Below Y.heap.size Y Y' := by
 obtain ⟨Y0, hY0⟩ : ∃ Y0, Y.alloc (.cells #[.int .i64 0, .int .i64 0, .string ⟨#[]⟩, .string ⟨#[]⟩, .slice none 0 0] 33) = Y0 := ⟨_, rfl⟩
 have hb0 : Below Y.heap.size Y Y0 := by rw [<- hY0]; exact below1 _ _
 have HBX : Hid (Bk Y0 Y.heap.size #[.int .i64 0, .int .i64 0, .string ⟨#[]⟩, .string ⟨#[]⟩, .slice none 0 0] 33) := by show Bk _ _ _ _; rw [<- hY0]; exact Bk.new _ _ _
 have HB0 := hm7 hb0
 have HT0 := hm7 (h.below hb0)
 obtain ⟨i0, hr0, hi0⟩ := h0
 have hrc : ∀ X : World, Below Y0.heap.size Y0 X -> ∀ (j i : Nat), r[j]? = some i -> X.cell? ⟨rb, ro + j, none⟩ = some (.int .i64 (i : Int)) := fun X hX j i hj => by
  rw [hX.cell (p := ⟨rb, ro + j, none⟩) (Nat.lt_of_lt_of_le hrb hb0.size), hb0.cell (p := ⟨rb, ro + j, none⟩) hrb]
  exact hr j i hj
 have HRC := hm7 hrc
 have HC0 : Hid (∀ X : World, Below Y0.heap.size Y0 X -> X.cell? ⟨rb, ro, none⟩ = some (.int .i64 (i0 : Int))) := fun X hX => hrc X hX 0 i0 hr0
 have HTH : Hid (∀ X : World, Below Y0.heap.size Y0 X -> Calls Tryz.prog 106 #[.pointer (some ⟨g, 0, none⟩), .int .i64 (i0 : Int)] X fun e Y' => e = .returned t0.v /\ Below X.heap.size X Y') := fun X hX => thing8_any g tv mn rm T i0 t0 X (HT0.out.below hX) hi0
 have HTJ : Hid (∀ (X : World) (i : Nat) (t : Tm), Below Y0.heap.size Y0 X -> T[i]? = some t -> Calls Tryz.prog 106 #[.pointer (some ⟨g, 0, none⟩), .int .i64 (i : Int)] X fun e Y' => e = .returned t.v /\ Below X.heap.size X Y') := fun X i t hX ht => thing8_any g tv mn rm T i t X (HT0.out.below hX) ht
 have HL := hm7 hl
 have HT := hm7 ht
 have n1 : (0 : Int) <= (n : Int) := by omega
 have n6 : IntKind.i64.wrap (n : Int) = (n : Int) := by rw [IntKind.wrap_i64]; omega
 have n5 : (n : Int) <= 1000000000 := by omega
 have n2 : ¬ (n : Int) + 1 <= 0 := by omega
 have n3 : (0 : Int) < (n : Int) + 1 := by omega
 have n4 : (n : Int) + 1 - 1 = (n : Int) := by omega
 obtain ⟨tk, tn, ts⟩ := t0
 clear h hb0 hr hr0 hi0 hrc hl ht HT0
 go_enter Tryz.func78, Tryz.ntmps78
 go_upto_region 1 with fail
 refine Code.wp_mono (Q := NQ fun a' W' => ∃ A C, (a'.tmps.size = 42 /\ a'.tmps[0]? = some (.pointer (some ⟨g, 0, none⟩)) /\ a'.tmps[1]? = some (.string nm) /\ a'.tmps[2]? = some (.slice (some ⟨rb, ro, none⟩) (n + 1) rc) /\ a'.tmps[6]? = some (.pointer (some ⟨Y.heap.size, 0, none⟩)) /\ a'.tmps[7]? = some (.pointer (some ⟨C, 0, none⟩)) /\ a'.defers = []) /\ Bk W' C #[.int .i64 tk, .int .i64 tn, .string ts, .string nm, .slice (some ⟨A, 0, none⟩) n n] 33 /\ Bk W' A (MC n) 30 /\ A ≠ C /\ Y0.heap.size <= A /\ Y0.heap.size <= C /\ Below Y0.heap.size Y0 W') ?_ ?_
 ·intro e a1 W1 hq1
  cases e <;> first | exact hq1.elim | skip
  obtain ⟨A, C, hac, hC, hA, hne, hAl, hCl, hW1⟩ := hq1
  obtain ⟨tmps, defers⟩ := a1
  obtain ⟨f, hf⟩ : ∃ f : Nat -> Value, tmps = #[.pointer (some ⟨g, 0, none⟩), .string nm, .slice (some ⟨rb, ro, none⟩) (n + 1) rc, f 3, f 4, f 5, .pointer (some ⟨Y.heap.size, 0, none⟩), .pointer (some ⟨C, 0, none⟩), f 8, f 9, f 10, f 11, f 12, f 13, f 14, f 15, f 16, f 17, f 18, f 19, f 20, f 21, f 22, f 23, f 24, f 25, f 26, f 27, f 28, f 29, f 30, f 31, f 32, f 33, f 34, f 35, f 36, f 37, f 38, f 39, f 40, f 41] := by
   obtain ⟨hn, t0, t1, t2, t6, t7, -⟩ := hac
   obtain ⟨f, hf, hi⟩ := arr_of 42 tmps hn
   refine ⟨f, ?_⟩
   have e : ∀ (i : Nat) (v : Value), i < 42 -> tmps[i]? = some v -> f i = v := fun i v h1 h2 => Option.some.inj ((hi i h1).symm.trans h2)
   rw [hf, show (List.range 42).map f = [f 0, f 1, f 2, f 3, f 4, f 5, f 6, f 7, f 8, f 9, f 10, f 11, f 12, f 13, f 14, f 15, f 16, f 17, f 18, f 19, f 20, f 21, f 22, f 23, f 24, f 25, f 26, f 27, f 28, f 29, f 30, f 31, f 32, f 33, f 34, f 35, f 36, f 37, f 38, f 39, f 40, f 41] from rfl, e 0 _ (by decide) t0, e 1 _ (by decide) t1, e 2 _ (by decide) t2, e 6 _ (by decide) t6, e 7 _ (by decide) t7]
  obtain rfl : defers = [] := by have := hac; simp only at this; exact this.2.2.2.2.2.2
  clear hac
  subst hf
  have HCC := hm7 hC
  have HAA := hm7 hA
  have HNE := hm7 hne
  have HAL := hm7 hAl
  have HCL := hm7 hCl
  have HW1 := hm7 hW1
  clear hC hA hne hAl hCl hW1
  obtain ⟨ra, hra, hcut⟩ : ∃ ra, (0 < n -> ra = some ⟨rb, ro + 1, none⟩) /\ ∀ W : World, (Instr.sliceAt 67 (.slice (some ⟨rb, ro, none⟩) (n + 1) rc) (some (.int .i64 1)) none none).run Tryz.prog W = .ok (.slice ra n (rc - 1)) W := by
   refine ⟨_, fun hp => ?_, fun W => cutI7 (some ⟨rb, ro, none⟩) (n := n + 1) (cap := rc) (k := 1) (by omega) W⟩
   rw [if_neg (by omega)]
   rfl
  have z0 : Y.heap.size < Y0.heap.size := HBX.out.lt
  go_wp2
  go_loopg [26] n (fun gg i wr => ∃ j : Nat, j + gg = n /\ i = .int .i64 j /\ Bk wr C #[.int .i64 tk, .int .i64 tn, .string ts, .string nm, .slice (some ⟨A, 0, none⟩) n n] 33 /\ TBlk wr A l j /\ Below Y0.heap.size Y0 wr)
  case atStart => exact ⟨0, by omega, rfl, HCC.out, TBlk.start HL.out.symm HAA.out, HW1.out⟩
  case round =>
   obtain ⟨j, hj, rfl, hC, hA, hW⟩ := hrel
   have HCR := hm7 hC
   have HTR := hm7 hA
   have HYR := hm7 hW
   have hll := HL.out
   cases gk with
   | succ gg =>
    have hlt : (j : Int) < (n : Int) := by omega
    have j0 : (0 : Int) <= (j : Int) := by omega
    obtain ⟨t, ht⟩ : ∃ t, l[j]? = some t := ⟨_, List.getElem?_eq_getElem (by omega)⟩
    obtain ⟨i, hi, hti⟩ := HT.out j t ht
    have q1 := HRC.out wr hW (j + 1) i hi
    rw [show ro + (j + 1) = ro + 1 + j by omega] at q1
    obtain rfl := hra (by omega)
    obtain ⟨uk, un, us⟩ := t
    have HTI := hm7 hti
    have HLJ := hm7 ht
    clear hC hA hW hi hti ht
    go_upto_region 5 with fail
    have HCD : Hid (Bk wr.drew C #[.int .i64 tk, .int .i64 tn, .string ts, .string nm, .slice (some ⟨A, 0, none⟩) n n] 33) := HCR.out
    have HTD : Hid (TBlk wr.drew A l j) := HTR.out.later (by exact (Below.refl _ _).drew)
    have HYD : Hid (Below Y0.heap.size Y0 wr.drew) := HYR.out.drew
    refine wp_region_held_drew (S := fun w' => Bk w' C #[.int .i64 tk, .int .i64 tn, .string ts, .string nm, .slice (some ⟨A, 0, none⟩) n n] 33) (by kernel_rfl) HCD.out (fun hH => ?_)
    generalize wr.drew = U0 at *
    refine wTl 0 (.pointer (some ⟨C, 4, none⟩)) rfl (by kernel_rfl) (fun _ _ _ h => h) rfl (fun w' h => by clear h; go_simp) hH ?_
    simp only [wA, wB, wC, wD]
    refine wTl 1 (.slice (some ⟨A, 0, none⟩) n n) rfl (by kernel_rfl) (fun _ _ _ h => h) rfl (fun w' h => by have q := h.cell (i := 4) rfl; clear h; go_simp) hH ?_
    simp only [wA, wB, wC, wD]
    refine wTl 2 (.int .i64 (j : Int)) rfl (by kernel_rfl) (fun _ _ _ h => h) rfl (fun w' h => by clear h; go_simp) hH ?_
    simp only [wA, wB, wC, wD]
    refine wTl 3 (.pointer (some ⟨g, 0, none⟩)) rfl (by kernel_rfl) (fun _ _ _ h => h) rfl (fun w' h => by clear h; go_simp) hH ?_
    simp only [wA, wB, wC, wD]
    refine wTl 4 (.pointer (some ⟨g, 0, none⟩)) rfl (by kernel_rfl) (fun _ _ _ h => h) rfl (fun w' h => by clear h; go_simp) hH ?_
    simp only [wA, wB, wC, wD]
    refine wTl 5 (.pointer (some ⟨g, 0, none⟩)) rfl (by kernel_rfl) (fun _ _ _ h => h) rfl (fun w' h => by clear h; go_simp) hH ?_
    simp only [wA, wB, wC, wD]
    refine wTl 6 (.int .i64 (i : Int)) rfl (by kernel_rfl) (fun _ _ _ h => h) rfl (fun w' h => by clear h; go_simp) hH ?_
    simp only [wA, wB, wC, wD]
    refine wRd 7 (by kernel_rfl) rfl (fun K hK => ?_)
    go_simp
    refine (HTJ.out _ i _ HYD.out HTI.out).mono ?_
    rintro e U1 ⟨rfl, hb⟩
    have HT1 := hm7 (HTD.out.later hb)
    have HY1 := hm7 (HYD.out.trans (hb.mono HYD.out.size))
    refine hK.out _ _ (hH.below hb) (fun hH => ?_)
    clear hK hb
    try simp only [wA, wB, wC, wD]
    refine wTl 8 (.pointer (some ⟨A, j * 3, none⟩)) rfl (by kernel_rfl) (fun _ _ _ h => h) rfl (fun w' h => by clear h; go_simp) hH ?_
    simp only [wA, wB, wC, wD]
    obtain ⟨⟨c0, e0⟩, f0⟩ := HT1.out.cells (j := j * 3) (by omega)
    obtain ⟨⟨c1, e1⟩, f1⟩ := HT1.out.cells (j := j * 3 + 1) (by omega)
    obtain ⟨⟨c2, e2⟩, f2⟩ := HT1.out.cells (j := j * 3 + 2) (by omega)
    refine wRd 9 (by kernel_rfl) rfl (fun K hK => ?_)
    go_simp
    refine hK.out _ _ (((hH.off HNE.out.symm).off HNE.out.symm).off HNE.out.symm) (fun hH => ?_)
    clear hK
    try simp only [wA, wB, wC, wD]
    refine wpAnyH_done (by kernel_rfl) ?_ _
    have HC2 := hm7 hH
    clear hH
    go_wp2
    go_roundg gg
    case measure => omega
    case rel =>
     have p1 := HT1.out.put (t := ⟨uk, un, us⟩) HLJ.out
     have p2 := HC2.out
     have p3 := bset3 (i := j * 3) (j := j * 3 + 1) (m := j * 3 + 2) (a := .int .i64 uk) (b := .int .i64 un) (c := .string us) HY1.out HAL.out
     exact ⟨j + 1, by omega, by go_num, p2, p1, p3⟩
   | zero =>
    have hlt : ¬ (j : Int) < (n : Int) := by omega
    obtain rfl : j = n := by omega
    obtain ⟨⟨q0, q1⟩, q2, q3, q4⟩ := five8 hC
    have hX := HBX.out.below hW
    obtain ⟨⟨r0, r1⟩, r2, r3, r4⟩ := five8 hX
    have f0 := hX.froz 0
    have f1 := hX.froz 1
    have f2 := hX.froz 2
    have f3 := hX.froz 3
    have f4 := hX.froz 4
    have xl := hX.lt
    clear hC hA hW hX
    go_wp2
    have za := HAL.out
    have nw := Nat.le_refl Y.heap.size
    have hyw := HB0.out.trans (HYR.out.mono HB0.out.size)
    have p1 : TBlk (((((wr.setCell ⟨Y.heap.size, 0, none⟩ (.int .i64 tk)).setCell ⟨Y.heap.size, 1, none⟩ (.int .i64 tn)).setCell ⟨Y.heap.size, 2, none⟩ (.string ts)).setCell ⟨Y.heap.size, 3, none⟩ (.string nm)).setCell ⟨Y.heap.size, 4, none⟩ (.slice (some ⟨A, 0, none⟩) j j)) A l j := ((((HTR.out.other (by omega)).other (by omega)).other (by omega)).other (by omega)).other (by omega)
    have p2 : Below Y.heap.size Y (((((wr.setCell ⟨Y.heap.size, 0, none⟩ (.int .i64 tk)).setCell ⟨Y.heap.size, 1, none⟩ (.int .i64 tn)).setCell ⟨Y.heap.size, 2, none⟩ (.string ts)).setCell ⟨Y.heap.size, 3, none⟩ (.string nm)).setCell ⟨Y.heap.size, 4, none⟩ (.slice (some ⟨A, 0, none⟩) j j)) := ((((hyw.setCell (p := ⟨Y.heap.size, 0, none⟩) nw _).setCell (p := ⟨Y.heap.size, 1, none⟩) nw _).setCell (p := ⟨Y.heap.size, 2, none⟩) nw _).setCell (p := ⟨Y.heap.size, 3, none⟩) nw _).setCell (p := ⟨Y.heap.size, 4, none⟩) nw _
    exact bodyPost_ret (v := (⟨⟨tk, tn, ts⟩, nm, l⟩ : At).v (.slice (some ⟨A, 0, none⟩) j j)) (by simp [results, Tryz.results78, go_sem, r0, r1, r2, r3, r4]) rfl ⟨A, rfl, p1, by omega, p2⟩
 ·refine wp_region_held_drew (S := fun w' => Below Y0.heap.size Y0 w') (by kernel_rfl) (by exact (Below.refl _ _).drew) (fun hH => ?_)
  revert hH
  generalize Y0.drew = V0
  intro hH
  refine wTl 0 (.pointer (some ⟨g, 0, none⟩)) rfl (by kernel_rfl) (fun _ _ _ h => h) rfl (fun w' h => by clear h; go_simp) hH ?_
  simp only [wA, wB, wC, wD]
  refine wTl 1 (.pointer (some ⟨g, 0, none⟩)) rfl (by kernel_rfl) (fun _ _ _ h => h) rfl (fun w' h => by clear h; go_simp) hH ?_
  simp only [wA, wB, wC, wD]
  refine wTl 2 (.pointer (some ⟨g, 0, none⟩)) rfl (by kernel_rfl) (fun _ _ _ h => h) rfl (fun w' h => by clear h; go_simp) hH ?_
  simp only [wA, wB, wC, wD]
  refine wTl 3 (.slice (some ⟨rb, ro, none⟩) (n + 1) rc) rfl (by kernel_rfl) (fun _ _ _ h => h) rfl (fun w' h => by clear h; go_simp) hH ?_
  simp only [wA, wB, wC, wD]
  refine wTl 4 (.pointer (some ⟨rb, ro, none⟩)) rfl (by kernel_rfl) (fun _ _ _ h => h) rfl (fun w' h => by clear h; go_simp) hH ?_
  simp only [wA, wB, wC, wD]
  refine wTl 5 (.int .i64 (i0 : Int)) rfl (by kernel_rfl) (fun _ _ _ h => h) rfl (fun w' h => by have q := HC0.out w' h; clear h; go_simp) hH ?_
  simp only [wA, wB, wC, wD]
  refine wTl 7 (.string nm) rfl (by kernel_rfl) (fun _ _ _ h => h) rfl (fun w' h => by clear h; go_simp) hH ?_
  simp only [wA, wB, wC, wD]
  refine wTl 8 (.slice (some ⟨rb, ro, none⟩) (n + 1) rc) rfl (by kernel_rfl) (fun _ _ _ h => h) rfl (fun w' h => by clear h; go_simp) hH ?_
  simp only [wA, wB, wC, wD]
  refine wTl 9 (.int .i64 ((n : Int) + 1)) rfl (by kernel_rfl) (fun _ _ _ h => h) rfl (fun w' h => by clear h; go_simp) hH ?_
  simp only [wA, wB, wC, wD]
  refine wTl 10 (.int .i64 (n : Int)) rfl (by kernel_rfl) (fun _ _ _ h => h) rfl (fun w' h => by clear h; go_simp) hH ?_
  simp only [wA, wB, wC, wD]
  refine wpAnyH_ready (rs := [6, 11, 13]) (by kernel_rfl) (by simp) ?_
  refine (AllReadyH.cons (o := ⟨_, _, _, _, _, _⟩) rfl (fun K hK => ?_) (AllReadyH.cons (o := ⟨_, _, _, _, _, _⟩) rfl (fun K hK => ?_) (AllReadyH.cons (o := ⟨_, _, _, _, _, _⟩) rfl (fun K hK => ?_) AllReadyH.nil)))
  ·go_simp
   refine (HTH.out _ hH).mono ?_
   rintro e V1 ⟨rfl, hb⟩
   refine hK.out _ _ (hH.trans (hb.mono hH.size)) (fun hH => ?_)
   clear hK hb
   try simp only [wA, wB, wC, wD]
   refine wpAnyH_ready (rs := [11, 13]) (by kernel_rfl) (by simp) ?_
   refine (AllReadyH.cons (o := ⟨_, _, _, _, _, _⟩) rfl (fun K hK => ?_) (AllReadyH.cons (o := ⟨_, _, _, _, _, _⟩) rfl (fun K hK => ?_) AllReadyH.nil))
   ·have mk := mk_terms n (by omega)
    go_simp
    clear mk
    have HAA := hm7 (Bk.new V1 (MC n) 30)
    have HAL := hm7 hH.size
    refine hK.out _ _ (hH.trans ((below1 _ _).mono hH.size)) (fun hH => ?_)
    clear hK
    try simp only [wA, wB, wC, wD]
    generalize V1.alloc (.cells (MC n) 30) = V2 at *
    generalize V1.heap.size = A at *
    refine wTl 12 (.agg #[.int .i64 tk, .int .i64 tn, .string ts, .string nm, .slice (some ⟨A, 0, none⟩) n n]) rfl (by kernel_rfl) (fun _ _ _ h => h) rfl (fun w' h => by clear h; go_simp) hH ?_
    simp only [wA, wB, wC, wD]
    refine wRd 13 (by kernel_rfl) rfl (fun K hK => ?_)
    go_simp
    have HCC := hm7 (Bk.new V2 (#[.int .i64 0, .int .i64 0, .string ⟨#[]⟩, .string ⟨#[]⟩, .slice none 0 0]) 33)
    have HCL := hm7 hH.size
    have HNE := hm7 (show A ≠ V2.heap.size by have := HAA.out.lt; omega)
    have HAA := hm7 (HAA.out.below (below1 _ (.cells (#[.int .i64 0, .int .i64 0, .string ⟨#[]⟩, .string ⟨#[]⟩, .slice none 0 0]) 33)))
    refine hK.out _ _ (hH.trans ((below1 _ _).mono hH.size)) (fun hH => ?_)
    clear hK
    try simp only [wA, wB, wC, wD]
    generalize V2.alloc (.cells (#[.int .i64 0, .int .i64 0, .string ⟨#[]⟩, .string ⟨#[]⟩, .slice none 0 0]) 33) = V3 at *
    generalize V2.heap.size = C at *
    obtain ⟨⟨q0, q1⟩, q2, q3, q4⟩ := five8 HCC.out
    have f0 := HCC.out.froz 0
    have f1 := HCC.out.froz 1
    have f2 := HCC.out.froz 2
    have f3 := HCC.out.froz 3
    have f4 := HCC.out.froz 4
    have hcl := HCC.out.lt
    refine wRd 14 (by kernel_rfl) rfl (fun K hK => ?_)
    go_simp
    refine hK.out _ _ (((((hH.setCell (p := ⟨C, 0, none⟩) HCL.out _).setCell (p := ⟨C, 1, none⟩) HCL.out _).setCell (p := ⟨C, 2, none⟩) HCL.out _).setCell (p := ⟨C, 3, none⟩) HCL.out _).setCell (p := ⟨C, 4, none⟩) HCL.out _) (fun hH => ?_)
    clear hK
    try simp only [wA, wB, wC, wD]
    refine wpAnyH_done (by kernel_rfl) ?_ _
    exact ⟨A, C, (by first | exact ⟨rfl, rfl, rfl, rfl, rfl, rfl, rfl⟩ | ((repeat' apply And.intro) <;> rfl)), store5 HCC.out, store5_other _ _ _ _ _ HNE.out HAA.out, HNE.out, HAL.out, HCL.out, hH⟩
   ·go_simp
    have HCC := hm7 (Bk.new V1 (#[.int .i64 0, .int .i64 0, .string ⟨#[]⟩, .string ⟨#[]⟩, .slice none 0 0]) 33)
    have HCL := hm7 hH.size
    refine hK.out _ _ (hH.trans ((below1 _ _).mono hH.size)) (fun hH => ?_)
    clear hK
    try simp only [wA, wB, wC, wD]
    generalize V1.alloc (.cells (#[.int .i64 0, .int .i64 0, .string ⟨#[]⟩, .string ⟨#[]⟩, .slice none 0 0]) 33) = V2 at *
    generalize V1.heap.size = C at *
    refine wRd 11 (by kernel_rfl) rfl (fun K hK => ?_)
    have mk := mk_terms n (by omega)
    go_simp
    clear mk
    have HAA := hm7 (Bk.new V2 (MC n) 30)
    have HAL := hm7 hH.size
    have HNE := hm7 (show V2.heap.size ≠ C by have := HCC.out.lt; omega)
    have HCC := hm7 (HCC.out.below (below1 _ (.cells (MC n) 30)))
    refine hK.out _ _ (hH.trans ((below1 _ _).mono hH.size)) (fun hH => ?_)
    clear hK
    try simp only [wA, wB, wC, wD]
    generalize V2.alloc (.cells (MC n) 30) = V3 at *
    generalize V2.heap.size = A at *
    refine wTl 12 (.agg #[.int .i64 tk, .int .i64 tn, .string ts, .string nm, .slice (some ⟨A, 0, none⟩) n n]) rfl (by kernel_rfl) (fun _ _ _ h => h) rfl (fun w' h => by clear h; go_simp) hH ?_
    simp only [wA, wB, wC, wD]
    obtain ⟨⟨q0, q1⟩, q2, q3, q4⟩ := five8 HCC.out
    have f0 := HCC.out.froz 0
    have f1 := HCC.out.froz 1
    have f2 := HCC.out.froz 2
    have f3 := HCC.out.froz 3
    have f4 := HCC.out.froz 4
    have hcl := HCC.out.lt
    refine wRd 14 (by kernel_rfl) rfl (fun K hK => ?_)
    go_simp
    refine hK.out _ _ (((((hH.setCell (p := ⟨C, 0, none⟩) HCL.out _).setCell (p := ⟨C, 1, none⟩) HCL.out _).setCell (p := ⟨C, 2, none⟩) HCL.out _).setCell (p := ⟨C, 3, none⟩) HCL.out _).setCell (p := ⟨C, 4, none⟩) HCL.out _) (fun hH => ?_)
    clear hK
    try simp only [wA, wB, wC, wD]
    refine wpAnyH_done (by kernel_rfl) ?_ _
    exact ⟨A, C, (by first | exact ⟨rfl, rfl, rfl, rfl, rfl, rfl, rfl⟩ | ((repeat' apply And.intro) <;> rfl)), store5 HCC.out, store5_other _ _ _ _ _ HNE.out HAA.out, HNE.out, HAL.out, HCL.out, hH⟩
  ·have mk := mk_terms n (by omega)
   go_simp
   clear mk
   have HAA := hm7 (Bk.new V0 (MC n) 30)
   have HAL := hm7 hH.size
   refine hK.out _ _ (hH.trans ((below1 _ _).mono hH.size)) (fun hH => ?_)
   clear hK
   try simp only [wA, wB, wC, wD]
   generalize V0.alloc (.cells (MC n) 30) = V1 at *
   generalize V0.heap.size = A at *
   refine wpAnyH_ready (rs := [6, 13]) (by kernel_rfl) (by simp) ?_
   refine (AllReadyH.cons (o := ⟨_, _, _, _, _, _⟩) rfl (fun K hK => ?_) (AllReadyH.cons (o := ⟨_, _, _, _, _, _⟩) rfl (fun K hK => ?_) AllReadyH.nil))
   ·go_simp
    refine (HTH.out _ hH).mono ?_
    rintro e V2 ⟨rfl, hb⟩
    have HAA := hm7 (HAA.out.below hb)
    refine hK.out _ _ (hH.trans (hb.mono hH.size)) (fun hH => ?_)
    clear hK hb
    try simp only [wA, wB, wC, wD]
    refine wTl 12 (.agg #[.int .i64 tk, .int .i64 tn, .string ts, .string nm, .slice (some ⟨A, 0, none⟩) n n]) rfl (by kernel_rfl) (fun _ _ _ h => h) rfl (fun w' h => by clear h; go_simp) hH ?_
    simp only [wA, wB, wC, wD]
    refine wRd 13 (by kernel_rfl) rfl (fun K hK => ?_)
    go_simp
    have HCC := hm7 (Bk.new V2 (#[.int .i64 0, .int .i64 0, .string ⟨#[]⟩, .string ⟨#[]⟩, .slice none 0 0]) 33)
    have HCL := hm7 hH.size
    have HNE := hm7 (show A ≠ V2.heap.size by have := HAA.out.lt; omega)
    have HAA := hm7 (HAA.out.below (below1 _ (.cells (#[.int .i64 0, .int .i64 0, .string ⟨#[]⟩, .string ⟨#[]⟩, .slice none 0 0]) 33)))
    refine hK.out _ _ (hH.trans ((below1 _ _).mono hH.size)) (fun hH => ?_)
    clear hK
    try simp only [wA, wB, wC, wD]
    generalize V2.alloc (.cells (#[.int .i64 0, .int .i64 0, .string ⟨#[]⟩, .string ⟨#[]⟩, .slice none 0 0]) 33) = V3 at *
    generalize V2.heap.size = C at *
    obtain ⟨⟨q0, q1⟩, q2, q3, q4⟩ := five8 HCC.out
    have f0 := HCC.out.froz 0
    have f1 := HCC.out.froz 1
    have f2 := HCC.out.froz 2
    have f3 := HCC.out.froz 3
    have f4 := HCC.out.froz 4
    have hcl := HCC.out.lt
    refine wRd 14 (by kernel_rfl) rfl (fun K hK => ?_)
    go_simp
    refine hK.out _ _ (((((hH.setCell (p := ⟨C, 0, none⟩) HCL.out _).setCell (p := ⟨C, 1, none⟩) HCL.out _).setCell (p := ⟨C, 2, none⟩) HCL.out _).setCell (p := ⟨C, 3, none⟩) HCL.out _).setCell (p := ⟨C, 4, none⟩) HCL.out _) (fun hH => ?_)
    clear hK
    try simp only [wA, wB, wC, wD]
    refine wpAnyH_done (by kernel_rfl) ?_ _
    exact ⟨A, C, (by first | exact ⟨rfl, rfl, rfl, rfl, rfl, rfl, rfl⟩ | ((repeat' apply And.intro) <;> rfl)), store5 HCC.out, store5_other _ _ _ _ _ HNE.out HAA.out, HNE.out, HAL.out, HCL.out, hH⟩
   ·go_simp
    have HCC := hm7 (Bk.new V1 (#[.int .i64 0, .int .i64 0, .string ⟨#[]⟩, .string ⟨#[]⟩, .slice none 0 0]) 33)
    have HCL := hm7 hH.size
    have HNE := hm7 (show A ≠ V1.heap.size by have := HAA.out.lt; omega)
    have HAA := hm7 (HAA.out.below (below1 _ (.cells (#[.int .i64 0, .int .i64 0, .string ⟨#[]⟩, .string ⟨#[]⟩, .slice none 0 0]) 33)))
    refine hK.out _ _ (hH.trans ((below1 _ _).mono hH.size)) (fun hH => ?_)
    clear hK
    try simp only [wA, wB, wC, wD]
    generalize V1.alloc (.cells (#[.int .i64 0, .int .i64 0, .string ⟨#[]⟩, .string ⟨#[]⟩, .slice none 0 0]) 33) = V2 at *
    generalize V1.heap.size = C at *
    refine wRd 6 (by kernel_rfl) rfl (fun K hK => ?_)
    go_simp
    refine (HTH.out _ hH).mono ?_
    rintro e V3 ⟨rfl, hb⟩
    have HAA := hm7 (HAA.out.below hb)
    have HCC := hm7 (HCC.out.below hb)
    refine hK.out _ _ (hH.trans (hb.mono hH.size)) (fun hH => ?_)
    clear hK hb
    try simp only [wA, wB, wC, wD]
    refine wTl 12 (.agg #[.int .i64 tk, .int .i64 tn, .string ts, .string nm, .slice (some ⟨A, 0, none⟩) n n]) rfl (by kernel_rfl) (fun _ _ _ h => h) rfl (fun w' h => by clear h; go_simp) hH ?_
    simp only [wA, wB, wC, wD]
    obtain ⟨⟨q0, q1⟩, q2, q3, q4⟩ := five8 HCC.out
    have f0 := HCC.out.froz 0
    have f1 := HCC.out.froz 1
    have f2 := HCC.out.froz 2
    have f3 := HCC.out.froz 3
    have f4 := HCC.out.froz 4
    have hcl := HCC.out.lt
    refine wRd 14 (by kernel_rfl) rfl (fun K hK => ?_)
    go_simp
    refine hK.out _ _ (((((hH.setCell (p := ⟨C, 0, none⟩) HCL.out _).setCell (p := ⟨C, 1, none⟩) HCL.out _).setCell (p := ⟨C, 2, none⟩) HCL.out _).setCell (p := ⟨C, 3, none⟩) HCL.out _).setCell (p := ⟨C, 4, none⟩) HCL.out _) (fun hH => ?_)
    clear hK
    try simp only [wA, wB, wC, wD]
    refine wpAnyH_done (by kernel_rfl) ?_ _
    exact ⟨A, C, (by first | exact ⟨rfl, rfl, rfl, rfl, rfl, rfl, rfl⟩ | ((repeat' apply And.intro) <;> rfl)), store5 HCC.out, store5_other _ _ _ _ _ HNE.out HAA.out, HNE.out, HAL.out, HCL.out, hH⟩
  ·go_simp
   have HCC := hm7 (Bk.new V0 (#[.int .i64 0, .int .i64 0, .string ⟨#[]⟩, .string ⟨#[]⟩, .slice none 0 0]) 33)
   have HCL := hm7 hH.size
   refine hK.out _ _ (hH.trans ((below1 _ _).mono hH.size)) (fun hH => ?_)
   clear hK
   try simp only [wA, wB, wC, wD]
   generalize V0.alloc (.cells (#[.int .i64 0, .int .i64 0, .string ⟨#[]⟩, .string ⟨#[]⟩, .slice none 0 0]) 33) = V1 at *
   generalize V0.heap.size = C at *
   refine wpAnyH_ready (rs := [6, 11]) (by kernel_rfl) (by simp) ?_
   refine (AllReadyH.cons (o := ⟨_, _, _, _, _, _⟩) rfl (fun K hK => ?_) (AllReadyH.cons (o := ⟨_, _, _, _, _, _⟩) rfl (fun K hK => ?_) AllReadyH.nil))
   ·go_simp
    refine (HTH.out _ hH).mono ?_
    rintro e V2 ⟨rfl, hb⟩
    have HCC := hm7 (HCC.out.below hb)
    refine hK.out _ _ (hH.trans (hb.mono hH.size)) (fun hH => ?_)
    clear hK hb
    try simp only [wA, wB, wC, wD]
    refine wRd 11 (by kernel_rfl) rfl (fun K hK => ?_)
    have mk := mk_terms n (by omega)
    go_simp
    clear mk
    have HAA := hm7 (Bk.new V2 (MC n) 30)
    have HAL := hm7 hH.size
    have HNE := hm7 (show V2.heap.size ≠ C by have := HCC.out.lt; omega)
    have HCC := hm7 (HCC.out.below (below1 _ (.cells (MC n) 30)))
    refine hK.out _ _ (hH.trans ((below1 _ _).mono hH.size)) (fun hH => ?_)
    clear hK
    try simp only [wA, wB, wC, wD]
    generalize V2.alloc (.cells (MC n) 30) = V3 at *
    generalize V2.heap.size = A at *
    refine wTl 12 (.agg #[.int .i64 tk, .int .i64 tn, .string ts, .string nm, .slice (some ⟨A, 0, none⟩) n n]) rfl (by kernel_rfl) (fun _ _ _ h => h) rfl (fun w' h => by clear h; go_simp) hH ?_
    simp only [wA, wB, wC, wD]
    obtain ⟨⟨q0, q1⟩, q2, q3, q4⟩ := five8 HCC.out
    have f0 := HCC.out.froz 0
    have f1 := HCC.out.froz 1
    have f2 := HCC.out.froz 2
    have f3 := HCC.out.froz 3
    have f4 := HCC.out.froz 4
    have hcl := HCC.out.lt
    refine wRd 14 (by kernel_rfl) rfl (fun K hK => ?_)
    go_simp
    refine hK.out _ _ (((((hH.setCell (p := ⟨C, 0, none⟩) HCL.out _).setCell (p := ⟨C, 1, none⟩) HCL.out _).setCell (p := ⟨C, 2, none⟩) HCL.out _).setCell (p := ⟨C, 3, none⟩) HCL.out _).setCell (p := ⟨C, 4, none⟩) HCL.out _) (fun hH => ?_)
    clear hK
    try simp only [wA, wB, wC, wD]
    refine wpAnyH_done (by kernel_rfl) ?_ _
    exact ⟨A, C, (by first | exact ⟨rfl, rfl, rfl, rfl, rfl, rfl, rfl⟩ | ((repeat' apply And.intro) <;> rfl)), store5 HCC.out, store5_other _ _ _ _ _ HNE.out HAA.out, HNE.out, HAL.out, HCL.out, hH⟩
   ·have mk := mk_terms n (by omega)
    go_simp
    clear mk
    have HAA := hm7 (Bk.new V1 (MC n) 30)
    have HAL := hm7 hH.size
    have HNE := hm7 (show V1.heap.size ≠ C by have := HCC.out.lt; omega)
    have HCC := hm7 (HCC.out.below (below1 _ (.cells (MC n) 30)))
    refine hK.out _ _ (hH.trans ((below1 _ _).mono hH.size)) (fun hH => ?_)
    clear hK
    try simp only [wA, wB, wC, wD]
    generalize V1.alloc (.cells (MC n) 30) = V2 at *
    generalize V1.heap.size = A at *
    refine wRd 6 (by kernel_rfl) rfl (fun K hK => ?_)
    go_simp
    refine (HTH.out _ hH).mono ?_
    rintro e V3 ⟨rfl, hb⟩
    have HAA := hm7 (HAA.out.below hb)
    have HCC := hm7 (HCC.out.below hb)
    refine hK.out _ _ (hH.trans (hb.mono hH.size)) (fun hH => ?_)
    clear hK hb
    try simp only [wA, wB, wC, wD]
    refine wTl 12 (.agg #[.int .i64 tk, .int .i64 tn, .string ts, .string nm, .slice (some ⟨A, 0, none⟩) n n]) rfl (by kernel_rfl) (fun _ _ _ h => h) rfl (fun w' h => by clear h; go_simp) hH ?_
    simp only [wA, wB, wC, wD]
    obtain ⟨⟨q0, q1⟩, q2, q3, q4⟩ := five8 HCC.out
    have f0 := HCC.out.froz 0
    have f1 := HCC.out.froz 1
    have f2 := HCC.out.froz 2
    have f3 := HCC.out.froz 3
    have f4 := HCC.out.froz 4
    have hcl := HCC.out.lt
    refine wRd 14 (by kernel_rfl) rfl (fun K hK => ?_)
    go_simp
    refine hK.out _ _ (((((hH.setCell (p := ⟨C, 0, none⟩) HCL.out _).setCell (p := ⟨C, 1, none⟩) HCL.out _).setCell (p := ⟨C, 2, none⟩) HCL.out _).setCell (p := ⟨C, 3, none⟩) HCL.out _).setCell (p := ⟨C, 4, none⟩) HCL.out _) (fun hH => ?_)
    clear hK
    try simp only [wA, wB, wC, wD]
    refine wpAnyH_done (by kernel_rfl) ?_ _
    exact ⟨A, C, (by first | exact ⟨rfl, rfl, rfl, rfl, rfl, rfl, rfl⟩ | ((repeat' apply And.intro) <;> rfl)), store5 HCC.out, store5_other _ _ _ _ _ HNE.out HAA.out, HNE.out, HAL.out, HCL.out, hH⟩
end Go.Proofs.YtechceagghcipabGreatDoor
