import Derived.Test.YtcejljehjhlonaaGreatDoorCP1
import Derived.Test.YtcejljehjhlonaaGreatDoorB5
import Derived.Test.YtcejljehjhlonaaGreatDoorSD12
import Derived.Test.YtcejljehjhlonaaGreatDoorHC7
import Derived.Test.YtcejljehjhlonaaGreatDoorHC11
import Derived.Test.YtcejljehjhlonaaGreatDoorHC5
import Derived.Test.YtcejljehjhlonaaGreatDoorSD8
import Derived.Test.YtcejljehjhlonaaGreatDoorSD20
namespace Go.Proofs.YtcejljehjhlonaaGreatDoor
open Go.RowKit

def wk : List Sk -> Nat
 | [] => 0
 | s :: l => 1 + s.2.1.length + s.2.2.length + wk l
theorem wk_mem {l : List Sk} {s : Sk} (h : s ∈ l) : s.2.1.length + s.2.2.length + 1 <= wk l := by
 induction l with
 | nil => simp at h
 | cons a l ih =>
  unfold wk
  rcases List.mem_cons.1 h with rfl | h
  ·omega
  ·have := ih h; omega
theorem wk_len (l : List Sk) : l.length <= wk l := by
 induction l with
 | nil => simp
 | cons a l ih => simp only [List.length_cons, wk]; omega
end Go.Proofs.YtcejljehjhlonaaGreatDoor
namespace Go.Proofs.YtcejljehjhlonaaGreatDoor
open Go.RowKit

set_option maxRecDepth 20000 in
set_option maxHeartbeats 4000000 in
theorem among_any (l : List Cm) (v : Value) (c : Cm) (w : World) (h : CsP w v l) (hc : c.ok w) (hl : l.length <= 1000000000000000000) (zl : ∀ x ∈ l, x.szs) (zc : c.szs) :
  Calls Tryz.prog 29 #[v, c.v] w fun e w' => e = .returned (.bool (decide (c.key ∈ l.map Cm.key))) /\ Below w.heap.size w w' := by
 have HP : Hid (CsP w v l) := h
 have HC : Hid (c.ok w) := hc
 obtain ⟨va, vc, rfl⟩ := h.form
 have hsh := hc.shape
 have HCM : Hid (∀ x : Cm, x ∈ l -> ∀ Y : World, Below w.heap.size w Y -> Calls Tryz.prog 51 #[x.v, c.v] Y fun e w' => e = .returned (.int .i64 (cmpC x.key c.key)) /\ Below Y.heap.size Y w') := fun x hx Y hY => by
  rw [<- cmp_key]; exact rcompareC_any x c Y ((HP.out.ok x hx).later hY) (HC.out.later hY) (zl x hx) zc
 obtain ⟨R, hR⟩ : ∃ R, decide (c.key ∈ l.map Cm.key) = R := ⟨_, rfl⟩
 obtain ⟨KC, hKC⟩ : ∃ K, c.key = K := ⟨_, rfl⟩
 have HR : Hid (decide (KC ∈ l.map Cm.key) = R) := by show _ = _; rw [<- hKC]; exact hR
 rw [hR]
 rw [hKC] at HCM
 clear h hc hR hKC HC zl zc
 have hsv := True.intro
 obtain ⟨⟨⟨⟨ck, cm, cs⟩, cn, cl⟩, cx⟩, cb, cbv, ct, ctv⟩ := c
 simp only at hsh
 obtain ⟨⟨c1, c2, c3, e1⟩, ⟨c4, c6, e2⟩, ⟨c7, c9, e3⟩, -, -⟩ := hsh
 obtain ⟨c5, h5⟩ : ∃ n, cb.length = n := ⟨_, rfl⟩
 obtain ⟨c8, h8⟩ : ∃ n, ct.length = n := ⟨_, rfl⟩
 rw [h5] at e2
 rw [h8] at e3
 subst e1 e2 e3
 clear h5 h8
 clear hsv
 have BX0 : Hid (CBlk (w.alloc (.cells #[.int .i64 ck, .int .i64 cm, .string cs, .string cn, .slice c1 c2 c3, .slice c4 c5 c6, .slice c7 c8 c9] 60)) w.heap.size #[.int .i64 ck, .int .i64 cm, .string cs, .string cn, .slice c1 c2 c3, .slice c4 c5 c6, .slice c7 c8 c9] 60) := CBlk.new _ _ _
 go_enter Tryz.func29, Tryz.ntmps29
 go_wp2
 go_loopg [5] l.length (fun g i wr => ∃ j : Nat, j + g = l.length /\ i = .int .i64 (j : Int) /\ (∀ x ∈ l.take j, x.key ≠ KC) /\ CBlk wr w.heap.size #[.int .i64 ck, .int .i64 cm, .string cs, .string cn, .slice c1 c2 c3, .slice c4 c5 c6, .slice c7 c8 c9] 60 /\ Below w.heap.size w wr)
 case atStart => exact ⟨0, by omega, rfl, (fun x hx => by simp at hx), BX0.out, below1 _ _⟩
 case round =>
  obtain ⟨j, hg, rfl, hno, hbx, hb⟩ := hrel
  have HB : Hid (Below w.heap.size w wr) := hb
  have BT : Hid (CBlk wr w.heap.size #[.int .i64 ck, .int .i64 cm, .string cs, .string cn, .slice c1 c2 c3, .slice c4 c5 c6, .slice c7 c8 c9] 60) := hbx
  have HNO : Hid (∀ x ∈ l.take j, x.key ≠ KC) := hno
  clear hb hbx hno BX0
  cases gk with
  | succ g =>
   have i0 : (0 : Int) <= (j : Int) := by omega
   have i1 : (j : Int) < (l.length : Int) := by omega
   obtain ⟨x, hx⟩ : ∃ c, l[j]? = some c := ⟨_, List.getElem?_eq_getElem (by omega)⟩
   have hxm := List.mem_of_getElem? hx
   obtain ⟨sb, so, rfl, hrw⟩ := (HP.out.later HB.out).get hx
   have hz0 := hrw.1
   have hsv := hrw.seven hx
   have hsh := (HP.out.ok x hxm).shape
   have HCS0 := HCM.out x hxm
   have HNX0 : Hid (x.key ≠ KC -> ∀ y ∈ l.take (j + 1), y.key ≠ KC) := fun hne y hy => by
    rw [List.take_add_one, hx] at hy
    rcases List.mem_append.1 hy with hy | hy
    ·exact HNO.out y hy
    ·simp at hy; subst hy; exact hne
   have HYES0 : Hid (x.key = KC -> decide (KC ∈ l.map Cm.key) = true) := fun he => decide_eq_true (List.mem_map.2 ⟨x, hxm, he⟩)
   clear hx hxm hrw HNO
   obtain ⟨KX, hKX⟩ : ∃ K, x.key = K := ⟨_, rfl⟩
   rw [hKX] at HCS0 HNX0 HYES0
   clear hKX
   obtain ⟨⟨⟨⟨xk, xm, xs⟩, xn, xl⟩, xx⟩, xb, xbv, xt, xtv⟩ := x
   simp only at hsv hsh
   obtain ⟨⟨x1, x2, x3, e1⟩, ⟨x4, x6, e2⟩, ⟨x7, x9, e3⟩, -, -⟩ := hsh
   obtain ⟨x5, h5⟩ : ∃ n, xb.length = n := ⟨_, rfl⟩
   obtain ⟨x8, h8⟩ : ∃ n, xt.length = n := ⟨_, rfl⟩
   rw [h5] at e2
   rw [h8] at e3
   subst e1 e2 e3
   clear h5 h8
   obtain ⟨q0, q1, q2, q3, q4, q5, q6⟩ := hsv
   have HQ := conj7 q0 q1 q2 q3 q4 q5 q6
   have HQz : Hid (sb < wr.heap.size) := hz0
   clear q0 q1 q2 q3 q4 q5 q6 hz0
   by_cases hk : KX = KC
   ·have HCS : Hid (∀ Y : World, Below wr.heap.size wr Y -> Calls Tryz.prog 51 #[.agg #[.int .i64 xk, .int .i64 xm, .string xs, .string xn, .slice x1 x2 x3, .slice x4 x5 x6, .slice x7 x8 x9], .agg #[.int .i64 ck, .int .i64 cm, .string cs, .string cn, .slice c1 c2 c3, .slice c4 c5 c6, .slice c7 c8 c9]] Y fun e w' => e = .returned (.int .i64 0) /\ Below Y.heap.size Y w') := fun Y hY => by have := HCS0 Y (below_step HB.out hY); rw [hk, ord_c.refl] at this; exact this
    have HYES : Hid (R = true) := by show R = true; rw [<- HR.out]; exact HYES0.out hk
    clear HCS0 HNX0 HYES0 hk
    go_upto_region 4 with fail
    refine wp_region_held_drew (S := fun w' => Below wr.heap.size wr w') (by kernel_rfl) (Below.refl _ _).drew (fun hH => ?_)
    revert hH
    generalize wr.drew = V
    intro hH
    refine wTk 0 (.slice (some ⟨sb, so, none⟩) l.length vc) rfl (by kernel_rfl) (fun _ _ _ h => h) (Or.inl ⟨by rfl, fun w' _ => by go_simp⟩) hH ?_
    simp only [wA8, wB8, wC8, wD8]
    refine wTk 1 (.int .i64 (j : Int)) rfl (by kernel_rfl) (fun _ _ _ h => h) (Or.inl ⟨by rfl, fun w' _ => by go_simp⟩) hH ?_
    simp only [wA8, wB8, wC8, wD8]
    refine wTk 2 (.pointer (some ⟨sb, so + j * 7, none⟩)) rfl (by kernel_rfl) (fun _ _ _ h => h) (Or.inl ⟨by rfl, fun w' _ => by go_simp⟩) hH ?_
    simp only [wA8, wB8, wC8, wD8]
    refine wTk 3 (.agg #[.int .i64 xk, .int .i64 xm, .string xs, .string xn, .slice x1 x2 x3, .slice x4 x5 x6, .slice x7 x8 x9]) rfl (by kernel_rfl) (fun _ _ _ h => h) (Or.inl ⟨by rfl, fun w' h => by obtain ⟨q0, q1, q2, q3, q4, q5, q6⟩ := Hid.out HQ; have z := Hid.out HQz; have y0 := cell_step h z q0; have y1 := cell_step h z q1; have y2 := cell_step h z q2; have y3 := cell_step h z q3; have y4 := cell_step h z q4; have y5 := cell_step h z q5; have y6 := cell_step h z q6; clear q0 q1 q2 q3 q4 q5 q6; go_simp⟩) hH ?_
    simp only [wA8, wB8, wC8, wD8]
    refine wTk 4 (.agg #[.int .i64 ck, .int .i64 cm, .string cs, .string cn, .slice c1 c2 c3, .slice c4 c5 c6, .slice c7 c8 c9]) rfl (by kernel_rfl) (fun _ _ _ h => h) (Or.inl ⟨by rfl, fun w' h => by obtain ⟨x0, x1, x2, x3, x4, x5, x6⟩ := cseven (CBlk.later (Hid.out BT) h); clear h; go_simp⟩) hH ?_
    simp only [wA8, wB8, wC8, wD8]
    refine wRd 5 (by kernel_rfl) rfl (fun K hK => ?_)
    go_simp
    refine (HCS.out _ hH).mono ?_
    rintro e V1 ⟨rfl, hb⟩
    refine hK.out _ _ (below_step hH hb) (fun hH => ?_)
    clear hK K hb
    try simp only [wA8, wB8, wC8, wD8]
    refine wTk 6 (.bool true) rfl (by kernel_rfl) (fun _ _ _ h => h) (Or.inl ⟨by rfl, fun w' h => by clear h; go_simp⟩) hH ?_
    simp only [wA8, wB8, wC8, wD8]
    refine wpAnyH_done (by kernel_rfl) ?_ _
    go_wp2
    go_ret
    exact ⟨ret_bC HYES.out, below_step HB.out hH⟩
   ·obtain ⟨z, hz⟩ : ∃ z, cmpC KX KC = z := ⟨_, rfl⟩
    have hz0 : (z == 0) = false := by simpa using fun h => hk (ord_c.zero _ _ (hz.trans h))
    have HCS : Hid (∀ Y : World, Below wr.heap.size wr Y -> Calls Tryz.prog 51 #[.agg #[.int .i64 xk, .int .i64 xm, .string xs, .string xn, .slice x1 x2 x3, .slice x4 x5 x6, .slice x7 x8 x9], .agg #[.int .i64 ck, .int .i64 cm, .string cs, .string cn, .slice c1 c2 c3, .slice c4 c5 c6, .slice c7 c8 c9]] Y fun e w' => e = .returned (.int .i64 z) /\ Below Y.heap.size Y w') := fun Y hY => by have := HCS0 Y (below_step HB.out hY); rw [hz] at this; exact this
    clear hz
    have HNX : Hid (∀ y ∈ l.take (j + 1), y.key ≠ KC) := HNX0.out hk
    clear HCS0 HNX0 HYES0 hk
    go_upto_region 4 with fail
    refine wp_region_held_drew (S := fun w' => Below wr.heap.size wr w') (by kernel_rfl) (Below.refl _ _).drew (fun hH => ?_)
    revert hH
    generalize wr.drew = V
    intro hH
    refine wTk 0 (.slice (some ⟨sb, so, none⟩) l.length vc) rfl (by kernel_rfl) (fun _ _ _ h => h) (Or.inl ⟨by rfl, fun w' _ => by go_simp⟩) hH ?_
    simp only [wA8, wB8, wC8, wD8]
    refine wTk 1 (.int .i64 (j : Int)) rfl (by kernel_rfl) (fun _ _ _ h => h) (Or.inl ⟨by rfl, fun w' _ => by go_simp⟩) hH ?_
    simp only [wA8, wB8, wC8, wD8]
    refine wTk 2 (.pointer (some ⟨sb, so + j * 7, none⟩)) rfl (by kernel_rfl) (fun _ _ _ h => h) (Or.inl ⟨by rfl, fun w' _ => by go_simp⟩) hH ?_
    simp only [wA8, wB8, wC8, wD8]
    refine wTk 3 (.agg #[.int .i64 xk, .int .i64 xm, .string xs, .string xn, .slice x1 x2 x3, .slice x4 x5 x6, .slice x7 x8 x9]) rfl (by kernel_rfl) (fun _ _ _ h => h) (Or.inl ⟨by rfl, fun w' h => by obtain ⟨q0, q1, q2, q3, q4, q5, q6⟩ := Hid.out HQ; have z := Hid.out HQz; have y0 := cell_step h z q0; have y1 := cell_step h z q1; have y2 := cell_step h z q2; have y3 := cell_step h z q3; have y4 := cell_step h z q4; have y5 := cell_step h z q5; have y6 := cell_step h z q6; clear q0 q1 q2 q3 q4 q5 q6; go_simp⟩) hH ?_
    simp only [wA8, wB8, wC8, wD8]
    refine wTk 4 (.agg #[.int .i64 ck, .int .i64 cm, .string cs, .string cn, .slice c1 c2 c3, .slice c4 c5 c6, .slice c7 c8 c9]) rfl (by kernel_rfl) (fun _ _ _ h => h) (Or.inl ⟨by rfl, fun w' h => by obtain ⟨x0, x1, x2, x3, x4, x5, x6⟩ := cseven (CBlk.later (Hid.out BT) h); clear h; go_simp⟩) hH ?_
    simp only [wA8, wB8, wC8, wD8]
    refine wRd 5 (by kernel_rfl) rfl (fun K hK => ?_)
    go_simp
    refine (HCS.out _ hH).mono ?_
    rintro e V1 ⟨rfl, hb⟩
    refine hK.out _ _ (below_step hH hb) (fun hH => ?_)
    clear hK K hb
    try simp only [wA8, wB8, wC8, wD8]
    refine wTk 6 (.bool false) rfl (by kernel_rfl) (fun _ _ _ h => h) (Or.inl ⟨by rfl, fun w' h => by clear h; go_simp⟩) hH ?_
    simp only [wA8, wB8, wC8, wD8]
    refine wpAnyH_done (by kernel_rfl) ?_ _
    go_wp2
    go_roundg g
    case measure => omega
    case rel => exact ⟨j + 1, by omega, by go_num, HNX.out, BT.out.later hH, below_step HB.out hH⟩
  | zero =>
   have hjl : j = l.length := by omega
   have hz : ¬ ((j : Int) < (l.length : Int)) := by omega
   have HFF : Hid (R = false) := by
    show R = false
    rw [<- HR.out]
    refine decide_eq_false fun hm => ?_
    obtain ⟨x, hx, he⟩ := List.mem_map.1 hm
    exact HNO.out x (by rw [hjl, List.take_length]; exact hx) he
   clear HNO
   go_wp2
   go_ret
   exact ⟨ret_bC HFF.out, HB.out⟩
end Go.Proofs.YtcejljehjhlonaaGreatDoor
