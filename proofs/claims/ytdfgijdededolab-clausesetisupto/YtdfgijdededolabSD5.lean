/-
  Lists of clauses looked through, and compared. (Written by SD5.py.)
-/
import Derived.Test.YtdfgijdededolabSD4
namespace Go.Proofs.Ytdfgijdededolab
open Go.RowKit

theorem ret_bC {a b : Bool} (h : a = b) : Ending.returned (.bool b) = Ending.returned (.bool a) := by rw [h]
theorem CsP.get {w : World} {a : Option Addr} {n cap j : Nat} {l : List Cm} {c : Cm} (h : CsP w (.slice a n cap) l) (hc : l[j]? = some c) : ∃ b o, a = some ⟨b, o, none⟩ ∧ CRow w b o l := by
  rcases h.m with ⟨e, rfl⟩ | ⟨ad, cap', e, h2⟩
  · simp at hc
  · simp only [Value.slice.injEq] at e
    obtain ⟨rfl, -, -⟩ := e
    rcases h2 with rfl | ⟨b, o, rfl, h2⟩
    · simp at hc
    · exact ⟨b, o, rfl, h2⟩
set_option maxRecDepth 20000 in
set_option maxHeartbeats 4000000 in
theorem stands_any (l : List Cm) (v : Value) (c : Cm) (w : World) (h : CsP w v l) (hc : c.ok w) (hl : l.length ≤ 1000000000000000000) :
    Calls Try.prog 12 #[v, c.v] w fun e w' => e = .returned (.bool (decide (c.key ∈ l.map Cm.key))) ∧ Below w.heap.size w w' := by
  have HP : Hid (CsP w v l) := h
  have HC : Hid (c.ok w) := hc
  obtain ⟨va, vc, rfl⟩ := h.form
  have hsh := hc.shape
  have HCM : Hid (∀ x : Cm, x ∈ l → ∀ Y : World, Below w.heap.size w Y → Calls Try.prog 9 #[x.v, c.v] Y fun e w' => e = .returned (.bool (decide (x.key = c.key))) ∧ Below Y.heap.size Y w') := fun x hx Y hY => by
    rw [← same_key]; exact sameC_any x c Y ((HP.out.ok x hx).later hY) (HC.out.later hY)
  obtain ⟨R, hR⟩ : ∃ R, decide (c.key ∈ l.map Cm.key) = R := ⟨_, rfl⟩
  obtain ⟨KC, hKC⟩ : ∃ K, c.key = K := ⟨_, rfl⟩
  have HR : Hid (decide (KC ∈ l.map Cm.key) = R) := by show _ = _; rw [← hKC]; exact hR
  rw [hR]
  rw [hKC] at HCM
  clear h hc hR hKC HC
  have hsv := True.intro
  obtain ⟨⟨⟨⟨ck, cm, cs⟩, cn, cl⟩, cx⟩, cb, cbv, ct, ctv⟩ := c
  simp only at hsh
  obtain ⟨⟨c1, c2, c3, e1⟩, ⟨c4, c6, e2⟩, ⟨c7, c9, e3⟩, -, -⟩ := hsh
  obtain ⟨c5, h5⟩ : ∃ n, cb.length = n := ⟨_, rfl⟩
  obtain ⟨c8, h8⟩ : ∃ n, ct.length = n := ⟨_, rfl⟩
  rw [h5] at e2
  rw [h8] at e3
  subst e1 e2 e3
  clear h5 h8
  clear hsv
  have BX0 : Hid (CBlk (w.alloc (.cells #[.int .i64 ck, .int .i64 cm, .string cs, .string cn, .slice c1 c2 c3, .slice c4 c5 c6, .slice c7 c8 c9] 30)) w.heap.size #[.int .i64 ck, .int .i64 cm, .string cs, .string cn, .slice c1 c2 c3, .slice c4 c5 c6, .slice c7 c8 c9] 30) := CBlk.new _ _ _
  go_enter Try.func12, Try.ntmps12
  go_wp2
  go_loopg [5] l.length (fun g i wr => ∃ j : Nat, j + g = l.length ∧ i = .int .i64 (j : Int) ∧ (∀ x ∈ l.take j, x.key ≠ KC) ∧ CBlk wr w.heap.size #[.int .i64 ck, .int .i64 cm, .string cs, .string cn, .slice c1 c2 c3, .slice c4 c5 c6, .slice c7 c8 c9] 30 ∧ Below w.heap.size w wr)
  case atStart => exact ⟨0, by omega, rfl, (fun x hx => by simp at hx), BX0.out, below1 _ _⟩
  case round =>
    obtain ⟨j, hg, rfl, hno, hbx, hb⟩ := hrel
    have HB : Hid (Below w.heap.size w wr) := hb
    have BT : Hid (CBlk wr w.heap.size #[.int .i64 ck, .int .i64 cm, .string cs, .string cn, .slice c1 c2 c3, .slice c4 c5 c6, .slice c7 c8 c9] 30) := hbx
    have HNO : Hid (∀ x ∈ l.take j, x.key ≠ KC) := hno
    clear hb hbx hno BX0
    cases gk with
    | succ g =>
      have i0 : (0 : Int) ≤ (j : Int) := by omega
      have i1 : (j : Int) < (l.length : Int) := by omega
      obtain ⟨x, hx⟩ : ∃ c, l[j]? = some c := ⟨_, List.getElem?_eq_getElem (by omega)⟩
      have hxm := List.mem_of_getElem? hx
      obtain ⟨sb, so, rfl, hrw⟩ := (HP.out.later HB.out).get hx
      have hz0 := hrw.1
      have hsv := hrw.seven hx
      have hsh := (HP.out.ok x hxm).shape
      have HCS0 := HCM.out x hxm
      have HNX0 : Hid (x.key ≠ KC → ∀ y ∈ l.take (j + 1), y.key ≠ KC) := fun hne y hy => by
        rw [List.take_add_one, hx] at hy
        rcases List.mem_append.1 hy with hy | hy
        · exact HNO.out y hy
        · simp at hy; subst hy; exact hne
      have HYES0 : Hid (x.key = KC → decide (KC ∈ l.map Cm.key) = true) := fun he => decide_eq_true (List.mem_map.2 ⟨x, hxm, he⟩)
      clear hx hxm hrw HNO
      obtain ⟨KX, hKX⟩ : ∃ K, x.key = K := ⟨_, rfl⟩
      rw [hKX] at HCS0 HNX0 HYES0
      clear hKX
      obtain ⟨⟨⟨⟨xk, xm, xs⟩, xn, xl⟩, xx⟩, xb, xbv, xt, xtv⟩ := x
      simp only at hsv hsh
      obtain ⟨⟨x1, x2, x3, e1⟩, ⟨x4, x6, e2⟩, ⟨x7, x9, e3⟩, -, -⟩ := hsh
      obtain ⟨x5, h5⟩ : ∃ n, xb.length = n := ⟨_, rfl⟩
      obtain ⟨x8, h8⟩ : ∃ n, xt.length = n := ⟨_, rfl⟩
      rw [h5] at e2
      rw [h8] at e3
      subst e1 e2 e3
      clear h5 h8
      obtain ⟨q0, q1, q2, q3, q4, q5, q6⟩ := hsv
      have HQ := conj7 q0 q1 q2 q3 q4 q5 q6
      have HQz : Hid (sb < wr.heap.size) := hz0
      clear q0 q1 q2 q3 q4 q5 q6 hz0
      by_cases hk : KX = KC
      · have HCS : Hid (∀ Y : World, Below wr.heap.size wr Y → Calls Try.prog 9 #[.agg #[.int .i64 xk, .int .i64 xm, .string xs, .string xn, .slice x1 x2 x3, .slice x4 x5 x6, .slice x7 x8 x9], .agg #[.int .i64 ck, .int .i64 cm, .string cs, .string cn, .slice c1 c2 c3, .slice c4 c5 c6, .slice c7 c8 c9]] Y fun e w' => e = .returned (.bool true) ∧ Below Y.heap.size Y w') := fun Y hY => by have := HCS0 Y (below_step HB.out hY); rw [decide_eq_true hk] at this; exact this
        have HYES : Hid (R = true) := by show R = true; rw [← HR.out]; exact HYES0.out hk
        clear HCS0 HNX0 HYES0 hk
        go_upto_region 4 with fail
        refine wp_region_held_drew (S := fun w' => Below wr.heap.size wr w') (by kernel_rfl) (Below.refl _ _).drew (fun hH => ?_)
        revert hH
        generalize wr.drew = V
        intro hH
        refine wpAnyH_take (i := 0) (oi := ⟨_, _, _, _, _, _⟩) (v := .slice (some ⟨sb, so, none⟩) l.length vc) rfl (by kernel_rfl) (by kernel_rfl) (by kernel_rfl) (fun _ _ _ h => h) (Or.inl ⟨by rfl, fun w' _ => by go_simp⟩) hH ?_
        simp only [Act.put, List.setIfInBounds_toArray, List.set_cons_zero, List.set_cons_succ]
        refine wpAnyH_take (i := 1) (oi := ⟨_, _, _, _, _, _⟩) (v := .int .i64 (j : Int)) rfl (by kernel_rfl) (by kernel_rfl) (by kernel_rfl) (fun _ _ _ h => h) (Or.inl ⟨by rfl, fun w' _ => by go_simp⟩) hH ?_
        simp only [Act.put, List.setIfInBounds_toArray, List.set_cons_zero, List.set_cons_succ]
        refine wpAnyH_take (i := 2) (oi := ⟨_, _, _, _, _, _⟩) (v := .pointer (some ⟨sb, so + j * 7, none⟩)) rfl (by kernel_rfl) (by kernel_rfl) (by kernel_rfl) (fun _ _ _ h => h) (Or.inl ⟨by rfl, fun w' _ => by go_simp⟩) hH ?_
        simp only [Act.put, List.setIfInBounds_toArray, List.set_cons_zero, List.set_cons_succ]
        refine wpAnyH_take (i := 3) (oi := ⟨_, _, _, _, _, _⟩) (v := .agg #[.int .i64 xk, .int .i64 xm, .string xs, .string xn, .slice x1 x2 x3, .slice x4 x5 x6, .slice x7 x8 x9]) rfl (by kernel_rfl) (by kernel_rfl) (by kernel_rfl) (fun _ _ _ h => h) (Or.inl ⟨by rfl, fun w' h => by obtain ⟨q0, q1, q2, q3, q4, q5, q6⟩ := Hid.out HQ; have z := Hid.out HQz; have y0 := cell_step h z q0; have y1 := cell_step h z q1; have y2 := cell_step h z q2; have y3 := cell_step h z q3; have y4 := cell_step h z q4; have y5 := cell_step h z q5; have y6 := cell_step h z q6; clear q0 q1 q2 q3 q4 q5 q6; go_simp⟩) hH ?_
        simp only [Act.put, List.setIfInBounds_toArray, List.set_cons_zero, List.set_cons_succ]
        refine wpAnyH_take (i := 4) (oi := ⟨_, _, _, _, _, _⟩) (v := .agg #[.int .i64 ck, .int .i64 cm, .string cs, .string cn, .slice c1 c2 c3, .slice c4 c5 c6, .slice c7 c8 c9]) rfl (by kernel_rfl) (by kernel_rfl) (by kernel_rfl) (fun _ _ _ h => h) (Or.inl ⟨by rfl, fun w' h => by obtain ⟨x0, x1, x2, x3, x4, x5, x6⟩ := cseven (CBlk.later (Hid.out BT) h); clear h; go_simp⟩) hH ?_
        simp only [Act.put, List.setIfInBounds_toArray, List.set_cons_zero, List.set_cons_succ]
        refine wpAnyH_ready (rs := [5]) (by kernel_rfl) (by simp) ?_
        refine (AllReadyH.cons (o := ⟨_, _, _, _, _, _⟩) rfl (fun K hK => ?_) AllReadyH.nil)
        go_simp
        refine (HCS.out _ hH).mono ?_
        rintro e V1 ⟨rfl, hb⟩
        refine hK.out _ _ (below_step hH hb) (fun hH => ?_)
        clear hK K hb
        refine wpAnyH_done (by kernel_rfl) ?_ _
        go_wp2
        go_ret
        exact ⟨ret_bC HYES.out, below_step HB.out hH⟩
      · have HCS : Hid (∀ Y : World, Below wr.heap.size wr Y → Calls Try.prog 9 #[.agg #[.int .i64 xk, .int .i64 xm, .string xs, .string xn, .slice x1 x2 x3, .slice x4 x5 x6, .slice x7 x8 x9], .agg #[.int .i64 ck, .int .i64 cm, .string cs, .string cn, .slice c1 c2 c3, .slice c4 c5 c6, .slice c7 c8 c9]] Y fun e w' => e = .returned (.bool false) ∧ Below Y.heap.size Y w') := fun Y hY => by have := HCS0 Y (below_step HB.out hY); rw [decide_eq_false hk] at this; exact this
        have HNX : Hid (∀ y ∈ l.take (j + 1), y.key ≠ KC) := HNX0.out hk
        clear HCS0 HNX0 HYES0 hk
        go_upto_region 4 with fail
        refine wp_region_held_drew (S := fun w' => Below wr.heap.size wr w') (by kernel_rfl) (Below.refl _ _).drew (fun hH => ?_)
        revert hH
        generalize wr.drew = V
        intro hH
        refine wpAnyH_take (i := 0) (oi := ⟨_, _, _, _, _, _⟩) (v := .slice (some ⟨sb, so, none⟩) l.length vc) rfl (by kernel_rfl) (by kernel_rfl) (by kernel_rfl) (fun _ _ _ h => h) (Or.inl ⟨by rfl, fun w' _ => by go_simp⟩) hH ?_
        simp only [Act.put, List.setIfInBounds_toArray, List.set_cons_zero, List.set_cons_succ]
        refine wpAnyH_take (i := 1) (oi := ⟨_, _, _, _, _, _⟩) (v := .int .i64 (j : Int)) rfl (by kernel_rfl) (by kernel_rfl) (by kernel_rfl) (fun _ _ _ h => h) (Or.inl ⟨by rfl, fun w' _ => by go_simp⟩) hH ?_
        simp only [Act.put, List.setIfInBounds_toArray, List.set_cons_zero, List.set_cons_succ]
        refine wpAnyH_take (i := 2) (oi := ⟨_, _, _, _, _, _⟩) (v := .pointer (some ⟨sb, so + j * 7, none⟩)) rfl (by kernel_rfl) (by kernel_rfl) (by kernel_rfl) (fun _ _ _ h => h) (Or.inl ⟨by rfl, fun w' _ => by go_simp⟩) hH ?_
        simp only [Act.put, List.setIfInBounds_toArray, List.set_cons_zero, List.set_cons_succ]
        refine wpAnyH_take (i := 3) (oi := ⟨_, _, _, _, _, _⟩) (v := .agg #[.int .i64 xk, .int .i64 xm, .string xs, .string xn, .slice x1 x2 x3, .slice x4 x5 x6, .slice x7 x8 x9]) rfl (by kernel_rfl) (by kernel_rfl) (by kernel_rfl) (fun _ _ _ h => h) (Or.inl ⟨by rfl, fun w' h => by obtain ⟨q0, q1, q2, q3, q4, q5, q6⟩ := Hid.out HQ; have z := Hid.out HQz; have y0 := cell_step h z q0; have y1 := cell_step h z q1; have y2 := cell_step h z q2; have y3 := cell_step h z q3; have y4 := cell_step h z q4; have y5 := cell_step h z q5; have y6 := cell_step h z q6; clear q0 q1 q2 q3 q4 q5 q6; go_simp⟩) hH ?_
        simp only [Act.put, List.setIfInBounds_toArray, List.set_cons_zero, List.set_cons_succ]
        refine wpAnyH_take (i := 4) (oi := ⟨_, _, _, _, _, _⟩) (v := .agg #[.int .i64 ck, .int .i64 cm, .string cs, .string cn, .slice c1 c2 c3, .slice c4 c5 c6, .slice c7 c8 c9]) rfl (by kernel_rfl) (by kernel_rfl) (by kernel_rfl) (fun _ _ _ h => h) (Or.inl ⟨by rfl, fun w' h => by obtain ⟨x0, x1, x2, x3, x4, x5, x6⟩ := cseven (CBlk.later (Hid.out BT) h); clear h; go_simp⟩) hH ?_
        simp only [Act.put, List.setIfInBounds_toArray, List.set_cons_zero, List.set_cons_succ]
        refine wpAnyH_ready (rs := [5]) (by kernel_rfl) (by simp) ?_
        refine (AllReadyH.cons (o := ⟨_, _, _, _, _, _⟩) rfl (fun K hK => ?_) AllReadyH.nil)
        go_simp
        refine (HCS.out _ hH).mono ?_
        rintro e V1 ⟨rfl, hb⟩
        refine hK.out _ _ (below_step hH hb) (fun hH => ?_)
        clear hK K hb
        refine wpAnyH_done (by kernel_rfl) ?_ _
        go_wp2
        go_roundg g
        case measure => omega
        case rel => exact ⟨j + 1, by omega, by go_num, HNX.out, BT.out.later hH, below_step HB.out hH⟩
    | zero =>
      have hjl : j = l.length := by omega
      have hz : ¬ ((j : Int) < (l.length : Int)) := by omega
      have HFF : Hid (R = false) := by
        show R = false
        rw [← HR.out]
        refine decide_eq_false fun hm => ?_
        obtain ⟨x, hx, he⟩ := List.mem_map.1 hm
        exact HNO.out x (by rw [hjl, List.take_length]; exact hx) he
      clear HNO
      go_wp2
      go_ret
      exact ⟨ret_bC HFF.out, HB.out⟩
set_option maxRecDepth 20000 in
set_option maxHeartbeats 4000000 in
theorem sameCs_any (l q : List Cm) (v u : Value) (w : World) (h : CsP w v l) (hu : CsP w u q) (hl : l.length ≤ 1000000000000000000) :
    Calls Try.prog 13 #[v, u] w fun e w' => e = .returned (.bool (decide (l.map Cm.key = q.map Cm.key))) ∧ Below w.heap.size w w' := by
  have HP : Hid (CsP w v l) := h
  have HU : Hid (CsP w u q) := hu
  obtain ⟨va, vc, rfl⟩ := h.form
  obtain ⟨ua, uc, rfl⟩ := hu.form
  by_cases hlen : l.length = q.length
  · have HCM : Hid (∀ x : Cm, x ∈ l → ∀ y : Cm, y ∈ q → ∀ Y : World, Below w.heap.size w Y → Calls Try.prog 9 #[x.v, y.v] Y fun e w' => e = .returned (.bool (decide (x.key = y.key))) ∧ Below Y.heap.size Y w') := fun x hx y hy Y hY => by
      rw [← same_key]; exact sameC_any x y Y ((HP.out.ok x hx).later hY) ((HU.out.ok y hy).later hY)
    obtain ⟨R, hR⟩ : ∃ R, decide (l.map Cm.key = q.map Cm.key) = R := ⟨_, rfl⟩
    have HR : Hid (decide (l.map Cm.key = q.map Cm.key) = R) := hR
    have HLL : Hid (l.length = q.length) := hlen
    rw [hR]
    have n1 : ((l.length : Int) != (l.length : Int)) = false := by simp
    rw [← hlen] at HU ⊢
    clear h hu hR hlen
    go_enter Try.func13, Try.ntmps13
    go_wp2
    go_loopg [5] l.length (fun g i wr => ∃ j : Nat, j + g = l.length ∧ i = .int .i64 (j : Int) ∧ (l.take j).map Cm.key = (q.take j).map Cm.key ∧ Below w.heap.size w wr)
    case atStart => exact ⟨0, by omega, rfl, rfl, Below.refl _ _⟩
    case round =>
      obtain ⟨j, hg, rfl, hno, hb⟩ := hrel
      have HB : Hid (Below w.heap.size w wr) := hb
      have HEQ : Hid ((l.take j).map Cm.key = (q.take j).map Cm.key) := hno
      clear hb hno
      cases gk with
      | succ g =>
        have i0 : (0 : Int) ≤ (j : Int) := by omega
        have i1 : (j : Int) < (l.length : Int) := by omega
        obtain ⟨x, hx⟩ : ∃ c, l[j]? = some c := ⟨_, List.getElem?_eq_getElem (by omega)⟩
        obtain ⟨y, hy⟩ : ∃ c, q[j]? = some c := ⟨_, List.getElem?_eq_getElem (by have := HLL.out; omega)⟩
        have hxm := List.mem_of_getElem? hx
        have hym := List.mem_of_getElem? hy
        obtain ⟨sb, so, rfl, hrw⟩ := (HP.out.later HB.out).get hx
        have hz0 := hrw.1
        have hsv := hrw.seven hx
        obtain ⟨sd, sq, rfl, hrw2⟩ := (HU.out.later HB.out).get hy
        have hz2 := hrw2.1
        have hsv2 := hrw2.seven hy
        have hsh := (HP.out.ok x hxm).shape
        have hsh2 := (HU.out.ok y hym).shape
        have HCS0 := HCM.out x hxm y hym
        have HNX0 : Hid (x.key = y.key → (l.take (j + 1)).map Cm.key = (q.take (j + 1)).map Cm.key) := fun he => by
          rw [List.take_add_one, hx, List.take_add_one, hy, List.map_append, List.map_append, HEQ.out]
          simp [he]
        have HNO0 : Hid (¬ x.key = y.key → decide (l.map Cm.key = q.map Cm.key) = false) := fun hne => decide_eq_false fun he => hne (by
          have h1 : (l.map Cm.key)[j]? = (q.map Cm.key)[j]? := by rw [he]
          rw [List.getElem?_map, List.getElem?_map, hx, hy] at h1
          exact Option.some.inj h1)
        clear hx hy hxm hym hrw hrw2 HEQ
        obtain ⟨KX, hKX⟩ : ∃ K, x.key = K := ⟨_, rfl⟩
        obtain ⟨KC, hKC⟩ : ∃ K, y.key = K := ⟨_, rfl⟩
        rw [hKX, hKC] at HCS0 HNX0 HNO0
        clear hKX hKC
        obtain ⟨⟨⟨⟨xk, xm, xs⟩, xn, xl⟩, xx⟩, xb, xbv, xt, xtv⟩ := x
        simp only at hsv hsh
        obtain ⟨⟨x1, x2, x3, e1⟩, ⟨x4, x6, e2⟩, ⟨x7, x9, e3⟩, -, -⟩ := hsh
        obtain ⟨x5, h5⟩ : ∃ n, xb.length = n := ⟨_, rfl⟩
        obtain ⟨x8, h8⟩ : ∃ n, xt.length = n := ⟨_, rfl⟩
        rw [h5] at e2
        rw [h8] at e3
        subst e1 e2 e3
        clear h5 h8
        obtain ⟨⟨⟨⟨ck, cm, cs⟩, cn, cl⟩, cx⟩, cb, cbv, ct, ctv⟩ := y
        simp only at hsv2 hsh2
        obtain ⟨⟨c1, c2, c3, e1⟩, ⟨c4, c6, e2⟩, ⟨c7, c9, e3⟩, -, -⟩ := hsh2
        obtain ⟨c5, h5⟩ : ∃ n, cb.length = n := ⟨_, rfl⟩
        obtain ⟨c8, h8⟩ : ∃ n, ct.length = n := ⟨_, rfl⟩
        rw [h5] at e2
        rw [h8] at e3
        subst e1 e2 e3
        clear h5 h8
        obtain ⟨q0, q1, q2, q3, q4, q5, q6⟩ := hsv
        have HQ := conj7 q0 q1 q2 q3 q4 q5 q6
        have HQz : Hid (sb < wr.heap.size) := hz0
        clear q0 q1 q2 q3 q4 q5 q6 hz0
        obtain ⟨q0, q1, q2, q3, q4, q5, q6⟩ := hsv2
        have HR2 := conj7 q0 q1 q2 q3 q4 q5 q6
        have HRz : Hid (sd < wr.heap.size) := hz2
        clear q0 q1 q2 q3 q4 q5 q6 hz2
        by_cases hk : KX = KC
        · have HCS : Hid (∀ Y : World, Below wr.heap.size wr Y → Calls Try.prog 9 #[.agg #[.int .i64 xk, .int .i64 xm, .string xs, .string xn, .slice x1 x2 x3, .slice x4 x5 x6, .slice x7 x8 x9], .agg #[.int .i64 ck, .int .i64 cm, .string cs, .string cn, .slice c1 c2 c3, .slice c4 c5 c6, .slice c7 c8 c9]] Y fun e w' => e = .returned (.bool true) ∧ Below Y.heap.size Y w') := fun Y hY => by have := HCS0 Y (below_step HB.out hY); rw [decide_eq_true hk] at this; exact this
          have HNX := HNX0.out hk
          have HNX : Hid ((l.take (j + 1)).map Cm.key = (q.take (j + 1)).map Cm.key) := HNX
          clear HCS0 HNX0 HNO0 hk
          go_upto_region 6 with fail
          refine wp_region_held_drew (S := fun w' => Below wr.heap.size wr w') (by kernel_rfl) (Below.refl _ _).drew (fun hH => ?_)
          revert hH
          generalize wr.drew = V
          intro hH
          refine wpAnyH_take (i := 0) (oi := ⟨_, _, _, _, _, _⟩) (v := .slice (some ⟨sb, so, none⟩) l.length vc) rfl (by kernel_rfl) (by kernel_rfl) (by kernel_rfl) (fun _ _ _ h => h) (Or.inl ⟨by rfl, fun w' _ => by go_simp⟩) hH ?_
          simp only [Act.put, List.setIfInBounds_toArray, List.set_cons_zero, List.set_cons_succ]
          refine wpAnyH_take (i := 1) (oi := ⟨_, _, _, _, _, _⟩) (v := .int .i64 (j : Int)) rfl (by kernel_rfl) (by kernel_rfl) (by kernel_rfl) (fun _ _ _ h => h) (Or.inl ⟨by rfl, fun w' _ => by go_simp⟩) hH ?_
          simp only [Act.put, List.setIfInBounds_toArray, List.set_cons_zero, List.set_cons_succ]
          refine wpAnyH_take (i := 2) (oi := ⟨_, _, _, _, _, _⟩) (v := .pointer (some ⟨sb, so + j * 7, none⟩)) rfl (by kernel_rfl) (by kernel_rfl) (by kernel_rfl) (fun _ _ _ h => h) (Or.inl ⟨by rfl, fun w' _ => by go_simp⟩) hH ?_
          simp only [Act.put, List.setIfInBounds_toArray, List.set_cons_zero, List.set_cons_succ]
          refine wpAnyH_take (i := 3) (oi := ⟨_, _, _, _, _, _⟩) (v := .agg #[.int .i64 xk, .int .i64 xm, .string xs, .string xn, .slice x1 x2 x3, .slice x4 x5 x6, .slice x7 x8 x9]) rfl (by kernel_rfl) (by kernel_rfl) (by kernel_rfl) (fun _ _ _ h => h) (Or.inl ⟨by rfl, fun w' h => by obtain ⟨q0, q1, q2, q3, q4, q5, q6⟩ := Hid.out HQ; have z := Hid.out HQz; have y0 := cell_step h z q0; have y1 := cell_step h z q1; have y2 := cell_step h z q2; have y3 := cell_step h z q3; have y4 := cell_step h z q4; have y5 := cell_step h z q5; have y6 := cell_step h z q6; clear q0 q1 q2 q3 q4 q5 q6; go_simp⟩) hH ?_
          simp only [Act.put, List.setIfInBounds_toArray, List.set_cons_zero, List.set_cons_succ]
          refine wpAnyH_take (i := 4) (oi := ⟨_, _, _, _, _, _⟩) (v := .slice (some ⟨sd, sq, none⟩) l.length uc) rfl (by kernel_rfl) (by kernel_rfl) (by kernel_rfl) (fun _ _ _ h => h) (Or.inl ⟨by rfl, fun w' _ => by go_simp⟩) hH ?_
          simp only [Act.put, List.setIfInBounds_toArray, List.set_cons_zero, List.set_cons_succ]
          refine wpAnyH_take (i := 5) (oi := ⟨_, _, _, _, _, _⟩) (v := .int .i64 (j : Int)) rfl (by kernel_rfl) (by kernel_rfl) (by kernel_rfl) (fun _ _ _ h => h) (Or.inl ⟨by rfl, fun w' _ => by go_simp⟩) hH ?_
          simp only [Act.put, List.setIfInBounds_toArray, List.set_cons_zero, List.set_cons_succ]
          refine wpAnyH_take (i := 6) (oi := ⟨_, _, _, _, _, _⟩) (v := .pointer (some ⟨sd, sq + j * 7, none⟩)) rfl (by kernel_rfl) (by kernel_rfl) (by kernel_rfl) (fun _ _ _ h => h) (Or.inl ⟨by rfl, fun w' _ => by go_simp⟩) hH ?_
          simp only [Act.put, List.setIfInBounds_toArray, List.set_cons_zero, List.set_cons_succ]
          refine wpAnyH_take (i := 7) (oi := ⟨_, _, _, _, _, _⟩) (v := .agg #[.int .i64 ck, .int .i64 cm, .string cs, .string cn, .slice c1 c2 c3, .slice c4 c5 c6, .slice c7 c8 c9]) rfl (by kernel_rfl) (by kernel_rfl) (by kernel_rfl) (fun _ _ _ h => h) (Or.inl ⟨by rfl, fun w' h => by obtain ⟨q0, q1, q2, q3, q4, q5, q6⟩ := Hid.out HR2; have z := Hid.out HRz; have y0 := cell_step h z q0; have y1 := cell_step h z q1; have y2 := cell_step h z q2; have y3 := cell_step h z q3; have y4 := cell_step h z q4; have y5 := cell_step h z q5; have y6 := cell_step h z q6; clear q0 q1 q2 q3 q4 q5 q6; go_simp⟩) hH ?_
          simp only [Act.put, List.setIfInBounds_toArray, List.set_cons_zero, List.set_cons_succ]
          refine wpAnyH_ready (rs := [8]) (by kernel_rfl) (by simp) ?_
          refine (AllReadyH.cons (o := ⟨_, _, _, _, _, _⟩) rfl (fun K hK => ?_) AllReadyH.nil)
          go_simp
          refine (HCS.out _ hH).mono ?_
          rintro e V1 ⟨rfl, hb⟩
          refine hK.out _ _ (below_step hH hb) (fun hH => ?_)
          clear hK K hb
          refine wpAnyH_take (i := 9) (oi := ⟨_, _, _, _, _, _⟩) (v := .bool false) rfl (by kernel_rfl) (by kernel_rfl) (by kernel_rfl) (fun _ _ _ h => h) (Or.inl ⟨by rfl, fun w' _ => by go_simp⟩) hH ?_
          simp only [Act.put, List.setIfInBounds_toArray, List.set_cons_zero, List.set_cons_succ]
          refine wpAnyH_done (by kernel_rfl) ?_ _
          go_wp2
          go_roundg g
          case measure => omega
          case rel => exact ⟨j + 1, by omega, by go_num, HNX.out, below_step HB.out hH⟩
        · have HCS : Hid (∀ Y : World, Below wr.heap.size wr Y → Calls Try.prog 9 #[.agg #[.int .i64 xk, .int .i64 xm, .string xs, .string xn, .slice x1 x2 x3, .slice x4 x5 x6, .slice x7 x8 x9], .agg #[.int .i64 ck, .int .i64 cm, .string cs, .string cn, .slice c1 c2 c3, .slice c4 c5 c6, .slice c7 c8 c9]] Y fun e w' => e = .returned (.bool false) ∧ Below Y.heap.size Y w') := fun Y hY => by have := HCS0 Y (below_step HB.out hY); rw [decide_eq_false hk] at this; exact this
          have HNO : Hid (R = false) := by show R = false; rw [← HR.out]; exact HNO0.out hk
          clear HCS0 HNX0 HNO0 hk
          go_upto_region 6 with fail
          refine wp_region_held_drew (S := fun w' => Below wr.heap.size wr w') (by kernel_rfl) (Below.refl _ _).drew (fun hH => ?_)
          revert hH
          generalize wr.drew = V
          intro hH
          refine wpAnyH_take (i := 0) (oi := ⟨_, _, _, _, _, _⟩) (v := .slice (some ⟨sb, so, none⟩) l.length vc) rfl (by kernel_rfl) (by kernel_rfl) (by kernel_rfl) (fun _ _ _ h => h) (Or.inl ⟨by rfl, fun w' _ => by go_simp⟩) hH ?_
          simp only [Act.put, List.setIfInBounds_toArray, List.set_cons_zero, List.set_cons_succ]
          refine wpAnyH_take (i := 1) (oi := ⟨_, _, _, _, _, _⟩) (v := .int .i64 (j : Int)) rfl (by kernel_rfl) (by kernel_rfl) (by kernel_rfl) (fun _ _ _ h => h) (Or.inl ⟨by rfl, fun w' _ => by go_simp⟩) hH ?_
          simp only [Act.put, List.setIfInBounds_toArray, List.set_cons_zero, List.set_cons_succ]
          refine wpAnyH_take (i := 2) (oi := ⟨_, _, _, _, _, _⟩) (v := .pointer (some ⟨sb, so + j * 7, none⟩)) rfl (by kernel_rfl) (by kernel_rfl) (by kernel_rfl) (fun _ _ _ h => h) (Or.inl ⟨by rfl, fun w' _ => by go_simp⟩) hH ?_
          simp only [Act.put, List.setIfInBounds_toArray, List.set_cons_zero, List.set_cons_succ]
          refine wpAnyH_take (i := 3) (oi := ⟨_, _, _, _, _, _⟩) (v := .agg #[.int .i64 xk, .int .i64 xm, .string xs, .string xn, .slice x1 x2 x3, .slice x4 x5 x6, .slice x7 x8 x9]) rfl (by kernel_rfl) (by kernel_rfl) (by kernel_rfl) (fun _ _ _ h => h) (Or.inl ⟨by rfl, fun w' h => by obtain ⟨q0, q1, q2, q3, q4, q5, q6⟩ := Hid.out HQ; have z := Hid.out HQz; have y0 := cell_step h z q0; have y1 := cell_step h z q1; have y2 := cell_step h z q2; have y3 := cell_step h z q3; have y4 := cell_step h z q4; have y5 := cell_step h z q5; have y6 := cell_step h z q6; clear q0 q1 q2 q3 q4 q5 q6; go_simp⟩) hH ?_
          simp only [Act.put, List.setIfInBounds_toArray, List.set_cons_zero, List.set_cons_succ]
          refine wpAnyH_take (i := 4) (oi := ⟨_, _, _, _, _, _⟩) (v := .slice (some ⟨sd, sq, none⟩) l.length uc) rfl (by kernel_rfl) (by kernel_rfl) (by kernel_rfl) (fun _ _ _ h => h) (Or.inl ⟨by rfl, fun w' _ => by go_simp⟩) hH ?_
          simp only [Act.put, List.setIfInBounds_toArray, List.set_cons_zero, List.set_cons_succ]
          refine wpAnyH_take (i := 5) (oi := ⟨_, _, _, _, _, _⟩) (v := .int .i64 (j : Int)) rfl (by kernel_rfl) (by kernel_rfl) (by kernel_rfl) (fun _ _ _ h => h) (Or.inl ⟨by rfl, fun w' _ => by go_simp⟩) hH ?_
          simp only [Act.put, List.setIfInBounds_toArray, List.set_cons_zero, List.set_cons_succ]
          refine wpAnyH_take (i := 6) (oi := ⟨_, _, _, _, _, _⟩) (v := .pointer (some ⟨sd, sq + j * 7, none⟩)) rfl (by kernel_rfl) (by kernel_rfl) (by kernel_rfl) (fun _ _ _ h => h) (Or.inl ⟨by rfl, fun w' _ => by go_simp⟩) hH ?_
          simp only [Act.put, List.setIfInBounds_toArray, List.set_cons_zero, List.set_cons_succ]
          refine wpAnyH_take (i := 7) (oi := ⟨_, _, _, _, _, _⟩) (v := .agg #[.int .i64 ck, .int .i64 cm, .string cs, .string cn, .slice c1 c2 c3, .slice c4 c5 c6, .slice c7 c8 c9]) rfl (by kernel_rfl) (by kernel_rfl) (by kernel_rfl) (fun _ _ _ h => h) (Or.inl ⟨by rfl, fun w' h => by obtain ⟨q0, q1, q2, q3, q4, q5, q6⟩ := Hid.out HR2; have z := Hid.out HRz; have y0 := cell_step h z q0; have y1 := cell_step h z q1; have y2 := cell_step h z q2; have y3 := cell_step h z q3; have y4 := cell_step h z q4; have y5 := cell_step h z q5; have y6 := cell_step h z q6; clear q0 q1 q2 q3 q4 q5 q6; go_simp⟩) hH ?_
          simp only [Act.put, List.setIfInBounds_toArray, List.set_cons_zero, List.set_cons_succ]
          refine wpAnyH_ready (rs := [8]) (by kernel_rfl) (by simp) ?_
          refine (AllReadyH.cons (o := ⟨_, _, _, _, _, _⟩) rfl (fun K hK => ?_) AllReadyH.nil)
          go_simp
          refine (HCS.out _ hH).mono ?_
          rintro e V1 ⟨rfl, hb⟩
          refine hK.out _ _ (below_step hH hb) (fun hH => ?_)
          clear hK K hb
          refine wpAnyH_take (i := 9) (oi := ⟨_, _, _, _, _, _⟩) (v := .bool true) rfl (by kernel_rfl) (by kernel_rfl) (by kernel_rfl) (fun _ _ _ h => h) (Or.inl ⟨by rfl, fun w' _ => by go_simp⟩) hH ?_
          simp only [Act.put, List.setIfInBounds_toArray, List.set_cons_zero, List.set_cons_succ]
          refine wpAnyH_done (by kernel_rfl) ?_ _
          go_wp2
          go_ret
          exact ⟨ret_bC HNO.out, below_step HB.out hH⟩
      | zero =>
        have hjl : j = l.length := by omega
        have hz : ¬ ((j : Int) < (l.length : Int)) := by omega
        have HFF : Hid (R = true) := by
          show R = true
          rw [← HR.out]
          have := HEQ.out
          rw [hjl, List.take_length, HLL.out, List.take_length] at this
          exact decide_eq_true this
        clear HEQ
        go_wp2
        go_ret
        exact ⟨ret_bC HFF.out, HB.out⟩
  · have e : decide (l.map Cm.key = q.map Cm.key) = false := decide_eq_false fun he => hlen (by simpa using congrArg List.length he)
    rw [e]
    obtain ⟨A, hA⟩ : ∃ A : Nat, l.length = A := ⟨_, rfl⟩
    obtain ⟨B, hB⟩ : ∃ B : Nat, q.length = B := ⟨_, rfl⟩
    rw [hA, hB] at hlen ⊢
    have n2 : ((A : Int) == (B : Int)) = false := beq_eq_false_iff_ne.2 (by omega)
    have n1 : ((A : Int) != (B : Int)) = true := by rw [bne, n2]; rfl
    have n3 : ¬ ((A : Int) = (B : Int)) := by omega
    clear e hA hB h hu hl HP HU
    go_enter Try.func13, Try.ntmps13
    go_wp2
    go_ret
    exact ⟨rfl, Below.refl _ _⟩
end Go.Proofs.Ytdfgijdededolab
