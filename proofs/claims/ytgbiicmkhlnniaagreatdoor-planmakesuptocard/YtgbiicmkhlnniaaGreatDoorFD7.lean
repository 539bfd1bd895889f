/-
  ref 9: Make. (Written by FD7.py.)
-/
import Derived.Test.YtgbiicmkhlnniaaGreatDoorFD6
namespace Go.Proofs.YtgbiicmkhlnniaaGreatDoor
open Go.RowKit
attribute [local go_sem ↓] Go.wp_at_zero Go.wp_at_succ

/-- The loop's state behind one more join. -/
theorem RT9.mk9 {w : World} {C : Cm} {lead : Int} {cb rb pb gg n : Nat} {ov vv kv av jv kw tw : Value} {wr : World} {l : List (Js9 × Value × Value)} {met met' : List Bool} {A A' O Vs K : List Int} {XJ : Js9} (hX : jr9 C met (T9 C met) n = XJ)
    (h1 : (O ++ [(n : Int)]).length + gg = C.body.length) (h2 : Vs.length ≤ 100 * (O ++ [(n : Int)]).length) (h3 : (K ++ (jr9 C met (T9 C met) n).t).length ≤ 100 * (O ++ [(n : Int)]).length)
    (h4 : RS9 w C cb rb pb av jv (l ++ [(XJ, kw, tw)]) ((av, ah9 C) :: (ov, O ++ [(n : Int)]) :: (vv, Vs) :: (kv, K ++ (jr9 C met (T9 C met) n).t) :: (LJ9 l ++ [(kw, (jr9 C met (T9 C met) n).k), (tw, (jr9 C met (T9 C met) n).t)])) wr)
    (h5 : Rl9 C met' A' (O ++ [(n : Int)]) Vs (K ++ (jr9 C met (T9 C met) n).t)) (h6 : R9 C lead met A O = jr9 C met (T9 C met) n :: R9 C lead met' A' (O ++ [(n : Int)])) (h7 : l.map Prod.fst ++ R9 C lead met A O = js9 C lead) : RT9 w C lead cb rb pb gg ov vv kv wr := by
  rw [hX] at h3 h4 h5 h6
  refine ⟨av, jv, l ++ [(XJ, kw, tw)], met', A', O ++ [(n : Int)], Vs, K ++ XJ.t, h1, h2, h3, ?_, h5, fun e => by simp at e, ?_⟩
  · rw [show LJ9 (l ++ [(XJ, kw, tw)]) = LJ9 l ++ [(kw, XJ.k), (tw, XJ.t)] by simp [LJ9]]
    exact h4
  · rw [← h7, h6, List.map_append, List.append_assoc]; rfl
set_option maxRecDepth 40000 in
set_option maxHeartbeats 8000000 in
theorem rmake9_any (c : Cm) (lead : Int) (w : World) (h : c.ok w) (hh : TsP w c.head.2 c.head.1.args) (hp : ∀ x ∈ c.body, TsP w x.2 x.1.args) (hbp : AsP w c.bv c.body) :
    Calls Tryz.prog 6 #[c.v, .int .i64 lead] w (MkR9 c lead w) := by
  obtain ⟨C, hC⟩ : ∃ C : Cm, C = c := ⟨_, rfl⟩
  suffices H : Calls Tryz.prog 6 #[c.v, .int .i64 lead] w (MkR9 C lead w) by rw [hC] at H; exact H
  obtain ⟨⟨a, hn, cap, h1⟩, ⟨a1, cap1, h2⟩, ⟨a2, cap2, h3⟩, -, -⟩ := h.shape
  have HER : Hid (∀ X : World, Below w.heap.size w X → Calls Tryz.prog 15 #[c.v, .int .i64 lead] X fun e w' => e = .returned (.int .i64 (er9 C lead)) ∧ Below X.heap.size X w') := fun X hX => by rw [hC]; exact errors9_any c lead X (h.later hX) (hh.later hX) (fun x hx => (hp x hx).later hX) (hbp.later hX)
  have HOK : Hid (C.ok w) := by rw [hC]; exact h
  have HTP : Hid (∀ x ∈ C.body, TsP w x.2 x.1.args) := by rw [hC]; exact hp
  have HCS : Hid (C.cs = c.cs ∧ C.bv = c.bv ∧ C.tv = c.tv ∧ C.body.length = c.body.length ∧ C.tests.length = c.tests.length) := by rw [hC]; exact ⟨rfl, rfl, rfl, rfl, rfl⟩
  clear h hh hp hbp hC
  obtain ⟨⟨⟨⟨k, m, s⟩, nm, ls⟩, hx⟩, body, bv, tests, tv⟩ := c
  simp only at h1 h2 h3 HCS
  subst h1 h2 h3
  generalize body.length = nb at *
  generalize tests.length = nt at *
  have HER1 : Hid (∀ X : World, Below w.heap.size w X → Calls Tryz.prog 15 #[.agg #[.int .i64 k, .int .i64 m, .string s, .string nm, .slice a hn cap, .slice a1 nb cap1, .slice a2 nt cap2], .int .i64 lead] X fun e w' => e = .returned (.int .i64 (er9 C lead)) ∧ Below X.heap.size X w') := HER.out
  clear HER
  obtain ⟨p1, p0, hb0⟩ := two8 w #[.int .i64 k, .int .i64 m, .string s, .string nm, .slice a hn cap, .slice a1 nb cap1, .slice a2 nt cap2] #[.slice none 0 0, .slice none 0 0] 30 35
  obtain ⟨Y0, hY0⟩ : ∃ Y0, (w.alloc (.cells #[.int .i64 k, .int .i64 m, .string s, .string nm, .slice a hn cap, .slice a1 nb cap1, .slice a2 nt cap2] 30)).alloc (.cells #[.slice none 0 0, .slice none 0 0] 35) = Y0 := ⟨_, rfl⟩
  rw [hY0] at p1 p0 hb0
  have HY0 := hm7 hY0
  have HB0 := hm7 hb0
  obtain ⟨q, hq⟩ : ∃ q, w.heap.size = q := ⟨_, rfl⟩
  have HQ := hm7 hq
  rw [hq] at p1 p0
  have HP0 := hm7 p0
  have HP1 := hm7 p1
  clear hY0 hb0 p0 p1 hq
  go_enter Tryz.func6, Tryz.ntmps6
  go_upto_region 1 with fail
  rw [HY0.out, HQ.out]
  clear HY0
  have d0 := HP0.out.cell (i := 0) rfl
  have d1 := HP0.out.cell (i := 1) rfl
  have d2 := HP0.out.cell (i := 2) rfl
  have d3 := HP0.out.cell (i := 3) rfl
  have d4 := HP0.out.cell (i := 4) rfl
  have d5 := HP0.out.cell (i := 5) rfl
  have d6 := HP0.out.cell (i := 6) rfl
  go_upto_region 2 with (go_at_call 15; refine (HER1.out _ HB0.out).mono ?_; rintro e W1 ⟨rfl, hb⟩; have HW1 := hm7 (HB0.out.trans (hb.mono HB0.out.size)); have HC1 := hm7 (HP0.out.below hb); have HR1 := hm7 (HP1.out.below hb); clear hb d0 d1 d2 d3 d4 d5 d6 HER1 HP0 HP1)
  obtain ⟨er, her⟩ : ∃ er, er9 C lead = er := ⟨_, rfl⟩
  rw [her]
  have HE := hm7 her
  clear her
  have r0 := HR1.out.cell (i := 0) rfl
  have r1 := HR1.out.cell (i := 1) rfl
  have f0 := HR1.out.froz 0
  have f1 := HR1.out.froz 1
  by_cases hk : er = 0
  · subst hk
    have hchk : C.chk = 0 ∧ -1 ≤ lead ∧ lead < (C.body.length : Int) := by
      have h1 := HE.out
      unfold er9 at h1
      by_cases c0 : C.chk = 0
      · rw [if_neg (by simp [c0])] at h1
        by_cases c1 : lead < -1 ∨ (C.body.length : Int) ≤ lead
        · rw [if_pos c1] at h1; omega
        · exact ⟨c0, by omega, by omega⟩
      · rw [if_pos c0] at h1; exact absurd h1 c0
    have HCK := hm7 hchk
    have HVL := hm7 (chk_err9 hchk.1)
    clear hchk
    have hln := chk_len9 HCK.out.1
    rw [HCS.out.2.2.2.1, HCS.out.2.2.2.2] at hln
    have hnb8 : nb ≤ 8 := hln.1
    have hnt8 : nt ≤ 8 := hln.2
    clear hln
    go_upto_region 5 with fail
    have hrs := RS9.start (c := C) HW1.out (by rw [HCS.out.1]; exact HC1.out) HR1.out (by have := HQ.out; omega) (by have := HQ.out; omega)
    revert hrs
    generalize W1.alloc (.cells #[.slice none 0 0, .slice none 0 0] 35) = W2
    generalize W1.heap.size = pb
    intro hrs
    have HRS := hm7 hrs
    clear hrs r0 r1 f0 f1 HC1 HR1 HW1
    have HTT : Hid (Es w (.slice a2 nt cap2) C.tests) := by have := HOK.out.t; rw [HCS.out.2.2.1] at this; exact this
    have HBB : Hid (As w (.slice a1 nb cap1) C.body) := by have := HOK.out.b; rw [HCS.out.2.1] at this; exact this
    go_wp2_with fail
    go_loopg [8] nt (fun gg i wr => ∃ (j : Nat) (av : Value), j + gg = nt ∧ i = .int .i64 j ∧ RS9 w C q (q + 1) pb av (.slice none 0 0) [] [(av, ah9i C j), (.slice none 0 0, []), (.slice none 0 0, []), (.slice none 0 0, [])] wr)
    case atStart => exact ⟨0, _, by omega, rfl, HRS.out⟩
    case round =>
      obtain ⟨j, av, hj, rfl, hrs⟩ := hrel
      have HS := hm7 hrs
      clear hrs HRS
      have hcb := HS.out.bc
      rw [HCS.out.1] at hcb
      have d6 := hcb.cell (i := 6) rfl
      have d5 := hcb.cell (i := 5) rfl
      clear hcb
      cases gk with
      | succ gg =>
        have hjl : j < C.tests.length := by rw [HCS.out.2.2.2.2]; omega
        obtain ⟨t, ht⟩ : ∃ t, C.tests[j]? = some t := ⟨_, List.getElem?_eq_getElem hjl⟩
        have htk := tv9_nil HVL.out ht
        have HAS := hm7 (ah9i_succ C j)
        rw [← htk] at HAS
        obtain ⟨tb, to', rfl, htl, t0, ⟨t1, t2, t3⟩, t4, t5, t6⟩ := HTT.out.get9 ht
        have t0 := cell_stepB HS.out.be htl t0
        have t1 := cell_stepB HS.out.be htl t1
        have t2 := cell_stepB HS.out.be htl t2
        have t3 := cell_stepB HS.out.be htl t3
        have t4 := cell_stepB HS.out.be htl t4
        have t5 := cell_stepB HS.out.be htl t5
        have t6 := cell_stepB HS.out.be htl t6
        have htw : tb < wr.heap.size := Nat.lt_of_lt_of_le htl HS.out.be.size
        have hlt : (j : Int) < (nt : Int) := by omega
        have HTV := hm7 (testVars9_any t)
        obtain ⟨op, ⟨lk, ln, ls'⟩, ⟨rk, rn, rs⟩⟩ := t
        simp only at t0 t1 t2 t3 t4 t5 t6
        obtain ⟨TL, hTL⟩ : ∃ TL, tv9 ⟨op, ⟨lk, ln, ls'⟩, ⟨rk, rn, rs⟩⟩ = TL := ⟨_, rfl⟩
        rw [hTL] at HAS HTV
        have HTV1 : Hid (∀ X : World, Calls Tryz.prog 16 #[.agg #[.int .i64 op, .int .i64 lk, .int .i64 ln, .string ls', .int .i64 rk, .int .i64 rn, .string rs]] X fun e w' => ∃ v', e = .returned v' ∧ OwI w' X.heap.size v' TL ∧ Below X.heap.size X w') := HTV.out
        clear htk ht hjl hTL HTV
        obtain ⟨va, vc, hvf, -⟩ := row7_form (HS.out.ll.own _ (List.mem_cons_self ..))
        obtain ⟨an, han⟩ : ∃ an, (ah9i C j).length = an := ⟨_, rfl⟩
        have hanj : an ≤ j := by rw [← han]; exact Nat.le_trans (List.length_filter_le _ _) (by rw [up9_len]; exact Nat.le_refl _)
        simp only at hvf
        rw [han] at hvf
        subst hvf
        have HAN := hm7 han
        clear han
        have fp := HS.out.bp.froz 0
        have p0 := HS.out.bp.cell (i := 0) rfl
        cases TL with
        | nil =>
          rw [if_pos (by simp)] at HAS
          go_upto_region 9 with (go_at_call 16; refine (HTV1.out _).mono ?_; rintro e W3 ⟨tv', rfl, hot, hb3⟩; obtain ⟨xa, xc, hxf, -⟩ := row7_form hot; rw [List.length_nil] at hxf; subst hxf; have HS3 := hm7 (HS.out.below hb3); clear hot hb3 t0 t1 t2 t3 t4 t5 t6 HTV1 d5 d6 p0 fp)
          have p0 := HS3.out.bp.cell (i := 0) rfl
          have HO3 : Hid (W3.ownsRow w.heap.size 3 1 (.slice va an vc) an (ibs7 (ah9i C j))) := by have := HS3.out.ll.own _ (List.mem_cons_self ..); unfold OwI at this; rw [HAN.out] at this; exact this
          have hz3 := HS3.out.be.size
          go_upto_region 7 with (at_builtin; refine gapp Tryz.underlying32 Tryz.infoInt7 rfl (by omega) rfl _ _ rfl w.heap.size (.slice va an vc) an (ibs7 (ah9i C j)) rfl (row7_below HO3.out (below1 _ _)) W3.heap.size (.int .i64 (j : Int)) rfl (Bk.new _ _ _) rfl (by omega) (by simp; omega) ?_; intro g2 q2 w2 ho2 hg2 hv2 hl2; have HS4 := hm7 ((HS3.out.below (below1 _ _)).app1 HAN.out ho2 hg2 hv2); have f4 := HS4.out.bp.froz 0; have p4 := HS4.out.bp.cell (i := 0) rfl; have hpl := HS4.out.bp.lt; clear ho2 hg2 hv2 hl2 p0)
          have HS5 := hm7 (HS4.out.setA (av' := .slice (some ⟨g2, 0, none⟩) (an + 1) q2))
          go_wp2
          go_roundg gg
          case measure => omega
          case rel => exact ⟨j + 1, _, by omega, by go_num, by rw [HAS.out]; exact HS5.out⟩
        | cons y ys =>
          rw [if_neg (by simp)] at HAS
          rw [List.append_nil] at HAS
          go_wp2_with (go_at_call 16; refine (HTV1.out _).mono ?_; rintro e W3 ⟨tv', rfl, hot, hb3⟩; obtain ⟨xa, xc, hxf, -⟩ := row7_form hot; rw [List.length_cons] at hxf; subst hxf; have HS3 := hm7 (HS.out.below hb3); clear hot hb3 t0 t1 t2 t3 t4 t5 t6 HTV1 d5 d6 p0 fp)
          go_roundg gg
          case measure => omega
          case rel => exact ⟨j + 1, _, by omega, by go_num, by rw [HAS.out]; exact HS3.out⟩
      | zero =>
        have hje : j = nt := by omega
        subst hje
        have hah : ah9i C j = ah9 C := by unfold ah9i ah9; rw [HCS.out.2.2.2.2]
        rw [hah] at HS
        have hlt : ¬ (j : Int) < (j : Int) := by omega
        have HRT : Hid (RT9 w C lead q (q + 1) pb nb (.slice none 0 0) (.slice none 0 0) (.slice none 0 0) wr) := ⟨av, .slice none 0 0, [], _, _, [], [], [], by rw [HCS.out.2.2.2.1]; simp, by simp, by simp, HS.out, Rl9.start C, fun _ => ⟨rfl, rfl⟩, by unfold R9; rw [if_pos rfl]; rfl⟩
        obtain ⟨W4, rfl⟩ : ∃ W4, W4 = wr := ⟨_, rfl⟩
        clear hah HS
        go_wp2_with fail
        clear d5 d6
        go_loopg [9, 10, 11, 12, 13, 14, 15, 16] nb (fun gg ov vv kv _ _ _ _ _ wr => RT9 w C lead q (q + 1) pb gg ov vv kv wr)
        case atStart => exact HRT.out
        case round =>
          have HT := hm7 hrel
          clear hrel HRT
          cases gk with
          | succ gg =>
            obtain ⟨av', jv, l, met, A, O, Vs, K, hg, hvb, hkb, hs, hr, h0, hj⟩ := HT.out
            have HVB0 := hm7 hvb
            have HKB0 := hm7 hkb
            rw [HCS.out.2.2.2.1] at hg
            have HS := hm7 hs
            have HR := hm7 hr
            have HO0 := hm7 h0
            have HJ := hm7 hj
            have HI : Hid (∀ m ∈ A, ∃ k : Nat, m = (k : Int)) := fun m hm => by obtain ⟨i, e, -⟩ := hr.ps.lo m hm; exact ⟨i, e⟩
            have HIL : Hid (∀ m ∈ A, m < (nb : Int)) := fun m hm => by obtain ⟨i, e, h2⟩ := hr.ps.lo m hm; rw [HCS.out.2.2.2.1] at h2; omega
            have HA0 : Hid (A ≠ []) := fun e => by have := hr.ol; rw [e, HCS.out.2.2.2.1] at this; simp at this; omega
            have HAL : Hid (∀ x ∈ C.body, x.1.args.length ≤ 8) := fun x hx => (err_zero' (HVL.out.e x.1 (List.mem_cons_of_mem _ (List.mem_map.2 ⟨x, hx, rfl⟩)))).2.1
            have HJB : Hid (l.length ≤ 100000) := by
              show _ ≤ _
              have h1 := congrArg List.length hj
              rw [List.length_append, List.length_map, pl9_len _ _ _ (up9_nodup _) (pl9_js (c := C) HCK.out.2.1 HCK.out.2.2), up9_len, HCS.out.2.2.2.1] at h1
              omega
            clear hs hr h0 hj HT
            obtain ⟨oa, oc, hov, -⟩ := row7_form (HS.out.ll.own (u9, O) (by simp))
            obtain ⟨on, hon⟩ : ∃ on, O.length = on := ⟨_, rfl⟩
            simp only at hov
            rw [hon] at hov hg
            have HON := hm7 hon
            subst hov
            obtain ⟨va', vc', hvv, -⟩ := row7_form (HS.out.ll.own (u10, Vs) (by simp))
            obtain ⟨vn, hvn⟩ : ∃ vn, Vs.length = vn := ⟨_, rfl⟩
            simp only at hvv
            rw [hvn] at hvv
            have HVN := hm7 hvn
            subst hvv
            have HVB : Hid (Vs.length ≤ 100000) := by show _ ≤ _; have h1 := HVB0.out; have h2 := HON.out; omega
            clear hon hvn
            obtain ⟨W5, rfl⟩ : ∃ W5, W5 = wr := ⟨_, rfl⟩
            have HC5 : Hid (∀ Y : World, Below W5.heap.size W5 Y → Y.cell? ⟨q, 5, none⟩ = some (.slice a1 nb cap1) ∧ Y.cell? ⟨q, 6, none⟩ = some (.slice a2 j cap2)) := fun Y hY => by
              have hcb := HS.out.bc.below hY
              rw [HCS.out.1] at hcb
              exact ⟨hcb.cell (i := 5) rfl, hcb.cell (i := 6) rfl⟩
            have HHS : Hid (∀ (n : Int) (X : World), Below W5.heap.size W5 X → Calls Tryz.prog 17 #[.slice oa on oc, .int .i64 n] X fun e w' => e = .returned (.bool (decide (n ∈ O))) ∧ w' = X) := fun n X hX => has9_any w.heap.size _ O n X (row7_below (HS.out.ll.own (.slice oa on oc, O) (by simp)) hX) (by have := HON.out; omega)
            have hlt2 : (on : Int) < (nb : Int) := by omega
            have d5 := (HC5.out _ (Below.refl _ _)).1
            go_wp2_with fail
            clear d5
            go_loopg [12, 13] nb (fun g3 nx i wr => ∃ i3 : Nat, i3 + g3 = nb ∧ i = .int .i64 i3 ∧ nx = .int .i64 (nx9 C met A i3) ∧ Below W5.heap.size W5 wr)
            case atStart => exact ⟨0, by omega, rfl, by rw [nx9_zero HI.out], Below.refl _ _⟩
            case round =>
              obtain ⟨i3, hi3, rfl, rfl, hb6⟩ := hrel
              have HB6 := hm7 hb6
              clear hb6
              obtain ⟨W6, rfl⟩ : ∃ W6, W6 = wr := ⟨_, rfl⟩
              obtain ⟨nx, hnx⟩ : ∃ nx, nx9 C met A i3 = nx := ⟨_, rfl⟩
              rw [hnx]
              have HNX := hm7 hnx
              clear hnx
              have d5 := (HC5.out _ HB6.out).1
              cases gk with
              | succ g3 =>
                have hil : i3 < C.body.length := by rw [HCS.out.2.2.2.1]; omega
                obtain ⟨x, hx⟩ : ∃ x, C.body[i3]? = some x := ⟨_, List.getElem?_eq_getElem hil⟩
                have HX := hm7 hx
                obtain ⟨lb, lo, xa, xc, hla, hxs, hxc⟩ := HBB.out.get9 hx
                subst hla
                have HW6 : Hid (Below w.heap.size w W6) := HS.out.be.trans (HB6.out.mono HS.out.be.size)
                have HXC := hm7 (fun Y hY => hxc Y (HW6.out.trans (Below.mono hY HW6.out.size)))
                have HCC := hm7 (fun Y hY => (HC5.out Y (HB6.out.trans (Below.mono hY HB6.out.size))).1)
                have HOA := hm7 (HR.out.o i3 hil)
                have HH := hm7 (fun Y hY => HHS.out (i3 : Int) Y (HB6.out.trans (Below.mono hY HB6.out.size)))
                have HRI := hm7 HR.out.ri
                have hlt3 : (i3 : Int) < (nb : Int) := by omega
                obtain ⟨ib, hib⟩ : ∃ ib, decide ((i3 : Int) ∈ O) = ib := ⟨_, rfl⟩
                rw [hib] at HH
                have HIB := hm7 hib
                clear hx hib hil hxc
                go_upto_region 18 with fail
                clear d5
                cases ib with
                | true =>
                  have hnA : ¬ (i3 : Int) ∈ A := HOA.out.1 (of_decide_eq_true HIB.out)
                  have HE1 := hm7 (nx9_out (c := C) (met := met) HRI.out hnA)
                  rw [HNX.out] at HE1
                  clear hnA
                  refine wp_region_held_drew (S := fun w' => Below W6.heap.size W6 w') (by kernel_rfl) (by exact (Below.refl _ _).drew) (fun hH => ?_)
                  revert hH
                  generalize W6.drew = V6
                  intro hH
                  refine wpAnyH_take (i := 0) (oi := ⟨_, _, _, _, _, _⟩) (v := .slice oa on oc) rfl (by kernel_rfl) (by kernel_rfl) (by kernel_rfl) (fun _ _ _ h => h) (Or.inl ⟨by rfl, fun w' h => by clear h; go_simp⟩) hH ?_
                  simp only [Act.put, List.setIfInBounds_toArray, List.set_cons_zero, List.set_cons_succ]
                  refine wpAnyH_take (i := 1) (oi := ⟨_, _, _, _, _, _⟩) (v := .int .i64 (i3 : Int)) rfl (by kernel_rfl) (by kernel_rfl) (by kernel_rfl) (fun _ _ _ h => h) (Or.inl ⟨by rfl, fun w' h => by clear h; go_simp⟩) hH ?_
                  simp only [Act.put, List.setIfInBounds_toArray, List.set_cons_zero, List.set_cons_succ]
                  refine wpAnyH_ready (rs := [2]) (by kernel_rfl) (by simp) ?_
                  refine (AllReadyH.cons (o := ⟨_, _, _, _, _, _⟩) rfl (fun K hK => ?_) AllReadyH.nil)
                  go_simp
                  refine (HH.out _ hH).mono ?_
                  rintro e V7 ⟨rfl, hV1⟩
                  rw [hV1]
                  refine hK.out _ _ hH (fun hH => ?_)
                  clear hK hV1
                  try simp only [Act.put, List.setIfInBounds_toArray, List.set_cons_zero, List.set_cons_succ]
                  refine wpAnyH_take (i := 3) (oi := ⟨_, _, _, _, _, _⟩) (v := .bool false) rfl (by kernel_rfl) (by kernel_rfl) (by kernel_rfl) (fun _ _ _ h => h) (Or.inl ⟨by rfl, fun w' h => by clear h; go_simp⟩) hH ?_
                  simp only [Act.put, List.setIfInBounds_toArray, List.set_cons_zero, List.set_cons_succ]
                  refine wpAnyH_take (i := 4) (oi := ⟨_, _, _, _, _, _⟩) (v := .bool false) rfl (by kernel_rfl) (by kernel_rfl) (by kernel_rfl) (fun _ _ _ h => h) (Or.inl ⟨by rfl, fun w' h => by clear h; go_simp⟩) hH ?_
                  simp only [Act.put, List.setIfInBounds_toArray, List.set_cons_zero, List.set_cons_succ]
                  refine wpAnyH_take (i := 5) (oi := ⟨_, _, _, _, _, _⟩) (v := undef) rfl (by kernel_rfl) (by kernel_rfl) (by kernel_rfl) (fun _ _ _ h => h) (Or.inr ⟨by rfl, rfl⟩) hH ?_
                  simp only [Act.put, List.setIfInBounds_toArray, List.set_cons_zero, List.set_cons_succ]
                  refine wpAnyH_take (i := 6) (oi := ⟨_, _, _, _, _, _⟩) (v := undef) rfl (by kernel_rfl) (by kernel_rfl) (by kernel_rfl) (fun _ _ _ h => h) (Or.inr ⟨by rfl, rfl⟩) hH ?_
                  simp only [Act.put, List.setIfInBounds_toArray, List.set_cons_zero, List.set_cons_succ]
                  refine wpAnyH_take (i := 7) (oi := ⟨_, _, _, _, _, _⟩) (v := undef) rfl (by kernel_rfl) (by kernel_rfl) (by kernel_rfl) (fun _ _ _ h => h) (Or.inr ⟨by rfl, rfl⟩) hH ?_
                  simp only [Act.put, List.setIfInBounds_toArray, List.set_cons_zero, List.set_cons_succ]
                  refine wpAnyH_take (i := 8) (oi := ⟨_, _, _, _, _, _⟩) (v := undef) rfl (by kernel_rfl) (by kernel_rfl) (by kernel_rfl) (fun _ _ _ h => h) (Or.inr ⟨by rfl, rfl⟩) hH ?_
                  simp only [Act.put, List.setIfInBounds_toArray, List.set_cons_zero, List.set_cons_succ]
                  refine wpAnyH_take (i := 9) (oi := ⟨_, _, _, _, _, _⟩) (v := undef) rfl (by kernel_rfl) (by kernel_rfl) (by kernel_rfl) (fun _ _ _ h => h) (Or.inr ⟨by rfl, rfl⟩) hH ?_
                  simp only [Act.put, List.setIfInBounds_toArray, List.set_cons_zero, List.set_cons_succ]
                  refine wpAnyH_take (i := 10) (oi := ⟨_, _, _, _, _, _⟩) (v := undef) rfl (by kernel_rfl) (by kernel_rfl) (by kernel_rfl) (fun _ _ _ h => h) (Or.inr ⟨by rfl, rfl⟩) hH ?_
                  simp only [Act.put, List.setIfInBounds_toArray, List.set_cons_zero, List.set_cons_succ]
                  refine wpAnyH_take (i := 11) (oi := ⟨_, _, _, _, _, _⟩) (v := undef) rfl (by kernel_rfl) (by kernel_rfl) (by kernel_rfl) (fun _ _ _ h => h) (Or.inr ⟨by rfl, rfl⟩) hH ?_
                  simp only [Act.put, List.setIfInBounds_toArray, List.set_cons_zero, List.set_cons_succ]
                  refine wpAnyH_take (i := 12) (oi := ⟨_, _, _, _, _, _⟩) (v := undef) rfl (by kernel_rfl) (by kernel_rfl) (by kernel_rfl) (fun _ _ _ h => h) (Or.inr ⟨by rfl, rfl⟩) hH ?_
                  simp only [Act.put, List.setIfInBounds_toArray, List.set_cons_zero, List.set_cons_succ]
                  refine wpAnyH_take (i := 13) (oi := ⟨_, _, _, _, _, _⟩) (v := undef) rfl (by kernel_rfl) (by kernel_rfl) (by kernel_rfl) (fun _ _ _ h => h) (Or.inr ⟨by rfl, rfl⟩) hH ?_
                  simp only [Act.put, List.setIfInBounds_toArray, List.set_cons_zero, List.set_cons_succ]
                  refine wpAnyH_take (i := 14) (oi := ⟨_, _, _, _, _, _⟩) (v := undef) rfl (by kernel_rfl) (by kernel_rfl) (by kernel_rfl) (fun _ _ _ h => h) (Or.inr ⟨by rfl, rfl⟩) hH ?_
                  simp only [Act.put, List.setIfInBounds_toArray, List.set_cons_zero, List.set_cons_succ]
                  refine wpAnyH_take (i := 15) (oi := ⟨_, _, _, _, _, _⟩) (v := undef) rfl (by kernel_rfl) (by kernel_rfl) (by kernel_rfl) (fun _ _ _ h => h) (Or.inr ⟨by rfl, rfl⟩) hH ?_
                  simp only [Act.put, List.setIfInBounds_toArray, List.set_cons_zero, List.set_cons_succ]
                  refine wpAnyH_take (i := 16) (oi := ⟨_, _, _, _, _, _⟩) (v := undef) rfl (by kernel_rfl) (by kernel_rfl) (by kernel_rfl) (fun _ _ _ h => h) (Or.inr ⟨by rfl, rfl⟩) hH ?_
                  simp only [Act.put, List.setIfInBounds_toArray, List.set_cons_zero, List.set_cons_succ]
                  refine wpAnyH_take (i := 17) (oi := ⟨_, _, _, _, _, _⟩) (v := undef) rfl (by kernel_rfl) (by kernel_rfl) (by kernel_rfl) (fun _ _ _ h => h) (Or.inr ⟨by rfl, rfl⟩) hH ?_
                  simp only [Act.put, List.setIfInBounds_toArray, List.set_cons_zero, List.set_cons_succ]
                  refine wpAnyH_take (i := 18) (oi := ⟨_, _, _, _, _, _⟩) (v := undef) rfl (by kernel_rfl) (by kernel_rfl) (by kernel_rfl) (fun _ _ _ h => h) (Or.inr ⟨by rfl, rfl⟩) hH ?_
                  simp only [Act.put, List.setIfInBounds_toArray, List.set_cons_zero, List.set_cons_succ]
                  refine wpAnyH_take (i := 19) (oi := ⟨_, _, _, _, _, _⟩) (v := undef) rfl (by kernel_rfl) (by kernel_rfl) (by kernel_rfl) (fun _ _ _ h => h) (Or.inr ⟨by rfl, rfl⟩) hH ?_
                  simp only [Act.put, List.setIfInBounds_toArray, List.set_cons_zero, List.set_cons_succ]
                  refine wpAnyH_take (i := 20) (oi := ⟨_, _, _, _, _, _⟩) (v := undef) rfl (by kernel_rfl) (by kernel_rfl) (by kernel_rfl) (fun _ _ _ h => h) (Or.inr ⟨by rfl, rfl⟩) hH ?_
                  simp only [Act.put, List.setIfInBounds_toArray, List.set_cons_zero, List.set_cons_succ]
                  refine wpAnyH_take (i := 21) (oi := ⟨_, _, _, _, _, _⟩) (v := .bool false) rfl (by kernel_rfl) (by kernel_rfl) (by kernel_rfl) (fun _ _ _ h => h) (Or.inl ⟨by rfl, fun w' h => by clear h; go_simp⟩) hH ?_
                  simp only [Act.put, List.setIfInBounds_toArray, List.set_cons_zero, List.set_cons_succ]
                  refine wpAnyH_done (by kernel_rfl) ?_ _
                  have HV7 := hm7 hH
                  clear hH
                  go_wp2
                  go_roundg g3
                  case measure => omega
                  case rel => exact ⟨i3 + 1, by omega, by go_num, by rw [HE1.out], HB6.out.trans (HV7.out.mono HB6.out.size)⟩
                | false =>
                  have hiA : (i3 : Int) ∈ A := Decidable.byContradiction fun e => of_decide_eq_false HIB.out (HOA.out.2 e)
                  have HIA := hm7 hiA
                  clear hiA
                  by_cases hneg : nx < 0
                  · have HE1 := hm7 (nx9_first (c := C) (met := met) HRI.out HIA.out (nx9_none (c := C) (met := met) HI.out (by rw [HNX.out]; exact hneg)))
                    refine wp_region_held_drew (S := fun w' => Below W6.heap.size W6 w') (by kernel_rfl) (by exact (Below.refl _ _).drew) (fun hH => ?_)
                    revert hH
                    generalize W6.drew = V6
                    intro hH
                    refine wpAnyH_take (i := 0) (oi := ⟨_, _, _, _, _, _⟩) (v := .slice oa on oc) rfl (by kernel_rfl) (by kernel_rfl) (by kernel_rfl) (fun _ _ _ h => h) (Or.inl ⟨by rfl, fun w' h => by clear h; go_simp⟩) hH ?_
                    simp only [Act.put, List.setIfInBounds_toArray, List.set_cons_zero, List.set_cons_succ]
                    refine wpAnyH_take (i := 1) (oi := ⟨_, _, _, _, _, _⟩) (v := .int .i64 (i3 : Int)) rfl (by kernel_rfl) (by kernel_rfl) (by kernel_rfl) (fun _ _ _ h => h) (Or.inl ⟨by rfl, fun w' h => by clear h; go_simp⟩) hH ?_
                    simp only [Act.put, List.setIfInBounds_toArray, List.set_cons_zero, List.set_cons_succ]
                    refine wpAnyH_ready (rs := [2]) (by kernel_rfl) (by simp) ?_
                    refine (AllReadyH.cons (o := ⟨_, _, _, _, _, _⟩) rfl (fun K hK => ?_) AllReadyH.nil)
                    go_simp
                    refine (HH.out _ hH).mono ?_
                    rintro e V7 ⟨rfl, hV1⟩
                    rw [hV1]
                    refine hK.out _ _ hH (fun hH => ?_)
                    clear hK hV1
                    try simp only [Act.put, List.setIfInBounds_toArray, List.set_cons_zero, List.set_cons_succ]
                    refine wpAnyH_take (i := 3) (oi := ⟨_, _, _, _, _, _⟩) (v := .bool true) rfl (by kernel_rfl) (by kernel_rfl) (by kernel_rfl) (fun _ _ _ h => h) (Or.inl ⟨by rfl, fun w' h => by clear h; go_simp⟩) hH ?_
                    simp only [Act.put, List.setIfInBounds_toArray, List.set_cons_zero, List.set_cons_succ]
                    refine wpAnyH_take (i := 4) (oi := ⟨_, _, _, _, _, _⟩) (v := .bool true) rfl (by kernel_rfl) (by kernel_rfl) (by kernel_rfl) (fun _ _ _ h => h) (Or.inl ⟨by rfl, fun w' h => by clear h; go_simp⟩) hH ?_
                    simp only [Act.put, List.setIfInBounds_toArray, List.set_cons_zero, List.set_cons_succ]
                    refine wpAnyH_take (i := 5) (oi := ⟨_, _, _, _, _, _⟩) (v := .int .i64 nx) rfl (by kernel_rfl) (by kernel_rfl) (by kernel_rfl) (fun _ _ _ h => h) (Or.inl ⟨by rfl, fun w' h => by clear h; go_simp⟩) hH ?_
                    simp only [Act.put, List.setIfInBounds_toArray, List.set_cons_zero, List.set_cons_succ]
                    refine wpAnyH_take (i := 6) (oi := ⟨_, _, _, _, _, _⟩) (v := .bool true) rfl (by kernel_rfl) (by kernel_rfl) (by kernel_rfl) (fun _ _ _ h => h) (Or.inl ⟨by rfl, fun w' h => by clear h; go_simp⟩) hH ?_
                    simp only [Act.put, List.setIfInBounds_toArray, List.set_cons_zero, List.set_cons_succ]
                    refine wpAnyH_take (i := 7) (oi := ⟨_, _, _, _, _, _⟩) (v := .bool true) rfl (by kernel_rfl) (by kernel_rfl) (by kernel_rfl) (fun _ _ _ h => h) (Or.inl ⟨by rfl, fun w' h => by clear h; go_simp⟩) hH ?_
                    simp only [Act.put, List.setIfInBounds_toArray, List.set_cons_zero, List.set_cons_succ]
                    refine wpAnyH_take (i := 8) (oi := ⟨_, _, _, _, _, _⟩) (v := undef) rfl (by kernel_rfl) (by kernel_rfl) (by kernel_rfl) (fun _ _ _ h => h) (Or.inr ⟨by rfl, rfl⟩) hH ?_
                    simp only [Act.put, List.setIfInBounds_toArray, List.set_cons_zero, List.set_cons_succ]
                    refine wpAnyH_take (i := 9) (oi := ⟨_, _, _, _, _, _⟩) (v := undef) rfl (by kernel_rfl) (by kernel_rfl) (by kernel_rfl) (fun _ _ _ h => h) (Or.inr ⟨by rfl, rfl⟩) hH ?_
                    simp only [Act.put, List.setIfInBounds_toArray, List.set_cons_zero, List.set_cons_succ]
                    refine wpAnyH_take (i := 10) (oi := ⟨_, _, _, _, _, _⟩) (v := undef) rfl (by kernel_rfl) (by kernel_rfl) (by kernel_rfl) (fun _ _ _ h => h) (Or.inr ⟨by rfl, rfl⟩) hH ?_
                    simp only [Act.put, List.setIfInBounds_toArray, List.set_cons_zero, List.set_cons_succ]
                    refine wpAnyH_take (i := 11) (oi := ⟨_, _, _, _, _, _⟩) (v := undef) rfl (by kernel_rfl) (by kernel_rfl) (by kernel_rfl) (fun _ _ _ h => h) (Or.inr ⟨by rfl, rfl⟩) hH ?_
                    simp only [Act.put, List.setIfInBounds_toArray, List.set_cons_zero, List.set_cons_succ]
                    refine wpAnyH_take (i := 12) (oi := ⟨_, _, _, _, _, _⟩) (v := undef) rfl (by kernel_rfl) (by kernel_rfl) (by kernel_rfl) (fun _ _ _ h => h) (Or.inr ⟨by rfl, rfl⟩) hH ?_
                    simp only [Act.put, List.setIfInBounds_toArray, List.set_cons_zero, List.set_cons_succ]
                    refine wpAnyH_take (i := 13) (oi := ⟨_, _, _, _, _, _⟩) (v := undef) rfl (by kernel_rfl) (by kernel_rfl) (by kernel_rfl) (fun _ _ _ h => h) (Or.inr ⟨by rfl, rfl⟩) hH ?_
                    simp only [Act.put, List.setIfInBounds_toArray, List.set_cons_zero, List.set_cons_succ]
                    refine wpAnyH_take (i := 14) (oi := ⟨_, _, _, _, _, _⟩) (v := undef) rfl (by kernel_rfl) (by kernel_rfl) (by kernel_rfl) (fun _ _ _ h => h) (Or.inr ⟨by rfl, rfl⟩) hH ?_
                    simp only [Act.put, List.setIfInBounds_toArray, List.set_cons_zero, List.set_cons_succ]
                    refine wpAnyH_take (i := 15) (oi := ⟨_, _, _, _, _, _⟩) (v := undef) rfl (by kernel_rfl) (by kernel_rfl) (by kernel_rfl) (fun _ _ _ h => h) (Or.inr ⟨by rfl, rfl⟩) hH ?_
                    simp only [Act.put, List.setIfInBounds_toArray, List.set_cons_zero, List.set_cons_succ]
                    refine wpAnyH_take (i := 16) (oi := ⟨_, _, _, _, _, _⟩) (v := undef) rfl (by kernel_rfl) (by kernel_rfl) (by kernel_rfl) (fun _ _ _ h => h) (Or.inr ⟨by rfl, rfl⟩) hH ?_
                    simp only [Act.put, List.setIfInBounds_toArray, List.set_cons_zero, List.set_cons_succ]
                    refine wpAnyH_take (i := 17) (oi := ⟨_, _, _, _, _, _⟩) (v := undef) rfl (by kernel_rfl) (by kernel_rfl) (by kernel_rfl) (fun _ _ _ h => h) (Or.inr ⟨by rfl, rfl⟩) hH ?_
                    simp only [Act.put, List.setIfInBounds_toArray, List.set_cons_zero, List.set_cons_succ]
                    refine wpAnyH_take (i := 18) (oi := ⟨_, _, _, _, _, _⟩) (v := undef) rfl (by kernel_rfl) (by kernel_rfl) (by kernel_rfl) (fun _ _ _ h => h) (Or.inr ⟨by rfl, rfl⟩) hH ?_
                    simp only [Act.put, List.setIfInBounds_toArray, List.set_cons_zero, List.set_cons_succ]
                    refine wpAnyH_take (i := 19) (oi := ⟨_, _, _, _, _, _⟩) (v := undef) rfl (by kernel_rfl) (by kernel_rfl) (by kernel_rfl) (fun _ _ _ h => h) (Or.inr ⟨by rfl, rfl⟩) hH ?_
                    simp only [Act.put, List.setIfInBounds_toArray, List.set_cons_zero, List.set_cons_succ]
                    refine wpAnyH_take (i := 20) (oi := ⟨_, _, _, _, _, _⟩) (v := .bool true) rfl (by kernel_rfl) (by kernel_rfl) (by kernel_rfl) (fun _ _ _ h => h) (Or.inl ⟨by rfl, fun w' h => by clear h; go_simp⟩) hH ?_
                    simp only [Act.put, List.setIfInBounds_toArray, List.set_cons_zero, List.set_cons_succ]
                    refine wpAnyH_take (i := 21) (oi := ⟨_, _, _, _, _, _⟩) (v := .bool true) rfl (by kernel_rfl) (by kernel_rfl) (by kernel_rfl) (fun _ _ _ h => h) (Or.inl ⟨by rfl, fun w' h => by clear h; go_simp⟩) hH ?_
                    simp only [Act.put, List.setIfInBounds_toArray, List.set_cons_zero, List.set_cons_succ]
                    refine wpAnyH_done (by kernel_rfl) ?_ _
                    have HV7 := hm7 hH
                    clear hH
                    go_wp2
                    go_roundg g3
                    case measure => omega
                    case rel => exact ⟨i3 + 1, by omega, by go_num, by rw [HE1.out], HB6.out.trans (HV7.out.mono HB6.out.size)⟩
                  · have hnn : ¬ nx9 C met A i3 < 0 := by rw [HNX.out]; exact hneg
                    obtain ⟨m3, hm3, hm3A, hm3i⟩ := nx9_some (c := C) (met := met) HI.out hnn
                    rw [HNX.out] at hm3
                    subst hm3
                    have HE1 := hm7 (nx9_next (c := C) (met := met) HRI.out HIA.out hnn)
                    rw [HNX.out] at HE1
                    have hml : m3 < C.body.length := by obtain ⟨i, e, h2⟩ := HR.out.ps.lo _ hm3A; omega
                    obtain ⟨y, hy⟩ : ∃ y, C.body[m3]? = some y := ⟨_, List.getElem?_eq_getElem hml⟩
                    have HBE := hm7 (be9_bc HVL.out HCK.out.1 HR.out HX.out hy hm3i)
                    obtain ⟨lb', lo', ya, yc, hla', hys, hyc⟩ := HBB.out.get9 hy
                    simp only [Option.some.injEq, Addr.mk.injEq] at hla'
                    obtain ⟨e1, e2, -⟩ := hla'
                    rw [← e1, ← e2] at hyc
                    have HYC := hm7 (fun Y hY => hyc Y (HW6.out.trans (Below.mono hY HW6.out.size)))
                    have HBT : Hid (∀ Y : World, Below W6.heap.size W6 Y → Calls Tryz.prog 18 #[x.1.v x.2, y.1.v y.2, .slice va' vn vc'] Y fun e w' => e = .returned (.bool (be9 Vs x.1 y.1)) ∧ Below Y.heap.size Y w') := fun Y hY => by
                      have hY5 := HB6.out.trans (Below.mono hY HB6.out.size)
                      have hYw := HW6.out.trans (Below.mono hY HW6.out.size)
                      exact better9_any x.1 y.1 x.2 y.2 _ Vs w.heap.size Y ((HTP.out x (List.mem_of_getElem? HX.out)).later hYw) ((HTP.out y (List.mem_of_getElem? hy)).later hYw) (Nat.le_trans (HAL.out x (List.mem_of_getElem? HX.out)) (by omega)) (Nat.le_trans (HAL.out y (List.mem_of_getElem? hy)) (by omega)) (row7_below (HS.out.ll.own (.slice va' vn vc', Vs) (by simp)) hY5) (by have := HVN.out; have := HVB.out; omega)
                    have hlm : (m3 : Int) < (nb : Int) := by rw [HCS.out.2.2.2.1] at hml; omega
                    have hm0 : ¬ (m3 : Int) < 0 := by omega
                    obtain ⟨be, hbe⟩ : ∃ be, be9 Vs x.1 y.1 = be := ⟨_, rfl⟩
                    rw [hbe] at HBE HBT
                    have HBM : Hid (bt9 C met (m3 : Int) (i3 : Int) = if be = true then (i3 : Int) else (m3 : Int)) := by
                      show _ = _
                      unfold bt9
                      rw [Int.toNat_natCast, Int.toNat_natCast, HBE.out]
                      by_cases hz : bc9 C met i3 m3 < 0 <;> simp [hz]
                    obtain ⟨⟨⟨xk, xm, xs'⟩, xnm, xl⟩, xv⟩ := x
                    obtain ⟨⟨⟨yk, ym, ys'⟩, ynm, yl⟩, yv⟩ := y
                    simp only at hxs hys HXC HYC HBT
                    subst hxs hys
                    generalize xl.length = xn at *
                    generalize yl.length = yn at *
                    clear hnn hm3A hml hy hbe e1 e2 hyc HBE
                    refine wp_region_held_drew (S := fun w' => Below W6.heap.size W6 w') (by kernel_rfl) (by exact (Below.refl _ _).drew) (fun hH => ?_)
                    revert hH
                    generalize W6.drew = V6
                    intro hH
                    refine wpAnyH_take (i := 0) (oi := ⟨_, _, _, _, _, _⟩) (v := .slice oa on oc) rfl (by kernel_rfl) (by kernel_rfl) (by kernel_rfl) (fun _ _ _ h => h) (Or.inl ⟨by rfl, fun w' h => by clear h; go_simp⟩) hH ?_
                    simp only [Act.put, List.setIfInBounds_toArray, List.set_cons_zero, List.set_cons_succ]
                    refine wpAnyH_take (i := 1) (oi := ⟨_, _, _, _, _, _⟩) (v := .int .i64 (i3 : Int)) rfl (by kernel_rfl) (by kernel_rfl) (by kernel_rfl) (fun _ _ _ h => h) (Or.inl ⟨by rfl, fun w' h => by clear h; go_simp⟩) hH ?_
                    simp only [Act.put, List.setIfInBounds_toArray, List.set_cons_zero, List.set_cons_succ]
                    refine wpAnyH_ready (rs := [2]) (by kernel_rfl) (by simp) ?_
                    refine (AllReadyH.cons (o := ⟨_, _, _, _, _, _⟩) rfl (fun K hK => ?_) AllReadyH.nil)
                    go_simp
                    refine (HH.out _ hH).mono ?_
                    rintro e V7 ⟨rfl, hV1⟩
                    rw [hV1]
                    refine hK.out _ _ hH (fun hH => ?_)
                    clear hK hV1
                    try simp only [Act.put, List.setIfInBounds_toArray, List.set_cons_zero, List.set_cons_succ]
                    refine wpAnyH_take (i := 3) (oi := ⟨_, _, _, _, _, _⟩) (v := .bool true) rfl (by kernel_rfl) (by kernel_rfl) (by kernel_rfl) (fun _ _ _ h => h) (Or.inl ⟨by rfl, fun w' h => by clear h; go_simp⟩) hH ?_
                    simp only [Act.put, List.setIfInBounds_toArray, List.set_cons_zero, List.set_cons_succ]
                    refine wpAnyH_take (i := 4) (oi := ⟨_, _, _, _, _, _⟩) (v := .bool true) rfl (by kernel_rfl) (by kernel_rfl) (by kernel_rfl) (fun _ _ _ h => h) (Or.inl ⟨by rfl, fun w' h => by clear h; go_simp⟩) hH ?_
                    simp only [Act.put, List.setIfInBounds_toArray, List.set_cons_zero, List.set_cons_succ]
                    refine wpAnyH_take (i := 5) (oi := ⟨_, _, _, _, _, _⟩) (v := .int .i64 (m3 : Int)) rfl (by kernel_rfl) (by kernel_rfl) (by kernel_rfl) (fun _ _ _ h => h) (Or.inl ⟨by rfl, fun w' h => by clear h; go_simp⟩) hH ?_
                    simp only [Act.put, List.setIfInBounds_toArray, List.set_cons_zero, List.set_cons_succ]
                    refine wpAnyH_take (i := 6) (oi := ⟨_, _, _, _, _, _⟩) (v := .bool false) rfl (by kernel_rfl) (by kernel_rfl) (by kernel_rfl) (fun _ _ _ h => h) (Or.inl ⟨by rfl, fun w' h => by clear h; go_simp⟩) hH ?_
                    simp only [Act.put, List.setIfInBounds_toArray, List.set_cons_zero, List.set_cons_succ]
                    refine wpAnyH_take (i := 7) (oi := ⟨_, _, _, _, _, _⟩) (v := .bool false) rfl (by kernel_rfl) (by kernel_rfl) (by kernel_rfl) (fun _ _ _ h => h) (Or.inl ⟨by rfl, fun w' h => by clear h; go_simp⟩) hH ?_
                    simp only [Act.put, List.setIfInBounds_toArray, List.set_cons_zero, List.set_cons_succ]
                    refine wpAnyH_take (i := 8) (oi := ⟨_, _, _, _, _, _⟩) (v := .pointer (some ⟨q, 5, none⟩)) rfl (by kernel_rfl) (by kernel_rfl) (by kernel_rfl) (fun _ _ _ h => h) (Or.inl ⟨by rfl, fun w' h => by clear h; go_simp⟩) hH ?_
                    simp only [Act.put, List.setIfInBounds_toArray, List.set_cons_zero, List.set_cons_succ]
                    refine wpAnyH_take (i := 9) (oi := ⟨_, _, _, _, _, _⟩) (v := .slice (some ⟨lb, lo, none⟩) nb cap1) rfl (by kernel_rfl) (by kernel_rfl) (by kernel_rfl) (fun _ _ _ h => h) (Or.inl ⟨by rfl, fun w' h => by have o0 := HCC.out w' h; clear h; go_simp⟩) hH ?_
                    simp only [Act.put, List.setIfInBounds_toArray, List.set_cons_zero, List.set_cons_succ]
                    refine wpAnyH_take (i := 10) (oi := ⟨_, _, _, _, _, _⟩) (v := .int .i64 (i3 : Int)) rfl (by kernel_rfl) (by kernel_rfl) (by kernel_rfl) (fun _ _ _ h => h) (Or.inl ⟨by rfl, fun w' h => by clear h; go_simp⟩) hH ?_
                    simp only [Act.put, List.setIfInBounds_toArray, List.set_cons_zero, List.set_cons_succ]
                    refine wpAnyH_take (i := 11) (oi := ⟨_, _, _, _, _, _⟩) (v := .pointer (some ⟨lb, lo + i3 * 5, none⟩)) rfl (by kernel_rfl) (by kernel_rfl) (by kernel_rfl) (fun _ _ _ h => h) (Or.inl ⟨by rfl, fun w' h => by clear h; go_simp⟩) hH ?_
                    simp only [Act.put, List.setIfInBounds_toArray, List.set_cons_zero, List.set_cons_succ]
                    refine wpAnyH_take (i := 12) (oi := ⟨_, _, _, _, _, _⟩) (v := .agg #[.int .i64 xk, .int .i64 xm, .string xs', .string xnm, .slice xa xn xc]) rfl (by kernel_rfl) (by kernel_rfl) (by kernel_rfl) (fun _ _ _ h => h) (Or.inl ⟨by rfl, fun w' h => by obtain ⟨o0, o1, o2, o3, o4⟩ := HXC.out w' h; clear h; go_simp⟩) hH ?_
                    simp only [Act.put, List.setIfInBounds_toArray, List.set_cons_zero, List.set_cons_succ]
                    refine wpAnyH_take (i := 13) (oi := ⟨_, _, _, _, _, _⟩) (v := .pointer (some ⟨q, 5, none⟩)) rfl (by kernel_rfl) (by kernel_rfl) (by kernel_rfl) (fun _ _ _ h => h) (Or.inl ⟨by rfl, fun w' h => by clear h; go_simp⟩) hH ?_
                    simp only [Act.put, List.setIfInBounds_toArray, List.set_cons_zero, List.set_cons_succ]
                    refine wpAnyH_take (i := 14) (oi := ⟨_, _, _, _, _, _⟩) (v := .slice (some ⟨lb, lo, none⟩) nb cap1) rfl (by kernel_rfl) (by kernel_rfl) (by kernel_rfl) (fun _ _ _ h => h) (Or.inl ⟨by rfl, fun w' h => by have o0 := HCC.out w' h; clear h; go_simp⟩) hH ?_
                    simp only [Act.put, List.setIfInBounds_toArray, List.set_cons_zero, List.set_cons_succ]
                    refine wpAnyH_take (i := 15) (oi := ⟨_, _, _, _, _, _⟩) (v := .int .i64 (m3 : Int)) rfl (by kernel_rfl) (by kernel_rfl) (by kernel_rfl) (fun _ _ _ h => h) (Or.inl ⟨by rfl, fun w' h => by clear h; go_simp⟩) hH ?_
                    simp only [Act.put, List.setIfInBounds_toArray, List.set_cons_zero, List.set_cons_succ]
                    refine wpAnyH_take (i := 16) (oi := ⟨_, _, _, _, _, _⟩) (v := .pointer (some ⟨lb, lo + m3 * 5, none⟩)) rfl (by kernel_rfl) (by kernel_rfl) (by kernel_rfl) (fun _ _ _ h => h) (Or.inl ⟨by rfl, fun w' h => by clear h; go_simp⟩) hH ?_
                    simp only [Act.put, List.setIfInBounds_toArray, List.set_cons_zero, List.set_cons_succ]
                    refine wpAnyH_take (i := 17) (oi := ⟨_, _, _, _, _, _⟩) (v := .agg #[.int .i64 yk, .int .i64 ym, .string ys', .string ynm, .slice ya yn yc]) rfl (by kernel_rfl) (by kernel_rfl) (by kernel_rfl) (fun _ _ _ h => h) (Or.inl ⟨by rfl, fun w' h => by obtain ⟨o0, o1, o2, o3, o4⟩ := HYC.out w' h; clear h; go_simp⟩) hH ?_
                    simp only [Act.put, List.setIfInBounds_toArray, List.set_cons_zero, List.set_cons_succ]
                    refine wpAnyH_take (i := 18) (oi := ⟨_, _, _, _, _, _⟩) (v := .slice va' vn vc') rfl (by kernel_rfl) (by kernel_rfl) (by kernel_rfl) (fun _ _ _ h => h) (Or.inl ⟨by rfl, fun w' h => by clear h; go_simp⟩) hH ?_
                    simp only [Act.put, List.setIfInBounds_toArray, List.set_cons_zero, List.set_cons_succ]
                    refine wpAnyH_ready (rs := [19]) (by kernel_rfl) (by simp) ?_
                    refine (AllReadyH.cons (o := ⟨_, _, _, _, _, _⟩) rfl (fun K hK => ?_) AllReadyH.nil)
                    go_simp
                    refine (HBT.out _ hH).mono ?_
                    rintro e V8 ⟨rfl, hV2⟩
                    refine hK.out _ _ (hH.trans (hV2.mono hH.size)) (fun hH => ?_)
                    clear hK hV2
                    try simp only [Act.put, List.setIfInBounds_toArray, List.set_cons_zero, List.set_cons_succ]
                    refine wpAnyH_take (i := 20) (oi := ⟨_, _, _, _, _, _⟩) (v := .bool be) rfl (by kernel_rfl) (by kernel_rfl) (by kernel_rfl) (fun _ _ _ h => h) (Or.inl ⟨by rfl, fun w' h => by clear h; go_simp⟩) hH ?_
                    simp only [Act.put, List.setIfInBounds_toArray, List.set_cons_zero, List.set_cons_succ]
                    refine wpAnyH_take (i := 21) (oi := ⟨_, _, _, _, _, _⟩) (v := .bool be) rfl (by kernel_rfl) (by kernel_rfl) (by kernel_rfl) (fun _ _ _ h => h) (Or.inl ⟨by rfl, fun w' h => by clear h; go_simp⟩) hH ?_
                    simp only [Act.put, List.setIfInBounds_toArray, List.set_cons_zero, List.set_cons_succ]
                    refine wpAnyH_done (by kernel_rfl) ?_ _
                    have HV7 := hm7 hH
                    clear hH
                    cases be with
                    | true =>
                      go_wp2
                      go_roundg g3
                      case measure => omega
                      case rel => exact ⟨i3 + 1, by omega, by go_num, by rw [HE1.out, HBM.out]; simp, HB6.out.trans (HV7.out.mono HB6.out.size)⟩
                    | false =>
                      go_wp2
                      go_roundg g3
                      case measure => omega
                      case rel => exact ⟨i3 + 1, by omega, by go_num, by rw [HE1.out, HBM.out]; simp, HB6.out.trans (HV7.out.mono HB6.out.size)⟩
              | zero =>
                have hie : i3 = nb := by omega
                subst hie
                have HMN : Hid (nx = mn9 C met A) := by show _ = _; rw [← HNX.out]; exact nx9_all HIL.out HA0.out
                obtain ⟨n, hnE⟩ : ∃ n : Nat, (n : Int) = if O = [] ∧ 0 ≤ lead then lead else mn9 C met A := by
                  by_cases e : O = [] ∧ 0 ≤ lead
                  · rw [if_pos e]; exact ⟨lead.toNat, by omega⟩
                  · rw [if_neg e]
                    obtain ⟨k', hk'⟩ := HI.out _ (mn9_mem C met HA0.out)
                    exact ⟨k', hk'.symm⟩
                have HNE := hm7 hnE
                obtain ⟨hnA, hR⟩ := R9_step HR.out HO0.out HCK.out.2.1 HCK.out.2.2 HA0.out hnE
                have HNA := hm7 hnA
                have HRR := hm7 hR
                obtain ⟨bz, hbz⟩ : ∃ bz, decide (O = [] ∧ 0 ≤ lead) = bz := ⟨_, rfl⟩
                have HBZ := hm7 hbz
                have HOZ : Hid (O = [] ↔ on = 0) := by rw [← HON.out]; exact List.length_eq_zero_iff.symm
                clear hnE hnA hR hbz
                have hlt3 : ¬ (i3 : Int) < (i3 : Int) := by omega
                go_upto_region 20 with fail
                clear d5
                go_cut [87] from 81 to 87 (fun v wx => v = .bool bz ∧ wx = W6)
                case first =>
                  by_cases z1 : on = 0
                  · subst z1
                    by_cases z2 : 0 ≤ lead
                    · have hbt : bz = true := by rw [← HBZ.out]; exact decide_eq_true ⟨HOZ.out.2 rfl, z2⟩
                      subst hbt
                      go_wp2_with fail
                      go_meet
                      case rel => exact ⟨rfl, rfl⟩
                    · have hbt : bz = false := by rw [← HBZ.out]; exact decide_eq_false fun e => z2 e.2
                      subst hbt
                      go_wp2_with fail
                      go_meet
                      case rel => exact ⟨rfl, rfl⟩
                  · have hbt : bz = false := by rw [← HBZ.out]; exact decide_eq_false fun e => z1 (HOZ.out.1 e.1)
                    subst hbt
                    have z3 : ((on : Int) == 0) = false := by simp [z1]
                    go_wp2_with fail
                    go_meet
                    case rel => exact ⟨rfl, rfl⟩
                case rest =>
                  obtain ⟨rfl, rfl⟩ := hcut
                  obtain ⟨W7, rfl⟩ : ∃ W7, W7 = wc := ⟨_, rfl⟩
                  go_upto_if 87 with fail
                  go_cut [12] from 88 to 88 (fun v wx => v = .int .i64 (n : Int) ∧ wx = W7)
                  case first =>
                    cases bz with
                    | true =>
                      have e := HNE.out
                      rw [if_pos (of_decide_eq_true HBZ.out)] at e
                      subst e
                      go_wp2_with fail
                      go_meet
                      case rel => exact ⟨rfl, rfl⟩
                    | false =>
                      have e := HNE.out
                      rw [if_neg (of_decide_eq_false HBZ.out), ← HMN.out] at e
                      subst e
                      go_wp2_with fail
                      go_meet
                      case rel => exact ⟨rfl, rfl⟩
                  case rest =>
                    obtain ⟨rfl, rfl⟩ := hcut
                    obtain ⟨W7, rfl⟩ : ∃ W7, W7 = wc := ⟨_, rfl⟩
                    have HS7 := hm7 (HS.out.below HB6.out)
                    have HL7 : Hid (Below w.heap.size w W7) := HS7.out.be
                    obtain ⟨n', hnn, hnl⟩ := HR.out.ps.lo _ HNA.out
                    have hnn : n = n' := by omega
                    subst hnn
                    obtain ⟨x, hx⟩ : ∃ x, C.body[n]? = some x := ⟨_, List.getElem?_eq_getElem hnl⟩
                    rw [HCS.out.2.2.2.1] at hnl
                    obtain ⟨lb, lo, xa, xc, hla, hxs, hxc⟩ := HBB.out.get9 hx
                    subst hla
                    have hpls : pls9 C n = x.1.pl := by unfold pls9; rw [hx]
                    have hk39 : ∀ t ∈ x.1.pl, K39 t := val_pl HVL.out x.1 (List.mem_cons_of_mem _ (List.mem_map.2 ⟨x, List.mem_of_getElem? hx, rfl⟩))
                    have hkr := kr9_eq HR.out x.1.pl hk39 (body_vn9 HCK.out.1 hx) x.1.pl.length
                    have hjk : (jr9 C met (T9 C met) n).k = kc9 met x.1.pl x.1.pl.length := by unfold jr9; rw [hpls]
                    have hxt := HTP.out x (List.mem_of_getElem? hx)
                    have hxl8 := HAL.out x (List.mem_of_getElem? hx)
                    have HKN : Hid (∀ Y : World, Below W7.heap.size W7 Y → Calls Tryz.prog 19 #[x.1.v x.2, .slice va' vn vc'] Y fun e w' => ∃ v', e = .returned v' ∧ OwI w' Y.heap.size v' (jr9 C met (T9 C met) n).k ∧ Below Y.heap.size Y w') := fun Y hY => by
                      have := known9R_any x.1 x.2 (.slice va' vn vc') Vs w.heap.size Y (hxt.later (HL7.out.trans (Below.mono hY HL7.out.size))) (by omega) (row7_below (HS7.out.ll.own (.slice va' vn vc', Vs) (by simp)) hY) (by have := HVN.out; have := HVB.out; omega)
                      rw [hkr, ← hjk] at this
                      exact this
                    have HRV : Hid (∀ Y : World, Below w.heap.size w Y → Calls Tryz.prog 20 #[x.1.v x.2] Y fun e w' => ∃ v', e = .returned v' ∧ OwI w' Y.heap.size v' (vs (pls9 C n)) ∧ (vs (pls9 C n) = [] → v' = .slice none 0 0) ∧ Below Y.heap.size Y w') := fun Y hY => by
                      rw [hpls]
                      refine rvarsN_any x.1 x.2 Y ?_
                      rcases hxt.later hY with h1 | ⟨ad, cp, h1, h2⟩
                      · exact Or.inl h1
                      · exact Or.inr ⟨ad, cp, h1, by omega, h2⟩
                    have HVC : Hid ((vs (pls9 C n)).length ≤ 9) := by show _ ≤ _; rw [hpls]; exact Nat.le_trans (vs_len _) (by simp [At.pl]; omega)
                    have HXC := hm7 hxc
                    obtain ⟨⟨⟨xk, xm, xs'⟩, xnm, xl⟩, xv⟩ := x
                    simp only at hxs HXC HKN HRV
                    subst hxs
                    generalize xl.length = xn at *
                    clear hx hpls hk39 hkr hjk hxt hxl8 hxc
                    have d5 := (HC5.out _ HB6.out).1
                    obtain ⟨o0, o1, o2, o3, o4⟩ := HXC.out _ HL7.out
                    have hn2 : (n : Int) < (i3 : Int) := by omega
                    go_upto_region 23 with (go_at_call 19; refine (HKN.out _ (Below.refl _ _)).mono ?_; rintro e W8 ⟨kw, rfl, hok, hb8⟩; obtain ⟨ka, kc, hkf, -⟩ := row7_form hok; have HS8 := hm7 (HS7.out.new hb8 hok); generalize (jr9 C met (T9 C met) n).k.length = kn at hkf; subst hkf; clear hok hb8 o0 o1 o2 o3 o4 d5)
                    have hj9 := Bk.new W8 #[.int .i64 (n : Int), .slice ka kn kc, .slice none 0 0] 57
                    have HS9 := hm7 (HS8.out.below (below1 W8 (.cells #[.int .i64 (n : Int), .slice ka kn kc, .slice none 0 0] 57)))
                    have hnj : jv.ownBlock ≠ some W8.heap.size := fun e => by have := (World.ownsRow.lt HS8.out.row _ e).2; omega
                    have hjlo : w.heap.size ≤ W8.heap.size := HS8.out.be.size
                    revert hj9 HS9 hnj hjlo
                    generalize W8.alloc (.cells #[.int .i64 (n : Int), .slice ka kn kc, .slice none 0 0] 57) = W9
                    generalize W8.heap.size = jb
                    intro hj9 HS9 hnj hjlo
                    have HJ9 := hm7 hj9
                    have HNJ := hm7 hnj
                    have HJL := hm7 hjlo
                    clear hj9 hnj hjlo
                    have HS9p := hm7 (HS9.out.perm (List.perm_middle (l₁ := [_, _])))
                    have HOO : Hid (W9.ownsRow w.heap.size 3 1 (.slice oa on oc) on (ibs7 O)) := by have := HS9p.out.ll.own _ (List.mem_cons_self ..); unfold OwI at this; rw [HON.out] at this; exact this
                    have HOI : Hid (OwI W9 w.heap.size (.slice oa on oc) O) := HS9p.out.ll.own _ (List.mem_cons_self ..)
                    have hz9 := HS9.out.be.size
                    go_upto_region 24 with (at_builtin; refine gapp Tryz.underlying32 Tryz.infoInt7 rfl (by omega) rfl _ _ rfl w.heap.size (.slice oa on oc) on (ibs7 O) rfl (row7_below HOO.out (below1 _ _)) W9.heap.size (.int .i64 (n : Int)) rfl (Bk.new _ _ _) rfl (by omega) (by simp; omega) ?_; intro g2 q2 w2 ho2 hg2 hv2 hl2; have HS10 := hm7 ((HS9p.out.below (below1 _ _)).app1 HON.out ho2 hg2 hv2); have HJ10 := hm7 ((HJ9.out.below (below1 _ _)).grow9 (l := O) (row7_below HOI.out (below1 _ _)) hg2 (by decide)); clear ho2 hg2 hv2 hl2)
                    have HS10p := hm7 (HS10.out.perm (List.perm_middle (l₁ := [_, _, _])))
                    have HVI : Hid (OwI w2 w.heap.size (.slice va' vn vc') Vs) := HS10p.out.ll.own _ (List.mem_cons_self ..)
                    have hz10 := HS10.out.be.size
                    have hcb := HS10.out.bc
                    rw [HCS.out.1] at hcb
                    have d5 := hcb.cell (i := 5) rfl
                    clear hcb
                    obtain ⟨o0, o1, o2, o3, o4⟩ := HXC.out _ HS10.out.be
                    go_upto_region 25 with (first
                      | (go_at_call 20; refine (HRV.out _ HS10.out.be).mono ?_; rintro e W11 ⟨yv, rfl, hoy, hyn, hb11⟩; have HS11 := hm7 (HS10p.out.below hb11); have HV11 := hm7 (row7_below HVI.out hb11); have HJ11 := hm7 (HJ10.out.below hb11); have HOY := hm7 hoy; have HYN := hm7 hyn; have hz11 := HS11.out.be.size; obtain ⟨ya', yc', hyf, -⟩ := row7_form hoy; generalize hyl : (vs (pls9 C n)).length = yl' at hyf; subst hyf; clear hyl hoy hyn hb11 o0 o1 o2 o3 o4 d5)
                      | (at_builtin; refine iapp9 rfl _ _ rfl w.heap.size (.slice va' vn vc') Vs rfl HV11.out w2.heap.size _ (vs (pls9 C n)) rfl HOY.out HYN.out (by have := HVB.out; have := HVC.out; omega) hz11 ?_; intro vv' W12 ho12 hg12 hv12; have HS12 := hm7 (HS11.out.app (g := W11.heap.size) ho12 hg12 hv12 (Nat.le_refl _)); have HJ12 := hm7 (HJ11.out.grow9 (l := Vs) HV11.out hg12 (by decide)); clear ho12 hg12 hv12))
                    have HS12p := hm7 ((HS12.out.perm (List.perm_middle (l₁ := [_, _, _, _]))).nil.perm (List.Perm.swap _ _ _))
                    have HRN := hm7 (HR.out.next HCK.out.1 HNA.out)
                    have HTA := hm7 (tl9_all C met n)
                    obtain ⟨met', hmet'⟩ : ∃ met', jm9 C met n = met' := ⟨_, rfl⟩
                    rw [hmet'] at HRN HRR HTA
                    obtain ⟨RL, hRL⟩ : ∃ RL, (vv', Vs ++ vs (pls9 C n)) :: (.slice (some ⟨g2, 0, none⟩) (on + 1) q2, O ++ [(n : Int)]) :: (.slice ka kn kc, (jr9 C met (T9 C met) n).k) :: (av', ah9 C) :: LJ9 l = RL := ⟨_, rfl⟩
                    have HRL := hm7 hRL
                    have HS13 : Hid (RS9 w C q (q + 1) pb av' jv l ((u11, K ++ tl9 C met met' 0) :: (.slice none 0 0, tl9 C met met' 0) :: RL) W12) := by
                      have := HS12p.out
                      rw [← hRL, show tl9 C met met' 0 = [] from rfl, List.append_nil]
                      exact this
                    clear hmet' hRL HS12p HS12 HS11 HS10 HS10p HS9 HS9p HS8 HS7 HJ9 HJ10 HJ11 HVI HV11 HOI HOO HKN HRV
                    go_wp2_with fail
                    go_loopg [11, 15, 16] j (fun g4 s11 i _ wr => ∃ (i4 : Nat) (tw : Value), i4 + g4 = j ∧ i = .int .i64 i4 ∧ Bk wr jb #[.int .i64 (n : Int), .slice ka kn kc, tw] 57 ∧ RS9 w C q (q + 1) pb av' jv l ((s11, K ++ tl9 C met met' i4) :: (tw, tl9 C met met' i4) :: RL) wr)
                    case atStart => exact ⟨0, _, by omega, rfl, HJ12.out, HS13.out⟩
                    case round =>
                      obtain ⟨i4, tw, hi4, rfl, hjb, hs13⟩ := hrel
                      clear HS13 HJ12
                      have HS13 := hm7 hs13
                      have HJ13 := hm7 hjb
                      clear hs13 hjb
                      obtain ⟨W13, rfl⟩ : ∃ W13, W13 = wr := ⟨_, rfl⟩
                      obtain ⟨ka4, kc4, hkf4, -⟩ := row7_form (HS13.out.ll.own (_, K ++ tl9 C met met' i4) (List.mem_cons_self ..))
                      obtain ⟨kn4, hkn4⟩ : ∃ kn4, (K ++ tl9 C met met' i4).length = kn4 := ⟨_, rfl⟩
                      simp only at hkf4
                      rw [hkn4] at hkf4
                      subst hkf4
                      obtain ⟨ta4, tc4, htf4, -⟩ := row7_form (HS13.out.ll.own (tw, tl9 C met met' i4) (by simp))
                      obtain ⟨tn4, htn4⟩ : ∃ tn4, (tl9 C met met' i4).length = tn4 := ⟨_, rfl⟩
                      simp only at htf4
                      rw [htn4] at htf4
                      subst htf4
                      have HKN4 := hm7 hkn4
                      have HTN4 := hm7 htn4
                      have htl4 : tn4 ≤ i4 := by rw [← htn4]; exact Nat.le_trans (List.length_filter_le _ _) (by rw [up9_len]; exact Nat.le_refl _)
                      have HKL4 : Hid ((K ++ tl9 C met met' i4).length ≤ 100000) := by
                        show _ ≤ _
                        have h1 := HKB0.out
                        have h2 := HON.out
                        rw [List.length_append, htn4]; omega
                      clear hkn4 htn4
                      have hcb := HS13.out.bc
                      rw [HCS.out.1] at hcb
                      have d6 := hcb.cell (i := 6) rfl
                      clear hcb
                      cases gk with
                      | succ g4 =>
                        have hil : i4 < C.tests.length := by rw [HCS.out.2.2.2.2]; omega
                        obtain ⟨t, ht⟩ : ∃ t, C.tests[i4]? = some t := ⟨_, List.getElem?_eq_getElem hil⟩
                        have hnil := tv9_nil HVL.out ht
                        have hwin := tv9_in HVL.out HCK.out.1 HRN.out ht
                        have hhas := has9_tl (met' := met') HR.out hil
                        have HTS := hm7 (tl9_succ C met met' i4)
                        have hbase := fun e => tk9_base (c := C) (met := met) (m := (i4 : Int)) e
                        obtain ⟨tb, to', rfl, htl, t0, ⟨t1, t2, t3⟩, t4, t5, t6⟩ := HTT.out.get9 ht
                        have t0 := cell_stepB HS13.out.be htl t0
                        have t1 := cell_stepB HS13.out.be htl t1
                        have t2 := cell_stepB HS13.out.be htl t2
                        have t3 := cell_stepB HS13.out.be htl t3
                        have t4 := cell_stepB HS13.out.be htl t4
                        have t5 := cell_stepB HS13.out.be htl t5
                        have t6 := cell_stepB HS13.out.be htl t6
                        have htw : tb < W13.heap.size := Nat.lt_of_lt_of_le htl HS13.out.be.size
                        have hlt4 : (i4 : Int) < (j : Int) := by omega
                        have HTV := hm7 (testVars9_any t)
                        obtain ⟨TL, hTL⟩ : ∃ TL, tv9 t = TL := ⟨_, rfl⟩
                        have HTLB : Hid (TL.length ≤ 2) := by show _ ≤ _; rw [← hTL]; unfold tv9; (repeat' split) <;> simp
                        rw [hTL] at hnil hwin HTV
                        obtain ⟨op, ⟨lk, ln, ls'⟩, ⟨rk, rn, rs⟩⟩ := t
                        simp only at t0 t1 t2 t3 t4 t5 t6
                        have HTV1 : Hid (∀ X : World, Calls Tryz.prog 16 #[.agg #[.int .i64 op, .int .i64 lk, .int .i64 ln, .string ls', .int .i64 rk, .int .i64 rn, .string rs]] X fun e w' => ∃ v', e = .returned v' ∧ OwI w' X.heap.size v' TL ∧ Below X.heap.size X w') := HTV.out
                        obtain ⟨k0, hk0⟩ : ∃ k0, tk9 C (List.replicate (dis C.vars).length false) (i4 : Int) = k0 := ⟨_, rfl⟩
                        obtain ⟨k1, hk1⟩ : ∃ k1, tk9 C met (i4 : Int) = k1 := ⟨_, rfl⟩
                        obtain ⟨k2, hk2⟩ : ∃ k2, tk9 C met' (i4 : Int) = k2 := ⟨_, rfl⟩
                        rw [hk0] at hnil hhas hbase
                        rw [hk1] at hhas HTS hbase
                        rw [hk2] at hwin HTS
                        have HHAS := hm7 hhas
                        have HWI := hm7 hwin
                        clear ht hil hTL hhas hwin hk0 hk1 hk2 HTV
                        obtain ⟨TLn, hTLn⟩ : ∃ TLn, TL.length = TLn := ⟨_, rfl⟩
                        have HTLN := hm7 hTLn
                        by_cases hT0 : TLn = 0
                        · subst hT0
                          have e0 : k0 = true := by rw [← hnil]; exact decide_eq_true (List.eq_nil_of_length_eq_zero hTLn)
                          have e1 : k1 = true := hbase e0
                          subst e0 e1
                          rw [if_neg (by simp), List.append_nil] at HTS
                          clear hnil hbase hTLn
                          go_wp2_with (go_at_call 16; refine (HTV1.out _).mono ?_; rintro e W14 ⟨tv', rfl, hot, hb14⟩; obtain ⟨xa2, xc2, hxf, -⟩ := row7_form hot; rw [HTLN.out] at hxf; subst hxf; have HOT := hm7 hot; have HS14 := hm7 (HS13.out.below hb14); have HJ14 := hm7 (HJ13.out.below hb14); have hz14 := HS14.out.be.size; clear hot hb14 t0 t1 t2 t3 t4 t5 t6 d6)
                          go_roundg g4
                          case measure => omega
                          case rel => exact ⟨i4 + 1, _, by omega, by go_num, HJ14.out, by rw [HTS.out]; exact HS14.out⟩
                        · have e0 : k0 = false := by rw [← hnil]; exact decide_eq_false fun e => hT0 (by rw [← hTLn, e]; rfl)
                          subst e0
                          have hpos : (0 : Int) < (TLn : Int) := by omega
                          clear hnil hbase hTLn
                          cases k1 with
                          | true =>
                            rw [if_neg (by simp), List.append_nil] at HTS
                            go_wp2_with (first
                              | (go_at_call 16; refine (HTV1.out _).mono ?_; rintro e W14 ⟨tv', rfl, hot, hb14⟩; obtain ⟨xa2, xc2, hxf, -⟩ := row7_form hot; rw [HTLN.out] at hxf; subst hxf; have HOT := hm7 hot; have HS14 := hm7 (HS13.out.below hb14); have HJ14 := hm7 (HJ13.out.below hb14); have hz14 := HS14.out.be.size; clear hot hb14 t0 t1 t2 t3 t4 t5 t6 d6)
                              | (go_at_call 17; refine (has9_any w.heap.size (.slice ka4 kn4 kc4) (K ++ tl9 C met met' i4) (i4 : Int) _ (HS14.out.ll.own (.slice ka4 kn4 kc4, K ++ tl9 C met met' i4) (by simp)) (by have := HKL4.out; omega)).mono ?_; rw [HHAS.out]; rintro e w1 ⟨rfl, hw⟩; rw [hw]; clear hw w1))
                            go_roundg g4
                            case measure => omega
                            case rel => exact ⟨i4 + 1, _, by omega, by go_num, HJ14.out, by rw [HTS.out]; exact HS14.out⟩
                          | false =>
                            cases k2 with
                            | false =>
                              rw [if_neg (by simp), List.append_nil] at HTS
                              go_wp2_with (first
                                | (go_at_call 16; refine (HTV1.out _).mono ?_; rintro e W14 ⟨tv', rfl, hot, hb14⟩; obtain ⟨xa2, xc2, hxf, -⟩ := row7_form hot; rw [HTLN.out] at hxf; subst hxf; have HOT := hm7 hot; have HS14 := hm7 (HS13.out.below hb14); have HJ14 := hm7 (HJ13.out.below hb14); have hz14 := HS14.out.be.size; clear hot hb14 t0 t1 t2 t3 t4 t5 t6 d6)
                                | (go_at_call 17; refine (has9_any w.heap.size (.slice ka4 kn4 kc4) (K ++ tl9 C met met' i4) (i4 : Int) _ (HS14.out.ll.own (.slice ka4 kn4 kc4, K ++ tl9 C met met' i4) (by simp)) (by have := HKL4.out; omega)).mono ?_; rw [HHAS.out]; rintro e w1 ⟨rfl, hw⟩; rw [hw]; clear hw w1)
                                | (go_at_call 21; refine (within9_any W13.heap.size w.heap.size (.slice xa2 TLn xc2) vv' TL (Vs ++ vs (pls9 C n)) _ HOT.out (HS14.out.ll.own (vv', Vs ++ vs (pls9 C n)) (by rw [← HRL.out]; simp)) (by have := HTLB.out; omega) (by have := HVB.out; have := HVC.out; rw [List.length_append]; omega)).mono ?_; rw [HWI.out]; rintro e w1 ⟨rfl, hw⟩; rw [hw]; clear hw w1))
                              go_roundg g4
                              case measure => omega
                              case rel => exact ⟨i4 + 1, _, by omega, by go_num, HJ14.out, by rw [HTS.out]; exact HS14.out⟩
                            | true =>
                              rw [if_pos (by simp)] at HTS
                              go_upto_region 30 with (first
                                | (go_at_call 16; refine (HTV1.out _).mono ?_; rintro e W14 ⟨tv', rfl, hot, hb14⟩; obtain ⟨xa2, xc2, hxf, -⟩ := row7_form hot; rw [HTLN.out] at hxf; subst hxf; have HOT := hm7 hot; have HS14 := hm7 (HS13.out.below hb14); have HJ14 := hm7 (HJ13.out.below hb14); have hz14 := HS14.out.be.size; clear hot hb14 t0 t1 t2 t3 t4 t5 t6 d6)
                                | (go_at_call 17; refine (has9_any w.heap.size (.slice ka4 kn4 kc4) (K ++ tl9 C met met' i4) (i4 : Int) _ (HS14.out.ll.own (.slice ka4 kn4 kc4, K ++ tl9 C met met' i4) (by simp)) (by have := HKL4.out; omega)).mono ?_; rw [HHAS.out]; rintro e w1 ⟨rfl, hw⟩; rw [hw]; clear hw w1)
                                | (go_at_call 21; refine (within9_any W13.heap.size w.heap.size (.slice xa2 TLn xc2) vv' TL (Vs ++ vs (pls9 C n)) _ HOT.out (HS14.out.ll.own (vv', Vs ++ vs (pls9 C n)) (by rw [← HRL.out]; simp)) (by have := HTLB.out; omega) (by have := HVB.out; have := HVC.out; rw [List.length_append]; omega)).mono ?_; rw [HWI.out]; rintro e w1 ⟨rfl, hw⟩; rw [hw]; clear hw w1))
                              have j2 := HJ14.out.cell (i := 2) rfl
                              have HS14s := hm7 (HS14.out.perm (List.Perm.swap _ _ _))
                              have HTI : Hid (OwI W14 w.heap.size (.slice ta4 tn4 tc4) (tl9 C met met' i4)) := HS14s.out.ll.own _ (List.mem_cons_self ..)
                              have HTO : Hid (W14.ownsRow w.heap.size 3 1 (.slice ta4 tn4 tc4) tn4 (ibs7 (tl9 C met met' i4))) := by have := HTI.out; unfold OwI at this; rw [HTN4.out] at this; exact this
                              go_upto_region 31 with (at_builtin; refine gapp Tryz.underlying32 Tryz.infoInt7 rfl (by omega) rfl _ _ rfl w.heap.size (.slice ta4 tn4 tc4) tn4 (ibs7 (tl9 C met met' i4)) rfl (row7_below HTO.out (below1 _ _)) W14.heap.size (.int .i64 (i4 : Int)) rfl (Bk.new _ _ _) rfl (by omega) (by simp; omega) ?_; intro g5 q5 w5 ho5 hg5 hv5 hl5; have HS15 := hm7 ((HS14s.out.below (below1 _ _)).app1 HTN4.out ho5 hg5 hv5); have HJ15 := hm7 ((HJ14.out.below (below1 _ _)).grow9 (l := tl9 C met met' i4) (row7_below HTI.out (below1 _ _)) hg5 (by decide)); have fj := HJ15.out.froz 2; have cj := HJ15.out.cell (i := 2) rfl; have hjl := HJ15.out.lt; clear ho5 hg5 hv5 hl5 j2)
                              have HS16 := hm7 ((HS15.out.setJ (i := 2) (v := .slice (some ⟨g5, 0, none⟩) (tn4 + 1) q5) HJ15.out HJL.out HNJ.out).perm (List.Perm.swap _ _ _))
                              have HJ16 := hm7 (HJ15.out.set 2 (.slice (some ⟨g5, 0, none⟩) (tn4 + 1) q5))
                              clear fj cj hjl
                              revert HS16 HJ16
                              generalize w5.setCell ⟨jb, 2, none⟩ (.slice (some ⟨g5, 0, none⟩) (tn4 + 1) q5) = W16
                              intro HS16 HJ16
                              have HKI : Hid (OwI W16 w.heap.size (.slice ka4 kn4 kc4) (K ++ tl9 C met met' i4)) := HS16.out.ll.own _ (List.mem_cons_self ..)
                              have HKO : Hid (W16.ownsRow w.heap.size 3 1 (.slice ka4 kn4 kc4) kn4 (ibs7 (K ++ tl9 C met met' i4))) := by have := HKI.out; unfold OwI at this; rw [HKN4.out] at this; exact this
                              have hz16 := HS16.out.be.size
                              have hkn5 : kn4 ≤ 100000 := by rw [← HKN4.out]; exact HKL4.out
                              go_wp2_with (at_builtin; refine gapp Tryz.underlying32 Tryz.infoInt7 rfl (by omega) rfl _ _ rfl w.heap.size (.slice ka4 kn4 kc4) kn4 (ibs7 (K ++ tl9 C met met' i4)) rfl (row7_below HKO.out (below1 _ _)) W16.heap.size (.int .i64 (i4 : Int)) rfl (Bk.new _ _ _) rfl (by omega) (by simp; omega) ?_; intro g6 q6 w6 ho6 hg6 hv6 hl6; have HS17 := hm7 ((HS16.out.below (below1 _ _)).app1 HKN4.out ho6 hg6 hv6); have HJ17 := hm7 ((HJ16.out.below (below1 _ _)).grow9 (l := K ++ tl9 C met met' i4) (row7_below HKI.out (below1 _ _)) hg6 (by decide)); clear ho6 hg6 hv6 hl6)
                              go_roundg g4
                              case measure => omega
                              case rel => exact ⟨i4 + 1, _, by omega, by go_num, HJ17.out, by rw [HTS.out, ← List.append_assoc]; exact HS17.out⟩
                      | zero =>
                        have hie4 : i4 = j := by omega
                        subst hie4
                        have hlt4 : ¬ (i4 : Int) < (i4 : Int) := by omega
                        rw [HCS.out.2.2.2.2] at HTA
                        obtain ⟨ja, jc, hjf, -⟩ := row7_form HS13.out.row
                        obtain ⟨jn, hjn⟩ : ∃ jn, l.length = jn := ⟨_, rfl⟩
                        rw [hjn] at hjf
                        have HJN := hm7 hjn
                        have HROW : Hid (W13.ownsRow w.heap.size 57 3 jv jn (jc9 l)) := by have := HS13.out.row; rw [hjn] at this; exact this
                        subst hjf
                        clear hjn
                        have hjn8 : jn ≤ 100000 := by rw [← HJN.out]; exact HJB.out
                        obtain ⟨XJ, hXJ⟩ : ∃ XJ, jr9 C met (T9 C met) n = XJ := ⟨_, rfl⟩
                        have HXN : Hid (XJ.n = (n : Int)) := by rw [← hXJ]; rfl
                        have HXJ := hm7 hXJ
                        clear hXJ
                        have HSA := hm7 (HS13.out.below (below1 W13 (.cells #[.int .i64 (n : Int), .slice ka kn kc, .slice ta4 tn4 tc4] 57)))
                        have HRA := hm7 (row7_below HROW.out (below1 W13 (.cells #[.int .i64 (n : Int), .slice ka kn kc, .slice ta4 tn4 tc4] 57)))
                        have HBN := hm7 (Bk.new W13 #[.int .i64 (n : Int), .slice ka kn kc, .slice ta4 tn4 tc4] 57)
                        have p1 := HS13.out.bp.cell (i := 1) rfl
                        have j0 := HJ13.out.cell (i := 0) rfl
                        have j1 := HJ13.out.cell (i := 1) rfl
                        have j2 := HJ13.out.cell (i := 2) rfl
                        have hz13 := HS13.out.be.size
                        clear HS13 HJ13
                        go_wp2_with (at_builtin; refine japp9 rfl _ _ rfl w.heap.size (.slice ja jn jc) jn (jc9 l) rfl HRA.out W13.heap.size (.int .i64 (n : Int)) (.slice ka kn kc) (.slice ta4 tn4 tc4) rfl HBN.out (by simp [Value.oneCell']) (by omega) (by simp; omega) ?_; intro g6 q6 w6 ho6 hg6; have HS18 := hm7 (HSA.out.join9 HXN.out HJN.out ho6 hg6); have HP18 := hm7 (HSA.out.bpj hg6); have fp := HP18.out.froz 1; have cp := HP18.out.cell (i := 1) rfl; have hpl := HP18.out.lt; clear ho6 hg6 p1 j0 j1 j2 HSA HRA HBN)
                        go_roundg gg
                        case measure => omega
                        case rel =>
                          have e1 : (O ++ [(n : Int)]).length + gg = C.body.length := by rw [List.length_append, HON.out, HCS.out.2.2.2.1, List.length_singleton]; omega
                          have e2 : (Vs ++ vs (pls9 C n)).length ≤ 100 * (O ++ [(n : Int)]).length := by
                            have h1 := HVB0.out
                            have h2 := HVC.out
                            rw [List.length_append, List.length_append, List.length_singleton]; omega
                          have e3 : (K ++ (jr9 C met (T9 C met) n).t).length ≤ 100 * (O ++ [(n : Int)]).length := by
                            have h1 := HKB0.out
                            have h2 := HTN4.out
                            rw [← HTA.out, List.length_append, List.length_append, List.length_singleton, h2]; omega
                          have h4 := HS18.out
                          rw [← HRL.out, HTA.out] at h4
                          have h5 := h4.perm (perm7_9 _ _ _ _ _ _ _)
                          exact RT9.mk9 HXJ.out e1 e2 e3 h5 HRN.out HRR.out HJ.out
          | zero =>
            obtain ⟨av', jv', l, L, hs, hoa, hpj, hjs⟩ := HT.out.end_ HCK.out.2.1 HCK.out.2.2
            have hol : ∃ ov' on oc, u9 = .slice ov' on oc ∧ on = nb := by
              obtain ⟨_, _, _, _, _, O, _, _, hg, -, -, hs2, -⟩ := HT.out
              obtain ⟨x, y, e, -⟩ := row7_form (hs2.ll.own (u9, O) (by simp))
              exact ⟨x, _, y, e, by rw [HCS.out.2.2.2.1] at hg; omega⟩
            obtain ⟨ov', on, oc, rfl, hon⟩ := hol
            subst hon
            have hcb := hs.bc
            rw [HCS.out.1] at hcb
            have d5 := hcb.cell (i := 5) rfl
            have p0 := hs.bp.cell (i := 0) rfl
            have p1 := hs.bp.cell (i := 1) rfl
            have r0 := hs.br.cell (i := 0) rfl
            have r1 := hs.br.cell (i := 1) rfl
            have f0 := hs.br.froz 0
            have f1 := hs.br.froz 1
            have hrl := hs.br.lt
            obtain ⟨aa, ac, hav, -⟩ := row7_form hoa
            obtain ⟨ja, jc, hjv, -⟩ := row7_form hpj.o
            have hlt2 : ¬ (on : Int) < (on : Int) := by omega
            have hst := PlQ9.store hs.br hoa hpj hs.be (B := w.heap.size) (Nat.le_refl _) hs.lr
            have HZ := hm7 ((hs.br.set 0 av').set 1 jv')
            have z0 := HZ.out.cell (i := 0) rfl
            have z1 := HZ.out.cell (i := 1) rfl
            have HST := hm7 hst
            have HJS := hm7 hjs
            generalize (ah9 C).length = an' at hav
            generalize l.length = ln' at hjv
            subst hav hjv
            clear hst hs hoa hpj hjs hcb HT
            go_wp2
            refine bodyPost_ret (v := .tuple #[.agg #[.slice aa an' ac, .slice ja ln' jc], .int .i64 0]) (by simp [results, Tryz.results6, go_sem, z0, z1]) rfl ?_
            exact ⟨HST.out.2.2, Or.inr ⟨HE.out, _, _, l, rfl, HST.out.1, HST.out.2.1, HJS.out⟩⟩
  · have hk1 : (er == 0) = false := by simp [hk]
    have hk2 : (er != 0) = true := by simp [hk]
    have HZ := hm7 (((HR1.out.set 0 (.slice none 0 0)).set 1 (.slice none 0 0)))
    have z0 := HZ.out.cell (i := 0) rfl
    have z1 := HZ.out.cell (i := 1) rfl
    have HZB : Hid (Below w.heap.size w ((W1.setCell ⟨q + 1, 0, none⟩ (.slice none 0 0)).setCell ⟨q + 1, 1, none⟩ (.slice none 0 0))) := HW1.out.trans (Fr.low (Fr.set (Fr.set (Fr.refl (fun b => w.heap.size ≤ b) W1) (Or.inl (by have := HQ.out; omega))) (Or.inl (by have := HQ.out; omega))) HW1.out.size)
    go_wp2
    refine bodyPost_ret (v := .tuple #[.agg #[.slice none 0 0, .slice none 0 0], .int .i64 er]) (by simp [results, Tryz.results6, go_sem, z0, z1]) rfl ?_
    exact ⟨HZB.out, Or.inl ⟨by rw [HE.out]; exact hk, by rw [HE.out]⟩⟩
end Go.Proofs.YtgbiicmkhlnniaaGreatDoor
