/-
  law 7: RelOrder's walk.
-/
import Derived.Test.YtgachpfgmdogbaaRA32
namespace Go.Proofs.Ytgachpfgmdogbaa
open Go.RowKit
attribute [local go_sem ↓] Go.wp_at_zero Go.wp_at_succ

theorem Ls7.form {w : World} {u : Value} {Q : List (List Int × Value)} (h : Ls7 w u Q) : ∃ a n c, u = .slice a n c := by
  obtain ⟨⟨B, ho⟩, -⟩ := h
  obtain ⟨a, c, e, -⟩ := row7_form ho
  exact ⟨_, _, _, e⟩
theorem TM.form {w wr : World} {g gs m : Nat} {R s : St7} {u : Value} {Q : List (List Int × Value)} (h : TM w g gs m R s u Q wr) : ∃ a n c, u = .slice a n c := by
  obtain ⟨F, S, F2, S2, B, h1, h2, h3, h4, h5, h6, h7⟩ := h
  exact h6.ls.form
theorem GI.call {W2 w3 wr : World} {gs XB : Nat} {s : St7} {q : List (List Int)} {F S G : Nat → Prop} {v : Value} {r : List Int} (h : GI W2 w3 gs XB s q wr F S) (hv : Li G wr v r) (hr : r.length = s.wd) (hk : s.wd ≤ 1000) (hq : s.rows.length + q.length < 10000000000) (hw : W2.heap.size ≤ w3.heap.size) :
    Calls Try.prog 16 #[.pointer (some ⟨gs, 0, none⟩), v] wr fun e w' => (∃ t0 t1, e = .returned (.tuple #[.bool t0, .int .i64 t1])) ∧ ∃ F' S', GI W2 w3 gs XB s (q ++ [r]) w' F' S' := by
  have h1 := adL_len q s
  refine (add8_any gs F S G 0 (adL s q) v r wr h.r hv (by rw [(adL_wd _ _).1, hr]) (by omega) (by omega)).mono ?_
  intro e w' ha
  exact ⟨⟨_, _, ha.1⟩, h.add ha hw⟩
set_option maxRecDepth 20000 in
set_option maxHeartbeats 4000000 in
theorem relOrder7_any (x : Int) (Bs : List (List (List Int × Value) × Value)) (v hv : Value) (how : List Int) (w : World) (h : Bt7 w v Bs) (hh : Li Any w hv how) (hB : tot7 Bs ≤ 1048576) (hBl : Bs.length ≤ 1048576) :
    Calls Try.prog 5 #[.int .i64 x, v, hv] w fun e w' => e = .returned (.bool true) ∧ Below w.heap.size w w' := by
  have H := hm7 h
  have HWF := hm7 h.wf
  have HHW := hm7 hh
  obtain ⟨a, cap, rfl, -, -⟩ := h
  obtain ⟨ha, hc, rfl, -⟩ := hh
  obtain ⟨n, hn0⟩ : ∃ n, Bs.length = n := ⟨_, rfl⟩
  rw [hn0] at H hBl ⊢
  have HN := hm7 hn0
  obtain ⟨hn, hhn⟩ : ∃ n, how.length = n := ⟨_, rfl⟩
  rw [hhn] at HHW ⊢
  have HHN := hm7 hhn
  clear hn0 hhn
  obtain ⟨k, hk⟩ : ∃ k, sm7 x = k := ⟨_, rfl⟩
  have hk5 : k ≤ 5 := by rw [← hk]; exact sm7_le x
  have HK := hm7 hk
  clear hk
  have HGR : Hid (Calls Try.prog 10 #[.int .i64 (k : Int), .slice a n cap] w (GW w (grw k Bs n))) := by
    have := grown7_any Bs (.slice a n cap) k w H.out hk5 hB (by have := HN.out; omega)
    rw [HN.out] at this
    exact this
  have qP := eqP7
  go_enter Try.func5, Try.ntmps5
  go_upto_region 3 with (first | (go_at_call 9; refine (small7_any x _).mono ?_; rintro e w1 ⟨rfl, hw1⟩; rw [hw1, HK.out]; clear hw1 w1) | (go_at_call 10; refine HGR.out.mono ?_; rintro e W1 ⟨g, F, S, rfl, hr, hd, hb⟩; have HR := hm7 hr; have HD := hm7 hd; have HB1 := hm7 hb; clear hr hd hb))
  go_upto_region 5 with (go_at_call 11; refine (head7_any W1).mono ?_; rintro e W2 ⟨rfl, hb⟩; have HB2 := hm7 hb; clear hb)
  have HBW : Hid (Below w.heap.size w W2) := HB1.out.trans (HB2.out.mono HB1.out.size)
  have HRW : Hid (RM W2 g F S 0 (grw k Bs n)) := HR.out.below HB2.out
  clear HR HB1 HB2 HGR HK
  have HNEW := hm7 (new8_any k (by omega) W2)
  go_wp2_with (go_at_call 21; refine HNEW.out.mono ?_; rintro e W3 ⟨gs, rfl, hh⟩; have HH3 := hm7 hh; clear hh)
  clear HNEW
  go_loopg [12] n (fun gg i wr => ∃ (j : Nat) (s : St7), j + gg = n ∧ i = .int .i64 j ∧ HD7 W2 gs 0 s wr ∧ Eqv (grw k Bs j) s)
  case atStart => exact ⟨0, New7 k, by omega, rfl, HH3.out, Eqv.new _⟩
  case round =>
    obtain ⟨j, s, hj, rfl, hs, he⟩ := hrel
    have HS := hm7 hs
    have HEQ := hm7 he
    clear hs he
    cases gk with
    | succ gg =>
      have hlt : (j : Int) < (n : Int) := by omega
      have j0 : (0 : Int) ≤ (j : Int) := by omega
      have j1 : (j : Int) < 2147483648 := by omega
      by_cases hj0 : 0 < j
      · have i2 : (0 : Int) < (j : Int) := by omega
        have HJ : Hid (tn7 j s = Turn7 s) := if_pos hj0
        have HTU := hm7 HS.out.turn
        go_upto_region 13 with (go_at_call 18; refine HTU.out.mono ?_; rintro e w1 ⟨rfl, hh1⟩; have HR1 := hm7 hh1; clear hh1)
        have HTN : Hid (HD7 W2 gs 0 (tn7 j s) w1) := by rw [HJ.out]; exact HR1.out
        have HXB : Hid (Below w.heap.size w w1) := by obtain ⟨-, -, -, -, hb⟩ := HR1.out; exact HBW.out.trans (hb.mono HBW.out.size)
        clear HTU HS HJ HR1
        have p00 := HXB.out.size
        have hns := congrArg (fun z : St7 => z.wd) (rfl : tn7 j s = tn7 j s)
        have hswd : (tn7 j s).wd = k := by rw [(tn7_rows _ _).2, ← HEQ.out.wd, grw_wd]
        obtain ⟨q, hq⟩ : ∃ q, Bs[j]? = some q := ⟨_, List.getElem?_eq_getElem (by have := HN.out; omega)⟩
        obtain ⟨a', cap', hv', hc', hl'⟩ := H.out.below HXB.out
        rw [HN.out] at hv'
        simp only [Value.slice.injEq, true_and] at hv'
        obtain ⟨rfl, rfl⟩ := hv'
        rcases hc' with hc' | ⟨b, o, rfl, -, hc'⟩
        · rw [hc'] at hq; simp at hq
        have q0 := hc' j q hq
        have hrn := hl' q (List.mem_of_getElem? hq)
        have hqt := tot7_get hq
        have hgl := grw_len k Bs j (by have := HN.out; omega)
        have hsl : (tn7 j s).rows.length ≤ tot7 (Bs.take j) := by rw [(tn7_rows _ _).1, ← HEQ.out.a.length_eq]; exact hgl
        have HBR := hm7 (brought7_any q.1 q.2 k w1 hrn (by omega) (by omega))
        obtain ⟨qa, qc, hqv, -, -⟩ := hrn
        have HQT : Hid (tot7 (Bs.take j) + q.1.length ≤ tot7 Bs ∧ (tn7 j s).rows.length ≤ tot7 (Bs.take j)) := ⟨hqt, hsl⟩
        have HSW := hm7 hswd
        generalize hqn : q.1.length = qn at hqv
        rw [hqv] at q0 HBR
        have HQ := hm7 hq
        clear hq hc' hl' hqv hqn hqt hgl hsl hswd hns
        go_wp2_with (go_at_call 19; refine HBR.out.mono ?_; rintro e w3 ⟨u, rfl, Q, hol, hqm, hb3⟩; obtain ⟨ua, uc, hu, -⟩ := row7_form hol.o; obtain ⟨n2, hn2⟩ : ∃ n2, Q.length = n2 := ⟨_, rfl⟩; rw [hn2] at hu; subst hu; have hn2b : n2 ≤ 1048576 := (by have h1 := congrArg List.length hqm; simp at h1; have h2 := HQT.out.1; omega); have HOL := hm7 hol; have HQM := hm7 hqm; have HB3 := hm7 hb3; have HN2 := hm7 hn2; clear hol hqm hb3 hn2)
        clear HBR q0
        have HQL : Hid (n2 = q.1.length) := by have := congrArg List.length HQM.out; simp at this; rw [HN2.out] at this; exact this
        have p01 := HB3.out.size
        obtain ⟨F0, S0, hr0, hd0, hb0⟩ := HTN.out
        have HR0 := hm7 (And.intro hr0 (And.intro hd0 hb0))
        have p02 := hb0.size
        clear hr0 hd0 hb0
        go_loopg [14] n2 (fun gg2 i wr => ∃ (z : List (List Int)) (F S : Nat → Prop) (y : Int), i = .int .i64 y ∧ y = (gg2 : Int) - 1 ∧ gg2 ≤ n2 ∧ SI W2 w3 gs w1.heap.size (tn7 j s) (Q.map Prod.fst) gg2 wr z F S)
        case atStart =>
          refine ⟨[], F0, S0, (n2 : Int) - 1, by go_num, rfl, Nat.le_refl _, ⟨HR0.out.1.below HB3.out, fun b hb => ⟨HR0.out.2.1 b hb, Or.inl (HR0.out.1.lt hb)⟩, HR0.out.2.2.trans (HB3.out.mono p02), Fr.refl _ _⟩, by simp, fun i x hi hx => ?_, by rw [List.length_map, HN2.out]; simp⟩
          have := (List.getElem?_eq_some_iff.1 hx).1
          rw [List.length_map, HN2.out] at this
          omega
        case round =>
          obtain ⟨z, F2, S2, y, rfl, hy, hgn, hsi⟩ := hrel
          have HSI := hm7 hsi
          clear hsi
          cases gk with
          | succ gg2 =>
            obtain rfl : y = (gg2 : Int) := by omega
            clear hy
            have hlt2 : (gg2 : Int) < (n2 : Int) := by omega
            have y0 : (0 : Int) ≤ (gg2 : Int) := by omega
            have hol := HOL.out.fr HSI.out.i.f fun b h1 h2 h3 => by omega
            obtain ⟨p, hp⟩ : ∃ p, Q[gg2]? = some p := ⟨_, List.getElem?_eq_getElem (by have := HN2.out; omega)⟩
            obtain ⟨bu, rfl, -, -, q1, -⟩ := row7_at (by have := hol.o; rw [HN2.out] at this; exact this) (i := gg2) (u := p.2) (by rw [List.getElem?_map, hp]; rfl)
            have hli := hol.l p (List.mem_of_getElem? hp)
            have hpf : (Q.map Prod.fst)[gg2]? = some p.1 := by rw [List.getElem?_map, hp]; rfl
            have HWK : Hid (∀ p ∈ Q, p.1.length = (tn7 j s).wd) := fun p hp => by
              have h1 : p.1 ∈ Q.map Prod.fst := List.mem_map_of_mem hp
              rw [HQM.out] at h1
              rw [HSW.out]
              exact wd7_mem (q := q) p.1 h1
            have hzl : (tn7 j s).rows.length + z.length < 9000000000 := by
              have h1 := HSI.out.l
              rw [List.length_map, HN2.out] at h1
              have h2 := HQT.out
              omega
            have HAD := hm7 (HSI.out.i.call hli (HWK.out p (List.mem_of_getElem? hp)) (by rw [HSW.out]; omega) (by omega) (by omega))
            obtain ⟨pa, pc, hpv, -⟩ := hli
            generalize p.1.length = pn at hpv
            rw [hpv] at q1 HAD
            have HPF := hm7 hpf
            clear hp hpf hpv hol
            go_upto_region 18 with (go_at_call 16; refine HAD.out.mono ?_; rintro e w4 ⟨⟨t0, t1, rfl⟩, F3, S3, hgi3⟩; have HG3 := hm7 hgi3; clear hgi3)
            clear HAD q1
            by_cases hhow : gg2 < hn
            · have hh1 : (gg2 : Int) < (hn : Int) := by omega
              obtain ⟨zz, hzz⟩ : ∃ zz, how[gg2]? = some zz := ⟨_, List.getElem?_eq_getElem (by have := HHN.out; omega)⟩
              obtain ⟨ha', hc', hhv, -, -, -, hhc⟩ := HHW.out.below (HBW.out.trans (HG3.out.b.mono HBW.out.size))
              rw [HHN.out] at hhv
              simp only [Value.slice.injEq, true_and] at hhv
              obtain ⟨rfl, rfl⟩ := hhv
              rcases hhc with ⟨hhc, -⟩ | ⟨hb, ho, rfl, -, -, hhc⟩
              · rw [hhc] at hzz; simp at hzz
              have h0 := hhc gg2 zz hzz
              have htl := tmod_lt zz n2 (by omega)
              obtain ⟨t, ht⟩ : ∃ t, zz.tmod (n2 : Int) = t := ⟨_, rfl⟩
              rw [ht] at htl
              have hnz : ¬ (n2 : Int) = 0 := by omega
              have hnz2 : ((n2 : Int) == 0) = false := by simpa using hnz
              have hnz3 : ((n2 : Int) == -1) = false := by first | (simp; done) | (simp; omega)
              obtain ⟨tn, htn⟩ : ∃ tn, t.natAbs = tn := ⟨_, rfl⟩
              rw [htn] at htl
              have hwt : IntKind.i64.wrap t = t := by rw [IntKind.wrap_i64]; omega
              have hwn : IntKind.i64.wrap (-t) = -t := by rw [IntKind.wrap_i64]; omega
              have i3 : (tn : Int) < (n2 : Int) := by omega
              have i4 : (0 : Int) ≤ (tn : Int) := by omega
              have hol := HOL.out.fr HG3.out.f fun b h1 h2 h3 => by omega
              obtain ⟨p2, hp2⟩ : ∃ p, Q[tn]? = some p := ⟨_, List.getElem?_eq_getElem (by have := HN2.out; omega)⟩
              obtain ⟨bu2, e2, -, -, q2, -⟩ := row7_at (by have := hol.o; rw [HN2.out] at this; exact this) (i := tn) (u := p2.2) (by rw [List.getElem?_map, hp2]; rfl)
              cases e2
              have hli := hol.l p2 (List.mem_of_getElem? hp2)
              have hpf2 : p2.1 ∈ Q.map Prod.fst := List.mem_map_of_mem (List.mem_of_getElem? hp2)
              have HAD2 := hm7 (HG3.out.call hli (HWK.out p2 (List.mem_of_getElem? hp2)) (by rw [HSW.out]; omega) (by rw [List.length_append, List.length_singleton]; omega) (by omega))
              obtain ⟨pa2, pc2, hpv2, -⟩ := hli
              generalize p2.1.length = pn2 at hpv2
              rw [hpv2] at q2 HAD2
              have HPF2 := hm7 hpf2
              clear hp2 hpf2 hpv2 hol hhc hzz
              by_cases htz : t < 0
              · have hnt : -t = (tn : Int) := by omega
                rw [hnt] at hwn
                clear htn
                go_wp2_with (go_at_call 16; refine HAD2.out.mono ?_; rintro e w5 ⟨⟨t2, t3, rfl⟩, F4, S4, hgi4⟩; have HG4 := hm7 hgi4; clear hgi4)
                go_roundg gg2
                case measure => omega
                case rel => exact ⟨_, F4, S4, (gg2 : Int) - 1, by go_num, rfl, by omega, HSI.out.step2 HPF.out HPF2.out HG4.out⟩
              · have htt : t = (tn : Int) := by omega
                subst htt
                clear htn
                go_wp2_with (go_at_call 16; refine HAD2.out.mono ?_; rintro e w5 ⟨⟨t2, t3, rfl⟩, F4, S4, hgi4⟩; have HG4 := hm7 hgi4; clear hgi4)
                go_roundg gg2
                case measure => omega
                case rel => exact ⟨_, F4, S4, (gg2 : Int) - 1, by go_num, rfl, by omega, HSI.out.step2 HPF.out HPF2.out HG4.out⟩
            · have hh1 : ¬ (gg2 : Int) < (hn : Int) := by omega
              go_wp2
              go_roundg gg2
              case measure => omega
              case rel => exact ⟨_, F3, S3, (gg2 : Int) - 1, by go_num, rfl, by omega, HSI.out.step HPF.out HG3.out⟩
          | zero =>
            obtain rfl : y = -1 := by omega
            clear hy
            go_wp2
            go_roundg gg
            case measure => omega
            case rel =>
              refine ⟨j + 1, adL (tn7 j s) z, by omega, by go_num, ⟨F2, S2, HSI.out.i.r, fun b hb => (HSI.out.i.d b hb).1, HSI.out.i.b⟩, Eqv.next hk5 HWF.out hB HQ.out HEQ.out HR0.out.1.ok HSI.out.i.r.ok fun x => ⟨fun hx => ?_, fun hx => ?_⟩⟩
              · have h1 : x ∈ Q.map Prod.fst := by rw [HQM.out]; exact hx
                obtain ⟨i, hi⟩ := List.getElem?_of_mem h1
                exact HSI.out.b i x (by omega) hi
              · have h1 := HSI.out.a x hx
                rw [HQM.out] at h1
                exact h1
      · have i2 : ¬ (0 : Int) < (j : Int) := by omega
        have HTN : Hid (HD7 W2 gs 0 (tn7 j s) wr) := by rw [tn7, if_neg hj0]; exact HS.out
        have HXB : Hid (Below w.heap.size w wr) := by obtain ⟨-, -, -, -, hb⟩ := HS.out; exact HBW.out.trans (hb.mono HBW.out.size)
        clear HS
        obtain ⟨X, hX⟩ : ∃ X, X = wr := ⟨_, rfl⟩
        subst hX
        have p00 := HXB.out.size
        have hns := congrArg (fun z : St7 => z.wd) (rfl : tn7 j s = tn7 j s)
        have hswd : (tn7 j s).wd = k := by rw [(tn7_rows _ _).2, ← HEQ.out.wd, grw_wd]
        obtain ⟨q, hq⟩ : ∃ q, Bs[j]? = some q := ⟨_, List.getElem?_eq_getElem (by have := HN.out; omega)⟩
        obtain ⟨a', cap', hv', hc', hl'⟩ := H.out.below HXB.out
        rw [HN.out] at hv'
        simp only [Value.slice.injEq, true_and] at hv'
        obtain ⟨rfl, rfl⟩ := hv'
        rcases hc' with hc' | ⟨b, o, rfl, -, hc'⟩
        · rw [hc'] at hq; simp at hq
        have q0 := hc' j q hq
        have hrn := hl' q (List.mem_of_getElem? hq)
        have hqt := tot7_get hq
        have hgl := grw_len k Bs j (by have := HN.out; omega)
        have hsl : (tn7 j s).rows.length ≤ tot7 (Bs.take j) := by rw [(tn7_rows _ _).1, ← HEQ.out.a.length_eq]; exact hgl
        have HBR := hm7 (brought7_any q.1 q.2 k X hrn (by omega) (by omega))
        obtain ⟨qa, qc, hqv, -, -⟩ := hrn
        have HQT : Hid (tot7 (Bs.take j) + q.1.length ≤ tot7 Bs ∧ (tn7 j s).rows.length ≤ tot7 (Bs.take j)) := ⟨hqt, hsl⟩
        have HSW := hm7 hswd
        generalize hqn : q.1.length = qn at hqv
        rw [hqv] at q0 HBR
        have HQ := hm7 hq
        clear hq hc' hl' hqv hqn hqt hgl hsl hswd hns
        go_wp2_with (go_at_call 19; refine HBR.out.mono ?_; rintro e w3 ⟨u, rfl, Q, hol, hqm, hb3⟩; obtain ⟨ua, uc, hu, -⟩ := row7_form hol.o; obtain ⟨n2, hn2⟩ : ∃ n2, Q.length = n2 := ⟨_, rfl⟩; rw [hn2] at hu; subst hu; have hn2b : n2 ≤ 1048576 := (by have h1 := congrArg List.length hqm; simp at h1; have h2 := HQT.out.1; omega); have HOL := hm7 hol; have HQM := hm7 hqm; have HB3 := hm7 hb3; have HN2 := hm7 hn2; clear hol hqm hb3 hn2)
        clear HBR q0
        have HQL : Hid (n2 = q.1.length) := by have := congrArg List.length HQM.out; simp at this; rw [HN2.out] at this; exact this
        have p01 := HB3.out.size
        obtain ⟨F0, S0, hr0, hd0, hb0⟩ := HTN.out
        have HR0 := hm7 (And.intro hr0 (And.intro hd0 hb0))
        have p02 := hb0.size
        clear hr0 hd0 hb0
        go_loopg [14] n2 (fun gg2 i wr => ∃ (z : List (List Int)) (F S : Nat → Prop) (y : Int), i = .int .i64 y ∧ y = (gg2 : Int) - 1 ∧ gg2 ≤ n2 ∧ SI W2 w3 gs X.heap.size (tn7 j s) (Q.map Prod.fst) gg2 wr z F S)
        case atStart =>
          refine ⟨[], F0, S0, (n2 : Int) - 1, by go_num, rfl, Nat.le_refl _, ⟨HR0.out.1.below HB3.out, fun b hb => ⟨HR0.out.2.1 b hb, Or.inl (HR0.out.1.lt hb)⟩, HR0.out.2.2.trans (HB3.out.mono p02), Fr.refl _ _⟩, by simp, fun i x hi hx => ?_, by rw [List.length_map, HN2.out]; simp⟩
          have := (List.getElem?_eq_some_iff.1 hx).1
          rw [List.length_map, HN2.out] at this
          omega
        case round =>
          obtain ⟨z, F2, S2, y, rfl, hy, hgn, hsi⟩ := hrel
          have HSI := hm7 hsi
          clear hsi
          cases gk with
          | succ gg2 =>
            obtain rfl : y = (gg2 : Int) := by omega
            clear hy
            have hlt2 : (gg2 : Int) < (n2 : Int) := by omega
            have y0 : (0 : Int) ≤ (gg2 : Int) := by omega
            have hol := HOL.out.fr HSI.out.i.f fun b h1 h2 h3 => by omega
            obtain ⟨p, hp⟩ : ∃ p, Q[gg2]? = some p := ⟨_, List.getElem?_eq_getElem (by have := HN2.out; omega)⟩
            obtain ⟨bu, rfl, -, -, q1, -⟩ := row7_at (by have := hol.o; rw [HN2.out] at this; exact this) (i := gg2) (u := p.2) (by rw [List.getElem?_map, hp]; rfl)
            have hli := hol.l p (List.mem_of_getElem? hp)
            have hpf : (Q.map Prod.fst)[gg2]? = some p.1 := by rw [List.getElem?_map, hp]; rfl
            have HWK : Hid (∀ p ∈ Q, p.1.length = (tn7 j s).wd) := fun p hp => by
              have h1 : p.1 ∈ Q.map Prod.fst := List.mem_map_of_mem hp
              rw [HQM.out] at h1
              rw [HSW.out]
              exact wd7_mem (q := q) p.1 h1
            have hzl : (tn7 j s).rows.length + z.length < 9000000000 := by
              have h1 := HSI.out.l
              rw [List.length_map, HN2.out] at h1
              have h2 := HQT.out
              omega
            have HAD := hm7 (HSI.out.i.call hli (HWK.out p (List.mem_of_getElem? hp)) (by rw [HSW.out]; omega) (by omega) (by omega))
            obtain ⟨pa, pc, hpv, -⟩ := hli
            generalize p.1.length = pn at hpv
            rw [hpv] at q1 HAD
            have HPF := hm7 hpf
            clear hp hpf hpv hol
            go_upto_region 18 with (go_at_call 16; refine HAD.out.mono ?_; rintro e w4 ⟨⟨t0, t1, rfl⟩, F3, S3, hgi3⟩; have HG3 := hm7 hgi3; clear hgi3)
            clear HAD q1
            by_cases hhow : gg2 < hn
            · have hh1 : (gg2 : Int) < (hn : Int) := by omega
              obtain ⟨zz, hzz⟩ : ∃ zz, how[gg2]? = some zz := ⟨_, List.getElem?_eq_getElem (by have := HHN.out; omega)⟩
              obtain ⟨ha', hc', hhv, -, -, -, hhc⟩ := HHW.out.below (HBW.out.trans (HG3.out.b.mono HBW.out.size))
              rw [HHN.out] at hhv
              simp only [Value.slice.injEq, true_and] at hhv
              obtain ⟨rfl, rfl⟩ := hhv
              rcases hhc with ⟨hhc, -⟩ | ⟨hb, ho, rfl, -, -, hhc⟩
              · rw [hhc] at hzz; simp at hzz
              have h0 := hhc gg2 zz hzz
              have htl := tmod_lt zz n2 (by omega)
              obtain ⟨t, ht⟩ : ∃ t, zz.tmod (n2 : Int) = t := ⟨_, rfl⟩
              rw [ht] at htl
              have hnz : ¬ (n2 : Int) = 0 := by omega
              have hnz2 : ((n2 : Int) == 0) = false := by simpa using hnz
              have hnz3 : ((n2 : Int) == -1) = false := by first | (simp; done) | (simp; omega)
              obtain ⟨tn, htn⟩ : ∃ tn, t.natAbs = tn := ⟨_, rfl⟩
              rw [htn] at htl
              have hwt : IntKind.i64.wrap t = t := by rw [IntKind.wrap_i64]; omega
              have hwn : IntKind.i64.wrap (-t) = -t := by rw [IntKind.wrap_i64]; omega
              have i3 : (tn : Int) < (n2 : Int) := by omega
              have i4 : (0 : Int) ≤ (tn : Int) := by omega
              have hol := HOL.out.fr HG3.out.f fun b h1 h2 h3 => by omega
              obtain ⟨p2, hp2⟩ : ∃ p, Q[tn]? = some p := ⟨_, List.getElem?_eq_getElem (by have := HN2.out; omega)⟩
              obtain ⟨bu2, e2, -, -, q2, -⟩ := row7_at (by have := hol.o; rw [HN2.out] at this; exact this) (i := tn) (u := p2.2) (by rw [List.getElem?_map, hp2]; rfl)
              cases e2
              have hli := hol.l p2 (List.mem_of_getElem? hp2)
              have hpf2 : p2.1 ∈ Q.map Prod.fst := List.mem_map_of_mem (List.mem_of_getElem? hp2)
              have HAD2 := hm7 (HG3.out.call hli (HWK.out p2 (List.mem_of_getElem? hp2)) (by rw [HSW.out]; omega) (by rw [List.length_append, List.length_singleton]; omega) (by omega))
              obtain ⟨pa2, pc2, hpv2, -⟩ := hli
              generalize p2.1.length = pn2 at hpv2
              rw [hpv2] at q2 HAD2
              have HPF2 := hm7 hpf2
              clear hp2 hpf2 hpv2 hol hhc hzz
              by_cases htz : t < 0
              · have hnt : -t = (tn : Int) := by omega
                rw [hnt] at hwn
                clear htn
                go_wp2_with (go_at_call 16; refine HAD2.out.mono ?_; rintro e w5 ⟨⟨t2, t3, rfl⟩, F4, S4, hgi4⟩; have HG4 := hm7 hgi4; clear hgi4)
                go_roundg gg2
                case measure => omega
                case rel => exact ⟨_, F4, S4, (gg2 : Int) - 1, by go_num, rfl, by omega, HSI.out.step2 HPF.out HPF2.out HG4.out⟩
              · have htt : t = (tn : Int) := by omega
                subst htt
                clear htn
                go_wp2_with (go_at_call 16; refine HAD2.out.mono ?_; rintro e w5 ⟨⟨t2, t3, rfl⟩, F4, S4, hgi4⟩; have HG4 := hm7 hgi4; clear hgi4)
                go_roundg gg2
                case measure => omega
                case rel => exact ⟨_, F4, S4, (gg2 : Int) - 1, by go_num, rfl, by omega, HSI.out.step2 HPF.out HPF2.out HG4.out⟩
            · have hh1 : ¬ (gg2 : Int) < (hn : Int) := by omega
              go_wp2
              go_roundg gg2
              case measure => omega
              case rel => exact ⟨_, F3, S3, (gg2 : Int) - 1, by go_num, rfl, by omega, HSI.out.step HPF.out HG3.out⟩
          | zero =>
            obtain rfl : y = -1 := by omega
            clear hy
            go_wp2
            go_roundg gg
            case measure => omega
            case rel =>
              refine ⟨j + 1, adL (tn7 j s) z, by omega, by go_num, ⟨F2, S2, HSI.out.i.r, fun b hb => (HSI.out.i.d b hb).1, HSI.out.i.b⟩, Eqv.next hk5 HWF.out hB HQ.out HEQ.out HR0.out.1.ok HSI.out.i.r.ok fun x => ⟨fun hx => ?_, fun hx => ?_⟩⟩
              · have h1 : x ∈ Q.map Prod.fst := by rw [HQM.out]; exact hx
                obtain ⟨i, hi⟩ := List.getElem?_of_mem h1
                exact HSI.out.b i x (by omega) hi
              · have h1 := HSI.out.a x hx
                rw [HQM.out] at h1
                exact h1
    | zero =>
      have hlt : ¬ (j : Int) < (n : Int) := by omega
      obtain rfl : j = n := by omega
      have HTW : Hid (TW w g gs 0 (grw k Bs j) s wr) := TW.start HRW.out HD.out HBW.out HS.out
      have HOK : Hid ((grw k Bs j).Ok ∧ s.Ok) := ⟨HRW.out.ok, by obtain ⟨F5, S5, h5, _⟩ := HS.out; exact h5.ok⟩
      clear HS HRW HD
      go_wp2
      go_loopg [16] 3 (fun gg3 i wr => ∃ m, m + gg3 = 3 ∧ i = .int .i64 (bit7 gg3) ∧ TW w g gs m (grw k Bs j) s wr)
      case atStart => exact ⟨0, rfl, rfl, HTW.out⟩
      case round =>
        obtain ⟨m, hm, rfl, htw⟩ := hrel
        have HTW2 := hm7 htw
        clear htw HTW
        cases gk with
        | succ gg3 =>
          have hsr := HEQ.out.bit HOK.out.1 HOK.out.2 (gg3 + 1) (by omega)
          have hb8 : bit7 (gg3 + 1) < 8 := by
            have : gg3 = 0 ∨ gg3 = 1 ∨ gg3 = 2 := by omega
            rcases this with rfl | rfl | rfl <;> decide
          have hb2 : IntKind.i64.wrap (bit7 (gg3 + 1) * 2) = bit7 gg3 := by
            have : gg3 = 0 ∨ gg3 = 1 ∨ gg3 = 2 := by omega
            rcases this with rfl | rfl | rfl <;> rfl
          generalize bit7 (gg3 + 1) = bb at hsr hb8 hb2 ⊢
          have HSR := hm7 hsr
          have hm1 : m ≤ 1000 := by omega
          clear hsr
          go_wp2_with (first | (go_at_call 12; with_reducible refine Calls.mono (HTW2.out.one bb hm1) ?_; rintro e w4 ⟨u, rfl, Q, hq, htm⟩; obtain ⟨ua, un, uc, hu⟩ : ∃ a n c, u = .slice a n c := htm.form; subst hu; have HTM := hm7 htm; have HQ := hm7 hq; clear htm hq) | (go_at_call 12; with_reducible refine Calls.mono (HTM.out.two bb hm1) ?_; rintro e w5 ⟨u2, rfl, Q2, hq2, hl1, hl2, htw⟩; obtain ⟨ua2, un2, uc2, hu2⟩ : ∃ a n c, u2 = .slice a n c := hl2.form; subst hu2; have HL := hm7 (And.intro hl1 hl2); have HQ2 := hm7 hq2; have HTW3 := hm7 htw; clear hl1 hl2 hq2 htw) | (go_at_call 22; have hqq : Q.map Prod.fst = Q2.map Prod.fst := (by rw [HQ.out, HQ2.out, HSR.out]); with_reducible refine Calls.mono (sameRows7_any Q Q2 _ _ w5 HL.out.1 HL.out.2 hqq) ?_; rintro e w6 ⟨rfl, dn, rfl⟩; have HTW6 := hm7 (HTW3.out.below (below_drewN7 w5 dn))))
          go_roundg gg3
          case measure => omega
          case rel => exact ⟨m + 1, by omega, by first | rfl | rw [hb2], HTW6.out⟩
        | zero =>
          go_wp2
          go_ret
          obtain ⟨_, _, _, _, _, _, _, _, hb⟩ := HTW2.out
          exact ⟨rfl, hb⟩
end Go.Proofs.Ytgachpfgmdogbaa
