/-
  law 8: BaseParts. (Written by EI1.py.)
-/
import Derived.Test.YtechceagghcipaaGreatEI0
import Derived.BigQuiet
namespace Go.Proofs.YtechceagghcipaaGreat
open Go.RowKit
attribute [local go_sem ↓] Go.wp_at_zero Go.wp_at_succ

set_option maxRecDepth 20000 in
set_option maxHeartbeats 4000000 in
theorem baseParts8_any (w : World) (sv : Value) (Os : List Op8) (parts : Int) (hS : Sc8 w sv Os) (hl : Os.length ≤ 1048576) (hz : zo8 Os ≤ 1048576) :
    Calls Tryz.prog 3 #[sv, .int .i64 parts] w fun e w' => e = .returned (.bool true) ∧ Below w.heap.size w w' := by
  have hsh := hS
  obtain ⟨sa, sc, rfl, -⟩ := hsh
  have HSC := hm7 hS
  have HZ := hm7 (And.intro hl hz)
  clear hS hl hz
  go_enter Tryz.func3, Tryz.ntmps3
  go_upto_region 2 with (go_at_call 6; refine (built8_any w _ Os HSC.out HZ.out.1 HZ.out.2).mono ?_; rintro e W2 ⟨g, iv, l, rfl, ⟨A, h1, h2, h3⟩, h4, h5⟩; have HA2 := hm7 h1; have HI2 := hm7 h2; have HD2 := hm7 h3; have HE := hm7 h4; have HK := hm7 h5; clear h1 h2 h3 h4 h5 HSC)
  have HLN := hm7 (show (Ei l).length ≤ 1048576 by have := sz8_len (Ei l); have := HE.out; omega)
  have HND := hm7 HA2.out.nd
  go_upto_region 5 with (go_at_call 7; refine (bp_facts HA2.out parts (by have := HLN.out; omega) (by omega)).mono ?_; rintro e W3 ⟨fv, Q, A3, rfl, k1, k2, k3, k4, k5, k6, -⟩; have HAL3 := hm7 k1; have HSRT := hm7 k2; have HPM := hm7 k3; have HA3 := hm7 k4; have HFR := hm7 k5; have HN3 := hm7 k6; clear k1 k2 k3 k4 k5 k6)
  obtain ⟨hi3, -⟩ := bt_fr HI2.out HD2.out HFR.out HN3.out
  have HI3 := hm7 hi3
  have HQN := hm7 (show (Q.map Prod.fst).Nodup from HPM.out.nodup_iff.2 (filter_fst_nd HND.out _))
  have HQL := hm7 (show Q.length = ((Ei l).filter fun x => hp7 parts x.2).length by have := HPM.out.length_eq; simpa using this)
  have HQ1 := hm7 (show Q.length ≤ 1048576 by have h1 := HQL.out; have h2 := List.length_filter_le (fun x : At × Int => hp7 parts x.2) (Ei l); have := HLN.out; omega)
  have HBW := hm7 HA3.out.bl
  have HAS := hm7 (HAL3.out.as (by have := HQ1.out; omega))
  obtain ⟨qa, qc, hqv, -⟩ := HAS.out
  rw [List.length_map] at hqv
  subst hqv
  obtain ⟨ia, ic, rfl⟩ := HI3.out.o.form
  have hll : l.length ≤ 1048576 := by have h1 := HLN.out; rw [Ei_len] at h1; exact h1
  clear hi3 HI2 HD2 HFR HN3 HA2
  go_wp2
  go_loopg [10, 9] l.length (fun g1 i nn wr => ∃ k : Nat, k + g1 = l.length ∧ i = .int .i64 k ∧ nn = .int .i64 (pc8 l parts k : Int) ∧ pc8 l parts k ≤ k ∧ Below W3.heap.size W3 wr)
  case atStart => exact ⟨0, by omega, rfl, rfl, by simp [pc8, Ei], Below.refl _ _⟩
  case round =>
    obtain ⟨k, hk, rfl, rfl, hfc, hb⟩ := hrel
    have HB := hm7 hb
    cases gk with
    | succ g1 =>
      have hlt : (k : Int) < (l.length : Int) := by omega
      have k0 : (0 : Int) ≤ (k : Int) := by omega
      obtain ⟨x, hx⟩ : ∃ x, l[k]? = some x := ⟨_, List.getElem?_eq_getElem (by omega)⟩
      have his := HI3.out.is
      obtain ⟨lb, lo, fa, fc, rfl, hsh, hc⟩ := his.get hx
      have hts := (HI3.out.t x (List.mem_of_getElem? hx)).1.tsP
      have hkd := HK.out x (List.mem_of_getElem? hx)
      have hal : x.1.1.pl.length ≤ 1000000000 := by have h9 : x.1.1.pl.length ≤ sz8 (Ei l) := sz8_mem (Ei_mem hx); have := HE.out; omega
      have HST := hm7 (pc8_step (parts := parts) hx)
      have HFC := hm7 hfc
      have HHK := hm7 hk
      have HM0 := fun (X : World) (hX : Below wr.heap.size wr X) => bp_part ((HA3.out.below hb).below hX) x.1.1 x.1.2 ((hts.later hb).later hX) hkd.1 hkd.2 hal
      have hmx := Ei_mem hx
      obtain ⟨⟨⟨⟨fk, fn, fs⟩, fnm, fl⟩, fv7⟩, px⟩ := x
      simp only at hsh hc HM0 HST hmx
      subst hsh
      have HXF := hm7 (fun (X : World) (hX : Below wr.heap.size wr X) => (hc X (hb.trans (hX.mono hb.size))).1)
      have HC5 := hm7 (fun (X : World) (hX : Below wr.heap.size wr X) => (hc X (hb.trans (hX.mono hb.size))).2)
      have HMT : Hid (∀ X : World, Below wr.heap.size wr X → Calls Tryz.prog 8 #[.pointer (some ⟨g, 0, none⟩), .agg #[.int .i64 fk, .int .i64 fn, .string fs, .string fnm, .slice fa fl.length fc]] X fun e X' => e = .returned (.int .i64 px) ∧ Below X.heap.size X X') := fun X hX => by
        refine (HM0 X hX).mono ?_
        rintro e X' ⟨q, hq, rfl, hb'⟩
        exact ⟨by rw [((hq px).1 hmx).2], hb'⟩
      clear hx his hc hts hkd hal HM0 hmx hfc hk hb
      go_upto_region 9 with fail
      refine wp_region_held_drew (S := fun w' => Below wr.heap.size wr w') (by kernel_rfl) (by exact (Below.refl _ _).drew) (fun hH => ?_)
      revert hH
      generalize wr.drew = V
      intro hH
      refine wpAnyH_take (i := 0) (oi := ⟨_, _, _, _, _, _⟩) (v := .pointer (some ⟨g, 0, none⟩)) rfl (by kernel_rfl) (by kernel_rfl) (by kernel_rfl) (fun _ _ _ h => h) (Or.inl ⟨by rfl, fun w' h => by clear h; go_simp⟩) hH ?_
      simp only [Act.put, List.setIfInBounds_toArray, List.set_cons_zero, List.set_cons_succ]
      refine wpAnyH_take (i := 1) (oi := ⟨_, _, _, _, _, _⟩) (v := .slice (some ⟨lb, lo, none⟩) l.length ic) rfl (by kernel_rfl) (by kernel_rfl) (by kernel_rfl) (fun _ _ _ h => h) (Or.inl ⟨by rfl, fun w' h => by clear h; go_simp⟩) hH ?_
      simp only [Act.put, List.setIfInBounds_toArray, List.set_cons_zero, List.set_cons_succ]
      refine wpAnyH_take (i := 2) (oi := ⟨_, _, _, _, _, _⟩) (v := .int .i64 (k : Int)) rfl (by kernel_rfl) (by kernel_rfl) (by kernel_rfl) (fun _ _ _ h => h) (Or.inl ⟨by rfl, fun w' h => by clear h; go_simp⟩) hH ?_
      simp only [Act.put, List.setIfInBounds_toArray, List.set_cons_zero, List.set_cons_succ]
      refine wpAnyH_take (i := 3) (oi := ⟨_, _, _, _, _, _⟩) (v := .pointer (some ⟨lb, lo + k * 6, none⟩)) rfl (by kernel_rfl) (by kernel_rfl) (by kernel_rfl) (fun _ _ _ h => h) (Or.inl ⟨by rfl, fun w' h => by clear h; go_simp⟩) hH ?_
      simp only [Act.put, List.setIfInBounds_toArray, List.set_cons_zero, List.set_cons_succ]
      refine wpAnyH_take (i := 4) (oi := ⟨_, _, _, _, _, _⟩) (v := .pointer (some ⟨lb, lo + k * 6, none⟩)) rfl (by kernel_rfl) (by kernel_rfl) (by kernel_rfl) (fun _ _ _ h => h) (Or.inl ⟨by rfl, fun w' h => by clear h; go_simp⟩) hH ?_
      simp only [Act.put, List.setIfInBounds_toArray, List.set_cons_zero, List.set_cons_succ]
      refine wpAnyH_take (i := 5) (oi := ⟨_, _, _, _, _, _⟩) (v := .agg #[.int .i64 fk, .int .i64 fn, .string fs, .string fnm, .slice fa fl.length fc]) rfl (by kernel_rfl) (by kernel_rfl) (by kernel_rfl) (fun _ _ _ h => h) (Or.inl ⟨by rfl, fun w' h => by obtain ⟨p0, p1, p2, p3, p4⟩ := HXF.out w' h; clear h; go_simp⟩) hH ?_
      simp only [Act.put, List.setIfInBounds_toArray, List.set_cons_zero, List.set_cons_succ]
      refine wpAnyH_take (i := 7) (oi := ⟨_, _, _, _, _, _⟩) (v := .slice (some ⟨lb, lo, none⟩) l.length ic) rfl (by kernel_rfl) (by kernel_rfl) (by kernel_rfl) (fun _ _ _ h => h) (Or.inl ⟨by rfl, fun w' h => by clear h; go_simp⟩) hH ?_
      simp only [Act.put, List.setIfInBounds_toArray, List.set_cons_zero, List.set_cons_succ]
      refine wpAnyH_take (i := 8) (oi := ⟨_, _, _, _, _, _⟩) (v := .int .i64 (k : Int)) rfl (by kernel_rfl) (by kernel_rfl) (by kernel_rfl) (fun _ _ _ h => h) (Or.inl ⟨by rfl, fun w' h => by clear h; go_simp⟩) hH ?_
      simp only [Act.put, List.setIfInBounds_toArray, List.set_cons_zero, List.set_cons_succ]
      refine wpAnyH_take (i := 9) (oi := ⟨_, _, _, _, _, _⟩) (v := .pointer (some ⟨lb, lo + k * 6, none⟩)) rfl (by kernel_rfl) (by kernel_rfl) (by kernel_rfl) (fun _ _ _ h => h) (Or.inl ⟨by rfl, fun w' h => by clear h; go_simp⟩) hH ?_
      simp only [Act.put, List.setIfInBounds_toArray, List.set_cons_zero, List.set_cons_succ]
      refine wpAnyH_take (i := 10) (oi := ⟨_, _, _, _, _, _⟩) (v := .pointer (some ⟨lb, lo + k * 6 + 5, none⟩)) rfl (by kernel_rfl) (by kernel_rfl) (by kernel_rfl) (fun _ _ _ h => h) (Or.inl ⟨by rfl, fun w' h => by clear h; go_simp⟩) hH ?_
      simp only [Act.put, List.setIfInBounds_toArray, List.set_cons_zero, List.set_cons_succ]
      refine wpAnyH_take (i := 11) (oi := ⟨_, _, _, _, _, _⟩) (v := .int .i64 px) rfl (by kernel_rfl) (by kernel_rfl) (by kernel_rfl) (fun _ _ _ h => h) (Or.inl ⟨by rfl, fun w' h => by have p5 := HC5.out w' h; clear h; go_simp⟩) hH ?_
      simp only [Act.put, List.setIfInBounds_toArray, List.set_cons_zero, List.set_cons_succ]
      refine wpAnyH_ready (rs := [6]) (by kernel_rfl) (by simp) ?_
      refine (AllReadyH.cons (o := ⟨_, _, _, _, _, _⟩) rfl (fun K hK => ?_) AllReadyH.nil)
      go_simp
      refine (HMT.out _ hH).mono ?_
      rintro e V1 ⟨rfl, hb⟩
      refine hK.out _ _ (hH.trans (hb.mono hH.size)) (fun hH => ?_)
      clear hK hb
      try simp only [Act.put, List.setIfInBounds_toArray, List.set_cons_zero, List.set_cons_succ]
      refine wpAnyH_take (i := 12) (oi := ⟨_, _, _, _, _, _⟩) (v := .bool false) rfl (by kernel_rfl) (by kernel_rfl) (by kernel_rfl) (fun _ _ _ h => h) (Or.inl ⟨by rfl, fun w' h => by clear h; go_simp⟩) hH ?_
      simp only [Act.put, List.setIfInBounds_toArray, List.set_cons_zero, List.set_cons_succ]
      refine wpAnyH_done (by kernel_rfl) ?_ _
      have HV := hm7 hH
      clear hH
      have HBV := hm7 (HB.out.trans (HV.out.mono HB.out.size))
      have c5 := HC5.out _ HV.out
      clear HMT HXF HC5 HV
      by_cases hp : bits BinOp.and IntKind.i64 parts px = 0
      · have hp7n : ¬ hp7 parts px = true := by simp [hp7, hp]
        go_wp2
        go_roundg g1
        case measure => omega
        case rel => exact ⟨k + 1, by have := HHK.out; omega, by go_num, by rw [HST.out, if_neg hp7n]; rfl, by rw [HST.out, if_neg hp7n]; have := HFC.out; omega, HBV.out⟩
      · have hp7n : hp7 parts px = true := by simp [hp7, hp]
        have hcw : (pc8 l parts k : Int) ≤ 1048576 := by have := HFC.out; have := HHK.out; omega
        go_wp2
        go_roundg g1
        case measure => omega
        case rel => exact ⟨k + 1, by have := HHK.out; omega, by go_num, by rw [HST.out, if_pos hp7n]; go_num, by rw [HST.out, if_pos hp7n]; have := HFC.out; omega, HBV.out⟩
    | zero =>
      have hlt : ¬ (k : Int) < (l.length : Int) := by omega
      obtain rfl : k = l.length := by omega
      obtain ⟨W4, rfl⟩ : ∃ W4, W4 = wr := ⟨_, rfl⟩
      have hfq : (pc8 l parts l.length : Int) = (Q.length : Int) := by
        have := HQL.out
        unfold pc8
        rw [List.take_length]
        omega
      rw [hfq]
      have HLE : Hid (∀ X : World, Below W3.heap.size W3 X → Calls Tryz.prog 9 #[.pointer (some ⟨g, 0, none⟩), .int .i64 parts] X fun e X' => e = .returned (.int .i64 (Q.length : Int)) ∧ Below X.heap.size X X') := fun X hX => by
        have := bp_len (HA3.out.below hX) parts (by have := HLN.out; omega)
        rw [← HQL.out] at this
        exact this
      clear hfq hfc hk
      go_upto_region 14 with (first
        | (go_at_call 9; refine (HLE.out _ HB.out).mono ?_; rintro e W5 ⟨rfl, hb5⟩; have HB5 := hm7 (HB.out.trans (hb5.mono HB.out.size)); clear hb5 HB HLE)
        | (go_at_call 10; refine ((HAL3.out.below HB5.out).rises HSRT.out HQN.out (by have := HQ1.out; omega)).mono ?_; rintro e W6 ⟨rfl, hb6⟩; have HB6 := hm7 (HB5.out.trans (hb6.mono HB5.out.size)); clear hb6 HB5))
      go_wp2
      go_loopg [11, 12] Q.length (fun g2 i _ wr => ∃ k : Nat, k + g2 = Q.length ∧ i = .int .i64 k ∧ Below W3.heap.size W3 wr)
      case atStart => exact ⟨0, by omega, rfl, HB6.out⟩
      case round =>
        obtain ⟨k, hk, rfl, hb⟩ := hrel
        have HB := hm7 hb
        cases gk with
        | succ g2 =>
          have hlt2 : (k : Int) < (Q.length : Int) := by omega
          have hq1 : Q.length ≤ 1048576 := HQ1.out
          have k0 : (0 : Int) ≤ (k : Int) := by omega
          obtain ⟨y, hy⟩ : ∃ y, Q[k]? = some y := ⟨_, List.getElem?_eq_getElem (by omega)⟩
          have hy2 : (Q.map enc8)[k]? = some (enc8 y) := by rw [List.getElem?_map, hy]; rfl
          obtain ⟨⟨f, q⟩, hfq, hfe⟩ := List.mem_map.1 (HPM.out.mem_iff.1 (List.mem_map.2 ⟨y, List.mem_of_getElem? hy, rfl⟩))
          obtain ⟨hfm, hfp⟩ := List.mem_filter.1 hfq
          simp only at hfp hfe
          subst hfe
          obtain ⟨i, x', hi, hx1, hx2, hpl⟩ := pl8_get hfm HND.out
          obtain ⟨qb, qo, fa, fc, rfl, hsh, hc⟩ := As.get8 HAS.out hy2
          have his := HI3.out.is
          obtain ⟨lb, lo, ga, gc, rfl, -, hci⟩ := his.get hi
          have hts : Ts W3 (enc8 y).2 y.1.args := by
            obtain ⟨_, _, _, _, _, h⟩ := HAS.out
            exact h _ (List.mem_of_getElem? hy2)
          have HPL := fun (X : World) (hX : Below W3.heap.size W3 X) => place8_any l (.slice (some ⟨lb, lo, none⟩) l.length ic) y.1 (enc8 y).2 X (HI3.out.below hX).is (hts.later hX) (by omega)
          have hil : i < l.length := (List.getElem?_eq_some_iff.1 hi).1
          have hnz : ¬ bits BinOp.and IntKind.i64 parts q = 0 := by simpa [hp7] using hfp
          rw [hpl] at HPL
          rw [hx2] at hci
          obtain ⟨⟨⟨fk, fn, fs⟩, fnm, fl⟩, yb⟩ := y
          have hsh2 : (enc8 (⟨⟨fk, fn, fs⟩, fnm, fl⟩, yb)).2 = .slice fa fl.length fc := hsh
          rw [hsh2] at HPL hc
          have HXF0 : Hid (∀ X : World, Below W3.heap.size W3 X → X.cell? ⟨qb, qo + k * 5, none⟩ = some (.int .i64 fk) ∧ X.cell? ⟨qb, qo + k * 5 + 1, none⟩ = some (.int .i64 fn) ∧ X.cell? ⟨qb, qo + k * 5 + 2, none⟩ = some (.string fs) ∧ X.cell? ⟨qb, qo + k * 5 + 3, none⟩ = some (.string fnm) ∧ X.cell? ⟨qb, qo + k * 5 + 4, none⟩ = some (.slice fa fl.length fc)) := fun X hX => hc X hX
          have HCI := hm7 (fun (X : World) (hX : Below W3.heap.size W3 X) => (hci X hX).2)
          have HPLC : Hid (∀ X : World, Below W3.heap.size W3 X → Calls Tryz.prog 11 #[.slice (some ⟨lb, lo, none⟩) l.length ic, .agg #[.int .i64 fk, .int .i64 fn, .string fs, .string fnm, .slice fa fl.length fc]] X fun e X' => e = .returned (.int .i64 (i : Int)) ∧ Below X.heap.size X X') := HPL
          have i0 : (0 : Int) ≤ (i : Int) := by omega
          have i1 : ¬ (i : Int) < 0 := by omega
          have i2 : (i : Int) < (l.length : Int) := by omega
          obtain ⟨a0', a1', a2', a3', a4'⟩ := HXF0.out wr hb
          have HHK := hm7 hk
          clear hy hy2 hfq hfm hfp hi hx1 hx2 hpl hsh hsh2 hc hci his hts HPL hil hb hk
          go_upto_region 19 with (go_at_call 11; refine (HPLC.out _ HB.out).mono ?_; rintro e W6 ⟨rfl, hb⟩; have HB7 := hm7 (HB.out.trans (hb.mono HB.out.size)); clear hb HPLC)
          have c5 := HCI.out _ HB7.out
          clear a0' a1' a2' a3' a4' HXF0 HCI
          have hne : (bits BinOp.and IntKind.i64 parts q == 0) = false := by simpa using hnz
          go_wp2
          go_roundg g2
          case measure => omega
          case rel => exact ⟨k + 1, by have := HHK.out; omega, by go_num, HB7.out⟩
        | zero =>
          have hlt2 : ¬ (k : Int) < (Q.length : Int) := by omega
          obtain ⟨W7, rfl⟩ : ∃ W7, W7 = wr := ⟨_, rfl⟩
          clear hb hk
          go_upto_region 22 with (go_at_call 12; refine (bp_preds (HA3.out.below HB.out) (by have := HLN.out; omega)).mono ?_; rintro e W8 ⟨pv, P, rfl, p1, p2, p3, p4, p5⟩; have HOP := hm7 p1.tsP; have HPN := hm7 p2; have HPS := hm7 p3; have HPE := hm7 p4; have HB8 := hm7 (HB.out.trans (p5.mono HB.out.size)); clear p1 p2 p3 p4 p5)
          obtain ⟨pa, pc, rfl⟩ := HOP.out.form
          have HPLN : Hid (P.length ≤ 1048576) := by
            have h1 : P.length ≤ (Ei l).length := by
              have : P.length ≤ ((Ei l).map fun x => x.1.pd8).length := nodup_len8 _ _ HPN.out fun p hp => by
                obtain ⟨x, hx, e⟩ := (HPE.out p).1 hp
                exact List.mem_map.2 ⟨x, hx, e⟩
              simpa using this
            have := HLN.out
            show _ ≤ _
            omega
          have hpl0 : P.length ≤ 1048576 := HPLN.out
          have HI8 := hm7 (HI3.out.below HB8.out)
          clear HB6 HB
          go_wp2
          go_loopg [14, 15, 16] P.length (fun g3 i _ _ wr => ∃ k : Nat, k + g3 = P.length ∧ i = .int .i64 k ∧ Below W8.heap.size W8 wr)
          case atStart => exact ⟨0, by omega, rfl, Below.refl _ _⟩
          case round =>
            obtain ⟨k, hk, rfl, hb⟩ := hrel
            have HB := hm7 hb
            obtain ⟨W9, rfl⟩ : ∃ W9, W9 = wr := ⟨_, rfl⟩
            cases gk with
            | succ g3 =>
              have hlt3 : (k : Int) < (P.length : Int) := by omega
              have k0 : (0 : Int) ≤ (k : Int) := by omega
              obtain ⟨p, hp⟩ : ∃ p, P[k]? = some p := ⟨_, List.getElem?_eq_getElem (by omega)⟩
              obtain ⟨pb, po, rfl, hrow⟩ := HOP.out.get hp
              have HROW := hm7 hrow
              have HPP := hm7 hp
              have HSA := hm7 (so8_all ((HPE.out p).1 (List.mem_of_getElem? hp)))
              have HHK := hm7 hk
              obtain ⟨pn, pr⟩ := p
              obtain ⟨a0, a1⟩ := (HROW.out.later HB.out).2 k ⟨pn, pr⟩ HPP.out
              simp only at a0 a1
              clear hp hrow hb hk
              go_upto_region 25 with fail
              go_cut [151] from 108 to 151 (fun s151 wx => s151 = .bool false ∧ Below W9.heap.size W9 wx)
              case first =>
                by_cases hz : k = 0
                · subst hz
                  have hd : decide ((0 : Int) > 0) = false := by decide
                  clear a0 a1
                  go_quiet (fail)
                  go_wp2
                  go_meet
                  case rel => exact ⟨rfl, below_drewN (Below.refl _ _) _⟩
                · obtain ⟨q, hq⟩ : ∃ q, P[k - 1]? = some q := ⟨_, List.getElem?_eq_getElem (by omega)⟩
                  have hcm := srt8P_next HPS.out HPN.out hq (by rw [show k - 1 + 1 = k by omega]; exact HPP.out)
                  obtain ⟨qn, qr⟩ := q
                  obtain ⟨b0, b1⟩ := (HROW.out.later HB.out).2 (k - 1) ⟨qn, qr⟩ hq
                  simp only at b0 b1 hcm
                  have j1 : (0 : Int) ≤ (k : Int) - 1 := by omega
                  have j2 : (k : Int) - 1 < (P.length : Int) := by omega
                  have j3 : ((k : Int) - 1).toNat = k - 1 := by omega
                  have j5 : IntKind.i64.wrap ((k : Int) - 1) = (k : Int) - 1 := by rw [IntKind.wrap_i64]; omega
                  have j6 : ¬ (k : Int) < 1 := by omega
                  have hd : decide ((k : Int) > 0) = true := decide_eq_true (by omega)
                  have hd2 : decide (0 < k) = true := decide_eq_true (by omega)
                  have hd3 : (0 : Int) < (k : Int) := by omega
                  have hd4 : 0 < k := by omega
                  clear hq
                  rcases hcm with ⟨hne, hsg⟩ | ⟨rfl, hlt4⟩
                  · have hs1 : Go.Op.bytesLess qn.toList pn.toList = true := by
                      cases hbl : Go.Op.bytesLess qn.toList pn.toList with
                      | true => rfl
                      | false => unfold M.sgL M.bl at hsg; rw [if_neg (by simp [hbl])] at hsg; split at hsg <;> omega
                    have hs2 : ¬ qn.toList = pn.toList := fun e => hne (toList_inj e)
                    have hs3 : decide (qn.toList = pn.toList) = false := decide_eq_false hs2
                    have hs4 : (qn.toList == pn.toList) = false := by simpa using hs2
                    have hs6 : decide (qn = pn) = false := decide_eq_false hne
                    clear hsg
                    go_quiet (fail)
                    go_wp2
                    go_meet
                    case rel => exact ⟨rfl, below_drewN (Below.refl _ _) _⟩
                  · have hs7 : ¬ qr ≥ pr := by omega
                    have hs8 : decide (qr ≥ pr) = false := decide_eq_false hs7
                    have hs9 : ¬ pr ≤ qr := by omega
                    have hs0 : decide (pr ≤ qr) = false := decide_eq_false hs9
                    go_quiet (fail)
                    go_wp2
                    go_meet
                    case rel => exact ⟨rfl, below_drewN (Below.refl _ _) _⟩
              case rest =>
                obtain ⟨rfl, hb9⟩ := hcut
                have HB9 := hm7 (HB.out.trans (hb9.mono HB.out.size))
                clear hb9 a0 a1
                go_wp2
                go_loopg [16, 15] l.length (fun g4 i sm wr => ∃ m : Nat, m + g4 = l.length ∧ i = .int .i64 m ∧ sm = .bool (so8 l m ⟨pn, pr⟩) ∧ Below W8.heap.size W8 wr)
                case atStart => exact ⟨0, by omega, rfl, rfl, HB9.out⟩
                case round =>
                  obtain ⟨m, hm, rfl, rfl, hb⟩ := hrel
                  have HBm := hm7 hb
                  clear hb
                  cases gk with
                  | succ g4 =>
                    have hlt4 : (m : Int) < (l.length : Int) := by omega
                    have m0 : (0 : Int) ≤ (m : Int) := by omega
                    obtain ⟨x, hx⟩ : ∃ x, l[m]? = some x := ⟨_, List.getElem?_eq_getElem (by omega)⟩
                    obtain ⟨lb, lo, fa, fc, rfl, hsh, hc⟩ := HI8.out.is.get hx
                    obtain ⟨⟨-, -, -, c3, c4⟩, -⟩ := hc _ HBm.out
                    obtain ⟨a0, a1⟩ := (HROW.out.later HBm.out).2 k ⟨pn, pr⟩ HPP.out
                    simp only at a0 a1
                    have HST := hm7 (so8_step (p := ⟨pn, pr⟩) hx)
                    obtain ⟨⟨⟨⟨fk, fn, fs⟩, fnm, fl⟩, fv7⟩, px⟩ := x
                    simp only at hsh c3 c4 HST
                    subst hsh
                    obtain ⟨s0, hs0⟩ : ∃ s0, so8 l m ⟨pn, pr⟩ = s0 := ⟨_, rfl⟩
                    obtain ⟨s1, hs1⟩ : ∃ s1, so8 l (m + 1) ⟨pn, pr⟩ = s1 := ⟨_, rfl⟩
                    have HS1 := hm7 hs1
                    have HFN : Hid (s1 = (s0 || decide ((⟨⟨fk, fn, fs⟩, fnm, fl⟩ : At).pd8 = ⟨pn, pr⟩))) := by
                      show _ = _
                      rw [← hs1, HST.out, hs0]
                    rw [hs0]
                    clear hs0 hs1 hx hc HST
                    go_upto_region 31 with fail
                    cases s0 with
                    | true =>
                      obtain rfl : s1 = true := by rw [HFN.out]; simp
                      clear a0 a1 c3 c4
                      go_quiet (fail)
                      go_wp2
                      go_roundg g4
                      case measure => omega
                      case rel => exact ⟨m + 1, by omega, by go_num, by rw [HS1.out], below_drewN HBm.out _⟩
                    | false =>
                      by_cases hne : fnm = pn
                      · by_cases hna : (fl.length : Int) = pr
                        · obtain rfl : s1 = true := by rw [HFN.out]; simp [At.pd8, hne, hna]
                          subst hne hna
                          go_quiet (fail)
                          go_wp2
                          go_roundg g4
                          case measure => omega
                          case rel => exact ⟨m + 1, by omega, by go_num, by rw [HS1.out], below_drewN HBm.out _⟩
                        · obtain rfl : s1 = false := by rw [HFN.out]; simp [At.pd8, hna]
                          subst hne
                          have hq1 : ((fl.length : Int) == pr) = false := by simpa using hna
                          have hq2 : decide ((fl.length : Int) = pr) = false := decide_eq_false hna
                          go_quiet (fail)
                          go_wp2
                          go_roundg g4
                          case measure => omega
                          case rel => exact ⟨m + 1, by omega, by go_num, by rw [HS1.out], below_drewN HBm.out _⟩
                      · obtain rfl : s1 = false := by rw [HFN.out]; simp [At.pd8, hne]
                        have hs2 : ¬ fnm.toList = pn.toList := fun e => hne (toList_inj e)
                        have hs3 : decide (fnm.toList = pn.toList) = false := decide_eq_false hs2
                        have hs4 : (fnm.toList == pn.toList) = false := by simpa using hs2
                        have hs6 : decide (fnm = pn) = false := decide_eq_false hne
                        go_quiet (fail)
                        go_wp2
                        go_roundg g4
                        case measure => omega
                        case rel => exact ⟨m + 1, by omega, by go_num, by rw [HS1.out], below_drewN HBm.out _⟩
                  | zero =>
                    have hlt4 : ¬ (m : Int) < (l.length : Int) := by omega
                    obtain rfl : m = l.length := by omega
                    rw [HSA.out]
                    clear hm
                    go_wp2
                    go_roundg g3
                    case measure => omega
                    case rel => exact ⟨k + 1, by have := HHK.out; omega, by go_num, HBm.out⟩
            | zero =>
              have hlt3 : ¬ (k : Int) < (P.length : Int) := by omega
              clear hb hk
              go_wp2
              go_loopg [17, 18, 19] l.length (fun g5 i _ _ wr => ∃ k : Nat, k + g5 = l.length ∧ i = .int .i64 k ∧ Below W8.heap.size W8 wr)
              case atStart => exact ⟨0, by omega, rfl, HB.out⟩
              case round =>
                obtain ⟨k, hk, rfl, hb⟩ := hrel
                have HB := hm7 hb
                obtain ⟨W9, rfl⟩ : ∃ W9, W9 = wr := ⟨_, rfl⟩
                cases gk with
                | succ g5 =>
                  have hlt5 : (k : Int) < (l.length : Int) := by omega
                  have k0 : (0 : Int) ≤ (k : Int) := by omega
                  obtain ⟨x, hx⟩ : ∃ x, l[k]? = some x := ⟨_, List.getElem?_eq_getElem (by omega)⟩
                  obtain ⟨lb, lo, fa, fc, rfl, hsh, hc⟩ := HI8.out.is.get hx
                  have HTA := hm7 (th8_all ((HPE.out x.1.1.pd8).2 ⟨_, Ei_mem hx, rfl⟩))
                  obtain ⟨⟨⟨⟨fk, fn, fs⟩, fnm, fl⟩, fv7⟩, px⟩ := x
                  simp only at hsh hc HTA
                  subst hsh
                  have HC := hm7 (fun (X : World) (hX : Below W8.heap.size W8 X) => (hc X hX).1)
                  have HHK := hm7 hk
                  clear hx hc hb hk
                  go_wp2
                  go_loopg [19, 18] P.length (fun g6 i sm wr => ∃ m : Nat, m + g6 = P.length ∧ i = .int .i64 m ∧ sm = .bool (th8 P m (⟨⟨fk, fn, fs⟩, fnm, fl⟩ : At).pd8) ∧ Below W8.heap.size W8 wr)
                  case atStart => exact ⟨0, by omega, rfl, rfl, HB.out⟩
                  case round =>
                    obtain ⟨m, hm, rfl, rfl, hb⟩ := hrel
                    have HBm := hm7 hb
                    clear hb
                    cases gk with
                    | succ g6 =>
                      have hlt6 : (m : Int) < (P.length : Int) := by omega
                      have m0 : (0 : Int) ≤ (m : Int) := by omega
                      obtain ⟨p, hp⟩ : ∃ p, P[m]? = some p := ⟨_, List.getElem?_eq_getElem (by omega)⟩
                      obtain ⟨pb, po, rfl, hrow⟩ := HOP.out.get hp
                      obtain ⟨-, -, -, c3, c4⟩ := HC.out _ HBm.out
                      have HST := hm7 (th8_step (p := (⟨⟨fk, fn, fs⟩, fnm, fl⟩ : At).pd8) hp)
                      obtain ⟨pn, pr⟩ := p
                      obtain ⟨a0, a1⟩ := (hrow.later HBm.out).2 m ⟨pn, pr⟩ hp
                      simp only at a0 a1
                      obtain ⟨s0, hs0⟩ : ∃ s0, th8 P m (⟨⟨fk, fn, fs⟩, fnm, fl⟩ : At).pd8 = s0 := ⟨_, rfl⟩
                      obtain ⟨s1, hs1⟩ : ∃ s1, th8 P (m + 1) (⟨⟨fk, fn, fs⟩, fnm, fl⟩ : At).pd8 = s1 := ⟨_, rfl⟩
                      have HS1 := hm7 hs1
                      have HFN : Hid (s1 = (s0 || decide ((⟨⟨fk, fn, fs⟩, fnm, fl⟩ : At).pd8 = ⟨pn, pr⟩))) := by
                        show _ = _
                        rw [← hs1, HST.out, hs0]
                      rw [hs0]
                      clear hs0 hs1 hp hrow HST
                      go_upto_region 41 with fail
                      cases s0 with
                      | true =>
                        obtain rfl : s1 = true := by rw [HFN.out]; simp
                        clear a0 a1 c3 c4
                        go_quiet (fail)
                        go_wp2
                        go_roundg g6
                        case measure => omega
                        case rel => exact ⟨m + 1, by omega, by go_num, by rw [HS1.out], below_drewN HBm.out _⟩
                      | false =>
                        by_cases hne : fnm = pn
                        · by_cases hna : (fl.length : Int) = pr
                          · obtain rfl : s1 = true := by rw [HFN.out]; simp [At.pd8, hne, hna]
                            subst hne hna
                            go_quiet (fail)
                            go_wp2
                            go_roundg g6
                            case measure => omega
                            case rel => exact ⟨m + 1, by omega, by go_num, by rw [HS1.out], below_drewN HBm.out _⟩
                          · obtain rfl : s1 = false := by rw [HFN.out]; simp [At.pd8, hna]
                            subst hne
                            have hq1 : ((fl.length : Int) == pr) = false := by simpa using hna
                            have hq2 : decide ((fl.length : Int) = pr) = false := decide_eq_false hna
                            go_quiet (fail)
                            go_wp2
                            go_roundg g6
                            case measure => omega
                            case rel => exact ⟨m + 1, by omega, by go_num, by rw [HS1.out], below_drewN HBm.out _⟩
                        · obtain rfl : s1 = false := by rw [HFN.out]; simp [At.pd8, hne]
                          have hs2 : ¬ fnm.toList = pn.toList := fun e => hne (toList_inj e)
                          have hs3 : decide (fnm.toList = pn.toList) = false := decide_eq_false hs2
                          have hs4 : (fnm.toList == pn.toList) = false := by simpa using hs2
                          have hs6 : decide (fnm = pn) = false := decide_eq_false hne
                          go_quiet (fail)
                          go_wp2
                          go_roundg g6
                          case measure => omega
                          case rel => exact ⟨m + 1, by omega, by go_num, by rw [HS1.out], below_drewN HBm.out _⟩
                    | zero =>
                      have hlt6 : ¬ (m : Int) < (P.length : Int) := by omega
                      obtain rfl : m = P.length := by omega
                      rw [HTA.out]
                      clear hm
                      go_wp2
                      go_roundg g5
                      case measure => omega
                      case rel => exact ⟨k + 1, by have := HHK.out; omega, by go_num, HBm.out⟩
                | zero =>
                  have hlt5 : ¬ (k : Int) < (l.length : Int) := by omega
                  have HBF := hm7 ((HBW.out.trans (HB8.out.mono HBW.out.size)).trans (hb.mono (HBW.out.trans (HB8.out.mono HBW.out.size)).size))
                  clear hb hk
                  go_wp2_with (go_at_call 13; refine (first8_any _).mono ?_; rintro e WF ⟨rfl, hb⟩; have H8 := hm7 (HBF.out.trans (hb.mono HBF.out.size)); clear hb HBF)
                  go_ret
                  exact ⟨rfl, H8.out⟩
end Go.Proofs.YtechceagghcipaaGreat
