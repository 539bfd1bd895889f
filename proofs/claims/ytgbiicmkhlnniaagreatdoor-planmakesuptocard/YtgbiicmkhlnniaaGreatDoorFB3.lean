/-
  plan: plan with a lead. (Written by FB2.py.)
-/
import Derived.Test.YtgbiicmkhlnniaaGreatDoorFB2
namespace Go.Proofs.YtgbiicmkhlnniaaGreatDoor
open Go.RowKit
attribute [local go_sem ↓] Go.wp_at_zero Go.wp_at_succ

set_option maxRecDepth 20000 in
set_option maxHeartbeats 4000000 in
theorem plan9_lead (w0 : World) (g : Nat) (c : Cm) (mv av tv : Value) (met : List Bool) (A T : List Int) (Y : World) (h : PN9 w0 g c mv av tv met A T Y) (hd : Bd9 c met.length A) (hT : ∀ n ∈ T, ∃ (i : Nat) (t : Te), n = (i : Int) ∧ c.tests[i]? = some t) (hvt : ∀ t ∈ c.tests, Vn9 met.length [t.l, t.r]) (hl : T.length ≤ 1000000) (hA : A.length ≤ 1000000) (hn : A.Nodup) (n : Nat) (x : At × Value) (hx : c.body[n]? = some x) (hnA : (n : Int) ∈ A) (hvx : Vn9 met.length x.1.pl) :
    Calls Tryz.prog 14 #[.pointer (some ⟨g, 0, none⟩), .int .i64 (n : Int)] Y (PlQ9 w0 (T.filter (tk9 c met)) (jr9 c met (T.filter fun m => !tk9 c met m) n :: pln9 c (jA9 A n).length (jm9 c met n) (jA9 A n) (jT9 c met (T.filter fun m => !tk9 c met m) n))) := by
  have H := hm7 h
  have hb0 := below1 Y (.cells #[.slice none 0 0, .slice none 0 0] 35)
  have bk := Bk.new Y #[.slice none 0 0, .slice none 0 0] 35
  have hz : (Y.alloc (.cells #[.slice none 0 0, .slice none 0 0] 35)).heap.size = Y.heap.size + 1 := by simp
  obtain ⟨Y1, hY1⟩ : ∃ Y1, Y.alloc (.cells #[.slice none 0 0, .slice none 0 0] 35) = Y1 := ⟨_, rfl⟩
  rw [hY1] at hb0 bk hz
  have HRD := hm7 (ready9_any w0 g c mv av tv met A T Y1 (h.below hb0) hT hvt hl)
  have HBK := hm7 bk
  have HVT := hm7 hvt
  have HTT := hm7 (And.intro hd (And.intro hT (And.intro hl (And.intro hA hn))))
  obtain ⟨mn, hmn⟩ : ∃ mn, met.length = mn := ⟨_, rfl⟩
  obtain ⟨B0, hB0⟩ : ∃ B0, Y.heap.size = B0 := ⟨_, rfl⟩
  rw [hmn] at HVT
  obtain ⟨J, hJ⟩ : ∃ J, jr9 c met (T.filter fun m => !tk9 c met m) n :: pln9 c (jA9 A n).length (jm9 c met n) (jA9 A n) (jT9 c met (T.filter fun m => !tk9 c met m) n) = J := ⟨_, rfl⟩
  obtain ⟨AH, hAH⟩ : ∃ AH, T.filter (tk9 c met) = AH := ⟨_, rfl⟩
  rw [hJ, hAH]
  have HJ0 := hm7 hJ
  have HAH := hm7 hAH
  have HMN0 := hm7 hmn
  have HB0 := hm7 hB0
  have HXX := hm7 hx
  have HVX := hm7 hvx
  have HNA := hm7 hnA
  have im : ¬ (n : Int) = -1 := by omega
  have im2 : ((n : Int) == -1) = false := by simp
  have im3 : ((n : Int) != -1) = true := by simp
  clear hx hvx hnA
  clear h hd hT hvt hl hn hb0 bk hJ hAH hmn
  go_enter Tryz.func14, Tryz.ntmps14
  go_upto_region 1 with fail
  first | rw [hY1] | skip
  first | rw [hB0] | skip
  clear hY1 hB0
  go_upto_region 2 with (go_at_call 33; refine HRD.out.mono ?_; rintro e w1 ⟨ahv, tv1, rfl, htl, hpn, hfr⟩; have HLS := hm7 (LS9.start H.out HBK.out hz htl hpn hfr HTT.out.1 HTT.out.2.1 HTT.out.2.2.1 HTT.out.2.2.2.1 HTT.out.2.2.2.2); obtain ⟨ha0, hc0, hahv, -⟩ := row7_form htl.a; obtain ⟨hn0, hhn0⟩ : ∃ hn0, (T.filter (tk9 c met)).length = hn0 := ⟨_, rfl⟩; rw [hhn0] at hahv; clear hhn0; subst hahv; have hgz := hfr.size; clear htl hpn hfr HRD)
  rw [HAH.out, HMN0.out, HB0.out] at HLS
  obtain ⟨W2, hW2⟩ : ∃ W2, w1.alloc (.cells #[.slice ha0 hn0 hc0, .slice none 0 0] 35) = W2 := ⟨_, rfl⟩
  obtain ⟨ob, hob⟩ : ∃ ob, w1.heap.size = ob := ⟨_, rfl⟩
  rw [hob, hW2] at HLS
  rw [hob, hW2]
  obtain ⟨ahv, hahv⟩ : ∃ ahv, Value.slice ha0 hn0 hc0 = ahv := ⟨_, rfl⟩
  rw [hahv] at HLS
  first | rw [hahv] | skip
  clear hahv hob hW2 hgz
  obtain ⟨T2, hT2⟩ : ∃ T2, T.filter (fun m => !tk9 c met m) = T2 := ⟨_, rfl⟩
  rw [hT2] at HLS HJ0
  have HJ : Hid (∀ X : World, PN9 w0 g c mv av tv1 met A T2 X → Calls Tryz.prog 34 #[.pointer (some ⟨g, 0, none⟩), .int .i64 (n : Int)] X (JQ9 w0 g c mv av met A T2 n x.1.pl X)) := fun X hX => join9_any w0 g c mv _ tv1 met A T2 X hX n x HXX.out HVX.out HLS.out.ts (by rw [HMN0.out]; exact HVT.out) HLS.out.tl HLS.out.al
  have HJN : Hid (([] : List (Js9 × Value × Value)).length = 0) := rfl
  clear hT2
  go_upto_if 11 with fail
  go_cut [12] from 12 to 19 (fun _ wx => ∃ av3 tv3 jv3 l3, LS9 w0 g ob B0 B0 mn c mv ahv AH av3 tv3 (jm9 c met n) (jA9 A n) (jT9 c met T2 n) jv3 l3 wx ∧ l3.map Prod.fst = [jr9 c met T2 n] ∧ l3.length = 1)
  case first =>
    go_upto_region 3 with fail
    have HLV := hm7 (HLS.out.below (by exact (Below.refl _ _).drew))
    have hzv : B0 ≤ W2.drew.heap.size := by have := HLV.out.ol; have := HLV.out.o.lt; omega
    refine wp_region_held_drew (S := fun _ => True) (by kernel_rfl) trivial (fun _ => ?_)
    revert HLV hzv
    generalize W2.drew = V
    intro HLV hzv
    have hH : True := trivial
    refine wpAnyH_take (i := 0) (oi := ⟨_, _, _, _, _, _⟩) (v := .pointer (some ⟨ob, 1, none⟩)) rfl (by kernel_rfl) (by kernel_rfl) (by kernel_rfl) (fun _ _ _ h => h) (Or.inl ⟨by rfl, fun w' h => by clear h; go_simp⟩) hH ?_
    simp only [Act.put, List.setIfInBounds_toArray, List.set_cons_zero, List.set_cons_succ]
    refine wpAnyH_take (i := 2) (oi := ⟨_, _, _, _, _, _⟩) (v := .pointer (some ⟨g, 0, none⟩)) rfl (by kernel_rfl) (by kernel_rfl) (by kernel_rfl) (fun _ _ _ h => h) (Or.inl ⟨by rfl, fun w' h => by clear h; go_simp⟩) hH ?_
    simp only [Act.put, List.setIfInBounds_toArray, List.set_cons_zero, List.set_cons_succ]
    refine wpAnyH_take (i := 3) (oi := ⟨_, _, _, _, _, _⟩) (v := .int .i64 (n : Int)) rfl (by kernel_rfl) (by kernel_rfl) (by kernel_rfl) (fun _ _ _ h => h) (Or.inl ⟨by rfl, fun w' h => by clear h; go_simp⟩) hH ?_
    simp only [Act.put, List.setIfInBounds_toArray, List.set_cons_zero, List.set_cons_succ]
    refine wpAnyH_ready (rs := [1, 4]) (by kernel_rfl) (by simp) ?_
    refine (AllReadyH.cons (o := ⟨_, _, _, _, _, _⟩) rfl (fun K hK => ?_) (AllReadyH.cons (o := ⟨_, _, _, _, _, _⟩) rfl (fun K hK => ?_) AllReadyH.nil))
    · have o := (HLV.out).o.cell (i := 1) rfl
      go_simp
      clear o
      refine hK.out _ _ trivial (fun _ => ?_)
      clear hK
      try simp only [Act.put, List.setIfInBounds_toArray, List.set_cons_zero, List.set_cons_succ]
      refine wpAnyH_ready (rs := [4]) (by kernel_rfl) (by simp) ?_
      refine (AllReadyH.cons (o := ⟨_, _, _, _, _, _⟩) rfl (fun K hK => ?_) AllReadyH.nil)
      go_simp
      refine (HJ.out V HLV.out.pn).mono ?_
      intro e V1 hq
      obtain ⟨kv, rv, av2, tv2, rfl, hl1, hk1, hr1, hz1⟩ := HLV.out.join hzv HXX.out hq
      have HL1 := hm7 hl1
      have HK1 := hm7 hk1
      have HR1 := hm7 hr1
      clear hl1 hk1 hr1 hq
      obtain ⟨ka, kcp, hkv, -⟩ := row7_form HK1.out
      obtain ⟨kn, hkn⟩ : ∃ kn, (jr9 c met T2 n).k.length = kn := ⟨_, rfl⟩
      rw [hkn] at hkv
      clear hkn
      subst hkv
      obtain ⟨ra, rcp, hrv, -⟩ := row7_form HR1.out
      obtain ⟨rn, hrn⟩ : ∃ rn, (jr9 c met T2 n).t.length = rn := ⟨_, rfl⟩
      rw [hrn] at hrv
      clear hrn
      subst hrv
      refine hK.out _ _ trivial (fun _ => ?_)
      clear hK
      try simp only [Act.put, List.setIfInBounds_toArray, List.set_cons_zero, List.set_cons_succ]
      refine wpAnyH_ready (rs := [5]) (by kernel_rfl) (by simp) ?_
      refine (AllReadyH.cons (o := ⟨_, _, _, _, _, _⟩) rfl (fun K hK => ?_) AllReadyH.nil)
      go_simp
      refine hK.out _ _ trivial (fun _ => ?_)
      clear hK
      try simp only [Act.put, List.setIfInBounds_toArray, List.set_cons_zero, List.set_cons_succ]
      refine wpAnyH_ready (rs := [6]) (by kernel_rfl) (by simp) ?_
      refine (AllReadyH.cons (o := ⟨_, _, _, _, _, _⟩) rfl (fun K hK => ?_) AllReadyH.nil)
      refine gstepN Tryz.underlying33 Tryz.infoJoin9 rfl (by omega) (by omega) rfl _ _ rfl B0 (.slice none 0 0) 0 (jc9 []) (by rfl) (row7_below (show V1.ownsRow B0 57 3 (.slice none 0 0) 0 (jc9 []) by have h9 := HL1.out.pj.o; rw [HJN.out] at h9; exact h9) (below1 _ _)) V1.heap.size #[.int .i64 (n : Int), .slice ka kn kcp, .slice ra rn rcp] (by rfl) (Bk.new _ _ _) rfl (by simp [Value.oneCell']) (by omega) (by simp; omega) ?_
      intro g2 c2 U ho hg hv hl2
      have HLU := hm7 ((HL1.out.below (below1 _ _)).app (x := (jr9 c met T2 n, .slice ka kn kcp, .slice ra rn rcp)) HJN.out (row7_below HK1.out (below1 _ _)) (row7_below HR1.out (below1 _ _)) ho hg)
      have hbu := (HL1.out.below (below1 _ _)).og hg
      have d1 := hbu.cell (i := 1) rfl
      have d2 := hbu.froz 1
      clear hbu ho hg hv hl2
      refine hK.out _ _ trivial (fun _ => ?_)
      clear hK
      try simp only [Act.put, List.setIfInBounds_toArray, List.set_cons_zero, List.set_cons_succ]
      refine wpAnyH_take (i := 7) (oi := ⟨_, _, _, _, _, _⟩) (v := .pointer (some ⟨ob, 1, none⟩)) rfl (by kernel_rfl) (by kernel_rfl) (by kernel_rfl) (fun _ _ _ h => h) (Or.inl ⟨by rfl, fun w' h => by clear h; go_simp⟩) hH ?_
      simp only [Act.put, List.setIfInBounds_toArray, List.set_cons_zero, List.set_cons_succ]
      refine wpAnyH_ready (rs := [8]) (by kernel_rfl) (by simp) ?_
      refine (AllReadyH.cons (o := ⟨_, _, _, _, _, _⟩) rfl (fun K hK => ?_) AllReadyH.nil)
      go_simp
      clear d1 d2
      refine hK.out _ _ trivial (fun _ => ?_)
      clear hK
      try simp only [Act.put, List.setIfInBounds_toArray, List.set_cons_zero, List.set_cons_succ]
      refine wpAnyH_done (by kernel_rfl) ?_ _
      skip
      go_wp2
      go_meet
      exact ⟨_, _, _, _, HLU.out, rfl, rfl⟩
    · go_simp
      refine (HJ.out V HLV.out.pn).mono ?_
      intro e V1 hq
      obtain ⟨kv, rv, av2, tv2, rfl, hl1, hk1, hr1, hz1⟩ := HLV.out.join hzv HXX.out hq
      have HL1 := hm7 hl1
      have HK1 := hm7 hk1
      have HR1 := hm7 hr1
      clear hl1 hk1 hr1 hq
      obtain ⟨ka, kcp, hkv, -⟩ := row7_form HK1.out
      obtain ⟨kn, hkn⟩ : ∃ kn, (jr9 c met T2 n).k.length = kn := ⟨_, rfl⟩
      rw [hkn] at hkv
      clear hkn
      subst hkv
      obtain ⟨ra, rcp, hrv, -⟩ := row7_form HR1.out
      obtain ⟨rn, hrn⟩ : ∃ rn, (jr9 c met T2 n).t.length = rn := ⟨_, rfl⟩
      rw [hrn] at hrv
      clear hrn
      subst hrv
      refine hK.out _ _ trivial (fun _ => ?_)
      clear hK
      try simp only [Act.put, List.setIfInBounds_toArray, List.set_cons_zero, List.set_cons_succ]
      refine wpAnyH_ready (rs := [1, 5]) (by kernel_rfl) (by simp) ?_
      refine (AllReadyH.cons (o := ⟨_, _, _, _, _, _⟩) rfl (fun K hK => ?_) (AllReadyH.cons (o := ⟨_, _, _, _, _, _⟩) rfl (fun K hK => ?_) AllReadyH.nil))
      · have o := (HL1.out).o.cell (i := 1) rfl
        go_simp
        clear o
        refine hK.out _ _ trivial (fun _ => ?_)
        clear hK
        try simp only [Act.put, List.setIfInBounds_toArray, List.set_cons_zero, List.set_cons_succ]
        refine wpAnyH_ready (rs := [5]) (by kernel_rfl) (by simp) ?_
        refine (AllReadyH.cons (o := ⟨_, _, _, _, _, _⟩) rfl (fun K hK => ?_) AllReadyH.nil)
        go_simp
        refine hK.out _ _ trivial (fun _ => ?_)
        clear hK
        try simp only [Act.put, List.setIfInBounds_toArray, List.set_cons_zero, List.set_cons_succ]
        refine wpAnyH_ready (rs := [6]) (by kernel_rfl) (by simp) ?_
        refine (AllReadyH.cons (o := ⟨_, _, _, _, _, _⟩) rfl (fun K hK => ?_) AllReadyH.nil)
        refine gstepN Tryz.underlying33 Tryz.infoJoin9 rfl (by omega) (by omega) rfl _ _ rfl B0 (.slice none 0 0) 0 (jc9 []) (by rfl) (row7_below (show V1.ownsRow B0 57 3 (.slice none 0 0) 0 (jc9 []) by have h9 := HL1.out.pj.o; rw [HJN.out] at h9; exact h9) (below1 _ _)) V1.heap.size #[.int .i64 (n : Int), .slice ka kn kcp, .slice ra rn rcp] (by rfl) (Bk.new _ _ _) rfl (by simp [Value.oneCell']) (by omega) (by simp; omega) ?_
        intro g2 c2 U ho hg hv hl2
        have HLU := hm7 ((HL1.out.below (below1 _ _)).app (x := (jr9 c met T2 n, .slice ka kn kcp, .slice ra rn rcp)) HJN.out (row7_below HK1.out (below1 _ _)) (row7_below HR1.out (below1 _ _)) ho hg)
        have hbu := (HL1.out.below (below1 _ _)).og hg
        have d1 := hbu.cell (i := 1) rfl
        have d2 := hbu.froz 1
        clear hbu ho hg hv hl2
        refine hK.out _ _ trivial (fun _ => ?_)
        clear hK
        try simp only [Act.put, List.setIfInBounds_toArray, List.set_cons_zero, List.set_cons_succ]
        refine wpAnyH_take (i := 7) (oi := ⟨_, _, _, _, _, _⟩) (v := .pointer (some ⟨ob, 1, none⟩)) rfl (by kernel_rfl) (by kernel_rfl) (by kernel_rfl) (fun _ _ _ h => h) (Or.inl ⟨by rfl, fun w' h => by clear h; go_simp⟩) hH ?_
        simp only [Act.put, List.setIfInBounds_toArray, List.set_cons_zero, List.set_cons_succ]
        refine wpAnyH_ready (rs := [8]) (by kernel_rfl) (by simp) ?_
        refine (AllReadyH.cons (o := ⟨_, _, _, _, _, _⟩) rfl (fun K hK => ?_) AllReadyH.nil)
        go_simp
        clear d1 d2
        refine hK.out _ _ trivial (fun _ => ?_)
        clear hK
        try simp only [Act.put, List.setIfInBounds_toArray, List.set_cons_zero, List.set_cons_succ]
        refine wpAnyH_done (by kernel_rfl) ?_ _
        skip
        go_wp2
        go_meet
        exact ⟨_, _, _, _, HLU.out, rfl, rfl⟩
      · go_simp
        refine hK.out _ _ trivial (fun _ => ?_)
        clear hK
        try simp only [Act.put, List.setIfInBounds_toArray, List.set_cons_zero, List.set_cons_succ]
        refine wpAnyH_ready (rs := [1]) (by kernel_rfl) (by simp) ?_
        refine (AllReadyH.cons (o := ⟨_, _, _, _, _, _⟩) rfl (fun K hK => ?_) AllReadyH.nil)
        have o := ((HL1.out.below (below1 V1 (.cells #[.int .i64 (n : Int), .slice ka kn kcp, .slice ra rn rcp] 57)))).o.cell (i := 1) rfl
        go_simp
        clear o
        refine hK.out _ _ trivial (fun _ => ?_)
        clear hK
        try simp only [Act.put, List.setIfInBounds_toArray, List.set_cons_zero, List.set_cons_succ]
        refine wpAnyH_ready (rs := [6]) (by kernel_rfl) (by simp) ?_
        refine (AllReadyH.cons (o := ⟨_, _, _, _, _, _⟩) rfl (fun K hK => ?_) AllReadyH.nil)
        refine gstepN Tryz.underlying33 Tryz.infoJoin9 rfl (by omega) (by omega) rfl _ _ rfl B0 (.slice none 0 0) 0 (jc9 []) (by rfl) (row7_below (show V1.ownsRow B0 57 3 (.slice none 0 0) 0 (jc9 []) by have h9 := HL1.out.pj.o; rw [HJN.out] at h9; exact h9) (below1 _ _)) V1.heap.size #[.int .i64 (n : Int), .slice ka kn kcp, .slice ra rn rcp] (by rfl) (Bk.new _ _ _) rfl (by simp [Value.oneCell']) (by omega) (by simp; omega) ?_
        intro g2 c2 U ho hg hv hl2
        have HLU := hm7 ((HL1.out.below (below1 _ _)).app (x := (jr9 c met T2 n, .slice ka kn kcp, .slice ra rn rcp)) HJN.out (row7_below HK1.out (below1 _ _)) (row7_below HR1.out (below1 _ _)) ho hg)
        have hbu := (HL1.out.below (below1 _ _)).og hg
        have d1 := hbu.cell (i := 1) rfl
        have d2 := hbu.froz 1
        clear hbu ho hg hv hl2
        refine hK.out _ _ trivial (fun _ => ?_)
        clear hK
        try simp only [Act.put, List.setIfInBounds_toArray, List.set_cons_zero, List.set_cons_succ]
        refine wpAnyH_take (i := 7) (oi := ⟨_, _, _, _, _, _⟩) (v := .pointer (some ⟨ob, 1, none⟩)) rfl (by kernel_rfl) (by kernel_rfl) (by kernel_rfl) (fun _ _ _ h => h) (Or.inl ⟨by rfl, fun w' h => by clear h; go_simp⟩) hH ?_
        simp only [Act.put, List.setIfInBounds_toArray, List.set_cons_zero, List.set_cons_succ]
        refine wpAnyH_ready (rs := [8]) (by kernel_rfl) (by simp) ?_
        refine (AllReadyH.cons (o := ⟨_, _, _, _, _, _⟩) rfl (fun K hK => ?_) AllReadyH.nil)
        go_simp
        clear d1 d2
        refine hK.out _ _ trivial (fun _ => ?_)
        clear hK
        try simp only [Act.put, List.setIfInBounds_toArray, List.set_cons_zero, List.set_cons_succ]
        refine wpAnyH_done (by kernel_rfl) ?_ _
        skip
        go_wp2
        go_meet
        exact ⟨_, _, _, _, HLU.out, rfl, rfl⟩
  case rest =>
    obtain ⟨av3, tv3, jv3, l3, hL3, hm3, hl3⟩ := hcut
    have HL3 := hm7 hL3
    have HM3 := hm7 hm3
    clear hL3 hm3 HLS HJ HJN
    go_upto_region 4 with fail
    go_loopg [6] (jA9 A n).length (fun gg _ wr => ∃ av2 tv2 met2 A2 T2 jv2 l2, LS9 w0 g ob B0 B0 mn c mv ahv AH av2 tv2 met2 A2 T2 jv2 l2 wr ∧ A2.length = gg ∧ l2.map Prod.fst ++ pln9 c gg met2 A2 T2 = J ∧ l2.length + gg ≤ 1000001)
    case atStart => exact ⟨_, _, _, _, _, _, l3, HL3.out, rfl, by rw [HM3.out]; exact HJ0.out, by have := HTT.out.2.2.2.1; have := jA9_len HTT.out.2.2.2.2 HNA.out; omega⟩
    case round =>
      obtain ⟨av2, tv2, met2, A2, T2, jv2, l2, hL, hal, htg, hsl⟩ := hrel
      have HL := hm7 hL
      have HTG := hm7 htg
      have HSL := hm7 hsl
      obtain ⟨aa, ac, hav, -⟩ := row7_form hL.pn.a
      rw [hal] at hav
      subst hav
      have a8 := hL.pn.b.cell (i := 8) rfl
      obtain ⟨ja, jc, hjv, -⟩ := row7_form hL.pj.o
      obtain ⟨jn, hjn⟩ : ∃ jn, l2.length = jn := ⟨_, rfl⟩
      rw [hjn] at hjv hsl
      have HJN := hm7 hjn
      subst hjv
      have HAL := hm7 hal
      clear htg hjn
      cases gk with
      | succ gg =>
        have hgt : (0 : Int) < ((gg + 1 : Nat) : Int) := by omega
        have hne : A2 ≠ [] := fun e => by rw [e] at hal; simp at hal
        have hml := hL.ml
        have hmm := mn9_mem c met2 hne
        obtain ⟨i, x, hmi, hbx, hvx⟩ := hL.bd _ hmm
        have HMI : Hid ((i : Int) ∈ A2) := by rw [hmi] at hmm; exact hmm
        have HMN : Hid (mn9 c met2 A2 = (i : Int)) := hmi
        have HND := hm7 hL.nd
        have HXX := hm7 hbx
        have HBE := hm7 (best9_any w0 g c mv _ tv2 met2 A2 T2 wr hL.pn hne hL.al (by rw [hml]; exact hL.bd))
        rw [hmi] at HBE
        have HJ : Hid (∀ X : World, PN9 w0 g c mv (.slice aa (gg + 1) ac) tv2 met2 A2 T2 X → Calls Tryz.prog 34 #[.pointer (some ⟨g, 0, none⟩), .int .i64 (i : Int)] X (JQ9 w0 g c mv (.slice aa (gg + 1) ac) met2 A2 T2 i x.1.pl X)) := fun X hX => join9_any w0 g c mv _ tv2 met2 A2 T2 X hX i x hbx (by rw [hml]; exact hvx) HL.out.ts (by rw [hml]; exact HVT.out) HL.out.tl HL.out.al
        clear hL hmm hmi hbx hvx hml hne hal
        go_upto_region 6 with (go_at_call 35; refine HBE.out.mono ?_; rintro e w1 ⟨rfl, hb1⟩; have HLB := hm7 (HL.out.below hb1); clear hb1 a8 HBE HL)
        have HLV := hm7 (HLB.out.below (by exact (Below.refl _ _).drew))
        have hzv : B0 ≤ w1.drew.heap.size := by have := HLV.out.ol; have := HLV.out.o.lt; omega
        refine wp_region_held_drew (S := fun _ => True) (by kernel_rfl) trivial (fun _ => ?_)
        revert HLV hzv
        generalize w1.drew = V
        intro HLV hzv
        have hH : True := trivial
        refine wpAnyH_take (i := 0) (oi := ⟨_, _, _, _, _, _⟩) (v := .pointer (some ⟨ob, 1, none⟩)) rfl (by kernel_rfl) (by kernel_rfl) (by kernel_rfl) (fun _ _ _ h => h) (Or.inl ⟨by rfl, fun w' h => by clear h; go_simp⟩) hH ?_
        simp only [Act.put, List.setIfInBounds_toArray, List.set_cons_zero, List.set_cons_succ]
        refine wpAnyH_take (i := 2) (oi := ⟨_, _, _, _, _, _⟩) (v := .pointer (some ⟨g, 0, none⟩)) rfl (by kernel_rfl) (by kernel_rfl) (by kernel_rfl) (fun _ _ _ h => h) (Or.inl ⟨by rfl, fun w' h => by clear h; go_simp⟩) hH ?_
        simp only [Act.put, List.setIfInBounds_toArray, List.set_cons_zero, List.set_cons_succ]
        refine wpAnyH_take (i := 3) (oi := ⟨_, _, _, _, _, _⟩) (v := .int .i64 (i : Int)) rfl (by kernel_rfl) (by kernel_rfl) (by kernel_rfl) (fun _ _ _ h => h) (Or.inl ⟨by rfl, fun w' h => by clear h; go_simp⟩) hH ?_
        simp only [Act.put, List.setIfInBounds_toArray, List.set_cons_zero, List.set_cons_succ]
        refine wpAnyH_ready (rs := [1, 4]) (by kernel_rfl) (by simp) ?_
        refine (AllReadyH.cons (o := ⟨_, _, _, _, _, _⟩) rfl (fun K hK => ?_) (AllReadyH.cons (o := ⟨_, _, _, _, _, _⟩) rfl (fun K hK => ?_) AllReadyH.nil))
        · have o := (HLV.out).o.cell (i := 1) rfl
          go_simp
          clear o
          refine hK.out _ _ trivial (fun _ => ?_)
          clear hK
          try simp only [Act.put, List.setIfInBounds_toArray, List.set_cons_zero, List.set_cons_succ]
          refine wpAnyH_ready (rs := [4]) (by kernel_rfl) (by simp) ?_
          refine (AllReadyH.cons (o := ⟨_, _, _, _, _, _⟩) rfl (fun K hK => ?_) AllReadyH.nil)
          go_simp
          refine (HJ.out V HLV.out.pn).mono ?_
          intro e V1 hq
          obtain ⟨kv, rv, av2, tv2, rfl, hl1, hk1, hr1, hz1⟩ := HLV.out.join hzv HXX.out hq
          have HL1 := hm7 hl1
          have HK1 := hm7 hk1
          have HR1 := hm7 hr1
          clear hl1 hk1 hr1 hq
          obtain ⟨ka, kcp, hkv, -⟩ := row7_form HK1.out
          obtain ⟨kn, hkn⟩ : ∃ kn, (jr9 c met2 T2 i).k.length = kn := ⟨_, rfl⟩
          rw [hkn] at hkv
          clear hkn
          subst hkv
          obtain ⟨ra, rcp, hrv, -⟩ := row7_form HR1.out
          obtain ⟨rn, hrn⟩ : ∃ rn, (jr9 c met2 T2 i).t.length = rn := ⟨_, rfl⟩
          rw [hrn] at hrv
          clear hrn
          subst hrv
          refine hK.out _ _ trivial (fun _ => ?_)
          clear hK
          try simp only [Act.put, List.setIfInBounds_toArray, List.set_cons_zero, List.set_cons_succ]
          refine wpAnyH_ready (rs := [5]) (by kernel_rfl) (by simp) ?_
          refine (AllReadyH.cons (o := ⟨_, _, _, _, _, _⟩) rfl (fun K hK => ?_) AllReadyH.nil)
          go_simp
          refine hK.out _ _ trivial (fun _ => ?_)
          clear hK
          try simp only [Act.put, List.setIfInBounds_toArray, List.set_cons_zero, List.set_cons_succ]
          refine wpAnyH_ready (rs := [6]) (by kernel_rfl) (by simp) ?_
          refine (AllReadyH.cons (o := ⟨_, _, _, _, _, _⟩) rfl (fun K hK => ?_) AllReadyH.nil)
          refine gstepN Tryz.underlying33 Tryz.infoJoin9 rfl (by omega) (by omega) rfl _ _ rfl B0 (.slice ja jn jc) jn (jc9 l2) (by rfl) (row7_below (show V1.ownsRow B0 57 3 (.slice ja jn jc) jn (jc9 l2) by have h9 := HL1.out.pj.o; rw [HJN.out] at h9; exact h9) (below1 _ _)) V1.heap.size #[.int .i64 (i : Int), .slice ka kn kcp, .slice ra rn rcp] (by rfl) (Bk.new _ _ _) rfl (by simp [Value.oneCell']) (by omega) (by simp; omega) ?_
          intro g2 c2 U ho hg hv hl2
          have HLU := hm7 ((HL1.out.below (below1 _ _)).app (x := (jr9 c met2 T2 i, .slice ka kn kcp, .slice ra rn rcp)) HJN.out (row7_below HK1.out (below1 _ _)) (row7_below HR1.out (below1 _ _)) ho hg)
          have hbu := (HL1.out.below (below1 _ _)).og hg
          have d1 := hbu.cell (i := 1) rfl
          have d2 := hbu.froz 1
          clear hbu ho hg hv hl2
          refine hK.out _ _ trivial (fun _ => ?_)
          clear hK
          try simp only [Act.put, List.setIfInBounds_toArray, List.set_cons_zero, List.set_cons_succ]
          refine wpAnyH_take (i := 7) (oi := ⟨_, _, _, _, _, _⟩) (v := .pointer (some ⟨ob, 1, none⟩)) rfl (by kernel_rfl) (by kernel_rfl) (by kernel_rfl) (fun _ _ _ h => h) (Or.inl ⟨by rfl, fun w' h => by clear h; go_simp⟩) hH ?_
          simp only [Act.put, List.setIfInBounds_toArray, List.set_cons_zero, List.set_cons_succ]
          refine wpAnyH_ready (rs := [8]) (by kernel_rfl) (by simp) ?_
          refine (AllReadyH.cons (o := ⟨_, _, _, _, _, _⟩) rfl (fun K hK => ?_) AllReadyH.nil)
          go_simp
          clear d1 d2
          refine hK.out _ _ trivial (fun _ => ?_)
          clear hK
          try simp only [Act.put, List.setIfInBounds_toArray, List.set_cons_zero, List.set_cons_succ]
          refine wpAnyH_done (by kernel_rfl) ?_ _
          skip
          go_wp2
          go_roundg gg
          case measure => omega
          case rel => exact ⟨_, _, _, _, _, _, _, HLU.out, by have := jA9_len HND.out HMI.out; rw [HAL.out] at this; omega, by rw [← HTG.out]; simp [pln9, HMN.out], by have := HSL.out; rw [List.length_append, List.length_singleton]; omega⟩
        · go_simp
          refine (HJ.out V HLV.out.pn).mono ?_
          intro e V1 hq
          obtain ⟨kv, rv, av2, tv2, rfl, hl1, hk1, hr1, hz1⟩ := HLV.out.join hzv HXX.out hq
          have HL1 := hm7 hl1
          have HK1 := hm7 hk1
          have HR1 := hm7 hr1
          clear hl1 hk1 hr1 hq
          obtain ⟨ka, kcp, hkv, -⟩ := row7_form HK1.out
          obtain ⟨kn, hkn⟩ : ∃ kn, (jr9 c met2 T2 i).k.length = kn := ⟨_, rfl⟩
          rw [hkn] at hkv
          clear hkn
          subst hkv
          obtain ⟨ra, rcp, hrv, -⟩ := row7_form HR1.out
          obtain ⟨rn, hrn⟩ : ∃ rn, (jr9 c met2 T2 i).t.length = rn := ⟨_, rfl⟩
          rw [hrn] at hrv
          clear hrn
          subst hrv
          refine hK.out _ _ trivial (fun _ => ?_)
          clear hK
          try simp only [Act.put, List.setIfInBounds_toArray, List.set_cons_zero, List.set_cons_succ]
          refine wpAnyH_ready (rs := [1, 5]) (by kernel_rfl) (by simp) ?_
          refine (AllReadyH.cons (o := ⟨_, _, _, _, _, _⟩) rfl (fun K hK => ?_) (AllReadyH.cons (o := ⟨_, _, _, _, _, _⟩) rfl (fun K hK => ?_) AllReadyH.nil))
          · have o := (HL1.out).o.cell (i := 1) rfl
            go_simp
            clear o
            refine hK.out _ _ trivial (fun _ => ?_)
            clear hK
            try simp only [Act.put, List.setIfInBounds_toArray, List.set_cons_zero, List.set_cons_succ]
            refine wpAnyH_ready (rs := [5]) (by kernel_rfl) (by simp) ?_
            refine (AllReadyH.cons (o := ⟨_, _, _, _, _, _⟩) rfl (fun K hK => ?_) AllReadyH.nil)
            go_simp
            refine hK.out _ _ trivial (fun _ => ?_)
            clear hK
            try simp only [Act.put, List.setIfInBounds_toArray, List.set_cons_zero, List.set_cons_succ]
            refine wpAnyH_ready (rs := [6]) (by kernel_rfl) (by simp) ?_
            refine (AllReadyH.cons (o := ⟨_, _, _, _, _, _⟩) rfl (fun K hK => ?_) AllReadyH.nil)
            refine gstepN Tryz.underlying33 Tryz.infoJoin9 rfl (by omega) (by omega) rfl _ _ rfl B0 (.slice ja jn jc) jn (jc9 l2) (by rfl) (row7_below (show V1.ownsRow B0 57 3 (.slice ja jn jc) jn (jc9 l2) by have h9 := HL1.out.pj.o; rw [HJN.out] at h9; exact h9) (below1 _ _)) V1.heap.size #[.int .i64 (i : Int), .slice ka kn kcp, .slice ra rn rcp] (by rfl) (Bk.new _ _ _) rfl (by simp [Value.oneCell']) (by omega) (by simp; omega) ?_
            intro g2 c2 U ho hg hv hl2
            have HLU := hm7 ((HL1.out.below (below1 _ _)).app (x := (jr9 c met2 T2 i, .slice ka kn kcp, .slice ra rn rcp)) HJN.out (row7_below HK1.out (below1 _ _)) (row7_below HR1.out (below1 _ _)) ho hg)
            have hbu := (HL1.out.below (below1 _ _)).og hg
            have d1 := hbu.cell (i := 1) rfl
            have d2 := hbu.froz 1
            clear hbu ho hg hv hl2
            refine hK.out _ _ trivial (fun _ => ?_)
            clear hK
            try simp only [Act.put, List.setIfInBounds_toArray, List.set_cons_zero, List.set_cons_succ]
            refine wpAnyH_take (i := 7) (oi := ⟨_, _, _, _, _, _⟩) (v := .pointer (some ⟨ob, 1, none⟩)) rfl (by kernel_rfl) (by kernel_rfl) (by kernel_rfl) (fun _ _ _ h => h) (Or.inl ⟨by rfl, fun w' h => by clear h; go_simp⟩) hH ?_
            simp only [Act.put, List.setIfInBounds_toArray, List.set_cons_zero, List.set_cons_succ]
            refine wpAnyH_ready (rs := [8]) (by kernel_rfl) (by simp) ?_
            refine (AllReadyH.cons (o := ⟨_, _, _, _, _, _⟩) rfl (fun K hK => ?_) AllReadyH.nil)
            go_simp
            clear d1 d2
            refine hK.out _ _ trivial (fun _ => ?_)
            clear hK
            try simp only [Act.put, List.setIfInBounds_toArray, List.set_cons_zero, List.set_cons_succ]
            refine wpAnyH_done (by kernel_rfl) ?_ _
            skip
            go_wp2
            go_roundg gg
            case measure => omega
            case rel => exact ⟨_, _, _, _, _, _, _, HLU.out, by have := jA9_len HND.out HMI.out; rw [HAL.out] at this; omega, by rw [← HTG.out]; simp [pln9, HMN.out], by have := HSL.out; rw [List.length_append, List.length_singleton]; omega⟩
          · go_simp
            refine hK.out _ _ trivial (fun _ => ?_)
            clear hK
            try simp only [Act.put, List.setIfInBounds_toArray, List.set_cons_zero, List.set_cons_succ]
            refine wpAnyH_ready (rs := [1]) (by kernel_rfl) (by simp) ?_
            refine (AllReadyH.cons (o := ⟨_, _, _, _, _, _⟩) rfl (fun K hK => ?_) AllReadyH.nil)
            have o := ((HL1.out.below (below1 V1 (.cells #[.int .i64 (i : Int), .slice ka kn kcp, .slice ra rn rcp] 57)))).o.cell (i := 1) rfl
            go_simp
            clear o
            refine hK.out _ _ trivial (fun _ => ?_)
            clear hK
            try simp only [Act.put, List.setIfInBounds_toArray, List.set_cons_zero, List.set_cons_succ]
            refine wpAnyH_ready (rs := [6]) (by kernel_rfl) (by simp) ?_
            refine (AllReadyH.cons (o := ⟨_, _, _, _, _, _⟩) rfl (fun K hK => ?_) AllReadyH.nil)
            refine gstepN Tryz.underlying33 Tryz.infoJoin9 rfl (by omega) (by omega) rfl _ _ rfl B0 (.slice ja jn jc) jn (jc9 l2) (by rfl) (row7_below (show V1.ownsRow B0 57 3 (.slice ja jn jc) jn (jc9 l2) by have h9 := HL1.out.pj.o; rw [HJN.out] at h9; exact h9) (below1 _ _)) V1.heap.size #[.int .i64 (i : Int), .slice ka kn kcp, .slice ra rn rcp] (by rfl) (Bk.new _ _ _) rfl (by simp [Value.oneCell']) (by omega) (by simp; omega) ?_
            intro g2 c2 U ho hg hv hl2
            have HLU := hm7 ((HL1.out.below (below1 _ _)).app (x := (jr9 c met2 T2 i, .slice ka kn kcp, .slice ra rn rcp)) HJN.out (row7_below HK1.out (below1 _ _)) (row7_below HR1.out (below1 _ _)) ho hg)
            have hbu := (HL1.out.below (below1 _ _)).og hg
            have d1 := hbu.cell (i := 1) rfl
            have d2 := hbu.froz 1
            clear hbu ho hg hv hl2
            refine hK.out _ _ trivial (fun _ => ?_)
            clear hK
            try simp only [Act.put, List.setIfInBounds_toArray, List.set_cons_zero, List.set_cons_succ]
            refine wpAnyH_take (i := 7) (oi := ⟨_, _, _, _, _, _⟩) (v := .pointer (some ⟨ob, 1, none⟩)) rfl (by kernel_rfl) (by kernel_rfl) (by kernel_rfl) (fun _ _ _ h => h) (Or.inl ⟨by rfl, fun w' h => by clear h; go_simp⟩) hH ?_
            simp only [Act.put, List.setIfInBounds_toArray, List.set_cons_zero, List.set_cons_succ]
            refine wpAnyH_ready (rs := [8]) (by kernel_rfl) (by simp) ?_
            refine (AllReadyH.cons (o := ⟨_, _, _, _, _, _⟩) rfl (fun K hK => ?_) AllReadyH.nil)
            go_simp
            clear d1 d2
            refine hK.out _ _ trivial (fun _ => ?_)
            clear hK
            try simp only [Act.put, List.setIfInBounds_toArray, List.set_cons_zero, List.set_cons_succ]
            refine wpAnyH_done (by kernel_rfl) ?_ _
            skip
            go_wp2
            go_roundg gg
            case measure => omega
            case rel => exact ⟨_, _, _, _, _, _, _, HLU.out, by have := jA9_len HND.out HMI.out; rw [HAL.out] at this; omega, by rw [← HTG.out]; simp [pln9, HMN.out], by have := HSL.out; rw [List.length_append, List.length_singleton]; omega⟩
      | zero =>
        have hgt : ¬ (0 : Int) < ((0 : Nat) : Int) := by omega
        have HJJ : Hid (l2.map Prod.fst = J) := by have := HTG.out; rw [pln9, List.append_nil] at this; exact this
        have hahf := hL.ah
        obtain ⟨ha, hc, hav, -⟩ := row7_form hahf
        obtain ⟨hn, hhn⟩ : ∃ hn, AH.length = hn := ⟨_, rfl⟩
        rw [hhn] at hav
        clear hhn hahf
        subst hav
        have o0 := hL.o.cell (i := 0) rfl
        have o1 := hL.o.cell (i := 1) rfl
        have r0 := hL.r.cell (i := 0) rfl
        have r1 := hL.r.cell (i := 1) rfl
        have f0 := hL.r.froz 0
        have f1 := hL.r.froz 1
        have HS := hm7 (((Fr.refl (fun b => b = B0) wr).set (i := 0) (v := .slice ha hn hc) (Or.inl rfl)).set (i := 1) (v := .slice ja jn jc) (Or.inl rfl))
        have HRZ := hm7 ((hL.r.set 0 (.slice ha hn hc)).set 1 (.slice ja jn jc))
        have z0 := HRZ.out.cell (i := 0) rfl
        have z1 := HRZ.out.cell (i := 1) rfl
        clear hL hal hsl
        go_wp2
        refine bodyPost_ret (v := .agg #[.slice ha hn hc, .slice ja jn jc]) (by simp [results, Tryz.results14, go_sem, z0, z1]) rfl ?_
        have hP : ∀ b, b = B0 → ∃ cur, Bk wr b cur 35 := fun b e => by rw [e]; exact ⟨_, HL.out.r⟩
        have hw := HL.out.w
        refine ⟨_, _, l2, rfl, OwI.mono (row9_fr HL.out.ah HS.out fun b hb => ?_) hw, (HL.out.pj.fr HS.out fun b hb => ?_).mono hw, HJJ.out, (HL.out.pn.offP HS.out fun b hb => ?_).be⟩
        · obtain ⟨cur, h1⟩ := hP b hb
          exact Or.inr ⟨cur, _, h1, by decide⟩
        · obtain ⟨cur, h1⟩ := hP b hb
          exact Or.inr ⟨cur, _, h1, by decide, by decide⟩
        · obtain ⟨cur, h1⟩ := hP b hb
          exact ⟨by omega, cur, _, h1, by decide, by decide, by decide⟩
end Go.Proofs.YtgbiicmkhlnniaaGreatDoor
