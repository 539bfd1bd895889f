/-
  Made. (Written by MD14.py.)
-/
import Derived.Test.YtllgffmhbddigaaGreatMD13
import Derived.Deep.RegionHeld3
namespace Go.Proofs.YtllgffmhbddigaaGreat
open Go.RowKit
attribute [local go_sem ↓] Go.wp_at_zero Go.wp_at_succ

theorem ownT_froz {X : World} {base g n cap i : Nat} {L : List Tm} (h : OwnT X base (.slice (some ⟨g, 0, none⟩) n cap) L) : X.frozen? ⟨g, i, none⟩ = false := by
  rcases h.2 with ⟨h, _⟩ | ⟨g', cap', cur, hv, hb, hg, -⟩
  · cases h
  · simp only [Value.slice.injEq, Option.some.injEq, Addr.mk.injEq] at hv
    obtain ⟨⟨rfl, -⟩, -, -⟩ := hv
    exact frozen_of_row _ _ _ _ _ hg
theorem ownT_n {X : World} {base n cap : Nat} {a : Option Addr} {L : List Tm} (h : OwnT X base (.slice a n cap) L) : n = L.length := by
  rcases h.2 with ⟨h, hn⟩ | ⟨g', cap', cur, hv, -⟩
  · simp only [Value.slice.injEq] at h; omega
  · simp only [Value.slice.injEq] at hv; exact hv.2.1
theorem flt_fsts (l : List (At × Value)) : flt l = (fsts l).flatMap At.pl := by unfold flt fsts; rw [List.flatMap_map]
theorem mkA_len (a : At) : (mkA a).pl.length ≤ 9 := by simp [mkA, At.pl]; omega
theorem flat_len9 : ∀ (l : List At), (∀ a ∈ l, a.pl.length ≤ 9) → (l.flatMap At.pl).length ≤ l.length * 9
  | [], _ => by simp
  | a :: l, h => by
    rw [List.flatMap_cons, List.length_append, List.length_cons]
    have h1 := h a (by simp)
    have h2 := flat_len9 l fun b hb => h b (by simp [hb])
    omega
set_option maxRecDepth 20000 in
set_option maxHeartbeats 4000000 in
theorem made_any (c : Cm) (w : World) (h : c.ok w) :
    Calls Tryz.prog 8 #[c.v] w fun e w' => ∃ d : Cm, e = .returned d.v ∧ d.key = madeK c.key ∧ MCl w.heap.size w' d ∧ Below w.heap.size w w' := by
  obtain ⟨⟨a, hn, cap, h1⟩, ⟨a', cap', h2⟩, ⟨a'', cap'', h3⟩, hbl, htl⟩ := h.shape
  have hB := h.b
  have hT := h.t
  have HMA : Hid (∀ x ∈ c.body, ∀ X : World, Below w.heap.size w X → Calls Tryz.prog 35 #[x.1.v x.2] X fun e w' => ∃ v', e = .returned ((mkA x.1).v v') ∧ OwnT w' X.heap.size v' (mkA x.1).args ∧ Below X.heap.size X w') := fun x hx X hX => by
    obtain ⟨_, _, _, _, _, ht⟩ := h.b
    exact madeAtom_any x.1 x.2 X ((ht x hx).later hX)
  have HMH : Hid (∀ X : World, Below w.heap.size w X → Calls Tryz.prog 35 #[c.head.1.v c.head.2] X fun e w' => ∃ v', e = .returned ((mkA c.head.1).v v') ∧ OwnT w' X.heap.size v' (mkA c.head.1).args ∧ Below X.heap.size X w') := fun X hX => madeAtom_any _ _ X (h.h.later hX)
  have HKEY : Hid (made0 c.key = made0 c.key) := rfl
  obtain ⟨KK, hKK⟩ : ∃ K, c.key = K := ⟨_, rfl⟩
  have HKK : Hid (c.key = KK) := hKK
  rw [hKK]
  have HU0 : Hid (US w _ c.cs zH (.slice none 0 0) [] (.slice none 0 0) []) := (U0.start w c.cs).us
  obtain ⟨⟨⟨⟨k, m, s⟩, nm, ls⟩, hx⟩, body, bv, tests, tv⟩ := c
  simp only at h1 h2 h3 hbl htl hB hT HMA HMH
  subst h1 h2 h3
  obtain ⟨_, _, he, -, hm, -⟩ := hB
  simp only [Value.slice.injEq, true_and] at he
  obtain ⟨rfl, rfl⟩ := he
  obtain ⟨_, _, he, -, hmt⟩ := hT
  simp only [Value.slice.injEq, true_and] at he
  obtain ⟨rfl, rfl⟩ := he
  clear h hKK HKEY
  go_enter Tryz.func8, Tryz.ntmps8
  go_wp2_with fail
  go_loopg [4] (min 8 body.length) (fun g i wr => ∃ (j : Nat) (bu : Value) (LB : List (At × Value)), j + g = min 8 body.length ∧ i = .int .i64 j ∧ fsts LB = (fsts (body.take j)).map mkA ∧ US w wr (Cm.cs ⟨(⟨⟨k, m, s⟩, nm, ls⟩, .slice a hn cap), body, .slice a' body.length cap', tests, .slice a'' tests.length cap''⟩) zH bu LB (.slice none 0 0) [])
  case atStart => exact ⟨0, .slice none 0 0, [], by omega, rfl, by simp [fsts], HU0.out⟩
  case round =>
    obtain ⟨j, bu, LB, hj, rfl, hLB, hus⟩ := hrel
    have HUS : Hid (US w wr (Cm.cs ⟨(⟨⟨k, m, s⟩, nm, ls⟩, .slice a hn cap), body, .slice a' body.length cap', tests, .slice a'' tests.length cap''⟩) zH bu LB (.slice none 0 0) []) := hus
    have HLB : Hid (fsts LB = (fsts (body.take j)).map mkA) := hLB
    clear hus hLB HU0
    obtain ⟨c0, c1, c2, c3, c4, c5, c6⟩ := cseven HUS.out.bc
    have hLL : LB.length = j := by have := congrArg List.length HLB.out; simp only [fsts, List.length_map, List.length_take] at this; omega
    cases gk with
    | succ g =>
      have hlt : (j : Int) < (body.length : Int) := by omega
      have h8 : (j : Int) < 8 := by omega
      have j0 : (0 : Int) ≤ (j : Int) := by omega
      obtain ⟨x, hx⟩ : ∃ x, body[j]? = some x := ⟨_, List.getElem?_eq_getElem (by omega)⟩
      rcases hm with hm | ⟨b2, o2, rfl, hb2, hm⟩
      · subst hm; simp at hj
      obtain ⟨p0, p1, p2, p3, p4⟩ := hm j x hx
      have HMX : Hid _ := HMA.out x (List.mem_of_getElem? hx)
      have HLN : Hid ((fsts (body.take j)).map mkA ++ [mkA x.1] = (fsts (body.take (j + 1))).map mkA) := by show _ = _; rw [List.take_add_one, hx]; simp [fsts]
      obtain ⟨⟨⟨mk, mn, ms⟩, mm, ma⟩, hma⟩ : ∃ z, mkA x.1 = z := ⟨_, rfl⟩
      rw [hma] at HMX HLN
      clear hm hx hma HMA HMH
      obtain ⟨⟨⟨xk, xn, xs⟩, xm, xa⟩, xv⟩ := x
      simp only at p0 p1 p2 p3 p4 HMX
      go_wp2_with fail
      clear c0 c1 c2 c3 c4 c5 c6
      have hV0 : US w wr.drew (Cm.cs ⟨(⟨⟨k, m, s⟩, nm, ls⟩, .slice a hn cap), body, .slice (some ⟨b2, o2, none⟩) body.length cap', tests, .slice a'' tests.length cap''⟩) zH bu LB (.slice none 0 0) [] := HUS.out.later (Below.refl _ _).drew
      refine wp_region_held_drew (S := fun w' => UB w w' (Cm.cs ⟨(⟨⟨k, m, s⟩, nm, ls⟩, .slice a hn cap), body, .slice (some ⟨b2, o2, none⟩) body.length cap', tests, .slice a'' tests.length cap''⟩)) (by kernel_rfl) hV0.ub (fun hH => ?_)
      revert hH hV0
      generalize wr.drew = V0
      intro hV0 hH
      have HV0 : Hid (US w V0 (Cm.cs ⟨(⟨⟨k, m, s⟩, nm, ls⟩, .slice a hn cap), body, .slice (some ⟨b2, o2, none⟩) body.length cap', tests, .slice a'' tests.length cap''⟩) zH bu LB (.slice none 0 0) []) := hV0
      clear hV0 HUS
      refine wpAnyH_take (i := 0) (oi := ⟨_, _, _, _, _, _⟩) (v := .pointer (some ⟨w.heap.size + 1 + 1, 5, none⟩)) rfl (by kernel_rfl) (by kernel_rfl) (by kernel_rfl) (fun _ _ _ h => h) (Or.inl ⟨by rfl, fun w' h => by clear h; go_simp⟩) hH ?_
      simp only [Act.put, List.setIfInBounds_toArray, List.set_cons_zero, List.set_cons_succ]
      refine wpAnyH_take (i := 2) (oi := ⟨_, _, _, _, _, _⟩) (v := .pointer (some ⟨w.heap.size, 5, none⟩)) rfl (by kernel_rfl) (by kernel_rfl) (by kernel_rfl) (fun _ _ _ h => h) (Or.inl ⟨by rfl, fun w' h => by clear h; go_simp⟩) hH ?_
      simp only [Act.put, List.setIfInBounds_toArray, List.set_cons_zero, List.set_cons_succ]
      refine wpAnyH_take (i := 3) (oi := ⟨_, _, _, _, _, _⟩) (v := .slice (some ⟨b2, o2, none⟩) body.length cap') rfl (by kernel_rfl) (by kernel_rfl) (by kernel_rfl) (fun _ _ _ h => h) (Or.inl ⟨by rfl, fun w' h => by obtain ⟨c0, c1, c2, c3, c4, c5, c6⟩ := cseven h.bc; clear h; go_simp⟩) hH ?_
      simp only [Act.put, List.setIfInBounds_toArray, List.set_cons_zero, List.set_cons_succ]
      refine wpAnyH_take (i := 4) (oi := ⟨_, _, _, _, _, _⟩) (v := .int .i64 (j : Int)) rfl (by kernel_rfl) (by kernel_rfl) (by kernel_rfl) (fun _ _ _ h => h) (Or.inl ⟨by rfl, fun w' h => by clear h; go_simp⟩) hH ?_
      simp only [Act.put, List.setIfInBounds_toArray, List.set_cons_zero, List.set_cons_succ]
      refine wpAnyH_take (i := 5) (oi := ⟨_, _, _, _, _, _⟩) (v := .pointer (some ⟨b2, o2 + j * 5, none⟩)) rfl (by kernel_rfl) (by kernel_rfl) (by kernel_rfl) (fun _ _ _ h => h) (Or.inl ⟨by rfl, fun w' h => by clear h; go_simp⟩) hH ?_
      simp only [Act.put, List.setIfInBounds_toArray, List.set_cons_zero, List.set_cons_succ]
      refine wpAnyH_take (i := 6) (oi := ⟨_, _, _, _, _, _⟩) (v := .agg #[.int .i64 xk, .int .i64 xn, .string xs, .string xm, xv]) rfl (by kernel_rfl) (by kernel_rfl) (by kernel_rfl) (fun _ _ _ h => h) (Or.inl ⟨by rfl, fun w' h => by have z0 := cell_step h.bw hb2 p0; have z1 := cell_step h.bw hb2 p1; have z2 := cell_step h.bw hb2 p2; have z3 := cell_step h.bw hb2 p3; have z4 := cell_step h.bw hb2 p4; clear h; go_simp⟩) hH ?_
      simp only [Act.put, List.setIfInBounds_toArray, List.set_cons_zero, List.set_cons_succ]
      refine wpAnyH_ready (rs := [1, 7]) (by kernel_rfl) (by simp) ?_
      refine (AllReadyH.cons (o := ⟨_, _, _, _, _, _⟩) rfl (fun K hK => ?_) (AllReadyH.cons (o := ⟨_, _, _, _, _, _⟩) rfl (fun K hK => ?_) AllReadyH.nil))
      · have c5 := (cseven HV0.out.bo).2.2.2.2.2.1
        go_simp
        clear c5
        refine hK.out _ _ hH (fun hH => ?_)
        clear hK K
        refine wpAnyH_ready (rs := [7]) (by kernel_rfl) (by simp) ?_
        refine (AllReadyH.cons (o := ⟨_, _, _, _, _, _⟩) rfl (fun K hK => ?_) AllReadyH.nil)
        go_simp
        refine (HMX.out _ HV0.out.bw).mono ?_
        rintro e V1 ⟨z, rfl, hz2, hb⟩
        obtain ⟨za, zn, zc, rfl⟩ := ownT_form4 hz2
        have HV1 : Hid (US w V1 (Cm.cs ⟨(⟨⟨k, m, s⟩, nm, ls⟩, .slice a hn cap), body, .slice (some ⟨b2, o2, none⟩) body.length cap', tests, .slice a'' tests.length cap''⟩) zH bu LB (.slice none 0 0) []) := HV0.out.later hb
        have HZ : Hid (OwnT V1 (w.heap.size + 3) (.slice za zn zc) ma) := hz2.mono HV0.out.sz
        have HZN : Hid (∀ k, bu.ownBlock = some k → Value.ownBlock (.slice za zn zc) ≠ some k) := fun k hk e => by have h1 := (hz2.lt k e).1; have h2 := (HV0.out.ba.lt k hk).2; omega
        clear hz2 hb HV0 hH HMX
        refine hK.out _ _ HV1.out.ub (fun hH => ?_)
        clear hK K
        try simp only [Act.put, List.setIfInBounds_toArray, List.set_cons_zero, List.set_cons_succ]
        refine wpAnyH_ready (rs := [8]) (by kernel_rfl) (by simp) ?_
        refine (AllReadyH.cons (o := ⟨_, _, _, _, _, _⟩) rfl (fun K hK => ?_) AllReadyH.nil)
        go_simp
        have HV2 : Hid (US w (V1.alloc (.cells #[.int .i64 mk, .int .i64 mn, .string ms, .string mm, .slice za zn zc] 26)) (Cm.cs ⟨(⟨⟨k, m, s⟩, nm, ls⟩, .slice a hn cap), body, .slice (some ⟨b2, o2, none⟩) body.length cap', tests, .slice a'' tests.length cap''⟩) zH bu LB (.slice none 0 0) []) := HV1.out.later (below1 _ _)
        have HZ2 : Hid (OwnT (V1.alloc (.cells #[.int .i64 mk, .int .i64 mn, .string ms, .string mm, .slice za zn zc] 26)) (w.heap.size + 3) (.slice za zn zc) ma) := HZ.out.later (below1 _ _)
        have HG : Hid (CBlk (V1.alloc (.cells #[.int .i64 mk, .int .i64 mn, .string ms, .string mm, .slice za zn zc] 26)) V1.heap.size #[.int .i64 mk, .int .i64 mn, .string ms, .string mm, .slice za zn zc] 26) := CBlk.new _ _ _
        clear hH HV1 HZ
        refine hK.out _ _ HV2.out.ub (fun hH => ?_)
        clear hK K
        revert hH HV2 HG HZ2
        generalize V1.alloc (.cells #[.int .i64 mk, .int .i64 mn, .string ms, .string mm, .slice za zn zc] 26) = V2
        generalize V1.heap.size = GG
        intro HV2 HZ2 HG hH
        refine wpAnyH_ready (rs := [9]) (by kernel_rfl) (by simp) ?_
        refine (AllReadyH.cons (o := ⟨_, _, _, _, _, _⟩) rfl (fun K hK => ?_) AllReadyH.nil)
        refine astep_one rfl _ _ rfl (w.heap.size + 3) bu LB (by rfl) HV2.out.ba GG (⟨⟨mk, mn, ms⟩, mm, ma⟩, .slice za zn zc) (by rfl) HG.out (acell_one _ _ _ _) (by omega) HV2.out.sz ?_
        intro v' w3 hown hb3 hg3 ha3
        obtain ⟨va, vc, rfl⟩ := OwnA.form hown
        generalize (LB ++ [((⟨⟨mk, mn, ms⟩, mm, ma⟩, .slice za zn zc) : At × Value)]).length = VN at hown ha3 ⊢
        have HW3 : Hid (US w (w3.setCell ⟨w.heap.size + 1 + 1, 5, none⟩ (.slice va VN vc)) (Cm.cs ⟨(⟨⟨k, m, s⟩, nm, ls⟩, .slice a hn cap), body, .slice (some ⟨b2, o2, none⟩) body.length cap', tests, .slice a'' tests.length cap''⟩) zH (.slice va VN vc) (LB ++ [(⟨⟨mk, mn, ms⟩, mm, ma⟩, .slice za zn zc)]) (.slice none 0 0) []) := HV2.out.grow_b (x := (⟨⟨mk, mn, ms⟩, mm, ma⟩, .slice za zn zc)) HZ2.out HZN.out (fun k hk => by simp [Value.ownBlock] at hk) hown hb3 hg3 ha3
        have HP3 : Hid (UB w w3 (Cm.cs ⟨(⟨⟨k, m, s⟩, nm, ls⟩, .slice a hn cap), body, .slice (some ⟨b2, o2, none⟩) body.length cap', tests, .slice a'' tests.length cap''⟩)) := HV2.out.ub.laterB hb3 (by omega)
        have hD : CBlk w3 (w.heap.size + 1 + 1) _ 30 := (hb3.block _ (by omega)).trans HV2.out.bo
        obtain ⟨d0, d1, d2, d3, d4, d5, d6⟩ := cseven hD
        have f5 : w3.frozen? ⟨w.heap.size + 1 + 1, 5, none⟩ = false := hD.froz
        clear hD hown hb3 hg3 ha3 HV2 HG hH
        refine hK.out _ _ HP3.out (fun hH => ?_)
        clear hK K
        simp only [Act.put, List.setIfInBounds_toArray, List.set_cons_zero, List.set_cons_succ]
        refine wpAnyH_take (i := 10) (oi := ⟨_, _, _, _, _, _⟩) (v := .pointer (some ⟨w.heap.size + 1 + 1, 5, none⟩)) rfl (by kernel_rfl) (by kernel_rfl) (by kernel_rfl) (fun _ _ _ h => h) (Or.inl ⟨by rfl, fun w' h => by clear h; go_simp⟩) hH ?_
        simp only [Act.put, List.setIfInBounds_toArray, List.set_cons_zero, List.set_cons_succ]
        refine wpAnyH_ready (rs := [11]) (by kernel_rfl) (by simp) ?_
        refine (AllReadyH.cons (o := ⟨_, _, _, _, _, _⟩) rfl (fun K hK => ?_) AllReadyH.nil)
        go_simp
        clear d0 d1 d2 d3 d4 d5 d6 f5
        refine hK.out _ _ HW3.out.ub (fun hH => ?_)
        clear hK K hH HP3
        refine wpAnyH_done (by kernel_rfl) ?_ _
        go_wp2_with fail
        go_roundg g
        case measure => omega
        case rel => exact ⟨j + 1, _, _, by omega, by go_num, by rw [← HLN.out, ← HLB.out]; simp [fsts], HW3.out⟩
      · go_simp
        refine (HMX.out _ HV0.out.bw).mono ?_
        rintro e V1 ⟨z, rfl, hz2, hb⟩
        obtain ⟨za, zn, zc, rfl⟩ := ownT_form4 hz2
        have HV1 : Hid (US w V1 (Cm.cs ⟨(⟨⟨k, m, s⟩, nm, ls⟩, .slice a hn cap), body, .slice (some ⟨b2, o2, none⟩) body.length cap', tests, .slice a'' tests.length cap''⟩) zH bu LB (.slice none 0 0) []) := HV0.out.later hb
        have HZ : Hid (OwnT V1 (w.heap.size + 3) (.slice za zn zc) ma) := hz2.mono HV0.out.sz
        have HZN : Hid (∀ k, bu.ownBlock = some k → Value.ownBlock (.slice za zn zc) ≠ some k) := fun k hk e => by have h1 := (hz2.lt k e).1; have h2 := (HV0.out.ba.lt k hk).2; omega
        clear hz2 hb HV0 hH HMX
        refine hK.out _ _ HV1.out.ub (fun hH => ?_)
        clear hK K
        try simp only [Act.put, List.setIfInBounds_toArray, List.set_cons_zero, List.set_cons_succ]
        refine wpAnyH_ready (rs := [1, 8]) (by kernel_rfl) (by simp) ?_
        refine (AllReadyH.cons (o := ⟨_, _, _, _, _, _⟩) rfl (fun K hK => ?_) (AllReadyH.cons (o := ⟨_, _, _, _, _, _⟩) rfl (fun K hK => ?_) AllReadyH.nil))
        · have c5 := (cseven HV1.out.bo).2.2.2.2.2.1
          go_simp
          clear c5
          refine hK.out _ _ hH (fun hH => ?_)
          clear hK K
          refine wpAnyH_ready (rs := [8]) (by kernel_rfl) (by simp) ?_
          refine (AllReadyH.cons (o := ⟨_, _, _, _, _, _⟩) rfl (fun K hK => ?_) AllReadyH.nil)
          go_simp
          have HV2 : Hid (US w (V1.alloc (.cells #[.int .i64 mk, .int .i64 mn, .string ms, .string mm, .slice za zn zc] 26)) (Cm.cs ⟨(⟨⟨k, m, s⟩, nm, ls⟩, .slice a hn cap), body, .slice (some ⟨b2, o2, none⟩) body.length cap', tests, .slice a'' tests.length cap''⟩) zH bu LB (.slice none 0 0) []) := HV1.out.later (below1 _ _)
          have HZ2 : Hid (OwnT (V1.alloc (.cells #[.int .i64 mk, .int .i64 mn, .string ms, .string mm, .slice za zn zc] 26)) (w.heap.size + 3) (.slice za zn zc) ma) := HZ.out.later (below1 _ _)
          have HG : Hid (CBlk (V1.alloc (.cells #[.int .i64 mk, .int .i64 mn, .string ms, .string mm, .slice za zn zc] 26)) V1.heap.size #[.int .i64 mk, .int .i64 mn, .string ms, .string mm, .slice za zn zc] 26) := CBlk.new _ _ _
          clear hH HV1 HZ
          refine hK.out _ _ HV2.out.ub (fun hH => ?_)
          clear hK K
          revert hH HV2 HG HZ2
          generalize V1.alloc (.cells #[.int .i64 mk, .int .i64 mn, .string ms, .string mm, .slice za zn zc] 26) = V2
          generalize V1.heap.size = GG
          intro HV2 HZ2 HG hH
          refine wpAnyH_ready (rs := [9]) (by kernel_rfl) (by simp) ?_
          refine (AllReadyH.cons (o := ⟨_, _, _, _, _, _⟩) rfl (fun K hK => ?_) AllReadyH.nil)
          refine astep_one rfl _ _ rfl (w.heap.size + 3) bu LB (by rfl) HV2.out.ba GG (⟨⟨mk, mn, ms⟩, mm, ma⟩, .slice za zn zc) (by rfl) HG.out (acell_one _ _ _ _) (by omega) HV2.out.sz ?_
          intro v' w3 hown hb3 hg3 ha3
          obtain ⟨va, vc, rfl⟩ := OwnA.form hown
          generalize (LB ++ [((⟨⟨mk, mn, ms⟩, mm, ma⟩, .slice za zn zc) : At × Value)]).length = VN at hown ha3 ⊢
          have HW3 : Hid (US w (w3.setCell ⟨w.heap.size + 1 + 1, 5, none⟩ (.slice va VN vc)) (Cm.cs ⟨(⟨⟨k, m, s⟩, nm, ls⟩, .slice a hn cap), body, .slice (some ⟨b2, o2, none⟩) body.length cap', tests, .slice a'' tests.length cap''⟩) zH (.slice va VN vc) (LB ++ [(⟨⟨mk, mn, ms⟩, mm, ma⟩, .slice za zn zc)]) (.slice none 0 0) []) := HV2.out.grow_b (x := (⟨⟨mk, mn, ms⟩, mm, ma⟩, .slice za zn zc)) HZ2.out HZN.out (fun k hk => by simp [Value.ownBlock] at hk) hown hb3 hg3 ha3
          have HP3 : Hid (UB w w3 (Cm.cs ⟨(⟨⟨k, m, s⟩, nm, ls⟩, .slice a hn cap), body, .slice (some ⟨b2, o2, none⟩) body.length cap', tests, .slice a'' tests.length cap''⟩)) := HV2.out.ub.laterB hb3 (by omega)
          have hD : CBlk w3 (w.heap.size + 1 + 1) _ 30 := (hb3.block _ (by omega)).trans HV2.out.bo
          obtain ⟨d0, d1, d2, d3, d4, d5, d6⟩ := cseven hD
          have f5 : w3.frozen? ⟨w.heap.size + 1 + 1, 5, none⟩ = false := hD.froz
          clear hD hown hb3 hg3 ha3 HV2 HG hH
          refine hK.out _ _ HP3.out (fun hH => ?_)
          clear hK K
          simp only [Act.put, List.setIfInBounds_toArray, List.set_cons_zero, List.set_cons_succ]
          refine wpAnyH_take (i := 10) (oi := ⟨_, _, _, _, _, _⟩) (v := .pointer (some ⟨w.heap.size + 1 + 1, 5, none⟩)) rfl (by kernel_rfl) (by kernel_rfl) (by kernel_rfl) (fun _ _ _ h => h) (Or.inl ⟨by rfl, fun w' h => by clear h; go_simp⟩) hH ?_
          simp only [Act.put, List.setIfInBounds_toArray, List.set_cons_zero, List.set_cons_succ]
          refine wpAnyH_ready (rs := [11]) (by kernel_rfl) (by simp) ?_
          refine (AllReadyH.cons (o := ⟨_, _, _, _, _, _⟩) rfl (fun K hK => ?_) AllReadyH.nil)
          go_simp
          clear d0 d1 d2 d3 d4 d5 d6 f5
          refine hK.out _ _ HW3.out.ub (fun hH => ?_)
          clear hK K hH HP3
          refine wpAnyH_done (by kernel_rfl) ?_ _
          go_wp2_with fail
          go_roundg g
          case measure => omega
          case rel => exact ⟨j + 1, _, _, by omega, by go_num, by rw [← HLN.out, ← HLB.out]; simp [fsts], HW3.out⟩
        · go_simp
          have HV2 : Hid (US w (V1.alloc (.cells #[.int .i64 mk, .int .i64 mn, .string ms, .string mm, .slice za zn zc] 26)) (Cm.cs ⟨(⟨⟨k, m, s⟩, nm, ls⟩, .slice a hn cap), body, .slice (some ⟨b2, o2, none⟩) body.length cap', tests, .slice a'' tests.length cap''⟩) zH bu LB (.slice none 0 0) []) := HV1.out.later (below1 _ _)
          have HZ2 : Hid (OwnT (V1.alloc (.cells #[.int .i64 mk, .int .i64 mn, .string ms, .string mm, .slice za zn zc] 26)) (w.heap.size + 3) (.slice za zn zc) ma) := HZ.out.later (below1 _ _)
          have HG : Hid (CBlk (V1.alloc (.cells #[.int .i64 mk, .int .i64 mn, .string ms, .string mm, .slice za zn zc] 26)) V1.heap.size #[.int .i64 mk, .int .i64 mn, .string ms, .string mm, .slice za zn zc] 26) := CBlk.new _ _ _
          clear hH HV1 HZ
          refine hK.out _ _ HV2.out.ub (fun hH => ?_)
          clear hK K
          revert hH HV2 HG HZ2
          generalize V1.alloc (.cells #[.int .i64 mk, .int .i64 mn, .string ms, .string mm, .slice za zn zc] 26) = V2
          generalize V1.heap.size = GG
          intro HV2 HZ2 HG hH
          refine wpAnyH_ready (rs := [1]) (by kernel_rfl) (by simp) ?_
          refine (AllReadyH.cons (o := ⟨_, _, _, _, _, _⟩) rfl (fun K hK => ?_) AllReadyH.nil)
          have c5 := (cseven HV2.out.bo).2.2.2.2.2.1
          go_simp
          clear c5
          refine hK.out _ _ hH (fun hH => ?_)
          clear hK K
          refine wpAnyH_ready (rs := [9]) (by kernel_rfl) (by simp) ?_
          refine (AllReadyH.cons (o := ⟨_, _, _, _, _, _⟩) rfl (fun K hK => ?_) AllReadyH.nil)
          refine astep_one rfl _ _ rfl (w.heap.size + 3) bu LB (by rfl) HV2.out.ba GG (⟨⟨mk, mn, ms⟩, mm, ma⟩, .slice za zn zc) (by rfl) HG.out (acell_one _ _ _ _) (by omega) HV2.out.sz ?_
          intro v' w3 hown hb3 hg3 ha3
          obtain ⟨va, vc, rfl⟩ := OwnA.form hown
          generalize (LB ++ [((⟨⟨mk, mn, ms⟩, mm, ma⟩, .slice za zn zc) : At × Value)]).length = VN at hown ha3 ⊢
          have HW3 : Hid (US w (w3.setCell ⟨w.heap.size + 1 + 1, 5, none⟩ (.slice va VN vc)) (Cm.cs ⟨(⟨⟨k, m, s⟩, nm, ls⟩, .slice a hn cap), body, .slice (some ⟨b2, o2, none⟩) body.length cap', tests, .slice a'' tests.length cap''⟩) zH (.slice va VN vc) (LB ++ [(⟨⟨mk, mn, ms⟩, mm, ma⟩, .slice za zn zc)]) (.slice none 0 0) []) := HV2.out.grow_b (x := (⟨⟨mk, mn, ms⟩, mm, ma⟩, .slice za zn zc)) HZ2.out HZN.out (fun k hk => by simp [Value.ownBlock] at hk) hown hb3 hg3 ha3
          have HP3 : Hid (UB w w3 (Cm.cs ⟨(⟨⟨k, m, s⟩, nm, ls⟩, .slice a hn cap), body, .slice (some ⟨b2, o2, none⟩) body.length cap', tests, .slice a'' tests.length cap''⟩)) := HV2.out.ub.laterB hb3 (by omega)
          have hD : CBlk w3 (w.heap.size + 1 + 1) _ 30 := (hb3.block _ (by omega)).trans HV2.out.bo
          obtain ⟨d0, d1, d2, d3, d4, d5, d6⟩ := cseven hD
          have f5 : w3.frozen? ⟨w.heap.size + 1 + 1, 5, none⟩ = false := hD.froz
          clear hD hown hb3 hg3 ha3 HV2 HG hH
          refine hK.out _ _ HP3.out (fun hH => ?_)
          clear hK K
          simp only [Act.put, List.setIfInBounds_toArray, List.set_cons_zero, List.set_cons_succ]
          refine wpAnyH_take (i := 10) (oi := ⟨_, _, _, _, _, _⟩) (v := .pointer (some ⟨w.heap.size + 1 + 1, 5, none⟩)) rfl (by kernel_rfl) (by kernel_rfl) (by kernel_rfl) (fun _ _ _ h => h) (Or.inl ⟨by rfl, fun w' h => by clear h; go_simp⟩) hH ?_
          simp only [Act.put, List.setIfInBounds_toArray, List.set_cons_zero, List.set_cons_succ]
          refine wpAnyH_ready (rs := [11]) (by kernel_rfl) (by simp) ?_
          refine (AllReadyH.cons (o := ⟨_, _, _, _, _, _⟩) rfl (fun K hK => ?_) AllReadyH.nil)
          go_simp
          clear d0 d1 d2 d3 d4 d5 d6 f5
          refine hK.out _ _ HW3.out.ub (fun hH => ?_)
          clear hK K hH HP3
          refine wpAnyH_done (by kernel_rfl) ?_ _
          go_wp2_with fail
          go_roundg g
          case measure => omega
          case rel => exact ⟨j + 1, _, _, by omega, by go_num, by rw [← HLN.out, ← HLB.out]; simp [fsts], HW3.out⟩
    | zero =>
      have hLB8 : fsts LB = (fsts (body.take 8)).map mkA := by
        rw [HLB.out]
        by_cases h8 : body.length ≤ 8
        · rw [List.take_of_length_le (by omega), List.take_of_length_le h8]
        · rw [show j = 8 by omega]
      have HLB8 : Hid (fsts LB = (fsts (body.take 8)).map mkA) := hLB8
      have HL9 : Hid (∀ x ∈ LB, x.1.pl.length ≤ 9) := fun x hx => by
        have : x.1 ∈ fsts LB := List.mem_map.2 ⟨x, hx, rfl⟩
        rw [hLB8] at this
        obtain ⟨y, -, e⟩ := List.mem_map.1 this
        rw [← e]; exact mkA_len y
      have HF72 : Hid ((flt LB).length ≤ 72) := by
        show _ ≤ _
        rw [flt_fsts]
        have := flat_len9 (fsts LB) fun a ha => by obtain ⟨x, hx, rfl⟩ := List.mem_map.1 ha; exact HL9.out x hx
        have e : (fsts LB).length = LB.length := by simp [fsts]
        omega
      have HBO : Hid (∀ X : World, US w X (Cm.cs ⟨(⟨⟨k, m, s⟩, nm, ls⟩, .slice a hn cap), body, .slice a' body.length cap', tests, .slice a'' tests.length cap''⟩) zH bu LB (.slice none 0 0) [] → Calls Tryz.prog 36 #[Cm.v ⟨zH, LB, bu, [], .slice none 0 0⟩] X fun e w' => ∃ v', e = .returned v' ∧ OwnT w' X.heap.size v' (flt LB) ∧ Below X.heap.size X w') := fun X hX =>
        bodyTerms_any ⟨zH, LB, bu, [], .slice none 0 0⟩ X (hX.mc.ok (by simp) (by show LB.length < _; omega) (fun y hy => by have := HL9.out y hy; simp [At.pl] at this; omega) (by simp)) (fun x hx => (hX.bt x hx).tsP) (by have := HF72.out; show (flt LB).length ≤ _; omega)
      obtain ⟨ba, bc, rfl⟩ := OwnA.form HUS.out.ba
      have HLBN : Hid (LB.length ≤ 8) := by show _ ≤ _; omega
      generalize LB.length = BN at HUS HBO
      obtain ⟨⟨⟨ak, aq, az⟩, anm, aL⟩, hA⟩ : ∃ z, mkA ⟨⟨k, m, s⟩, nm, ls⟩ = z := ⟨_, rfl⟩
      have HA : Hid (mkA ⟨⟨k, m, s⟩, nm, ls⟩ = ⟨⟨ak, aq, az⟩, anm, aL⟩) := hA
      rw [hA] at HMH
      have HA9 : Hid (aL.length ≤ 8) := by show _ ≤ _; have := mkA_len ⟨⟨k, m, s⟩, nm, ls⟩; rw [hA] at this; simp [At.pl] at this; omega
      obtain ⟨BT5, hBT5⟩ : ∃ B, flt LB = B := ⟨_, rfl⟩
      have HBT5 : Hid (flt LB = BT5) := hBT5
      rw [hBT5] at HBO HF72
      obtain ⟨d0, d1, d2, d3, d4, d5, d6⟩ := cseven HUS.out.bo
      simp only [zt] at d0 d1 d2 d3 d4 d5 d6
      clear hLB8 hLL hm HMA HLB hA hBT5
      go_upto_region 3 with fail
      go_cut [16] from 8 to 29 (fun s16 wx => s16 = .bool false ∧ wx = wr)
      case first =>
        by_cases hz : (j : Int) < (body.length : Int)
        · have h8 : ¬ (j : Int) < 8 := by omega
          go_wp2
          go_meet
          case rel => exact ⟨rfl, rfl⟩
        · go_wp2
          go_meet
          case rel => exact ⟨rfl, rfl⟩
      case rest =>
      obtain ⟨rfl, rfl⟩ := hcut
      go_upto_region 7 with (go_at_call 36; refine (HBO.out _ HUS.out).mono ?_; clear HBO; rintro e w2 ⟨y5, rfl, hy, hb⟩; have HU2 : Hid (US w w2 (Cm.cs ⟨(⟨⟨k, m, s⟩, nm, ls⟩, .slice a hn cap), body, .slice a' body.length cap', tests, .slice a'' tests.length cap''⟩) zH (.slice ba BN bc) LB (.slice none 0 0) []) := HUS.out.later hb; have HY2 : Hid (OwnT w2 (w.heap.size + 3) y5 BT5) := hy.mono HUS.out.sz; clear hb hy HUS)
      clear c0 c1 c2 c3 c4 c5 c6 d0 d1 d2 d3 d4 d5 d6
      obtain ⟨c0, c1, c2, c3, c4, c5, c6⟩ := cseven HU2.out.bc
      go_upto_region 8 with (go_at_call 35; refine (HMH.out _ HU2.out.bw).mono ?_; clear HMH; rintro e w3 ⟨z, rfl, hz2, hb⟩; obtain ⟨ya, yn, yc, rfl⟩ := ownT_form4 hz2; have HU3 : Hid (US w w3 (Cm.cs ⟨(⟨⟨k, m, s⟩, nm, ls⟩, .slice a hn cap), body, .slice a' body.length cap', tests, .slice a'' tests.length cap''⟩) zH (.slice ba BN bc) LB (.slice none 0 0) []) := HU2.out.later hb; have HY3 : Hid (OwnT w3 (w.heap.size + 3) y5 BT5) := HY2.out.later hb; have HZ3 : Hid (OwnT w3 (w.heap.size + 3) (.slice ya yn yc) aL) := hz2.mono HU2.out.sz; have HZF : Hid (∀ k, Value.ownBlock (.slice ya yn yc) = some k → w2.heap.size ≤ k) := fun k hk => (hz2.lt k hk).1; have HB2 : Hid (∀ k, Value.ownBlock (.slice ba BN bc) = some k → k < w2.heap.size) := fun k hk => (HU2.out.ba.lt k hk).2; have HX2 : Hid (∀ x ∈ LB, ∀ k, x.2.ownBlock = some k → k < w2.heap.size) := fun x hx k hk => ((HU2.out.bt x hx).lt k hk).2; have HY5 : Hid (∀ k, y5.ownBlock = some k → k < w2.heap.size) := fun k hk => (HY2.out.lt k hk).2; clear hb hz2 HU2 HY2 c0 c1 c2 c3 c4 c5 c6; obtain ⟨d0, d1, d2, d3, d4, d5, d6⟩ := cseven HU3.out.bo; have f0 : w3.frozen? ⟨w.heap.size + 1 + 1, 0, none⟩ = false := HU3.out.bo.froz; have f1 : w3.frozen? ⟨w.heap.size + 1 + 1, 1, none⟩ = false := HU3.out.bo.froz; have f2 : w3.frozen? ⟨w.heap.size + 1 + 1, 2, none⟩ = false := HU3.out.bo.froz; have f3 : w3.frozen? ⟨w.heap.size + 1 + 1, 3, none⟩ = false := HU3.out.bo.froz; have f4 : w3.frozen? ⟨w.heap.size + 1 + 1, 4, none⟩ = false := HU3.out.bo.froz; simp only [zt] at d0 d1 d2 d3 d4 d5 d6)
      have HU4 : Hid (US w (((((w3.setCell ⟨w.heap.size + 1 + 1, 0, none⟩ (.int .i64 ak)).setCell ⟨w.heap.size + 1 + 1, 1, none⟩ (.int .i64 aq)).setCell ⟨w.heap.size + 1 + 1, 2, none⟩ (.string az)).setCell ⟨w.heap.size + 1 + 1, 3, none⟩ (.string anm)).setCell ⟨w.heap.size + 1 + 1, 4, none⟩ (.slice ya yn yc)) (Cm.cs ⟨(⟨⟨k, m, s⟩, nm, ls⟩, .slice a hn cap), body, .slice a' body.length cap', tests, .slice a'' tests.length cap''⟩) (⟨⟨ak, aq, az⟩, anm, aL⟩, .slice ya yn yc) (.slice ba BN bc) LB (.slice none 0 0) []) := HU3.out.head (⟨⟨ak, aq, az⟩, anm, aL⟩, .slice ya yn yc) HZ3.out (fun k hk e => by have h1 := HZF.out k e; have h2 := HB2.out k hk; omega) (fun k hk => by simp [Value.ownBlock] at hk)
      have n5 : w.heap.size + 1 + 1 < w.heap.size + 3 := by omega
      have HY4 : Hid (OwnT (((((w3.setCell ⟨w.heap.size + 1 + 1, 0, none⟩ (.int .i64 ak)).setCell ⟨w.heap.size + 1 + 1, 1, none⟩ (.int .i64 aq)).setCell ⟨w.heap.size + 1 + 1, 2, none⟩ (.string az)).setCell ⟨w.heap.size + 1 + 1, 3, none⟩ (.string anm)).setCell ⟨w.heap.size + 1 + 1, 4, none⟩ (.slice ya yn yc)) (w.heap.size + 3) y5 BT5) := ((((HY3.out.set n5).set n5).set n5).set n5).set n5
      have HSEP : Hid (∀ x ∈ LB, ∀ k, Value.ownBlock (.slice ya yn yc) = some k → x.2.ownBlock ≠ some k) := fun x hx k hk e => by have h1 := HZF.out k hk; have h2 := HX2.out x hx k e; omega
      have HSY : Hid (∀ k, Value.ownBlock (.slice ya yn yc) = some k → y5.ownBlock ≠ some k) := fun k hk e => by have h1 := HZF.out k hk; have h2 := HY5.out k e; omega
      clear d0 d1 d2 d3 d4 d5 d6 f0 f1 f2 f3 f4 HU3 HY3 HZ3 HZF HB2 HX2 HY5
      revert HU4 HY4
      generalize (((((w3.setCell ⟨w.heap.size + 1 + 1, 0, none⟩ (.int .i64 ak)).setCell ⟨w.heap.size + 1 + 1, 1, none⟩ (.int .i64 aq)).setCell ⟨w.heap.size + 1 + 1, 2, none⟩ (.string az)).setCell ⟨w.heap.size + 1 + 1, 3, none⟩ (.string anm)).setCell ⟨w.heap.size + 1 + 1, 4, none⟩ (.slice ya yn yc)) = W4
      intro HU4 HY4
      obtain ⟨d0, d1, d2, d3, d4, d5, d6⟩ := cseven HU4.out.bo
      simp only at d0 d1 d2 d3 d4 d5 d6
      obtain ⟨⟨hk, hq, hz⟩, hHB⟩ : ∃ z : Tm, (if ak = 3 then zt else ⟨ak, aq, az⟩) = z := ⟨_, rfl⟩
      have HHB : Hid ((if ak = 3 then zt else ⟨ak, aq, az⟩) = (⟨hk, hq, hz⟩ : Tm)) := hHB
      clear hHB
      go_upto_if 40 with fail
      go_cut [] from 40 (fun wx => US w wx (Cm.cs ⟨(⟨⟨k, m, s⟩, nm, ls⟩, .slice a hn cap), body, .slice a' body.length cap', tests, .slice a'' tests.length cap''⟩) (⟨⟨hk, hq, hz⟩, anm, aL⟩, .slice ya yn yc) (.slice ba BN bc) LB (.slice none 0 0) [] ∧ OwnT wx (w.heap.size + 3) y5 BT5)
      case first =>
        by_cases h3 : ak = 3
        · have e : zt = ⟨hk, hq, hz⟩ := by have := HHB.out; rw [if_pos h3] at this; exact this
          have HE : Hid (zt = (⟨hk, hq, hz⟩ : Tm)) := e
          have f0 : W4.frozen? ⟨w.heap.size + 1 + 1, 0, none⟩ = false := HU4.out.bo.froz
          have f1 : W4.frozen? ⟨w.heap.size + 1 + 1, 1, none⟩ = false := HU4.out.bo.froz
          have f2 : W4.frozen? ⟨w.heap.size + 1 + 1, 2, none⟩ = false := HU4.out.bo.froz
          clear e
          go_wp2
          go_meet
          case rel => rw [← HE.out]; exact ⟨HU4.out.by0, ((HY4.out.set n5).set n5).set n5⟩
        · have e : (⟨ak, aq, az⟩ : Tm) = ⟨hk, hq, hz⟩ := by have := HHB.out; rw [if_neg h3] at this; exact this
          have HE : Hid ((⟨ak, aq, az⟩ : Tm) = ⟨hk, hq, hz⟩) := e
          clear e
          go_wp2
          go_meet
          case rel => rw [← HE.out]; exact ⟨HU4.out, HY4.out⟩
      case rest =>
      have HU5 : Hid (US w wc (Cm.cs ⟨(⟨⟨k, m, s⟩, nm, ls⟩, .slice a hn cap), body, .slice a' body.length cap', tests, .slice a'' tests.length cap''⟩) (⟨⟨hk, hq, hz⟩, anm, aL⟩, .slice ya yn yc) (.slice ba BN bc) LB (.slice none 0 0) [] ∧ OwnT wc (w.heap.size + 3) y5 BT5) := hcut
      clear hcut HU4 HY4 d0 d1 d2 d3 d4 d5 d6
      have hyn := ownT_n HU5.out.1.hw
      simp only at hyn
      subst hyn
      go_wp2_with fail
      go_loopg [6] aL.length (fun g i wr => ∃ j : Nat, j + g = aL.length ∧ i = .int .i64 j ∧ US w wr (Cm.cs ⟨(⟨⟨k, m, s⟩, nm, ls⟩, .slice a hn cap), body, .slice a' body.length cap', tests, .slice a'' tests.length cap''⟩) (⟨⟨hk, hq, hz⟩, anm, ((aL.take j).map (sf BT5) ++ aL.drop j)⟩, .slice ya aL.length yc) (.slice ba BN bc) LB (.slice none 0 0) [] ∧ OwnT wr (w.heap.size + 3) y5 BT5)
      case atStart => exact ⟨0, by omega, rfl, HU5.out.1, HU5.out.2⟩
      case round =>
        obtain ⟨j, hj, rfl, hus⟩ := hrel
        have HUS : Hid (US w wr (Cm.cs ⟨(⟨⟨k, m, s⟩, nm, ls⟩, .slice a hn cap), body, .slice a' body.length cap', tests, .slice a'' tests.length cap''⟩) (⟨⟨hk, hq, hz⟩, anm, ((aL.take j).map (sf BT5) ++ aL.drop j)⟩, .slice ya aL.length yc) (.slice ba BN bc) LB (.slice none 0 0) [] ∧ OwnT wr (w.heap.size + 3) y5 BT5) := hus
        clear hus HU5
        obtain ⟨d0, d1, d2, d3, d4, d5, d6⟩ := cseven HUS.out.1.bo
        simp only at d0 d1 d2 d3 d4 d5 d6
        cases gk with
        | succ g =>
          have h8l := HA9.out
          have hlt : (j : Int) < (aL.length : Int) := by omega
          have j0 : (0 : Int) ≤ (j : Int) := by omega
          obtain ⟨t, ht⟩ : ∃ t, aL[j]? = some t := ⟨_, List.getElem?_eq_getElem (by omega)⟩
          obtain ⟨hmx, hLJ⟩ := mix_step (g := sf BT5) ht
          have hLn : ((aL.take j).map (sf BT5) ++ aL.drop j).length = aL.length := by simp; omega
          obtain ⟨gh, gc, hgv⟩ := HUS.out.1.hw.some (by show 0 < ((aL.take j).map (sf BT5) ++ aL.drop j).length; omega)
          simp only [Value.slice.injEq] at hgv
          obtain ⟨rfl, -, rfl⟩ := hgv
          have HSX : Hid (∀ X : World, OwnT X (w.heap.size + 3) y5 BT5 → Calls Tryz.prog 37 #[y5, t.v] X fun e w' => e = .returned (sf BT5 t).v ∧ Below X.heap.size X w') := fun X hX => safe_any BT5 y5 t X (hX.tsP.ts (by have := HF72.out; omega))
          obtain ⟨⟨ek, en, es⟩, he⟩ : ∃ z, sf BT5 t = z := ⟨_, rfl⟩
          rw [he] at HSX hmx
          have HMIX : Hid (_ = _) := hmx
          have hjl : j < ((aL.take j).map (sf BT5) ++ aL.drop j).length := by omega
          generalize (aL.take j).map (sf BT5) ++ aL.drop j = LJ at HUS HMIX hLJ hjl
          have HSP2 : Hid (∀ x ∈ LB, x.2.ownBlock ≠ some gh) := fun x hx => HSEP.out x hx gh rfl
          have HSY2 : Hid (∀ k, y5.ownBlock = some k → k ≠ gh) := fun k hk e => HSY.out gh rfl (by rw [hk, e])
          clear ht he hmx hLn HSEP HSY
          obtain ⟨tk, tn, ts⟩ := t
          have HLJ : Hid (LJ[j]? = some ⟨tk, tn, ts⟩) := hLJ
          clear hLJ
          obtain ⟨qa, qn, qc, rfl⟩ := ownT_form4 HUS.out.2
          go_wp2_with fail
          clear d0 d1 d2 d3 d4 d5 d6
          have hV0 : US w wr.drew (Cm.cs ⟨(⟨⟨k, m, s⟩, nm, ls⟩, .slice a hn cap), body, .slice a' body.length cap', tests, .slice a'' tests.length cap''⟩) (⟨⟨hk, hq, hz⟩, anm, LJ⟩, .slice (some ⟨gh, 0, none⟩) aL.length yc) (.slice ba BN bc) LB (.slice none 0 0) [] ∧ OwnT wr.drew (w.heap.size + 3) (.slice qa qn qc) BT5 := ⟨HUS.out.1.later (Below.refl _ _).drew, HUS.out.2.later (Below.refl _ _).drew⟩
          refine wp_region_held_drew (S := fun w' => ∃ Lx, US w w' (Cm.cs ⟨(⟨⟨k, m, s⟩, nm, ls⟩, .slice a hn cap), body, .slice a' body.length cap', tests, .slice a'' tests.length cap''⟩) (⟨⟨hk, hq, hz⟩, anm, Lx⟩, .slice (some ⟨gh, 0, none⟩) aL.length yc) (.slice ba BN bc) LB (.slice none 0 0) [] ∧ OwnT w' (w.heap.size + 3) (.slice qa qn qc) BT5) (by kernel_rfl) ⟨_, hV0⟩ (fun hH => ?_)
          revert hH hV0
          generalize wr.drew = V0
          intro hV0 hH
          have HV0 : Hid (US w V0 (Cm.cs ⟨(⟨⟨k, m, s⟩, nm, ls⟩, .slice a hn cap), body, .slice a' body.length cap', tests, .slice a'' tests.length cap''⟩) (⟨⟨hk, hq, hz⟩, anm, LJ⟩, .slice (some ⟨gh, 0, none⟩) aL.length yc) (.slice ba BN bc) LB (.slice none 0 0) [] ∧ OwnT V0 (w.heap.size + 3) (.slice qa qn qc) BT5) := hV0
          clear hV0 HUS
          refine wpAnyH_take (i := 0) (oi := ⟨_, _, _, _, _, _⟩) (v := .pointer (some ⟨w.heap.size + 1 + 1, 0, none⟩)) rfl (by kernel_rfl) (by kernel_rfl) (by kernel_rfl) (fun _ _ _ h => h) (Or.inl ⟨by rfl, fun w' h => by clear h; go_simp⟩) hH ?_
          simp only [Act.put, List.setIfInBounds_toArray, List.set_cons_zero, List.set_cons_succ]
          refine wpAnyH_take (i := 1) (oi := ⟨_, _, _, _, _, _⟩) (v := .pointer (some ⟨w.heap.size + 1 + 1, 4, none⟩)) rfl (by kernel_rfl) (by kernel_rfl) (by kernel_rfl) (fun _ _ _ h => h) (Or.inl ⟨by rfl, fun w' h => by clear h; go_simp⟩) hH ?_
          simp only [Act.put, List.setIfInBounds_toArray, List.set_cons_zero, List.set_cons_succ]
          refine wpAnyH_take (i := 2) (oi := ⟨_, _, _, _, _, _⟩) (v := .slice (some ⟨gh, 0, none⟩) aL.length yc) rfl (by kernel_rfl) (by kernel_rfl) (by kernel_rfl) (fun _ _ _ h => h) (Or.inl ⟨by rfl, fun w' h => by obtain ⟨Lx, h, _⟩ := h; obtain ⟨c0, c1, c2, c3, c4, c5, c6⟩ := cseven h.bo; clear h; go_simp⟩) hH ?_
          simp only [Act.put, List.setIfInBounds_toArray, List.set_cons_zero, List.set_cons_succ]
          refine wpAnyH_take (i := 3) (oi := ⟨_, _, _, _, _, _⟩) (v := .int .i64 (j : Int)) rfl (by kernel_rfl) (by kernel_rfl) (by kernel_rfl) (fun _ _ _ h => h) (Or.inl ⟨by rfl, fun w' h => by clear h; go_simp⟩) hH ?_
          simp only [Act.put, List.setIfInBounds_toArray, List.set_cons_zero, List.set_cons_succ]
          refine wpAnyH_take (i := 4) (oi := ⟨_, _, _, _, _, _⟩) (v := .slice qa qn qc) rfl (by kernel_rfl) (by kernel_rfl) (by kernel_rfl) (fun _ _ _ h => h) (Or.inl ⟨by rfl, fun w' h => by clear h; go_simp⟩) hH ?_
          simp only [Act.put, List.setIfInBounds_toArray, List.set_cons_zero, List.set_cons_succ]
          refine wpAnyH_take (i := 5) (oi := ⟨_, _, _, _, _, _⟩) (v := .pointer (some ⟨w.heap.size + 1 + 1, 0, none⟩)) rfl (by kernel_rfl) (by kernel_rfl) (by kernel_rfl) (fun _ _ _ h => h) (Or.inl ⟨by rfl, fun w' h => by clear h; go_simp⟩) hH ?_
          simp only [Act.put, List.setIfInBounds_toArray, List.set_cons_zero, List.set_cons_succ]
          refine wpAnyH_take (i := 6) (oi := ⟨_, _, _, _, _, _⟩) (v := .pointer (some ⟨w.heap.size + 1 + 1, 4, none⟩)) rfl (by kernel_rfl) (by kernel_rfl) (by kernel_rfl) (fun _ _ _ h => h) (Or.inl ⟨by rfl, fun w' h => by clear h; go_simp⟩) hH ?_
          simp only [Act.put, List.setIfInBounds_toArray, List.set_cons_zero, List.set_cons_succ]
          refine wpAnyH_take (i := 7) (oi := ⟨_, _, _, _, _, _⟩) (v := .slice (some ⟨gh, 0, none⟩) aL.length yc) rfl (by kernel_rfl) (by kernel_rfl) (by kernel_rfl) (fun _ _ _ h => h) (Or.inl ⟨by rfl, fun w' h => by obtain ⟨Lx, h, _⟩ := h; obtain ⟨c0, c1, c2, c3, c4, c5, c6⟩ := cseven h.bo; clear h; go_simp⟩) hH ?_
          simp only [Act.put, List.setIfInBounds_toArray, List.set_cons_zero, List.set_cons_succ]
          refine wpAnyH_take (i := 8) (oi := ⟨_, _, _, _, _, _⟩) (v := .int .i64 (j : Int)) rfl (by kernel_rfl) (by kernel_rfl) (by kernel_rfl) (fun _ _ _ h => h) (Or.inl ⟨by rfl, fun w' h => by clear h; go_simp⟩) hH ?_
          simp only [Act.put, List.setIfInBounds_toArray, List.set_cons_zero, List.set_cons_succ]
          refine wpAnyH_take (i := 9) (oi := ⟨_, _, _, _, _, _⟩) (v := .pointer (some ⟨gh, j * 3, none⟩)) rfl (by kernel_rfl) (by kernel_rfl) (by kernel_rfl) (fun _ _ _ h => h) (Or.inl ⟨by rfl, fun w' h => by clear h; go_simp⟩) hH ?_
          simp only [Act.put, List.setIfInBounds_toArray, List.set_cons_zero, List.set_cons_succ]
          refine wpAnyH_ready (rs := [10]) (by kernel_rfl) (by simp) ?_
          refine (AllReadyH.cons (o := ⟨_, _, _, _, _, _⟩) rfl (fun K hK => ?_) AllReadyH.nil)
          obtain ⟨l0, l1, l2⟩ := ownT_cells HV0.out.1.hw j _ HLJ.out
          simp only at l0 l1 l2
          go_simp
          clear l0 l1 l2
          refine hK.out _ _ hH (fun hH => ?_)
          clear hK K
          try simp only [Act.put, List.setIfInBounds_toArray, List.set_cons_zero, List.set_cons_succ]
          refine wpAnyH_ready (rs := [11]) (by kernel_rfl) (by simp) ?_
          refine (AllReadyH.cons (o := ⟨_, _, _, _, _, _⟩) rfl (fun K hK => ?_) AllReadyH.nil)
          go_simp
          refine (HSX.out _ HV0.out.2).mono ?_
          rintro e V1 ⟨rfl, hb⟩
          have HV1 : Hid (US w V1 (Cm.cs ⟨(⟨⟨k, m, s⟩, nm, ls⟩, .slice a hn cap), body, .slice a' body.length cap', tests, .slice a'' tests.length cap''⟩) (⟨⟨hk, hq, hz⟩, anm, LJ⟩, .slice (some ⟨gh, 0, none⟩) aL.length yc) (.slice ba BN bc) LB (.slice none 0 0) [] ∧ OwnT V1 (w.heap.size + 3) (.slice qa qn qc) BT5) := ⟨HV0.out.1.later hb, HV0.out.2.later hb⟩
          clear hb HV0 hH
          refine hK.out _ _ ⟨_, HV1.out⟩ (fun hH => ?_)
          clear hK K
          try simp only [Act.put, List.setIfInBounds_toArray, List.set_cons_zero, List.set_cons_succ]
          refine wpAnyH_take (i := 12) (oi := ⟨_, _, _, _, _, _⟩) (v := .pointer (some ⟨gh, j * 3, none⟩)) rfl (by kernel_rfl) (by kernel_rfl) (by kernel_rfl) (fun _ _ _ h => h) (Or.inl ⟨by rfl, fun w' h => by clear h; go_simp⟩) hH ?_
          simp only [Act.put, List.setIfInBounds_toArray, List.set_cons_zero, List.set_cons_succ]
          refine wpAnyH_ready (rs := [13]) (by kernel_rfl) (by simp) ?_
          refine (AllReadyH.cons (o := ⟨_, _, _, _, _, _⟩) rfl (fun K hK => ?_) AllReadyH.nil)
          obtain ⟨l0, l1, l2⟩ := ownT_cells HV1.out.1.hw j _ HLJ.out
          have f1 : V1.frozen? ⟨gh, j * 3 + 1, none⟩ = false := ownT_froz HV1.out.1.hw
          have f2 : V1.frozen? ⟨gh, j * 3 + 2, none⟩ = false := ownT_froz HV1.out.1.hw
          have f0 : V1.frozen? ⟨gh, j * 3, none⟩ = false := ownT_froz HV1.out.1.hw
          simp only at l0 l1 l2
          go_simp
          clear l0 l1 l2 f0 f1 f2 hH
          have HW : Hid (US w (Tput V1 gh j ⟨ek, en, es⟩) (Cm.cs ⟨(⟨⟨k, m, s⟩, nm, ls⟩, .slice a hn cap), body, .slice a' body.length cap', tests, .slice a'' tests.length cap''⟩) (⟨⟨hk, hq, hz⟩, anm, (LJ.set j ⟨ek, en, es⟩)⟩, .slice (some ⟨gh, 0, none⟩) aL.length yc) (.slice ba BN bc) LB (.slice none 0 0) [] ∧ OwnT (Tput V1 gh j ⟨ek, en, es⟩) (w.heap.size + 3) (.slice qa qn qc) BT5) := ⟨HV1.out.1.arg HSP2.out hjl ⟨ek, en, es⟩, ((HV1.out.2.off HSY2.out).off HSY2.out).off HSY2.out⟩
          refine hK.out _ _ ⟨_, HW.out⟩ (fun hH => ?_)
          clear hK K hH
          refine wpAnyH_done (by kernel_rfl) ?_ _
          go_wp2_with fail
          go_roundg g
          case measure => omega
          case rel => exact ⟨j + 1, by omega, by go_num, by rw [← HMIX.out]; exact HW.out⟩
        | zero =>
          obtain rfl : j = aL.length := by omega
          have hzz : ¬ ((aL.length : Int) < (aL.length : Int)) := by omega
          rw [List.take_length, List.drop_length, List.append_nil] at HUS
          obtain ⟨LH, hLH⟩ : ∃ L, aL.map (sf BT5) = L := ⟨_, rfl⟩
          have HLH : Hid (aL.map (sf BT5) = LH) := hLH
          rw [hLH] at HUS
          clear hLH HSEP HSY
          go_wp2_with fail
          clear d0 d1 d2 d3 d4 d5 d6
          go_loopg [7] (min 8 tests.length) (fun g i wr => ∃ (j : Nat) (tu : Value), j + g = min 8 tests.length ∧ i = .int .i64 j ∧ (∀ k, tu.ownBlock = some k → y5.ownBlock ≠ some k) ∧ US w wr (Cm.cs ⟨(⟨⟨k, m, s⟩, nm, ls⟩, .slice a hn cap), body, .slice a' body.length cap', tests, .slice a'' tests.length cap''⟩) (⟨⟨hk, hq, hz⟩, anm, LH⟩, .slice ya aL.length yc) (.slice ba BN bc) LB tu ((tests.take j).map (mkE BT5)) ∧ OwnT wr (w.heap.size + 3) y5 BT5)
          case atStart => exact ⟨0, .slice none 0 0, by omega, rfl, fun k hk => by simp [Value.ownBlock] at hk, HUS.out.1, HUS.out.2⟩
          case round =>
            obtain ⟨j, tu, hj, rfl, hty, hus⟩ := hrel
            have HTY : Hid (∀ k, tu.ownBlock = some k → y5.ownBlock ≠ some k) := hty
            have HU7 : Hid (US w wr (Cm.cs ⟨(⟨⟨k, m, s⟩, nm, ls⟩, .slice a hn cap), body, .slice a' body.length cap', tests, .slice a'' tests.length cap''⟩) (⟨⟨hk, hq, hz⟩, anm, LH⟩, .slice ya aL.length yc) (.slice ba BN bc) LB tu ((tests.take j).map (mkE BT5)) ∧ OwnT wr (w.heap.size + 3) y5 BT5) := hus
            clear hus hty HUS
            obtain ⟨c0, c1, c2, c3, c4, c5, c6⟩ := cseven HU7.out.1.bc
            cases gk with
            | succ g =>
              have hlt : (j : Int) < (tests.length : Int) := by omega
              have h8 : (j : Int) < 8 := by omega
              have j0 : (0 : Int) ≤ (j : Int) := by omega
              obtain ⟨t, ht⟩ : ∃ t, tests[j]? = some t := ⟨_, List.getElem?_eq_getElem (by omega)⟩
              rcases hmt with hmt | ⟨b3, o3, rfl, hb3, hmt⟩
              · subst hmt; simp at hj
              obtain ⟨p0, p1, p2, p3, p4, p5, p6⟩ := hmt j t ht
              have HTJ : Hid ((tests.take j).map (mkE BT5) ++ [mkE BT5 t] = (tests.take (j + 1)).map (mkE BT5)) := by show _ = _; rw [List.take_add_one, ht]; simp
              have HLT : Hid (((tests.take j).map (mkE BT5)).length ≤ 1800000000000) := by show _ ≤ _; rw [List.length_map, List.length_take]; omega
              have HMX : Hid (∀ X : World, OwnT X (w.heap.size + 3) y5 BT5 → Calls Tryz.prog 38 #[t.v, y5] X fun e w' => e = .returned (mkE BT5 t).v ∧ Below X.heap.size X w') := fun X hX => madeTest_any t y5 BT5 X (hX.tsP.ts (by have := HF72.out; omega))
              obtain ⟨⟨eo, ⟨ek, en, es⟩, ⟨fk, fn, fs⟩⟩, he⟩ : ∃ z, mkE BT5 t = z := ⟨_, rfl⟩
              rw [he] at HMX HTJ
              generalize (tests.take j).map (mkE BT5) = LTJ at HU7 HTJ HLT
              clear hmt ht he
              obtain ⟨top, ⟨lk, ln, lz⟩, ⟨rk, rn, rz⟩⟩ := t
              simp only at p0 p1 p2 p3 p4 p5 p6
              obtain ⟨qa, qn, qc, rfl⟩ := ownT_form4 HU7.out.2
              have HUS := HU7
              clear HU7
              go_wp2_with fail
              clear c0 c1 c2 c3 c4 c5 c6
              have hV0 : US w wr.drew (Cm.cs ⟨(⟨⟨k, m, s⟩, nm, ls⟩, .slice a hn cap), body, .slice a' body.length cap', tests, .slice (some ⟨b3, o3, none⟩) tests.length cap''⟩) (⟨⟨hk, hq, hz⟩, anm, LH⟩, .slice ya aL.length yc) (.slice ba BN bc) LB tu LTJ ∧ OwnT wr.drew (w.heap.size + 3) (.slice qa qn qc) BT5 := ⟨HUS.out.1.later (Below.refl _ _).drew, HUS.out.2.later (Below.refl _ _).drew⟩
              refine wp_region_held_drew (S := fun w' => UB w w' (Cm.cs ⟨(⟨⟨k, m, s⟩, nm, ls⟩, .slice a hn cap), body, .slice a' body.length cap', tests, .slice (some ⟨b3, o3, none⟩) tests.length cap''⟩)) (by kernel_rfl) hV0.1.ub (fun hH => ?_)
              revert hH hV0
              generalize wr.drew = V0
              intro hV0 hH
              have HV0 : Hid (US w V0 (Cm.cs ⟨(⟨⟨k, m, s⟩, nm, ls⟩, .slice a hn cap), body, .slice a' body.length cap', tests, .slice (some ⟨b3, o3, none⟩) tests.length cap''⟩) (⟨⟨hk, hq, hz⟩, anm, LH⟩, .slice ya aL.length yc) (.slice ba BN bc) LB tu LTJ ∧ OwnT V0 (w.heap.size + 3) (.slice qa qn qc) BT5) := hV0
              clear hV0 HUS
              refine wpAnyH_take (i := 0) (oi := ⟨_, _, _, _, _, _⟩) (v := .pointer (some ⟨w.heap.size + 1 + 1, 6, none⟩)) rfl (by kernel_rfl) (by kernel_rfl) (by kernel_rfl) (fun _ _ _ h => h) (Or.inl ⟨by rfl, fun w' h => by clear h; go_simp⟩) hH ?_
              simp only [Act.put, List.setIfInBounds_toArray, List.set_cons_zero, List.set_cons_succ]
              refine wpAnyH_take (i := 2) (oi := ⟨_, _, _, _, _, _⟩) (v := .pointer (some ⟨w.heap.size, 6, none⟩)) rfl (by kernel_rfl) (by kernel_rfl) (by kernel_rfl) (fun _ _ _ h => h) (Or.inl ⟨by rfl, fun w' h => by clear h; go_simp⟩) hH ?_
              simp only [Act.put, List.setIfInBounds_toArray, List.set_cons_zero, List.set_cons_succ]
              refine wpAnyH_take (i := 3) (oi := ⟨_, _, _, _, _, _⟩) (v := .slice (some ⟨b3, o3, none⟩) tests.length cap'') rfl (by kernel_rfl) (by kernel_rfl) (by kernel_rfl) (fun _ _ _ h => h) (Or.inl ⟨by rfl, fun w' h => by obtain ⟨c0, c1, c2, c3, c4, c5, c6⟩ := cseven h.bc; clear h; go_simp⟩) hH ?_
              simp only [Act.put, List.setIfInBounds_toArray, List.set_cons_zero, List.set_cons_succ]
              refine wpAnyH_take (i := 4) (oi := ⟨_, _, _, _, _, _⟩) (v := .int .i64 (j : Int)) rfl (by kernel_rfl) (by kernel_rfl) (by kernel_rfl) (fun _ _ _ h => h) (Or.inl ⟨by rfl, fun w' h => by clear h; go_simp⟩) hH ?_
              simp only [Act.put, List.setIfInBounds_toArray, List.set_cons_zero, List.set_cons_succ]
              refine wpAnyH_take (i := 5) (oi := ⟨_, _, _, _, _, _⟩) (v := .pointer (some ⟨b3, o3 + j * 7, none⟩)) rfl (by kernel_rfl) (by kernel_rfl) (by kernel_rfl) (fun _ _ _ h => h) (Or.inl ⟨by rfl, fun w' h => by clear h; go_simp⟩) hH ?_
              simp only [Act.put, List.setIfInBounds_toArray, List.set_cons_zero, List.set_cons_succ]
              refine wpAnyH_take (i := 6) (oi := ⟨_, _, _, _, _, _⟩) (v := .agg #[.int .i64 top, .int .i64 lk, .int .i64 ln, .string lz, .int .i64 rk, .int .i64 rn, .string rz]) rfl (by kernel_rfl) (by kernel_rfl) (by kernel_rfl) (fun _ _ _ h => h) (Or.inl ⟨by rfl, fun w' h => by have z0 := cell_step h.bw hb3 p0; have z1 := cell_step h.bw hb3 p1; have z2 := cell_step h.bw hb3 p2; have z3 := cell_step h.bw hb3 p3; have z4 := cell_step h.bw hb3 p4; have z5 := cell_step h.bw hb3 p5; have z6 := cell_step h.bw hb3 p6; clear h; go_simp⟩) hH ?_
              simp only [Act.put, List.setIfInBounds_toArray, List.set_cons_zero, List.set_cons_succ]
              refine wpAnyH_take (i := 7) (oi := ⟨_, _, _, _, _, _⟩) (v := .slice qa qn qc) rfl (by kernel_rfl) (by kernel_rfl) (by kernel_rfl) (fun _ _ _ h => h) (Or.inl ⟨by rfl, fun w' h => by clear h; go_simp⟩) hH ?_
              simp only [Act.put, List.setIfInBounds_toArray, List.set_cons_zero, List.set_cons_succ]
              refine wpAnyH_ready (rs := [1, 8]) (by kernel_rfl) (by simp) ?_
              refine (AllReadyH.cons (o := ⟨_, _, _, _, _, _⟩) rfl (fun K hK => ?_) (AllReadyH.cons (o := ⟨_, _, _, _, _, _⟩) rfl (fun K hK => ?_) AllReadyH.nil))
              · have c6 := (cseven HV0.out.1.bo).2.2.2.2.2.2
                go_simp
                clear c6
                refine hK.out _ _ hH (fun hH => ?_)
                clear hK K
                refine wpAnyH_ready (rs := [8]) (by kernel_rfl) (by simp) ?_
                refine (AllReadyH.cons (o := ⟨_, _, _, _, _, _⟩) rfl (fun K hK => ?_) AllReadyH.nil)
                go_simp
                refine (HMX.out _ HV0.out.2).mono ?_
                rintro e V1 ⟨rfl, hb⟩
                have HV1 : Hid (US w V1 (Cm.cs ⟨(⟨⟨k, m, s⟩, nm, ls⟩, .slice a hn cap), body, .slice a' body.length cap', tests, .slice (some ⟨b3, o3, none⟩) tests.length cap''⟩) (⟨⟨hk, hq, hz⟩, anm, LH⟩, .slice ya aL.length yc) (.slice ba BN bc) LB tu LTJ ∧ OwnT V1 (w.heap.size + 3) (.slice qa qn qc) BT5) := ⟨HV0.out.1.later hb, HV0.out.2.later hb⟩
                clear hb HV0 hH HMX
                refine hK.out _ _ HV1.out.1.ub (fun hH => ?_)
                clear hK K
                try simp only [Act.put, List.setIfInBounds_toArray, List.set_cons_zero, List.set_cons_succ]
                refine wpAnyH_ready (rs := [9]) (by kernel_rfl) (by simp) ?_
                refine (AllReadyH.cons (o := ⟨_, _, _, _, _, _⟩) rfl (fun K hK => ?_) AllReadyH.nil)
                go_simp
                have HV2 : Hid (US w (V1.alloc (.cells #[.int .i64 eo, .int .i64 ek, .int .i64 en, .string es, .int .i64 fk, .int .i64 fn, .string fs] 45)) (Cm.cs ⟨(⟨⟨k, m, s⟩, nm, ls⟩, .slice a hn cap), body, .slice a' body.length cap', tests, .slice (some ⟨b3, o3, none⟩) tests.length cap''⟩) (⟨⟨hk, hq, hz⟩, anm, LH⟩, .slice ya aL.length yc) (.slice ba BN bc) LB tu LTJ ∧ OwnT (V1.alloc (.cells #[.int .i64 eo, .int .i64 ek, .int .i64 en, .string es, .int .i64 fk, .int .i64 fn, .string fs] 45)) (w.heap.size + 3) (.slice qa qn qc) BT5) := ⟨HV1.out.1.later (below1 _ _), HV1.out.2.later (below1 _ _)⟩
                have HG : Hid (CBlk (V1.alloc (.cells #[.int .i64 eo, .int .i64 ek, .int .i64 en, .string es, .int .i64 fk, .int .i64 fn, .string fs] 45)) V1.heap.size #[.int .i64 eo, .int .i64 ek, .int .i64 en, .string es, .int .i64 fk, .int .i64 fn, .string fs] 45) := CBlk.new _ _ _
                clear hH HV1
                refine hK.out _ _ HV2.out.1.ub (fun hH => ?_)
                clear hK K
                revert hH HV2 HG
                generalize V1.alloc (.cells #[.int .i64 eo, .int .i64 ek, .int .i64 en, .string es, .int .i64 fk, .int .i64 fn, .string fs] 45) = V2
                generalize V1.heap.size = GG
                intro HV2 HG hH
                refine wpAnyH_ready (rs := [10]) (by kernel_rfl) (by simp) ?_
                refine (AllReadyH.cons (o := ⟨_, _, _, _, _, _⟩) rfl (fun K hK => ?_) AllReadyH.nil)
                refine estep_one rfl _ _ rfl (w.heap.size + 3) tu LTJ (by rfl) HV2.out.1.et GG ⟨eo, ⟨ek, en, es⟩, ⟨fk, fn, fs⟩⟩ (by rfl) HG.out (ecell_one _) (by have := HLT.out; omega) HV2.out.1.sz ?_
                intro v' w3 hown hb4 hg3 ha3
                obtain ⟨va, vc, rfl⟩ := OwnE.form hown
                generalize (LTJ ++ [(⟨eo, ⟨ek, en, es⟩, ⟨fk, fn, fs⟩⟩ : Te)]).length = VN at hown ha3 ⊢
                have HW3 : Hid ((US w (w3.setCell ⟨w.heap.size + 1 + 1, 6, none⟩ (.slice va VN vc)) (Cm.cs ⟨(⟨⟨k, m, s⟩, nm, ls⟩, .slice a hn cap), body, .slice a' body.length cap', tests, .slice (some ⟨b3, o3, none⟩) tests.length cap''⟩) (⟨⟨hk, hq, hz⟩, anm, LH⟩, .slice ya aL.length yc) (.slice ba BN bc) LB (.slice va VN vc) (LTJ ++ [⟨eo, ⟨ek, en, es⟩, ⟨fk, fn, fs⟩⟩]) ∧ OwnT (w3.setCell ⟨w.heap.size + 1 + 1, 6, none⟩ (.slice va VN vc)) (w.heap.size + 3) (.slice qa qn qc) BT5) ∧ ∀ k, Value.ownBlock (.slice va VN vc) = some k → Value.ownBlock (.slice qa qn qc) ≠ some k) := ⟨⟨HV2.out.1.grow_t hown hb4 hg3 ha3, (HV2.out.2.grown hg3 (fun k hk e => HTY.out k e hk)).set (by omega)⟩, fun k hk e => (ha3 k hk).elim (fun h => HTY.out k h e) (fun h => by have := (HV2.out.2.lt k e).2; omega)⟩
                have HP3 : Hid (UB w w3 (Cm.cs ⟨(⟨⟨k, m, s⟩, nm, ls⟩, .slice a hn cap), body, .slice a' body.length cap', tests, .slice (some ⟨b3, o3, none⟩) tests.length cap''⟩)) := HV2.out.1.ub.laterB hb4 (by omega)
                have hD : CBlk w3 (w.heap.size + 1 + 1) _ 30 := (hb4.block _ (by omega)).trans HV2.out.1.bo
                obtain ⟨d0, d1, d2, d3, d4, d5, d6⟩ := cseven hD
                have f6 : w3.frozen? ⟨w.heap.size + 1 + 1, 6, none⟩ = false := hD.froz
                clear hD hown hb4 hg3 ha3 HV2 HG hH
                refine hK.out _ _ HP3.out (fun hH => ?_)
                clear hK K
                simp only [Act.put, List.setIfInBounds_toArray, List.set_cons_zero, List.set_cons_succ]
                refine wpAnyH_take (i := 11) (oi := ⟨_, _, _, _, _, _⟩) (v := .pointer (some ⟨w.heap.size + 1 + 1, 6, none⟩)) rfl (by kernel_rfl) (by kernel_rfl) (by kernel_rfl) (fun _ _ _ h => h) (Or.inl ⟨by rfl, fun w' h => by clear h; go_simp⟩) hH ?_
                simp only [Act.put, List.setIfInBounds_toArray, List.set_cons_zero, List.set_cons_succ]
                refine wpAnyH_ready (rs := [12]) (by kernel_rfl) (by simp) ?_
                refine (AllReadyH.cons (o := ⟨_, _, _, _, _, _⟩) rfl (fun K hK => ?_) AllReadyH.nil)
                go_simp
                clear d0 d1 d2 d3 d4 d5 d6 f6
                refine hK.out _ _ HW3.out.1.1.ub (fun hH => ?_)
                clear hK K hH HP3
                refine wpAnyH_done (by kernel_rfl) ?_ _
                go_wp2_with fail
                go_roundg g
                case measure => omega
                case rel => exact ⟨j + 1, _, by omega, by go_num, HW3.out.2, by rw [← HTJ.out]; exact HW3.out.1⟩
              · go_simp
                refine (HMX.out _ HV0.out.2).mono ?_
                rintro e V1 ⟨rfl, hb⟩
                have HV1 : Hid (US w V1 (Cm.cs ⟨(⟨⟨k, m, s⟩, nm, ls⟩, .slice a hn cap), body, .slice a' body.length cap', tests, .slice (some ⟨b3, o3, none⟩) tests.length cap''⟩) (⟨⟨hk, hq, hz⟩, anm, LH⟩, .slice ya aL.length yc) (.slice ba BN bc) LB tu LTJ ∧ OwnT V1 (w.heap.size + 3) (.slice qa qn qc) BT5) := ⟨HV0.out.1.later hb, HV0.out.2.later hb⟩
                clear hb HV0 hH HMX
                refine hK.out _ _ HV1.out.1.ub (fun hH => ?_)
                clear hK K
                try simp only [Act.put, List.setIfInBounds_toArray, List.set_cons_zero, List.set_cons_succ]
                refine wpAnyH_ready (rs := [1, 9]) (by kernel_rfl) (by simp) ?_
                refine (AllReadyH.cons (o := ⟨_, _, _, _, _, _⟩) rfl (fun K hK => ?_) (AllReadyH.cons (o := ⟨_, _, _, _, _, _⟩) rfl (fun K hK => ?_) AllReadyH.nil))
                · have c6 := (cseven HV1.out.1.bo).2.2.2.2.2.2
                  go_simp
                  clear c6
                  refine hK.out _ _ hH (fun hH => ?_)
                  clear hK K
                  refine wpAnyH_ready (rs := [9]) (by kernel_rfl) (by simp) ?_
                  refine (AllReadyH.cons (o := ⟨_, _, _, _, _, _⟩) rfl (fun K hK => ?_) AllReadyH.nil)
                  go_simp
                  have HV2 : Hid (US w (V1.alloc (.cells #[.int .i64 eo, .int .i64 ek, .int .i64 en, .string es, .int .i64 fk, .int .i64 fn, .string fs] 45)) (Cm.cs ⟨(⟨⟨k, m, s⟩, nm, ls⟩, .slice a hn cap), body, .slice a' body.length cap', tests, .slice (some ⟨b3, o3, none⟩) tests.length cap''⟩) (⟨⟨hk, hq, hz⟩, anm, LH⟩, .slice ya aL.length yc) (.slice ba BN bc) LB tu LTJ ∧ OwnT (V1.alloc (.cells #[.int .i64 eo, .int .i64 ek, .int .i64 en, .string es, .int .i64 fk, .int .i64 fn, .string fs] 45)) (w.heap.size + 3) (.slice qa qn qc) BT5) := ⟨HV1.out.1.later (below1 _ _), HV1.out.2.later (below1 _ _)⟩
                  have HG : Hid (CBlk (V1.alloc (.cells #[.int .i64 eo, .int .i64 ek, .int .i64 en, .string es, .int .i64 fk, .int .i64 fn, .string fs] 45)) V1.heap.size #[.int .i64 eo, .int .i64 ek, .int .i64 en, .string es, .int .i64 fk, .int .i64 fn, .string fs] 45) := CBlk.new _ _ _
                  clear hH HV1
                  refine hK.out _ _ HV2.out.1.ub (fun hH => ?_)
                  clear hK K
                  revert hH HV2 HG
                  generalize V1.alloc (.cells #[.int .i64 eo, .int .i64 ek, .int .i64 en, .string es, .int .i64 fk, .int .i64 fn, .string fs] 45) = V2
                  generalize V1.heap.size = GG
                  intro HV2 HG hH
                  refine wpAnyH_ready (rs := [10]) (by kernel_rfl) (by simp) ?_
                  refine (AllReadyH.cons (o := ⟨_, _, _, _, _, _⟩) rfl (fun K hK => ?_) AllReadyH.nil)
                  refine estep_one rfl _ _ rfl (w.heap.size + 3) tu LTJ (by rfl) HV2.out.1.et GG ⟨eo, ⟨ek, en, es⟩, ⟨fk, fn, fs⟩⟩ (by rfl) HG.out (ecell_one _) (by have := HLT.out; omega) HV2.out.1.sz ?_
                  intro v' w3 hown hb4 hg3 ha3
                  obtain ⟨va, vc, rfl⟩ := OwnE.form hown
                  generalize (LTJ ++ [(⟨eo, ⟨ek, en, es⟩, ⟨fk, fn, fs⟩⟩ : Te)]).length = VN at hown ha3 ⊢
                  have HW3 : Hid ((US w (w3.setCell ⟨w.heap.size + 1 + 1, 6, none⟩ (.slice va VN vc)) (Cm.cs ⟨(⟨⟨k, m, s⟩, nm, ls⟩, .slice a hn cap), body, .slice a' body.length cap', tests, .slice (some ⟨b3, o3, none⟩) tests.length cap''⟩) (⟨⟨hk, hq, hz⟩, anm, LH⟩, .slice ya aL.length yc) (.slice ba BN bc) LB (.slice va VN vc) (LTJ ++ [⟨eo, ⟨ek, en, es⟩, ⟨fk, fn, fs⟩⟩]) ∧ OwnT (w3.setCell ⟨w.heap.size + 1 + 1, 6, none⟩ (.slice va VN vc)) (w.heap.size + 3) (.slice qa qn qc) BT5) ∧ ∀ k, Value.ownBlock (.slice va VN vc) = some k → Value.ownBlock (.slice qa qn qc) ≠ some k) := ⟨⟨HV2.out.1.grow_t hown hb4 hg3 ha3, (HV2.out.2.grown hg3 (fun k hk e => HTY.out k e hk)).set (by omega)⟩, fun k hk e => (ha3 k hk).elim (fun h => HTY.out k h e) (fun h => by have := (HV2.out.2.lt k e).2; omega)⟩
                  have HP3 : Hid (UB w w3 (Cm.cs ⟨(⟨⟨k, m, s⟩, nm, ls⟩, .slice a hn cap), body, .slice a' body.length cap', tests, .slice (some ⟨b3, o3, none⟩) tests.length cap''⟩)) := HV2.out.1.ub.laterB hb4 (by omega)
                  have hD : CBlk w3 (w.heap.size + 1 + 1) _ 30 := (hb4.block _ (by omega)).trans HV2.out.1.bo
                  obtain ⟨d0, d1, d2, d3, d4, d5, d6⟩ := cseven hD
                  have f6 : w3.frozen? ⟨w.heap.size + 1 + 1, 6, none⟩ = false := hD.froz
                  clear hD hown hb4 hg3 ha3 HV2 HG hH
                  refine hK.out _ _ HP3.out (fun hH => ?_)
                  clear hK K
                  simp only [Act.put, List.setIfInBounds_toArray, List.set_cons_zero, List.set_cons_succ]
                  refine wpAnyH_take (i := 11) (oi := ⟨_, _, _, _, _, _⟩) (v := .pointer (some ⟨w.heap.size + 1 + 1, 6, none⟩)) rfl (by kernel_rfl) (by kernel_rfl) (by kernel_rfl) (fun _ _ _ h => h) (Or.inl ⟨by rfl, fun w' h => by clear h; go_simp⟩) hH ?_
                  simp only [Act.put, List.setIfInBounds_toArray, List.set_cons_zero, List.set_cons_succ]
                  refine wpAnyH_ready (rs := [12]) (by kernel_rfl) (by simp) ?_
                  refine (AllReadyH.cons (o := ⟨_, _, _, _, _, _⟩) rfl (fun K hK => ?_) AllReadyH.nil)
                  go_simp
                  clear d0 d1 d2 d3 d4 d5 d6 f6
                  refine hK.out _ _ HW3.out.1.1.ub (fun hH => ?_)
                  clear hK K hH HP3
                  refine wpAnyH_done (by kernel_rfl) ?_ _
                  go_wp2_with fail
                  go_roundg g
                  case measure => omega
                  case rel => exact ⟨j + 1, _, by omega, by go_num, HW3.out.2, by rw [← HTJ.out]; exact HW3.out.1⟩
                · go_simp
                  have HV2 : Hid (US w (V1.alloc (.cells #[.int .i64 eo, .int .i64 ek, .int .i64 en, .string es, .int .i64 fk, .int .i64 fn, .string fs] 45)) (Cm.cs ⟨(⟨⟨k, m, s⟩, nm, ls⟩, .slice a hn cap), body, .slice a' body.length cap', tests, .slice (some ⟨b3, o3, none⟩) tests.length cap''⟩) (⟨⟨hk, hq, hz⟩, anm, LH⟩, .slice ya aL.length yc) (.slice ba BN bc) LB tu LTJ ∧ OwnT (V1.alloc (.cells #[.int .i64 eo, .int .i64 ek, .int .i64 en, .string es, .int .i64 fk, .int .i64 fn, .string fs] 45)) (w.heap.size + 3) (.slice qa qn qc) BT5) := ⟨HV1.out.1.later (below1 _ _), HV1.out.2.later (below1 _ _)⟩
                  have HG : Hid (CBlk (V1.alloc (.cells #[.int .i64 eo, .int .i64 ek, .int .i64 en, .string es, .int .i64 fk, .int .i64 fn, .string fs] 45)) V1.heap.size #[.int .i64 eo, .int .i64 ek, .int .i64 en, .string es, .int .i64 fk, .int .i64 fn, .string fs] 45) := CBlk.new _ _ _
                  clear hH HV1
                  refine hK.out _ _ HV2.out.1.ub (fun hH => ?_)
                  clear hK K
                  revert hH HV2 HG
                  generalize V1.alloc (.cells #[.int .i64 eo, .int .i64 ek, .int .i64 en, .string es, .int .i64 fk, .int .i64 fn, .string fs] 45) = V2
                  generalize V1.heap.size = GG
                  intro HV2 HG hH
                  refine wpAnyH_ready (rs := [1]) (by kernel_rfl) (by simp) ?_
                  refine (AllReadyH.cons (o := ⟨_, _, _, _, _, _⟩) rfl (fun K hK => ?_) AllReadyH.nil)
                  have c6 := (cseven HV2.out.1.bo).2.2.2.2.2.2
                  go_simp
                  clear c6
                  refine hK.out _ _ hH (fun hH => ?_)
                  clear hK K
                  refine wpAnyH_ready (rs := [10]) (by kernel_rfl) (by simp) ?_
                  refine (AllReadyH.cons (o := ⟨_, _, _, _, _, _⟩) rfl (fun K hK => ?_) AllReadyH.nil)
                  refine estep_one rfl _ _ rfl (w.heap.size + 3) tu LTJ (by rfl) HV2.out.1.et GG ⟨eo, ⟨ek, en, es⟩, ⟨fk, fn, fs⟩⟩ (by rfl) HG.out (ecell_one _) (by have := HLT.out; omega) HV2.out.1.sz ?_
                  intro v' w3 hown hb4 hg3 ha3
                  obtain ⟨va, vc, rfl⟩ := OwnE.form hown
                  generalize (LTJ ++ [(⟨eo, ⟨ek, en, es⟩, ⟨fk, fn, fs⟩⟩ : Te)]).length = VN at hown ha3 ⊢
                  have HW3 : Hid ((US w (w3.setCell ⟨w.heap.size + 1 + 1, 6, none⟩ (.slice va VN vc)) (Cm.cs ⟨(⟨⟨k, m, s⟩, nm, ls⟩, .slice a hn cap), body, .slice a' body.length cap', tests, .slice (some ⟨b3, o3, none⟩) tests.length cap''⟩) (⟨⟨hk, hq, hz⟩, anm, LH⟩, .slice ya aL.length yc) (.slice ba BN bc) LB (.slice va VN vc) (LTJ ++ [⟨eo, ⟨ek, en, es⟩, ⟨fk, fn, fs⟩⟩]) ∧ OwnT (w3.setCell ⟨w.heap.size + 1 + 1, 6, none⟩ (.slice va VN vc)) (w.heap.size + 3) (.slice qa qn qc) BT5) ∧ ∀ k, Value.ownBlock (.slice va VN vc) = some k → Value.ownBlock (.slice qa qn qc) ≠ some k) := ⟨⟨HV2.out.1.grow_t hown hb4 hg3 ha3, (HV2.out.2.grown hg3 (fun k hk e => HTY.out k e hk)).set (by omega)⟩, fun k hk e => (ha3 k hk).elim (fun h => HTY.out k h e) (fun h => by have := (HV2.out.2.lt k e).2; omega)⟩
                  have HP3 : Hid (UB w w3 (Cm.cs ⟨(⟨⟨k, m, s⟩, nm, ls⟩, .slice a hn cap), body, .slice a' body.length cap', tests, .slice (some ⟨b3, o3, none⟩) tests.length cap''⟩)) := HV2.out.1.ub.laterB hb4 (by omega)
                  have hD : CBlk w3 (w.heap.size + 1 + 1) _ 30 := (hb4.block _ (by omega)).trans HV2.out.1.bo
                  obtain ⟨d0, d1, d2, d3, d4, d5, d6⟩ := cseven hD
                  have f6 : w3.frozen? ⟨w.heap.size + 1 + 1, 6, none⟩ = false := hD.froz
                  clear hD hown hb4 hg3 ha3 HV2 HG hH
                  refine hK.out _ _ HP3.out (fun hH => ?_)
                  clear hK K
                  simp only [Act.put, List.setIfInBounds_toArray, List.set_cons_zero, List.set_cons_succ]
                  refine wpAnyH_take (i := 11) (oi := ⟨_, _, _, _, _, _⟩) (v := .pointer (some ⟨w.heap.size + 1 + 1, 6, none⟩)) rfl (by kernel_rfl) (by kernel_rfl) (by kernel_rfl) (fun _ _ _ h => h) (Or.inl ⟨by rfl, fun w' h => by clear h; go_simp⟩) hH ?_
                  simp only [Act.put, List.setIfInBounds_toArray, List.set_cons_zero, List.set_cons_succ]
                  refine wpAnyH_ready (rs := [12]) (by kernel_rfl) (by simp) ?_
                  refine (AllReadyH.cons (o := ⟨_, _, _, _, _, _⟩) rfl (fun K hK => ?_) AllReadyH.nil)
                  go_simp
                  clear d0 d1 d2 d3 d4 d5 d6 f6
                  refine hK.out _ _ HW3.out.1.1.ub (fun hH => ?_)
                  clear hK K hH HP3
                  refine wpAnyH_done (by kernel_rfl) ?_ _
                  go_wp2_with fail
                  go_roundg g
                  case measure => omega
                  case rel => exact ⟨j + 1, _, by omega, by go_num, HW3.out.2, by rw [← HTJ.out]; exact HW3.out.1⟩
            | zero =>
              have hLT : (tests.take j).map (mkE BT5) = (tests.take 8).map (mkE BT5) := by
                by_cases h8 : tests.length ≤ 8
                · rw [List.take_of_length_le (by omega), List.take_of_length_le h8]
                · rw [show j = 8 by omega]
              rw [hLT] at HU7
              obtain ⟨LT, hLT2⟩ : ∃ L, (tests.take 8).map (mkE BT5) = L := ⟨_, rfl⟩
              have HLT2 : Hid ((tests.take 8).map (mkE BT5) = LT) := hLT2
              have HLTn : Hid (LT.length ≤ 8) := by show _ ≤ _; rw [← hLT2, List.length_map, List.length_take]; omega
              rw [hLT2] at HU7
              obtain ⟨ta, tc, rfl⟩ := OwnE.form HU7.out.1.et
              have HNO : Hid (∀ X : World, US w X (Cm.cs ⟨(⟨⟨k, m, s⟩, nm, ls⟩, .slice a hn cap), body, .slice a' body.length cap', tests, .slice a'' tests.length cap''⟩) (⟨⟨hk, hq, hz⟩, anm, LH⟩, .slice ya aL.length yc) (.slice ba BN bc) LB (.slice ta LT.length tc) LT → Calls Tryz.prog 39 #[Cm.v ⟨(⟨⟨hk, hq, hz⟩, anm, LH⟩, .slice ya aL.length yc), LB, .slice ba BN bc, LT, .slice ta LT.length tc⟩] X fun e w' => ∃ d : Cm, e = .returned d.v ∧ d.key = madeK KK ∧ MCl X.heap.size w' d ∧ Below X.heap.size X w') := fun X hX => by
                have hLHn : LH.length ≤ 8 := by have := HA9.out; rw [← HLH.out, List.length_map]; exact this
                have hf := HF72.out
                have hlb := HLBN.out
                have hlt := HLTn.out
                have hok := hX.mc.ok (by show LH.length < _; omega) (by show LB.length < _; omega) (fun y hy => by have := HL9.out y hy; simp [At.pl] at this; omega) (by show LT.length < _; omega)
                have := normal3_any ⟨(⟨⟨hk, hq, hz⟩, anm, LH⟩, .slice ya aL.length yc), LB, .slice ba BN bc, LT, .slice ta LT.length tc⟩ X hok hX.hw.tsP (fun x hx => (hX.bt x hx).tsP) (by
                  rw [Cm.terms_eq]; simp only [List.length_append, tls_len, At.pl, List.length_cons]; rw [HBT5.out]; omega) (by show LB.length ≤ _; omega) (by show LT.length ≤ _; omega)
                have e : normC (Cm.key ⟨(⟨⟨hk, hq, hz⟩, anm, LH⟩, .slice ya aL.length yc), LB, .slice ba BN bc, LT, .slice ta LT.length tc⟩) = madeK KK := by
                  rw [← HKK.out]
                  unfold madeK
                  congr 1
                  unfold made0 Cm.key
                  simp only
                  have e1 : ((fsts body).take 8).map mkA = fsts LB := by rw [HLB8.out]; simp [fsts, List.map_take]
                  rw [e1, ← flt_fsts, HBT5.out, HA.out, HLT2.out]
                  simp only
                  rw [HLH.out, HHB.out]
                rw [e] at this
                exact this
              generalize LT.length = TN at HU7 HNO
              obtain ⟨d0, d1, d2, d3, d4, d5, d6⟩ := cseven HU7.out.1.bo
              simp only at d0 d1 d2 d3 d4 d5 d6
              have n4 : w.heap.size ≤ w.heap.size + 1 := by omega
              clear hLT hLT2 hmt
              go_upto_region 15 with fail
              go_cut [73] from 65 to 87 (fun s73 wx => s73 = .bool false ∧ wx = wr)
              case first =>
                by_cases hzt : (j : Int) < (tests.length : Int)
                · have h8 : ¬ (j : Int) < 8 := by omega
                  go_wp2
                  go_meet
                  case rel => exact ⟨rfl, rfl⟩
                · go_wp2
                  go_meet
                  case rel => exact ⟨rfl, rfl⟩
              case rest =>
              obtain ⟨rfl, rfl⟩ := hcut
              clear c0 c1 c2 c3 c4 c5 c6
              go_wp2_with (go_at_call 39; refine (HNO.out _ HU7.out.1).mono ?_; clear HNO; rintro e w5 ⟨d, rfl, hk', hmc, hb⟩; obtain ⟨x1, x2, x3, x4, x5, x6, x7, x8, x9, e1, e2, e3⟩ := Cm.form hmc; obtain ⟨⟨⟨⟨dk, dn, ds⟩, dm, da⟩, dv⟩, db, dbv, dt, dtv⟩ := d; simp only at e1 e2 e3; subst e1 e2 e3; have HMC : Hid (MCl (w.heap.size + 3) w5 ⟨(⟨⟨dk, dn, ds⟩, dm, da⟩, .slice x1 x2 x3), db, .slice x4 x5 x6, dt, .slice x7 x8 x9⟩) := hmc.mono HU7.out.1.sz; have HK : Hid (Cm.key ⟨(⟨⟨dk, dn, ds⟩, dm, da⟩, .slice x1 x2 x3), db, .slice x4 x5 x6, dt, .slice x7 x8 x9⟩ = madeK KK) := hk'; have HC4 : Hid (CBlk w5 (w.heap.size + 1) zcs 30 ∧ Below w.heap.size w w5) := ⟨HU7.out.1.br.later hb, below_step HU7.out.1.bw hb⟩; clear hb hmc hk' d0 d1 d2 d3 d4 d5 d6 HU7; obtain ⟨r0, r1, r2, r3, r4, r5, r6⟩ := cseven HC4.out.1; have f0 : w5.frozen? ⟨w.heap.size + 1, 0, none⟩ = false := HC4.out.1.froz; have f1 : w5.frozen? ⟨w.heap.size + 1, 1, none⟩ = false := HC4.out.1.froz; have f2 : w5.frozen? ⟨w.heap.size + 1, 2, none⟩ = false := HC4.out.1.froz; have f3 : w5.frozen? ⟨w.heap.size + 1, 3, none⟩ = false := HC4.out.1.froz; have f4 : w5.frozen? ⟨w.heap.size + 1, 4, none⟩ = false := HC4.out.1.froz; have f5 : w5.frozen? ⟨w.heap.size + 1, 5, none⟩ = false := HC4.out.1.froz; have f6 : w5.frozen? ⟨w.heap.size + 1, 6, none⟩ = false := HC4.out.1.froz)
              have n3 : w.heap.size + 1 < w.heap.size + 3 := by omega
              refine bodyPost_ret (v := Cm.v ⟨(⟨⟨dk, dn, ds⟩, dm, da⟩, .slice x1 x2 x3), db, .slice x4 x5 x6, dt, .slice x7 x8 x9⟩) (by simp [results, Tryz.results8, go_sem, r0, r1, r2, r3, r4, r5, r6]) rfl ⟨_, rfl, HK.out, ?_, ?_⟩
              · exact (((((((HMC.out.set n3 _).set n3 _).set n3 _).set n3 _).set n3 _).set n3 _).set n3 _).mono (by omega)
              · exact ((((((HC4.out.2.setCell n4 _).setCell n4 _).setCell n4 _).setCell n4 _).setCell n4 _).setCell n4 _).setCell n4 _
end Go.Proofs.YtllgffmhbddigaaGreat
