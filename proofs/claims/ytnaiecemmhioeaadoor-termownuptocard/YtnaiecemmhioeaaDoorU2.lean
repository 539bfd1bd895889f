/-
  (*classes).find.
-/
import Derived.Test.YtnaiecemmhioeaaDoorU1
namespace Go.Proofs.YtnaiecemmhioeaaDoor
open Go.RowKit
attribute [local go_sem ↓] Go.wp_at_zero Go.wp_at_succ

/-- What find answers. -/
def FPost (w : World) (B C : Nat) (vt vu : Value) (T : List Tm) (U : List Int) (t : Tm) (e : Ending) (w' : World) : Prop :=
  ∃ (i : Nat) (vt' vu' : Value) (T' : List Tm) (U' : List Int), e = .returned (.int .i64 i) ∧ CL w' B C vt' vu' T' U' ∧ Stp w w' C vt vu vt' vu' ∧
    ((T[i]? = some t ∧ T' = T ∧ U' = U ∧ vt' = vt) ∨ ((∀ (m : Nat) (e : Tm), T[m]? = some e → ¬ e = t) ∧ i = T.length ∧ T' = T ++ [t] ∧ U' = U ++ [(T.length : Int)]))
set_option maxRecDepth 20000 in
set_option maxHeartbeats 1000000 in
theorem find_any (t : Tm) (B C : Nat) (vt vu : Value) (T : List Tm) (U : List Int) (w : World) (h : CL w B C vt vu T U) (hB : B ≤ w.heap.size) (hl : T.length ≤ 2000000000000) (hl' : U.length = T.length) :
    Calls Tryd.prog 55 #[.pointer (some ⟨C, 0, none⟩), t.v] w (FPost w B C vt vu T U t) := by
  obtain ⟨i0, hi0, hz0, hz1, hz2⟩ := info_parts Tryd.infoTerm
  obtain ⟨n0, hn0, nz0, nz1, nz2⟩ := info_parts Tryd.infoInt
  obtain ⟨ta, tc, rfl⟩ := ownT_len h.ts
  obtain ⟨ua, uc, rfl⟩ := ownI_len h.us
  obtain ⟨k, n, s⟩ := t
  have HC : Hid (CL w B C (.slice ta T.length tc) (.slice ua U.length uc) T U) := h
  have hCw := h.blk.lt
  have hul : U.length ≤ 2000000000000 := by omega
  clear h hl'
  go_enter Tryd.func55, Tryd.ntmps55
  go_upto_region 1 with fail
  have hb1 := below1 w (.cells #[.int .i64 k, .int .i64 n, .string s] 23)
  have B1 := Blk.new w #[.int .i64 k, .int .i64 n, .string s] 23
  revert hb1 B1
  generalize w.alloc (.cells #[.int .i64 k, .int .i64 n, .string s] 23) = W1
  intro hb1 B1
  have BT : Hid (Blk W1 w.heap.size #[.int .i64 k, .int .i64 n, .string s] 23) := B1
  have HB1 : Hid (Below w.heap.size w W1) := hb1
  have hsz1 : w.heap.size ≤ W1.heap.size := hb1.size
  obtain ⟨c0, c1, -, -⟩ := two (HC.out.later hb1).blk
  clear B1 hb1
  go_wp2
  clear c0 c1
  go_loopg [13] T.length (fun g i wr => ∃ j : Nat, j + g = T.length ∧ i = .int .i64 j ∧ (∀ (m : Nat) (e : Tm), m < j → T[m]? = some e → ¬ e = ⟨k, n, s⟩) ∧ Below W1.heap.size W1 wr)
  case atStart => exact ⟨0, by omega, rfl, fun m e hm => by omega, Below.refl _ _⟩
  case round =>
    obtain ⟨j, hj, rfl, hno, hbr⟩ := hrel
    have HNo : Hid (∀ (m : Nat) (e : Tm), m < j → T[m]? = some e → ¬ e = ⟨k, n, s⟩) := hno
    have hbw : Below w.heap.size w wr := below_step (Hid.out HB1) hbr
    have hCr := HC.out.later hbw
    have bt := Blk.later (Hid.out BT) hbr
    clear hno
    cases gk with
    | succ g =>
      have hlt : j < T.length := by omega
      obtain ⟨e, he⟩ : ∃ e, T[j]? = some e := ⟨_, List.getElem?_eq_getElem hlt⟩
      obtain ⟨gt, cc, hv, -, hgl⟩ := World.ownsRow.form hCr.ts (by omega)
      simp only [Value.slice.injEq, true_and] at hv
      obtain ⟨rfl, rfl⟩ := hv
      obtain ⟨c0, c1, c2⟩ := ownT_cells hCr.ts j e he
      have HE : Hid (T[j]? = some e) := he
      obtain ⟨ek, en, es⟩ := e
      simp only at c0 c1 c2
      have i1 : (0 : Int) ≤ (j : Int) := by omega
      have i2 : (j : Int) < (T.length : Int) := by omega
      clear he hCr
      go_upto_region 4 with fail
      have hbx := below1 wr (.cells #[.int .i64 ek, .int .i64 en, .string es] 23)
      have bx := Blk.new wr #[.int .i64 ek, .int .i64 en, .string es] 23
      revert hbx bx
      generalize wr.alloc (.cells #[.int .i64 ek, .int .i64 en, .string es] 23) = X
      intro hbx bx
      have bt2 := Blk.later bt hbx
      obtain ⟨x0, x1, x2, -, -, -⟩ := three bx
      obtain ⟨y0, y1, y2, -, -, -⟩ := three bt2
      have HX : Hid (Below w.heap.size w X) := below_step hbw hbx
      have HX1 : Hid (Below W1.heap.size W1 X) := below_step hbr hbx
      have he := run_eql_tm ⟨ek, en, es⟩ ⟨k, n, s⟩
      clear c0 c1 c2 bt bt2 bx hbx hbr hbw hgl
      by_cases hq : Tm.mk ek en es = ⟨k, n, s⟩
      · have HQ : Hid (T[j]? = some ⟨k, n, s⟩) := by show _ = _; rw [HE.out, hq]
        rw [decide_eq_true hq] at he
        clear hq
        go_wp2
        exact bodyPost_ret (v := .int .i64 j) (by simp [results, Tryd.results55, go_sem]) rfl ⟨j, _, _, T, U, rfl, HC.out.later (Hid.out HX), Stp.below _ _ _ (Hid.out HX), Or.inl ⟨HQ.out, rfl, rfl, rfl⟩⟩
      · have HQ : Hid (¬ Tm.mk ek en es = ⟨k, n, s⟩) := hq
        rw [decide_eq_false hq] at he
        clear hq
        go_wp2
        go_roundg g
        case measure => omega
        case rel =>
          refine ⟨j + 1, by omega, by go_num, fun m e hm hme => ?_, Hid.out HX1⟩
          rcases Nat.lt_or_ge m j with h | h
          · exact HNo.out m e h hme
          · obtain rfl : m = j := by omega
            rw [HE.out] at hme; cases hme; exact HQ.out
    | zero =>
      obtain rfl : j = T.length := by omega
      have hz : ¬ ((T.length : Int) < (T.length : Int)) := by omega
      obtain ⟨c0, c1, -, -⟩ := two hCr.blk
      have nb := (HC.out.fresh (Nat.le_refl _)).2.1
      have HNB : Hid ((Value.slice ta T.length tc).ownBlock ≠ some w.heap.size) := nb
      clear nb
      go_upto_region 8 with fail
      clear c0 c1
      refine wp_region_held_drew (S := fun w' => Blk w' w.heap.size #[.int .i64 k, .int .i64 n, .string s] 23) (by kernel_rfl) (Blk.later bt (Below.refl _ _).drew) (fun hH => ?_)
      have hV := hCr.drew
      have hbV : Below w.heap.size w wr.drew := hbw.drew
      have mV : B ≤ wr.drew.heap.size := Nat.le_trans hB hbV.size
      revert hH hV hbV mV
      generalize wr.drew = V
      intro hH hV hbV mV
      clear bt hCr hbr hbw
      refine wpAnyH_take (i := 0) (oi := ⟨_, _, _, _, _, _⟩) (v := .pointer (some ⟨C, 0, none⟩)) rfl (by kernel_rfl) (by kernel_rfl) (by kernel_rfl) (fun _ _ _ h => h) (Or.inl ⟨by rfl, fun w' _ => by go_simp⟩) hH ?_
      simp only [Act.put, List.setIfInBounds_toArray, List.set_cons_zero, List.set_cons_succ]
      refine wpAnyH_take (i := 1) (oi := ⟨_, _, _, _, _, _⟩) (v := .pointer (some ⟨C, 0, none⟩)) rfl (by kernel_rfl) (by kernel_rfl) (by kernel_rfl) (fun _ _ _ h => h) (Or.inl ⟨by rfl, fun w' _ => by go_simp⟩) hH ?_
      simp only [Act.put, List.setIfInBounds_toArray, List.set_cons_zero, List.set_cons_succ]
      refine wpAnyH_take (i := 2) (oi := ⟨_, _, _, _, _, _⟩) (v := .pointer (some ⟨C, 0, none⟩)) rfl (by kernel_rfl) (by kernel_rfl) (by kernel_rfl) (fun _ _ _ h => h) (Or.inl ⟨by rfl, fun w' _ => by go_simp⟩) hH ?_
      simp only [Act.put, List.setIfInBounds_toArray, List.set_cons_zero, List.set_cons_succ]
      refine wpAnyH_take (i := 3) (oi := ⟨_, _, _, _, _, _⟩) (v := .pointer (some ⟨C, 0, none⟩)) rfl (by kernel_rfl) (by kernel_rfl) (by kernel_rfl) (fun _ _ _ h => h) (Or.inl ⟨by rfl, fun w' _ => by go_simp⟩) hH ?_
      simp only [Act.put, List.setIfInBounds_toArray, List.set_cons_zero, List.set_cons_succ]
      refine wpAnyH_take (i := 5) (oi := ⟨_, _, _, _, _, _⟩) (v := Tm.v ⟨k, n, s⟩) rfl (by kernel_rfl) (by kernel_rfl) (by kernel_rfl) (fun _ _ _ h => h) (Or.inl ⟨by rfl, fun w' h => by obtain ⟨p0, p1, p2, -, -, -⟩ := three h; go_simp⟩) hH ?_
      simp only [Act.put, List.setIfInBounds_toArray, List.set_cons_zero, List.set_cons_succ]
      refine wpAnyH_ready (rs := [4, 6]) (by kernel_rfl) (by simp) ?_
      refine (AllReadyH.cons (o := ⟨_, _, _, _, _, _⟩) rfl (fun K hK => ?_) (AllReadyH.cons (o := ⟨_, _, _, _, _, _⟩) rfl (fun K hK => ?_) AllReadyH.nil))
      · have c0 := (two hV.blk).1
        go_simp
        clear c0
        refine hK.out _ _ hH (fun hH => ?_)
        clear hK K
        refine wpAnyH_ready (rs := [6]) (by kernel_rfl) (by simp) ?_
        refine (AllReadyH.cons (o := ⟨_, _, _, _, _, _⟩) rfl (fun K hK => ?_) AllReadyH.nil)
        go_simp
        refine hK.out _ _ (Blk.later hH (below1 _ _)) (fun hH => ?_)
        clear hK K
        have fT := heap_alloc_new V (.cells #[.int .i64 k, .int .i64 n, .string s] 23)
        have oT := OwnT.later hV.ts (below1 V (.cells #[.int .i64 k, .int .i64 n, .string s] 23))
        have sz : B ≤ (V.alloc (.cells #[.int .i64 k, .int .i64 n, .string s] 23)).heap.size := Nat.le_trans mV (below1 V _).size
        refine wpAnyH_ready (rs := [7]) (by kernel_rfl) (by simp) ?_
        refine (AllReadyH.cons (o := ⟨_, _, _, _, _, _⟩) rfl (fun K hK => ?_) AllReadyH.nil)
        refine step_append_lies _ rfl _ _ _ rfl B 23 i0 _ 3 32 Tryd.underlying24 hi0 hz0 hz1 hz2 rfl (by omega) (.slice ta T.length tc) T.length (tcs T) (by rfl) oT ⟨V.heap.size, 0, none⟩ 1 1 (Tm.cs ⟨k, n, s⟩) (by rfl) (by rfl) (World.news_of_block (cs := (Tm.cs ⟨k, n, s⟩).toArray) (t := 23) (fr := (0, 0)) fT) (by simp [Value.oneCell', Tm.cs]) (by omega) (by unfold maxLen; omega) (by omega) sz _ rfl ?_
        intro gg cap1 Vb hown1 hgrow hat hlt1
        have R : OwnT Vb B (.slice (some ⟨gg, 0, none⟩) (T.length + 1) cap1) (T ++ [⟨k, n, s⟩]) := by unfold OwnT; rw [tcs_snoc, List.length_append]; exact hown1
        have P := CL.pushT hV hgrow R hat
        have M := CL.midT hV hgrow
        have hHb : Blk Vb w.heap.size #[.int .i64 k, .int .i64 n, .string s] 23 := (hgrow.block _ (Blk.lt hH) (fun e => HNB.out e.symm)).trans hH
        refine hK.out _ _ hHb (fun hH => ?_)
        clear hK K hown1 hgrow hat hlt1 R oT fT sz hHb
        simp only [Act.put, List.setIfInBounds_toArray, List.set_cons_zero, List.set_cons_succ]
        refine wpAnyH_take (i := 8) (oi := ⟨_, _, _, _, _, _⟩) (v := .pointer (some ⟨C, 0, none⟩)) rfl (by kernel_rfl) (by kernel_rfl) (by kernel_rfl) (fun _ _ _ h => h) (Or.inl ⟨by rfl, fun w' _ => by go_simp⟩) hH ?_
        simp only [Act.put, List.setIfInBounds_toArray, List.set_cons_zero, List.set_cons_succ]
        refine wpAnyH_take (i := 9) (oi := ⟨_, _, _, _, _, _⟩) (v := .pointer (some ⟨C, 0, none⟩)) rfl (by kernel_rfl) (by kernel_rfl) (by kernel_rfl) (fun _ _ _ h => h) (Or.inl ⟨by rfl, fun w' _ => by go_simp⟩) hH ?_
        simp only [Act.put, List.setIfInBounds_toArray, List.set_cons_zero, List.set_cons_succ]
        refine wpAnyH_ready (rs := [10]) (by kernel_rfl) (by simp) ?_
        refine (AllReadyH.cons (o := ⟨_, _, _, _, _, _⟩) rfl (fun K hK => ?_) AllReadyH.nil)
        obtain ⟨d0, d1, f0, f1⟩ := two M
        go_simp
        clear d0 d1 f0 f1
        refine hK.out _ _ (by show Blk _ _ _ _; unfold Blk; rw [heap_setCell_other _ _ _ _ (show w.heap.size ≠ C by omega)]; exact hH) (fun hH => ?_)
        clear hK K hH M
        refine wpAnyH_done (by kernel_rfl) ?_ _
        revert P
        generalize Vb.setCell ⟨C, 0, none⟩ (.slice (some ⟨gg, 0, none⟩) (T.length + 1) cap1) = Vc
        intro P
        have hVc := P.1
        have hSc := P.2.size
        obtain ⟨d0, d1, f0, f1⟩ := two hVc.blk
        have HP : Hid _ := P
        have zVc : B ≤ Vc.heap.size := Nat.le_trans mV hSc
        have OU : Hid (OwnI Vc B (.slice ua U.length uc) U) := hVc.us
        have zC : C < Vc.heap.size := hVc.blk.lt
        clear P hSc hVc
        go_wp2_with (at_builtin; refine wpList_append_lies _ rfl _ _ _ rfl B 3 n0 _ 1 8 Tryd.underlying48 hn0 nz0 nz1 nz2 rfl (by omega) (.slice ua U.length uc) U.length (ics U) (by rfl) (OU.out.later (below1 _ _)) ⟨Vc.heap.size, 0, none⟩ 1 1 [.int .i64 T.length] (by rfl) (by rfl) (World.news_of_block (cs := #[.int .i64 T.length]) (t := 3) (fr := (0, 0)) (heap_alloc_new Vc _)) (by simp [Value.oneCell']) (by omega) (by unfold maxLen; omega) (by omega) (by simp; omega) (Vc.heap.size + 1) (by simp) ?_; intro gg2 cap2 Vd hown2 hgrow2 hat2 hlt2; have R2 : OwnI Vd B (.slice (some ⟨gg2, 0, none⟩) (U.length + 1) cap2) (U ++ [(T.length : Int)]) := (by unfold OwnI; rw [ics_snoc, List.length_append]; exact hown2); have P2 := CL.pushU (Hid.out HP).1 hgrow2 R2 (by simpa using hat2); have M2 := CL.midU (Hid.out HP).1 hgrow2; clear d0 d1 f0 f1; obtain ⟨d0, d1, f0, f1⟩ := two M2; have HP2 : Hid _ := P2; clear P2 M2 R2 hown2 hgrow2 hat2 hlt2)
        exact bodyPost_ret (v := .int .i64 T.length) (by simp [results, Tryd.results55, go_sem]) rfl ⟨T.length, _, _, _, _, rfl, (Hid.out HP2).1, (Stp.below _ _ _ hbV).trans ((Hid.out HP).2.trans (Hid.out HP2).2), Or.inr ⟨fun m e hme => HNo.out m e (List.getElem?_eq_some_iff.1 hme).1 hme, rfl, rfl, rfl⟩⟩
      · go_simp
        refine hK.out _ _ (Blk.later hH (below1 _ _)) (fun hH => ?_)
        clear hK K
        refine wpAnyH_ready (rs := [4]) (by kernel_rfl) (by simp) ?_
        refine (AllReadyH.cons (o := ⟨_, _, _, _, _, _⟩) rfl (fun K hK => ?_) AllReadyH.nil)
        have hV2 := hV.later (below1 V (.cells #[.int .i64 k, .int .i64 n, .string s] 23))
        have c0 := (two hV2.blk).1
        go_simp
        clear c0
        refine hK.out _ _ hH (fun hH => ?_)
        clear hK K
        clear hV2
        have fT := heap_alloc_new V (.cells #[.int .i64 k, .int .i64 n, .string s] 23)
        have oT := OwnT.later hV.ts (below1 V (.cells #[.int .i64 k, .int .i64 n, .string s] 23))
        have sz : B ≤ (V.alloc (.cells #[.int .i64 k, .int .i64 n, .string s] 23)).heap.size := Nat.le_trans mV (below1 V _).size
        refine wpAnyH_ready (rs := [7]) (by kernel_rfl) (by simp) ?_
        refine (AllReadyH.cons (o := ⟨_, _, _, _, _, _⟩) rfl (fun K hK => ?_) AllReadyH.nil)
        refine step_append_lies _ rfl _ _ _ rfl B 23 i0 _ 3 32 Tryd.underlying24 hi0 hz0 hz1 hz2 rfl (by omega) (.slice ta T.length tc) T.length (tcs T) (by rfl) oT ⟨V.heap.size, 0, none⟩ 1 1 (Tm.cs ⟨k, n, s⟩) (by rfl) (by rfl) (World.news_of_block (cs := (Tm.cs ⟨k, n, s⟩).toArray) (t := 23) (fr := (0, 0)) fT) (by simp [Value.oneCell', Tm.cs]) (by omega) (by unfold maxLen; omega) (by omega) sz _ rfl ?_
        intro gg cap1 Vb hown1 hgrow hat hlt1
        have R : OwnT Vb B (.slice (some ⟨gg, 0, none⟩) (T.length + 1) cap1) (T ++ [⟨k, n, s⟩]) := by unfold OwnT; rw [tcs_snoc, List.length_append]; exact hown1
        have P := CL.pushT hV hgrow R hat
        have M := CL.midT hV hgrow
        have hHb : Blk Vb w.heap.size #[.int .i64 k, .int .i64 n, .string s] 23 := (hgrow.block _ (Blk.lt hH) (fun e => HNB.out e.symm)).trans hH
        refine hK.out _ _ hHb (fun hH => ?_)
        clear hK K hown1 hgrow hat hlt1 R oT fT sz hHb
        simp only [Act.put, List.setIfInBounds_toArray, List.set_cons_zero, List.set_cons_succ]
        refine wpAnyH_take (i := 8) (oi := ⟨_, _, _, _, _, _⟩) (v := .pointer (some ⟨C, 0, none⟩)) rfl (by kernel_rfl) (by kernel_rfl) (by kernel_rfl) (fun _ _ _ h => h) (Or.inl ⟨by rfl, fun w' _ => by go_simp⟩) hH ?_
        simp only [Act.put, List.setIfInBounds_toArray, List.set_cons_zero, List.set_cons_succ]
        refine wpAnyH_take (i := 9) (oi := ⟨_, _, _, _, _, _⟩) (v := .pointer (some ⟨C, 0, none⟩)) rfl (by kernel_rfl) (by kernel_rfl) (by kernel_rfl) (fun _ _ _ h => h) (Or.inl ⟨by rfl, fun w' _ => by go_simp⟩) hH ?_
        simp only [Act.put, List.setIfInBounds_toArray, List.set_cons_zero, List.set_cons_succ]
        refine wpAnyH_ready (rs := [10]) (by kernel_rfl) (by simp) ?_
        refine (AllReadyH.cons (o := ⟨_, _, _, _, _, _⟩) rfl (fun K hK => ?_) AllReadyH.nil)
        obtain ⟨d0, d1, f0, f1⟩ := two M
        go_simp
        clear d0 d1 f0 f1
        refine hK.out _ _ (by show Blk _ _ _ _; unfold Blk; rw [heap_setCell_other _ _ _ _ (show w.heap.size ≠ C by omega)]; exact hH) (fun hH => ?_)
        clear hK K hH M
        refine wpAnyH_done (by kernel_rfl) ?_ _
        revert P
        generalize Vb.setCell ⟨C, 0, none⟩ (.slice (some ⟨gg, 0, none⟩) (T.length + 1) cap1) = Vc
        intro P
        have hVc := P.1
        have hSc := P.2.size
        obtain ⟨d0, d1, f0, f1⟩ := two hVc.blk
        have HP : Hid _ := P
        have zVc : B ≤ Vc.heap.size := Nat.le_trans mV hSc
        have OU : Hid (OwnI Vc B (.slice ua U.length uc) U) := hVc.us
        have zC : C < Vc.heap.size := hVc.blk.lt
        clear P hSc hVc
        go_wp2_with (at_builtin; refine wpList_append_lies _ rfl _ _ _ rfl B 3 n0 _ 1 8 Tryd.underlying48 hn0 nz0 nz1 nz2 rfl (by omega) (.slice ua U.length uc) U.length (ics U) (by rfl) (OU.out.later (below1 _ _)) ⟨Vc.heap.size, 0, none⟩ 1 1 [.int .i64 T.length] (by rfl) (by rfl) (World.news_of_block (cs := #[.int .i64 T.length]) (t := 3) (fr := (0, 0)) (heap_alloc_new Vc _)) (by simp [Value.oneCell']) (by omega) (by unfold maxLen; omega) (by omega) (by simp; omega) (Vc.heap.size + 1) (by simp) ?_; intro gg2 cap2 Vd hown2 hgrow2 hat2 hlt2; have R2 : OwnI Vd B (.slice (some ⟨gg2, 0, none⟩) (U.length + 1) cap2) (U ++ [(T.length : Int)]) := (by unfold OwnI; rw [ics_snoc, List.length_append]; exact hown2); have P2 := CL.pushU (Hid.out HP).1 hgrow2 R2 (by simpa using hat2); have M2 := CL.midU (Hid.out HP).1 hgrow2; clear d0 d1 f0 f1; obtain ⟨d0, d1, f0, f1⟩ := two M2; have HP2 : Hid _ := P2; clear P2 M2 R2 hown2 hgrow2 hat2 hlt2)
        exact bodyPost_ret (v := .int .i64 T.length) (by simp [results, Tryd.results55, go_sem]) rfl ⟨T.length, _, _, _, _, rfl, (Hid.out HP2).1, (Stp.below _ _ _ hbV).trans ((Hid.out HP).2.trans (Hid.out HP2).2), Or.inr ⟨fun m e hme => HNo.out m e (List.getElem?_eq_some_iff.1 hme).1 hme, rfl, rfl, rfl⟩⟩
end Go.Proofs.YtnaiecemmhioeaaDoor
