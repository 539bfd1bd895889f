/-
  hearsaylaw04.TokensQuoted: the walk.
-/
import Derived.Test.YtkobpmekonaemaaDoorK25
import Derived.Test.YtkobpmekonaemaaDoorK22
namespace Go.Proofs.YtkobpmekonaemaaDoor
open Go.RowKit

theorem cut_quoted (K : Nat → Int) (s S : ByteArray) (h : bl S = 34 :: (rpl K 0 (bl s) ++ [34])) : cutL (bl S) S.size = ([⟨3, s, 0, 0, (S.size : Int)⟩], 0, 0) := by
  have hl : S.size = (rpl K 0 (bl s)).length + 2 := by rw [← bl_len, h]; simp
  rw [cutL_all, h, ct_quoted K s _ (by rw [← h, bl_len]; omega), hl]
theorem bl_spB (s : ByteArray) (h : List Int) : bl (spB s h) = 34 :: (rpl (kf h) 0 (bl s) ++ [34]) := by
  unfold spB
  refine bl_ofL (fun x hx => ?_)
  rcases List.mem_cons.1 hx with rfl | hx
  · omega
  · rcases List.mem_append.1 hx with hx | hx
    · exact rpl_byt _ _ _ (bl_byt s) x hx
    · simp at hx; omega
theorem bl_qtB (s : ByteArray) : bl (qtB s) = 34 :: (rpl (fun i => kq (at_ s i)) 0 (bl s) ++ [34]) := by
  have e : qtB s = ofL (qtl s s.size ++ [34]) := rfl
  rw [e, bl_ofL (fun x hx => ?_), qtl_rpl s s.size (Nat.le_refl _), List.take_of_length_le (by rw [bl_len]; exact Nat.le_refl _)]
  · rfl
  · rcases List.mem_append.1 hx with hx | hx
    · exact qtl_byt s _ x hx
    · simp at hx; omega
theorem hxd_vis (v : Int) (h0 : 0 ≤ v) (h1 : v ≤ 15) : 32 ≤ hxd v ∧ hxd v ≤ 126 := by unfold hxd; split <;> omega
theorem qb_vis (c : Int) (h0 : 0 ≤ c) (h1 : c ≤ 255) : ∀ x ∈ qb c, 32 ≤ x ∧ x ≤ 126 := by
  have a := hxd_vis (c / 16) (by omega) (by omega)
  have b := hxd_vis (c % 16) (by omega) (by omega)
  intro x hx
  unfold qb at hx
  repeat' split at hx
  all_goals (simp at hx; omega)
theorem qt_vis (s : ByteArray) (i : Nat) (h : i < (qtB s).size) : 32 ≤ at_ (qtB s) i ∧ at_ (qtB s) i ≤ 126 := by
  have e : bl (qtB s) = qtl s s.size ++ [34] := by
    have e : qtB s = ofL (qtl s s.size ++ [34]) := rfl
    rw [e]
    refine bl_ofL (fun x hx => ?_)
    rcases List.mem_append.1 hx with hx | hx
    · exact qtl_byt s _ x hx
    · simp at hx; omega
  have hm : at_ (qtB s) i ∈ bl (qtB s) := by
    have := bl_drop h
    exact List.mem_of_mem_drop (by rw [this]; exact List.mem_cons_self)
  rw [e] at hm
  rcases List.mem_append.1 hm with hm | hm
  · rcases List.mem_cons.1 hm with hm | hm
    · omega
    · obtain ⟨j, -, hj⟩ := List.mem_flatMap.1 hm
      exact qb_vis _ (at_range s j).1 (at_range s j).2 _ hj
  · simp at hm; omega
theorem qt_size (s : ByteArray) : (qtB s).size ≤ 4 * s.size + 2 := by
  have := qtl_len s s.size
  have e : (qtB s).size = (qtl s s.size).length + 1 := by show (i2b (qtl s s.size ++ [34])).toArray.size = _; simp [i2b]
  omega
theorem sp_size (s : ByteArray) (h : List Int) : (spB s h).size ≤ 4 * s.size + 2 := by
  have := (rpl_len (kf h) (bl s) 0).2
  rw [← bl_len (spB s h), bl_spB]
  rw [bl_len] at this
  simp; omega
set_option maxRecDepth 20000 in
set_option maxHeartbeats 4000000 in
theorem quoted_any (s : ByteArray) (h : List Int) (v : Value) (w : World) (hI : Is w v h) (hs : s.size ≤ 2000000) (hh : h.length ≤ 2000000) (hE : EnvOk w) :
    Calls Tryd.prog 7 #[.string s, v] w fun e w' => e = .returned (.bool true) ∧ Below w.heap.size w w' := by
  have HE : Hid (EnvOk w) := hE
  have ch := fun (X : World) (h : EnvOk X) => head_any X h
  have cs := spelt_any s h v w hI hs hh
  have cq := quote_any s hs
  have z1 := sp_size s h
  have z2 := qt_size s
  have hv := qt_vis s
  have cc1 := fun (X : World) (hX : EnvOk X) => cut_any (spB s h) (spB s h).size (by omega) X hX
  have cc2 := fun (X : World) (hX : EnvOk X) => cut_any (qtB s) (qtB s).size (by omega) X hX
  simp only [cut_quoted _ s _ (bl_spB s h)] at cc1
  simp only [cut_quoted _ s _ (bl_qtB s)] at cc2
  clear hI hE
  obtain ⟨S, hS⟩ : ∃ S, spB s h = S := ⟨_, rfl⟩
  obtain ⟨Q, hQ⟩ : ∃ Q, qtB s = Q := ⟨_, rfl⟩
  rw [hS] at cs z1 cc1
  rw [hQ] at cq z2 hv cc2
  obtain ⟨NS, hNS⟩ : ∃ N : Int, (S.size : Int) = N := ⟨_, rfl⟩
  obtain ⟨NQ, hNQ⟩ : ∃ N : Int, (Q.size : Int) = N := ⟨_, rfl⟩
  rw [hNS] at cc1
  rw [hNQ] at cc2
  have HVis : Hid (∀ i, i < Q.size → 32 ≤ at_ Q i ∧ at_ Q i ≤ 126) := hv
  have hle : NQ ≤ 4 * (s.size : Int) + 2 := by omega
  have hw4 : IntKind.i64.wrap (4 * (s.size : Int)) = 4 * (s.size : Int) := by rw [IntKind.wrap_i64]; omega
  have hw5 : IntKind.i64.wrap (4 * (s.size : Int) + 2) = 4 * (s.size : Int) + 2 := by rw [IntKind.wrap_i64]; omega
  have hQz : Q.size ≤ 9000000 := by omega
  clear hS hQ z1 z2 hv
  go_enter Tryd.func7, Tryd.ntmps7
  go_upto_region 2 with (go_at_call 20; refine cs.mono ?_; rintro e w1 ⟨rfl, hb1⟩)
  have HB1 : Hid (Below w.heap.size w w1) := hb1
  have HE1 : Hid (EnvOk w1) := HE.out.later hb1
  clear hb1 cs
  go_upto_region 3 with (go_at_call 13; refine (cc1 _ HE1.out).mono ?_; rintro e w2 ⟨v2, rfl, ho2, hb2⟩)
  obtain ⟨g1, cap1, rfl, -, -⟩ := World.ownsRow.form ho2 (by simp)
  have bx := below1 w2 (.cells #[.int .i64 0, .int .i64 0] 27)
  have fx := Blk.new w2 #[.int .i64 0, .int .i64 0] 27
  have hk := (ho2.later bx).ks
  simp only [List.length_cons, List.length_nil] at *
  revert bx fx hk
  generalize w2.alloc (.cells #[.int .i64 0, .int .i64 0] 27) = W2
  intro bx fx hk
  have HB2 : Hid (Below w.heap.size w W2) := below_step (below_step HB1.out hb2) bx
  have HF2 : Hid (Blk W2 w2.heap.size #[.int .i64 0, .int .i64 0] 27) := fx
  have HK2 : Hid (Ks W2 (.slice (some ⟨g1, 0, none⟩) 1 cap1) [⟨3, s, 0, 0, NS⟩]) := hk
  clear bx fx hk ho2 hb2 cc1
  go_upto_region 4 with (go_at_call 11; refine (cq _).mono ?_; rintro e w3 ⟨rfl, hb3⟩)
  have HB3 : Hid (Below W2.heap.size W2 w3) := hb3
  have HE3 : Hid (EnvOk w3) := HE.out.later (below_step HB2.out hb3)
  clear hb3 cq
  go_upto_region 5 with (go_at_call 13; refine (cc2 _ HE3.out).mono ?_; rintro e w4 ⟨v4, rfl, ho4, hb4⟩)
  obtain ⟨g2, cap2, rfl, -, -⟩ := World.ownsRow.form ho4 (by simp)
  have bx := below1 w4 (.cells #[.int .i64 0, .int .i64 0] 27)
  have fx := Blk.new w4 #[.int .i64 0, .int .i64 0] 27
  have hk := (ho4.later bx).ks
  simp only [List.length_cons, List.length_nil] at *
  revert bx fx hk
  generalize w4.alloc (.cells #[.int .i64 0, .int .i64 0] 27) = W4
  intro bx fx hk
  have h34 : Below W2.heap.size W2 W4 := below_step (below_step HB3.out hb4) bx
  have HB4 : Hid (Below w.heap.size w W4) := below_step HB2.out h34
  have HF4 : Hid (Blk W4 w4.heap.size #[.int .i64 0, .int .i64 0] 27) := fx
  have HK4 : Hid (Ks W4 (.slice (some ⟨g2, 0, none⟩) 1 cap2) [⟨3, s, 0, 0, NQ⟩]) := hk
  have HK2b : Hid (Ks W4 (.slice (some ⟨g1, 0, none⟩) 1 cap1) [⟨3, s, 0, 0, NS⟩]) := HK2.out.later h34
  have HE4 : Hid (EnvOk W4) := HE.out.later HB4.out
  obtain ⟨b0, b1, -, -⟩ := two (HF2.out.later h34)
  obtain ⟨d0, d1, -, -⟩ := two fx
  clear bx fx hk ho4 hb4 h34 cc2
  go_upto_region 7 with (go_at_call 14; refine (ch _ HE4.out).mono ?_; rintro e W ⟨rfl, hb5⟩)
  have HB5 : Hid (Below W4.heap.size W4 W) := hb5
  clear hb5 b0 b1 d0 d1 ch
  go_wp2
  go_loopg [11] Q.size (fun g i wr => ∃ j : Nat, j + g = Q.size ∧ i = .int .i64 (j : Int) ∧ wr = W)
  case atStart => exact ⟨0, by omega, rfl, rfl⟩
  case round =>
    obtain ⟨j, hj, rfl, hwr⟩ := hrel
    subst hwr
    cases gk with
    | succ g =>
      have hlt : j < Q.size := by omega
      have i1 : (j : Int) < (Q.size : Int) := by omega
      have i2 : (j : Int) < NQ := by omega
      have hidx := run_index_at Q j hlt (j : Int) rfl
      have hvis := HVis.out j hlt
      obtain ⟨c, hc⟩ : ∃ c, at_ Q j = c := ⟨_, rfl⟩
      rw [hc] at hidx hvis
      have m1 : ¬ c < 32 := by omega
      have m2 : ¬ 126 < c := by omega
      clear hc hvis
      go_wp2
      go_roundg g
      case measure => omega
      case rel => exact ⟨j + 1, by omega, by go_num, rfl⟩
    | zero =>
      obtain rfl : j = Q.size := by omega
      have hz : ¬ ((Q.size : Int) < (Q.size : Int)) := by omega
      have hz2 : ¬ (NQ < NQ) := by omega
      go_upto_region 13 with fail
      have bY := below1 wr (.cells #[.int .i64 3, .string s, .int .i64 0, .int .i64 0, .int .i64 0] 33)
      have fY := Blk.new wr #[.int .i64 3, .string s, .int .i64 0, .int .i64 0, .int .i64 0] 33
      revert bY fY
      generalize wr.alloc (.cells #[.int .i64 3, .string s, .int .i64 0, .int .i64 0, .int .i64 0] 33) = Y
      intro bY fY
      have h5Y := below_step HB5.out bY
      have HBY : Hid (Below w.heap.size w Y) := below_step HB4.out h5Y
      have k1 := ks_zero (HK2b.out.later h5Y)
      have k2 := ks_zero (HK4.out.later h5Y)
      have H1z : Hid (g1 < Y.heap.size) := k1.1
      have H1c : Hid (Y.cell? ⟨g1, 0, none⟩ = some (.int .i64 3) ∧ Y.cell? ⟨g1, 1, none⟩ = some (.string s) ∧ Y.cell? ⟨g1, 2, none⟩ = some (.int .i64 0) ∧ Y.cell? ⟨g1, 3, none⟩ = some (.int .i64 0) ∧ Y.cell? ⟨g1, 4, none⟩ = some (.int .i64 NS)) := k1.2
      have H2z : Hid (g2 < Y.heap.size) := k2.1
      have H2c : Hid (Y.cell? ⟨g2, 0, none⟩ = some (.int .i64 3) ∧ Y.cell? ⟨g2, 1, none⟩ = some (.string s) ∧ Y.cell? ⟨g2, 2, none⟩ = some (.int .i64 0) ∧ Y.cell? ⟨g2, 3, none⟩ = some (.int .i64 0) ∧ Y.cell? ⟨g2, 4, none⟩ = some (.int .i64 NQ)) := k2.2
      have HWz : Hid (wr.heap.size < Y.heap.size) := fY.lt
      have HWc : Hid (Y.cell? ⟨wr.heap.size, 0, none⟩ = some (.int .i64 3) ∧ Y.cell? ⟨wr.heap.size, 1, none⟩ = some (.string s) ∧ Y.cell? ⟨wr.heap.size, 2, none⟩ = some (.int .i64 0) ∧ Y.cell? ⟨wr.heap.size, 3, none⟩ = some (.int .i64 0) ∧ Y.cell? ⟨wr.heap.size, 4, none⟩ = some (.int .i64 0)) := five fY
      clear bY fY h5Y k1 k2
      refine wp_region_held_drew (S := fun w' => Below Y.heap.size Y w') (by kernel_rfl) (Below.refl _ _).drew (fun hH => ?_)
      revert hH
      generalize Y.drew = V
      intro hH
      refine wpAnyH_take (i := 0) (oi := ⟨_, _, _, _, _, _⟩) (v := .slice (some ⟨g1, 0, none⟩) 1 cap1) rfl (by kernel_rfl) (by kernel_rfl) (by kernel_rfl) (fun _ _ _ h => h) (Or.inl ⟨by rfl, fun w' _ => by go_simp⟩) hH ?_
      simp only [Act.put, List.setIfInBounds_toArray, List.set_cons_zero, List.set_cons_succ]
      refine wpAnyH_take (i := 1) (oi := ⟨_, _, _, _, _, _⟩) (v := .pointer (some ⟨g1, 0, none⟩)) rfl (by kernel_rfl) (by kernel_rfl) (by kernel_rfl) (fun _ _ _ h => h) (Or.inl ⟨by rfl, fun w' _ => by go_simp⟩) hH ?_
      simp only [Act.put, List.setIfInBounds_toArray, List.set_cons_zero, List.set_cons_succ]
      refine wpAnyH_take (i := 2) (oi := ⟨_, _, _, _, _, _⟩) (v := Tk.v ⟨3, s, 0, 0, NS⟩) rfl (by kernel_rfl) (by kernel_rfl) (by kernel_rfl) (fun _ _ _ h => h) (Or.inl ⟨by rfl, fun w' h => by obtain ⟨p0, p1, p2, p3, p4⟩ := H1c.out; have z := H1z.out; have a0 := cell_step h z p0; have a1 := cell_step h z p1; have a2 := cell_step h z p2; have a3 := cell_step h z p3; have a4 := cell_step h z p4; clear p0 p1 p2 p3 p4; go_simp⟩) hH ?_
      simp only [Act.put, List.setIfInBounds_toArray, List.set_cons_zero, List.set_cons_succ]
      refine wpAnyH_take (i := 4) (oi := ⟨_, _, _, _, _, _⟩) (v := Tk.v ⟨3, s, 0, 0, 0⟩) rfl (by kernel_rfl) (by kernel_rfl) (by kernel_rfl) (fun _ _ _ h => h) (Or.inl ⟨by rfl, fun w' h => by obtain ⟨p0, p1, p2, p3, p4⟩ := HWc.out; have z := HWz.out; have a0 := cell_step h z p0; have a1 := cell_step h z p1; have a2 := cell_step h z p2; have a3 := cell_step h z p3; have a4 := cell_step h z p4; clear p0 p1 p2 p3 p4; go_simp⟩) hH ?_
      simp only [Act.put, List.setIfInBounds_toArray, List.set_cons_zero, List.set_cons_succ]
      refine wpAnyH_ready (rs := [3]) (by kernel_rfl) (by simp) ?_
      refine (AllReadyH.cons (o := ⟨_, _, _, _, _, _⟩) rfl (fun K hK => ?_) AllReadyH.nil)
      go_simp
      refine (bare_any ⟨3, s, 0, 0, NS⟩ _).mono ?_
      rintro e V1 ⟨rfl, hb⟩
      refine hK.out _ _ (below_step hH hb) (fun hH => ?_)
      clear hK K
      refine wpAnyH_take (i := 5) (oi := ⟨_, _, _, _, _, _⟩) (v := .bool true) rfl (by kernel_rfl) (by kernel_rfl) (by kernel_rfl) (fun _ _ _ h => h) (Or.inl ⟨by rfl, fun w' _ => by go_simp⟩) hH ?_
      simp only [Act.put, List.setIfInBounds_toArray, List.set_cons_zero, List.set_cons_succ]
      refine wpAnyH_take (i := 6) (oi := ⟨_, _, _, _, _, _⟩) (v := .bool true) rfl (by kernel_rfl) (by kernel_rfl) (by kernel_rfl) (fun _ _ _ h => h) (Or.inl ⟨by rfl, fun w' _ => by go_simp⟩) hH ?_
      simp only [Act.put, List.setIfInBounds_toArray, List.set_cons_zero, List.set_cons_succ]
      refine wpAnyH_take (i := 7) (oi := ⟨_, _, _, _, _, _⟩) (v := .slice (some ⟨g2, 0, none⟩) 1 cap2) rfl (by kernel_rfl) (by kernel_rfl) (by kernel_rfl) (fun _ _ _ h => h) (Or.inl ⟨by rfl, fun w' _ => by go_simp⟩) hH ?_
      simp only [Act.put, List.setIfInBounds_toArray, List.set_cons_zero, List.set_cons_succ]
      refine wpAnyH_take (i := 8) (oi := ⟨_, _, _, _, _, _⟩) (v := .pointer (some ⟨g2, 0, none⟩)) rfl (by kernel_rfl) (by kernel_rfl) (by kernel_rfl) (fun _ _ _ h => h) (Or.inl ⟨by rfl, fun w' _ => by go_simp⟩) hH ?_
      simp only [Act.put, List.setIfInBounds_toArray, List.set_cons_zero, List.set_cons_succ]
      refine wpAnyH_take (i := 9) (oi := ⟨_, _, _, _, _, _⟩) (v := Tk.v ⟨3, s, 0, 0, NQ⟩) rfl (by kernel_rfl) (by kernel_rfl) (by kernel_rfl) (fun _ _ _ h => h) (Or.inl ⟨by rfl, fun w' h => by obtain ⟨p0, p1, p2, p3, p4⟩ := H2c.out; have z := H2z.out; have a0 := cell_step h z p0; have a1 := cell_step h z p1; have a2 := cell_step h z p2; have a3 := cell_step h z p3; have a4 := cell_step h z p4; clear p0 p1 p2 p3 p4; go_simp⟩) hH ?_
      simp only [Act.put, List.setIfInBounds_toArray, List.set_cons_zero, List.set_cons_succ]
      refine wpAnyH_take (i := 11) (oi := ⟨_, _, _, _, _, _⟩) (v := Tk.v ⟨3, s, 0, 0, 0⟩) rfl (by kernel_rfl) (by kernel_rfl) (by kernel_rfl) (fun _ _ _ h => h) (Or.inl ⟨by rfl, fun w' h => by obtain ⟨p0, p1, p2, p3, p4⟩ := HWc.out; have z := HWz.out; have a0 := cell_step h z p0; have a1 := cell_step h z p1; have a2 := cell_step h z p2; have a3 := cell_step h z p3; have a4 := cell_step h z p4; clear p0 p1 p2 p3 p4; go_simp⟩) hH ?_
      simp only [Act.put, List.setIfInBounds_toArray, List.set_cons_zero, List.set_cons_succ]
      refine wpAnyH_ready (rs := [10]) (by kernel_rfl) (by simp) ?_
      refine (AllReadyH.cons (o := ⟨_, _, _, _, _, _⟩) rfl (fun K hK => ?_) AllReadyH.nil)
      go_simp
      refine (bare_any ⟨3, s, 0, 0, NQ⟩ _).mono ?_
      rintro e V2 ⟨rfl, hb⟩
      refine hK.out _ _ (below_step hH hb) (fun hH => ?_)
      clear hK K
      refine wpAnyH_take (i := 12) (oi := ⟨_, _, _, _, _, _⟩) (v := .bool true) rfl (by kernel_rfl) (by kernel_rfl) (by kernel_rfl) (fun _ _ _ h => h) (Or.inl ⟨by rfl, fun w' _ => by go_simp⟩) hH ?_
      simp only [Act.put, List.setIfInBounds_toArray, List.set_cons_zero, List.set_cons_succ]
      refine wpAnyH_take (i := 13) (oi := ⟨_, _, _, _, _, _⟩) (v := .bool true) rfl (by kernel_rfl) (by kernel_rfl) (by kernel_rfl) (fun _ _ _ h => h) (Or.inl ⟨by rfl, fun w' _ => by go_simp⟩) hH ?_
      simp only [Act.put, List.setIfInBounds_toArray, List.set_cons_zero, List.set_cons_succ]
      refine wpAnyH_take (i := 14) (oi := ⟨_, _, _, _, _, _⟩) (v := .bool true) rfl (by kernel_rfl) (by kernel_rfl) (by kernel_rfl) (fun _ _ _ h => h) (Or.inl ⟨by rfl, fun w' _ => by go_simp⟩) hH ?_
      simp only [Act.put, List.setIfInBounds_toArray, List.set_cons_zero, List.set_cons_succ]
      refine wpAnyH_take (i := 15) (oi := ⟨_, _, _, _, _, _⟩) (v := .slice (some ⟨g1, 0, none⟩) 1 cap1) rfl (by kernel_rfl) (by kernel_rfl) (by kernel_rfl) (fun _ _ _ h => h) (Or.inl ⟨by rfl, fun w' _ => by go_simp⟩) hH ?_
      simp only [Act.put, List.setIfInBounds_toArray, List.set_cons_zero, List.set_cons_succ]
      refine wpAnyH_take (i := 16) (oi := ⟨_, _, _, _, _, _⟩) (v := .pointer (some ⟨g1, 0, none⟩)) rfl (by kernel_rfl) (by kernel_rfl) (by kernel_rfl) (fun _ _ _ h => h) (Or.inl ⟨by rfl, fun w' _ => by go_simp⟩) hH ?_
      simp only [Act.put, List.setIfInBounds_toArray, List.set_cons_zero, List.set_cons_succ]
      refine wpAnyH_take (i := 17) (oi := ⟨_, _, _, _, _, _⟩) (v := .pointer (some ⟨g1, 4, none⟩)) rfl (by kernel_rfl) (by kernel_rfl) (by kernel_rfl) (fun _ _ _ h => h) (Or.inl ⟨by rfl, fun w' _ => by go_simp⟩) hH ?_
      simp only [Act.put, List.setIfInBounds_toArray, List.set_cons_zero, List.set_cons_succ]
      refine wpAnyH_take (i := 18) (oi := ⟨_, _, _, _, _, _⟩) (v := .int .i64 NS) rfl (by kernel_rfl) (by kernel_rfl) (by kernel_rfl) (fun _ _ _ h => h) (Or.inl ⟨by rfl, fun w' h => by obtain ⟨p0, p1, p2, p3, p4⟩ := H1c.out; have z := H1z.out; have a0 := cell_step h z p0; have a1 := cell_step h z p1; have a2 := cell_step h z p2; have a3 := cell_step h z p3; have a4 := cell_step h z p4; clear p0 p1 p2 p3 p4; go_simp⟩) hH ?_
      simp only [Act.put, List.setIfInBounds_toArray, List.set_cons_zero, List.set_cons_succ]
      refine wpAnyH_take (i := 19) (oi := ⟨_, _, _, _, _, _⟩) (v := .string S) rfl (by kernel_rfl) (by kernel_rfl) (by kernel_rfl) (fun _ _ _ h => h) (Or.inl ⟨by rfl, fun w' _ => by go_simp⟩) hH ?_
      simp only [Act.put, List.setIfInBounds_toArray, List.set_cons_zero, List.set_cons_succ]
      refine wpAnyH_take (i := 20) (oi := ⟨_, _, _, _, _, _⟩) (v := .int .i64 NS) rfl (by kernel_rfl) (by kernel_rfl) (by kernel_rfl) (fun _ _ _ h => h) (Or.inl ⟨by rfl, fun w' _ => by go_simp⟩) hH ?_
      simp only [Act.put, List.setIfInBounds_toArray, List.set_cons_zero, List.set_cons_succ]
      refine wpAnyH_take (i := 21) (oi := ⟨_, _, _, _, _, _⟩) (v := .bool true) rfl (by kernel_rfl) (by kernel_rfl) (by kernel_rfl) (fun _ _ _ h => h) (Or.inl ⟨by rfl, fun w' _ => by go_simp⟩) hH ?_
      simp only [Act.put, List.setIfInBounds_toArray, List.set_cons_zero, List.set_cons_succ]
      refine wpAnyH_take (i := 22) (oi := ⟨_, _, _, _, _, _⟩) (v := .bool true) rfl (by kernel_rfl) (by kernel_rfl) (by kernel_rfl) (fun _ _ _ h => h) (Or.inl ⟨by rfl, fun w' _ => by go_simp⟩) hH ?_
      simp only [Act.put, List.setIfInBounds_toArray, List.set_cons_zero, List.set_cons_succ]
      refine wpAnyH_take (i := 23) (oi := ⟨_, _, _, _, _, _⟩) (v := .bool true) rfl (by kernel_rfl) (by kernel_rfl) (by kernel_rfl) (fun _ _ _ h => h) (Or.inl ⟨by rfl, fun w' _ => by go_simp⟩) hH ?_
      simp only [Act.put, List.setIfInBounds_toArray, List.set_cons_zero, List.set_cons_succ]
      refine wpAnyH_take (i := 24) (oi := ⟨_, _, _, _, _, _⟩) (v := .string Q) rfl (by kernel_rfl) (by kernel_rfl) (by kernel_rfl) (fun _ _ _ h => h) (Or.inl ⟨by rfl, fun w' _ => by go_simp⟩) hH ?_
      simp only [Act.put, List.setIfInBounds_toArray, List.set_cons_zero, List.set_cons_succ]
      refine wpAnyH_take (i := 25) (oi := ⟨_, _, _, _, _, _⟩) (v := .int .i64 NQ) rfl (by kernel_rfl) (by kernel_rfl) (by kernel_rfl) (fun _ _ _ h => h) (Or.inl ⟨by rfl, fun w' _ => by go_simp⟩) hH ?_
      simp only [Act.put, List.setIfInBounds_toArray, List.set_cons_zero, List.set_cons_succ]
      refine wpAnyH_take (i := 26) (oi := ⟨_, _, _, _, _, _⟩) (v := .string s) rfl (by kernel_rfl) (by kernel_rfl) (by kernel_rfl) (fun _ _ _ h => h) (Or.inl ⟨by rfl, fun w' _ => by go_simp⟩) hH ?_
      simp only [Act.put, List.setIfInBounds_toArray, List.set_cons_zero, List.set_cons_succ]
      refine wpAnyH_take (i := 27) (oi := ⟨_, _, _, _, _, _⟩) (v := .int .i64 (s.size : Int)) rfl (by kernel_rfl) (by kernel_rfl) (by kernel_rfl) (fun _ _ _ h => h) (Or.inl ⟨by rfl, fun w' _ => by go_simp⟩) hH ?_
      simp only [Act.put, List.setIfInBounds_toArray, List.set_cons_zero, List.set_cons_succ]
      refine wpAnyH_take (i := 28) (oi := ⟨_, _, _, _, _, _⟩) (v := .int .i64 (4 * (s.size : Int))) rfl (by kernel_rfl) (by kernel_rfl) (by kernel_rfl) (fun _ _ _ h => h) (Or.inl ⟨by rfl, fun w' _ => by go_simp⟩) hH ?_
      simp only [Act.put, List.setIfInBounds_toArray, List.set_cons_zero, List.set_cons_succ]
      refine wpAnyH_take (i := 29) (oi := ⟨_, _, _, _, _, _⟩) (v := .int .i64 (4 * (s.size : Int) + 2)) rfl (by kernel_rfl) (by kernel_rfl) (by kernel_rfl) (fun _ _ _ h => h) (Or.inl ⟨by rfl, fun w' _ => by go_simp⟩) hH ?_
      simp only [Act.put, List.setIfInBounds_toArray, List.set_cons_zero, List.set_cons_succ]
      refine wpAnyH_take (i := 30) (oi := ⟨_, _, _, _, _, _⟩) (v := .bool true) rfl (by kernel_rfl) (by kernel_rfl) (by kernel_rfl) (fun _ _ _ h => h) (Or.inl ⟨by rfl, fun w' _ => by go_simp⟩) hH ?_
      simp only [Act.put, List.setIfInBounds_toArray, List.set_cons_zero, List.set_cons_succ]
      refine wpAnyH_take (i := 31) (oi := ⟨_, _, _, _, _, _⟩) (v := .bool true) rfl (by kernel_rfl) (by kernel_rfl) (by kernel_rfl) (fun _ _ _ h => h) (Or.inl ⟨by rfl, fun w' _ => by go_simp⟩) hH ?_
      simp only [Act.put, List.setIfInBounds_toArray, List.set_cons_zero, List.set_cons_succ]
      refine wpAnyH_take (i := 32) (oi := ⟨_, _, _, _, _, _⟩) (v := .bool true) rfl (by kernel_rfl) (by kernel_rfl) (by kernel_rfl) (fun _ _ _ h => h) (Or.inl ⟨by rfl, fun w' _ => by go_simp⟩) hH ?_
      simp only [Act.put, List.setIfInBounds_toArray, List.set_cons_zero, List.set_cons_succ]
      refine wpAnyH_done (by kernel_rfl) ?_ _
      have HV : Hid (Below Y.heap.size Y V2) := hH
      clear hH hb
      go_wp2
      go_ret
      exact ⟨rfl, below_step HBY.out HV.out⟩
end Go.Proofs.YtkobpmekonaemaaDoor
