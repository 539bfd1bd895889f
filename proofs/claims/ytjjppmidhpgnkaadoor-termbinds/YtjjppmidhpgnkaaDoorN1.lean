/-
  hearsaylaw02.TermBinds, for every binding, number and atom.
-/
import Derived.Test.YtjjppmidhpgnkaaDoorL2
import Derived.Test.YtjjppmidhpgnkaaDoorL3
import Derived.Test.YtjjppmidhpgnkaaDoorT1
import Derived.Test.YtjjppmidhpgnkaaDoorT6
import Derived.Test.YtjjppmidhpgnkaaDoorB9
namespace Go.Proofs.YtjjppmidhpgnkaaDoor
open Go.RowKit
attribute [local go_sem ↓] Go.wp_at_zero Go.wp_at_succ

/-- Block g holds these cells. -/
def Blk (W : World) (g : Nat) (c : Array Value) (t : TypeId) : Prop := W.heap[g]? = some (.cells c t (0, 0))
theorem Blk.lt {W : World} {g : Nat} {c : Array Value} {t : TypeId} (h : Blk W g c t) : g < W.heap.size := (Array.getElem?_eq_some_iff.1 h).1
theorem Blk.later {W W' : World} {g : Nat} {c : Array Value} {t : TypeId} (h : Blk W g c t) (hb : Below W.heap.size W W') : Blk W' g c t := (hb.block _ h.lt).trans h
theorem Blk.new (W : World) (c : Array Value) (t : TypeId) : Blk (W.alloc (.cells c t)) W.heap.size c t := heap_alloc_new _ _
set_option maxHeartbeats 2000000 in
theorem binds_any (s : List Bd) (v : Value) (x : Int) (a : At) (y : Value) (w : World) (hs : BsO w v s) (ha : TsO w y a.args) (hL : LateOk w) (hM : MarkOk w) :
    Calls Tryd.prog 3 #[v, .int .i64 x, a.v y] w fun e w' => e = .returned (.bool true) ∧ Below w.heap.size w w' := by
  have hsn : s.length < 1000000000000000000 := by obtain ⟨_, _, _, h, _⟩ := hs.bs; exact h
  have hso : ∀ W, Below w.heap.size w W → BsO W v s := fun W hb => by
    rcases hs with h | ⟨ad, cap, h1, h2, h3⟩
    · exact Or.inl h
    · refine Or.inr ⟨ad, cap, h1, h2, ?_⟩
      rcases h3 with h3 | ⟨b, o, h3, h4⟩
      · exact Or.inl h3
      · exact Or.inr ⟨b, o, h3, h4.later hb⟩
  have hto : ∀ W, Below w.heap.size w W → TsO W y a.args := fun W hb => by
    rcases ha with h | ⟨ad, cap, h1, h2, h3⟩
    · exact Or.inl h
    · refine Or.inr ⟨ad, cap, h1, h2, ?_⟩
      rcases h3 with h3 | ⟨b, o, h3, h4⟩
      · exact Or.inl h3
      · exact Or.inr ⟨b, o, h3, h4.later hb⟩
  have hal : a.args.length ≤ 4398046511104 := by
    rcases ha with ⟨-, h⟩ | ⟨ad, cap, h1, h2, h3⟩
    · rw [h]; simp
    · omega
  have HSO : Hid (∀ W, Below w.heap.size w W → BsO W v s) := hso
  have HTO : Hid (∀ W, Below w.heap.size w W → TsO W y a.args) := hto
  have HL : Hid (LateOk w) := hL
  have HM : Hid (MarkOk w) := hM
  obtain ⟨ti, hti⟩ : ∃ t, lookT s x = t := ⟨_, rfl⟩
  obtain ⟨tk, tn, tz⟩ := ti
  obtain ⟨is, his⟩ : ∃ t, lookB s x = t := ⟨_, rfl⟩
  have HT : Hid (lookT s x = ⟨tk, tn, tz⟩) := hti
  have HI : Hid (lookB s x = is) := his
  obtain ⟨⟨k, n, ss⟩, nm, l⟩ := a
  obtain ⟨⟨bk, bn, bz⟩, hb⟩ : ∃ b, become s ⟨k, n, ss⟩ = b := ⟨_, rfl⟩
  clear hs ha hL hM hso hto hti his
  simp only at HTO hal
  go_enter Tryd.func3, Tryd.ntmps3
  go_wp2_with (first
    | (go_at_call 4; refine (lend_any s v _ (HSO.out _ (below1 _ _)) (HL.out.later (below1 _ _))).mono ?_; rintro e w1 ⟨g, cap, rfl, ho, hb1⟩; have B0 := (Blk.new w #[.int .i64 k, .int .i64 n, .string ss, .string nm, y] 28).later hb1; have bl : Below w.heap.size w w1 := below_step (below1 _ _) hb1; obtain ⟨a0, a1, a2, a3, a4⟩ := five B0; have BL : Hid (Below w.heap.size w w1) := bl; have HO : Hid (Own w1 _ (.slice (some ⟨g, 0, none⟩) (s.length + 1) cap) (s ++ [late])) := ho; have B0 : Hid (Blk _ _ _ _) := B0; clear hb1 bl ho)
    | (go_at_call 5; refine (lent_any ⟨⟨k, n, ss⟩, nm, l⟩ y _ (HTO.out _ (Hid.out BL)) (HM.out.later (Hid.out BL))).mono ?_; rintro e w2 ⟨g', cap', rfl, ho', hb2⟩; have HO' : Hid (OwnT w2 _ (.slice (some ⟨g', 0, none⟩) (l.length + 1) cap') (l ++ [mark])) := ho'; have HB2 : Hid (Below w1.heap.size w1 w2) := hb2; clear a0 a1 a2 a3 a4 hb2 ho')
    | (go_at_call 6; have B8 := Blk.new w2 #[.int .i64 k, .int .i64 n, .string ss, .string nm, .slice (some ⟨g', 0, none⟩) l.length cap'] 28; have hb8 := below1 w2 (.cells #[.int .i64 k, .int .i64 n, .string ss, .string nm, .slice (some ⟨g', 0, none⟩) l.length cap'] 28); revert B8 hb8; generalize w2.alloc (.cells #[.int .i64 k, .int .i64 n, .string ss, .string nm, .slice (some ⟨g', 0, none⟩) l.length cap'] 28) = w3; intro B8 hb8; have bb := below_step (Hid.out HB2) hb8; have HO3 : Hid (Own w3 _ (.slice (some ⟨g, 0, none⟩) (s.length + 1) cap) (s ++ [late])) := HO.out.later bb; have HO3' : Hid (OwnT w3 _ (.slice (some ⟨g', 0, none⟩) (l.length + 1) cap') (l ++ [mark])) := HO'.out.later hb8; have BL3 : Hid (Below w.heap.size w w3) := below_step (Hid.out BL) bb; have B03 : Hid (Blk w3 _ _ _) := Blk.later (Hid.out B0) bb; have B83 : Hid (Blk w3 _ _ _) := B8; clear B8 hb8 bb; refine (look_any s _ x _ (own_pre HO3.out hsn)).mono ?_; rw [HT.out, HI.out]; rintro e w4 ⟨rfl, hb4⟩; have HB4 : Hid (Below w3.heap.size w3 w4) := hb4; clear hb4)
    | (go_at_call 7; have B9 := Blk.new w4 #[.int .i64 tk, .int .i64 tn, .string tz] 25; have hb9 := below1 w4 (.cells #[.int .i64 tk, .int .i64 tn, .string tz] 25); revert B9 hb9; generalize w4.alloc (.cells #[.int .i64 tk, .int .i64 tn, .string tz] 25) = w5; intro B9 hb9; have bb := below_step (Hid.out HB4) hb9; have BL5 : Hid (Below w.heap.size w w5) := below_step (Hid.out BL3) bb; have HB5 : Hid (Below w3.heap.size w3 w5) := bb; have B95 : Hid (Blk w5 _ _ _) := B9; clear B9 hb9 bb; refine (rlook_any s _ x _ (HSO.out _ (Hid.out BL5)).bs).mono ?_; rw [HT.out, HI.out]; rintro e w6 ⟨rfl, hb6⟩; have HB6 : Hid (Below w5.heap.size w5 w6) := hb6; clear hb6))
  have B11 := Blk.new w6 #[.int .i64 tk, .int .i64 tn, .string tz] 25
  have hb11 := below1 w6 (.cells #[.int .i64 tk, .int .i64 tn, .string tz] 25)
  revert B11 hb11
  generalize w6.alloc (.cells #[.int .i64 tk, .int .i64 tn, .string tz] 25) = W
  intro B11 hb11
  have bb5 := below_step (Hid.out HB6) hb11
  have bb3 := below_step (Hid.out HB5) bb5
  have BW : Hid (Below w.heap.size w W) := below_step (Hid.out BL3) bb3
  have OW : Hid (Own W _ (.slice (some ⟨g, 0, none⟩) (s.length + 1) cap) (s ++ [late])) := HO3.out.later bb3
  have OW' : Hid (OwnT W _ (.slice (some ⟨g', 0, none⟩) (l.length + 1) cap') (l ++ [mark])) := HO3'.out.later bb3
  have B0 : Hid (Blk W _ _ _) := Blk.later (Hid.out B03) bb3
  have B8 : Hid (Blk W _ _ _) := Blk.later (Hid.out B83) bb3
  have B9 : Hid (Blk W _ _ _) := Blk.later (Hid.out B95) bb5
  have B11 : Hid (Blk W _ _ _) := B11
  clear HO HO' BL HB2 BL3 B03 B83 HO3 HO3' HB4 BL5 HB5 B95 HB6 hb11 bb5 bb3
  have hA := fun (X : World) (h : Below W.heap.size W X) => apply_any s _ ⟨⟨k, n, ss⟩, nm, l⟩ (.slice (some ⟨g', 0, none⟩) l.length cap') X (own_pre (OW.out.later h) hsn) (ownT_pre (OW'.out.later h) (by omega)) hal
  have hR := fun (X : World) (h : Below W.heap.size W X) => rapply_any s _ ⟨⟨k, n, ss⟩, nm, l⟩ y X (HSO.out _ (below_step (Hid.out BW) h)).bs (HTO.out _ (below_step (Hid.out BW) h)).ts hal
  have HA : Hid _ := hA
  have HR : Hid _ := hR
  clear hA hR
  go_cut [46] from 29 (fun s46 wx => s46 = .bool false ∧ Below W.heap.size W wx)
  case first =>
    have he := run_neq_tm ⟨tk, tn, tz⟩ ⟨tk, tn, tz⟩
    rw [decide_eq_true rfl] at he
    refine wp_region_held_drew (S := fun w' => Below W.heap.size W w') (by kernel_rfl) (Below.refl _ _).drew (fun hH => ?_)
    revert hH
    generalize W.drew = V
    intro hH
    refine wpAnyH_take (i := 0) (oi := ⟨_, _, _, _, _, _⟩) (v := Tm.v ⟨tk, tn, tz⟩) rfl (by kernel_rfl) (by kernel_rfl) (by kernel_rfl) (fun _ _ _ h => h) (Or.inl ⟨by rfl, fun w' h => by have a0 := cell_step h (Blk.lt (Hid.out B9)) (three (Hid.out B9)).1; have a1 := cell_step h (Blk.lt (Hid.out B9)) (three (Hid.out B9)).2.1; have a2 := cell_step h (Blk.lt (Hid.out B9)) (three (Hid.out B9)).2.2.1; go_simp⟩) hH ?_
    simp only [Act.put, List.setIfInBounds_toArray, List.set_cons_zero, List.set_cons_succ]
    refine wpAnyH_take (i := 1) (oi := ⟨_, _, _, _, _, _⟩) (v := Tm.v ⟨tk, tn, tz⟩) rfl (by kernel_rfl) (by kernel_rfl) (by kernel_rfl) (fun _ _ _ h => h) (Or.inl ⟨by rfl, fun w' h => by have a0 := cell_step h (Blk.lt (Hid.out B11)) (three (Hid.out B11)).1; have a1 := cell_step h (Blk.lt (Hid.out B11)) (three (Hid.out B11)).2.1; have a2 := cell_step h (Blk.lt (Hid.out B11)) (three (Hid.out B11)).2.2.1; go_simp⟩) hH ?_
    simp only [Act.put, List.setIfInBounds_toArray, List.set_cons_zero, List.set_cons_succ]
    refine wpAnyH_take (i := 2) (oi := ⟨_, _, _, _, _, _⟩) (v := .bool false) rfl (by kernel_rfl) (by kernel_rfl) (by kernel_rfl) (fun _ _ _ h => h) (Or.inl ⟨by rfl, fun w' _ => by go_simp⟩) hH ?_
    simp only [Act.put, List.setIfInBounds_toArray, List.set_cons_zero, List.set_cons_succ]
    refine wpAnyH_take (i := 3) (oi := ⟨_, _, _, _, _, _⟩) (v := .bool false) rfl (by kernel_rfl) (by kernel_rfl) (by kernel_rfl) (fun _ _ _ h => h) (Or.inl ⟨by rfl, fun w' _ => by go_simp⟩) hH ?_
    simp only [Act.put, List.setIfInBounds_toArray, List.set_cons_zero, List.set_cons_succ]
    refine wpAnyH_take (i := 4) (oi := ⟨_, _, _, _, _, _⟩) (v := .bool is) rfl (by kernel_rfl) (by kernel_rfl) (by kernel_rfl) (fun _ _ _ h => h) (Or.inl ⟨by rfl, fun w' _ => by go_simp⟩) hH ?_
    simp only [Act.put, List.setIfInBounds_toArray, List.set_cons_zero, List.set_cons_succ]
    refine wpAnyH_take (i := 5) (oi := ⟨_, _, _, _, _, _⟩) (v := .bool is) rfl (by kernel_rfl) (by kernel_rfl) (by kernel_rfl) (fun _ _ _ h => h) (Or.inl ⟨by rfl, fun w' _ => by go_simp⟩) hH ?_
    simp only [Act.put, List.setIfInBounds_toArray, List.set_cons_zero, List.set_cons_succ]
    refine wpAnyH_take (i := 6) (oi := ⟨_, _, _, _, _, _⟩) (v := .bool false) rfl (by kernel_rfl) (by kernel_rfl) (by kernel_rfl) (fun _ _ _ h => h) (Or.inl ⟨by rfl, fun w' _ => by go_simp⟩) hH ?_
    simp only [Act.put, List.setIfInBounds_toArray, List.set_cons_zero, List.set_cons_succ]
    refine wpAnyH_take (i := 7) (oi := ⟨_, _, _, _, _, _⟩) (v := .bool false) rfl (by kernel_rfl) (by kernel_rfl) (by kernel_rfl) (fun _ _ _ h => h) (Or.inl ⟨by rfl, fun w' _ => by go_simp⟩) hH ?_
    simp only [Act.put, List.setIfInBounds_toArray, List.set_cons_zero, List.set_cons_succ]
    refine wpAnyH_take (i := 8) (oi := ⟨_, _, _, _, _, _⟩) (v := .bool false) rfl (by kernel_rfl) (by kernel_rfl) (by kernel_rfl) (fun _ _ _ h => h) (Or.inl ⟨by rfl, fun w' _ => by go_simp⟩) hH ?_
    simp only [Act.put, List.setIfInBounds_toArray, List.set_cons_zero, List.set_cons_succ]
    refine wpAnyH_take (i := 9) (oi := ⟨_, _, _, _, _, _⟩) (v := .slice (some ⟨g, 0, none⟩) s.length cap) rfl (by kernel_rfl) (by kernel_rfl) (by kernel_rfl) (fun _ _ _ h => h) (Or.inl ⟨by rfl, fun w' _ => by go_simp⟩) hH ?_
    simp only [Act.put, List.setIfInBounds_toArray, List.set_cons_zero, List.set_cons_succ]
    refine wpAnyH_take (i := 10) (oi := ⟨_, _, _, _, _, _⟩) (v := At.v ⟨⟨k, n, ss⟩, nm, l⟩ (.slice (some ⟨g', 0, none⟩) l.length cap')) rfl (by kernel_rfl) (by kernel_rfl) (by kernel_rfl) (fun _ _ _ h => h) (Or.inl ⟨by rfl, fun w' h => by obtain ⟨p0, p1, p2, p3, p4⟩ := five (Hid.out B8); have z := Blk.lt (Hid.out B8); have a0 := cell_step h z p0; have a1 := cell_step h z p1; have a2 := cell_step h z p2; have a3 := cell_step h z p3; have a4 := cell_step h z p4; clear p0 p1 p2 p3 p4; go_simp⟩) hH ?_
    simp only [Act.put, List.setIfInBounds_toArray, List.set_cons_zero, List.set_cons_succ]
    refine wpAnyH_take (i := 12) (oi := ⟨_, _, _, _, _, _⟩) (v := v) rfl (by kernel_rfl) (by kernel_rfl) (by kernel_rfl) (fun _ _ _ h => h) (Or.inl ⟨by rfl, fun w' _ => by go_simp⟩) hH ?_
    simp only [Act.put, List.setIfInBounds_toArray, List.set_cons_zero, List.set_cons_succ]
    refine wpAnyH_take (i := 13) (oi := ⟨_, _, _, _, _, _⟩) (v := At.v ⟨⟨k, n, ss⟩, nm, l⟩ y) rfl (by kernel_rfl) (by kernel_rfl) (by kernel_rfl) (fun _ _ _ h => h) (Or.inl ⟨by rfl, fun w' h => by obtain ⟨p0, p1, p2, p3, p4⟩ := five (Hid.out B0); have z := Blk.lt (Hid.out B0); have a0 := cell_step h z p0; have a1 := cell_step h z p1; have a2 := cell_step h z p2; have a3 := cell_step h z p3; have a4 := cell_step h z p4; clear p0 p1 p2 p3 p4; go_simp⟩) hH ?_
    simp only [Act.put, List.setIfInBounds_toArray, List.set_cons_zero, List.set_cons_succ]
    refine wpAnyH_ready (rs := [11]) (by kernel_rfl) (by simp) ?_
    refine (AllReadyH.cons (o := ⟨_, _, _, _, _, _⟩) rfl (fun K hK => ?_) AllReadyH.nil)
    go_simp
    refine (HA.out _ hH).mono ?_
    rintro e V1 ⟨y1, rfl, t1, hb1⟩
    refine hK.out _ _ (below_step hH hb1) (fun hH => ?_)
    clear hK K
    refine wpAnyH_ready (rs := [14]) (by kernel_rfl) (by simp) ?_
    refine (AllReadyH.cons (o := ⟨_, _, _, _, _, _⟩) rfl (fun K hK => ?_) AllReadyH.nil)
    go_simp
    refine (HR.out _ hH).mono ?_
    rintro e V2 ⟨y2, rfl, t2, hb2⟩
    refine hK.out _ _ (below_step hH hb2) (fun hH => ?_)
    clear hK K
    have t1 := t1.later hb2
    clear hb1 hb2
    refine wpAnyH_ready (rs := [15]) (by kernel_rfl) (by simp) ?_
    refine (AllReadyH.cons (o := ⟨_, _, _, _, _, _⟩) rfl (fun K hK => ?_) AllReadyH.nil)
    go_simp
    refine (same_any _ _ _ _ _ t1 t2).mono ?_
    rw [decide_eq_true rfl]
    rintro e V3 ⟨rfl, hb3⟩
    refine hK.out _ _ (below_step hH hb3) (fun hH => ?_)
    clear hK K hb3 t1 t2
    refine wpAnyH_take (i := 16) (oi := ⟨_, _, _, _, _, _⟩) (v := .bool false) rfl (by kernel_rfl) (by kernel_rfl) (by kernel_rfl) (fun _ _ _ h => h) (Or.inl ⟨by rfl, fun w' _ => by go_simp⟩) hH ?_
    simp only [Act.put, List.setIfInBounds_toArray, List.set_cons_zero, List.set_cons_succ]
    refine wpAnyH_take (i := 17) (oi := ⟨_, _, _, _, _, _⟩) (v := .bool false) rfl (by kernel_rfl) (by kernel_rfl) (by kernel_rfl) (fun _ _ _ h => h) (Or.inl ⟨by rfl, fun w' _ => by go_simp⟩) hH ?_
    simp only [Act.put, List.setIfInBounds_toArray, List.set_cons_zero, List.set_cons_succ]
    refine wpAnyH_done (by kernel_rfl) ?_ _
    go_wp2_with fail
    go_meet
    case rel => exact ⟨rfl, hH⟩
  case rest =>
    obtain ⟨rfl, hbc⟩ := hcut
    have hW : Hid (Below w.heap.size w wc) := below_step (Hid.out BW) hbc
    have OC : Hid (Own wc _ (.slice (some ⟨g, 0, none⟩) (s.length + 1) cap) (s ++ [late])) := OW.out.later hbc
    have OC' : Hid (OwnT wc _ (.slice (some ⟨g', 0, none⟩) (l.length + 1) cap') (l ++ [mark])) := OW'.out.later hbc
    have B0 : Hid (Blk wc _ _ _) := Blk.later (Hid.out B0) hbc
    have B8 : Hid (Blk wc _ _ _) := Blk.later (Hid.out B8) hbc
    clear hbc HA HR OW OW' B9 B11
    go_wp2_with (first
      | (go_at_call 11; refine (still_any s v g cap _ _ (HSO.out _ (Hid.out hW)).bs OC.out (HL.out.later (Hid.out hW))).mono ?_; rintro e wd ⟨rfl, hbd⟩; obtain ⟨a0, a1, a2, a3, a4⟩ := five (Blk.later (Hid.out B8) hbd); obtain ⟨c0, c1, c2, c3, c4⟩ := five (Blk.later (Hid.out B0) hbd))
      | (go_at_call 12; refine (kept_any ⟨⟨k, n, ss⟩, nm, l⟩ y g' cap' _ _ (HTO.out _ (below_step (Hid.out hW) hbd)).ts (OC'.out.later hbd) (HM.out.later (below_step (Hid.out hW) hbd))).mono ?_; rintro e we ⟨rfl, hbe⟩)
      | (go_at_call 13; refine (first_any _).mono ?_; rintro e wf ⟨rfl, hbf⟩))
    go_ret
    exact ⟨ret_b rfl, below_step (below_step (below_step (Hid.out hW) hbd) hbe) hbf⟩
end Go.Proofs.YtjjppmidhpgnkaaDoor
