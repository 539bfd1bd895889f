/-
  hearsaylaw02.TermAtoms, for every two atoms.
-/
import Derived.Test.YtjjppmidhpgnkabDoorW5
import Derived.Test.YtjjppmidhpgnkabDoorL2
import Derived.Test.YtjjppmidhpgnkabDoorB9
import Derived.Deep.CutRange
namespace Go.Proofs.YtjjppmidhpgnkabDoor
open Go.RowKit
attribute [local go_sem ↓] Go.wp_at_zero Go.wp_at_succ

theorem tso_len {w : World} {v : Value} {l : List Tm} (h : TsO w v l) : l.length ≤ 4398046511104 := by
  rcases h with ⟨-, h⟩ | ⟨ad, cap, h1, h2, h3⟩
  · rw [h]; simp
  · omega
set_option maxRecDepth 20000 in
set_option maxHeartbeats 2000000 in
theorem atoms_any (a b : At) (y z : Value) (w : World) (ha : TsO w y a.args) (hb : TsO w z b.args) (hM : MarkOk w) (sa : ∀ t ∈ a.pl, t.s.size ≤ maxLen) (sb : ∀ t ∈ b.pl, t.s.size ≤ maxLen) (na : a.name.size ≤ maxLen) (nb : b.name.size ≤ maxLen) :
    Calls Tryd.prog 6 #[a.v y, b.v z] w fun e w' => e = .returned (.bool true) ∧ Below w.heap.size w w' := by
  have hal := tso_len ha
  have hbl := tso_len hb
  have rc1 := fun (X : World) (h : Below w.heap.size w X) => rcmpA_any a b y z X (ha.later h).ts (hb.later h).ts sa sb na nb
  have rc2 := fun (X : World) (h : Below w.heap.size w X) => rcmpA_any b a z y X (hb.later h).ts (ha.later h).ts sb sa nb na
  have ck := fun (X : World) (v : Value) (h : Ts X v a.args) => chk_any a v X h
  have rck := fun (X : World) (h : Below w.heap.size w X) => rchk_any a y X (ha.later h).ts
  have fa := fun (X : World) (v : Value) (h : Ts X v a.args) => fact_any a v X h
  have rfa := fun (X : World) (h : Below w.heap.size w X) => rfact_any a y X (ha.later h)
  have va := fun (X : World) (v : Value) (h : Ts X v a.args) => vars_any a v X h hal
  have rva := fun (X : World) (h : Below w.heap.size w X) => rvars_any a y X (ha.later h)
  have c1 := fun (X : World) (u v : Value) (h : Ts X u a.args) (h' : Ts X v b.args) => cmpA_any a b u v X h h'
  have c2 := fun (X : World) (u v : Value) (h : Ts X u a.args) (h' : Ts X v b.args) => cmpA_any b a v u X h' h
  obtain ⟨er, her⟩ : ∃ c, a.err = c := ⟨_, rfl⟩
  obtain ⟨fc, hfc⟩ : ∃ c, a.fact = c := ⟨_, rfl⟩
  obtain ⟨L, hL⟩ : ∃ c, vs a.pl = c := ⟨_, rfl⟩
  obtain ⟨m1, hm1⟩ : ∃ c, a.cmp b = c := ⟨_, rfl⟩
  obtain ⟨m2, hm2⟩ : ∃ c, b.cmp a = c := ⟨_, rfl⟩
  have hLl : L.length < 1000000000000000000 := by
    have := vs_len a.pl
    rw [hL] at this
    simp only [At.pl, List.length_cons] at this
    omega
  rw [her] at ck rck
  rw [hfc] at fa rfa
  rw [hL] at va rva
  rw [hm1] at rc1 c1
  rw [hm2] at rc2 c2
  obtain ⟨⟨k, n, ss⟩, nm, l⟩ := a
  obtain ⟨⟨k', n', ss'⟩, nm', l'⟩ := b
  simp only at hal hbl ha hb
  have HA : Hid (TsO w y l) := ha
  have HB : Hid (TsO w z l') := hb
  have HM : Hid (MarkOk w) := hM
  have CK : Hid _ := ck
  have RCK : Hid _ := rck
  have FA : Hid _ := fa
  have RFA : Hid _ := rfa
  have VA : Hid _ := va
  have RVA : Hid _ := rva
  have C1 : Hid _ := c1
  have C2 : Hid _ := c2
  have RC1 : Hid _ := rc1
  have RC2 : Hid _ := rc2
  clear ck rck fa rfa va rva c1 c2 rc1 rc2 her hfc hL hm1 hm2 ha hb hM sa sb na nb
  go_enter Tryd.func6, Tryd.ntmps6
  go_upto_region 2 with (go_at_call 9; refine (lent_any ⟨⟨k, n, ss⟩, nm, l⟩ y _ (HA.out.later (below2 _ _ _)) (HM.out.later (below2 _ _ _))).mono ?_; rintro e w1 ⟨g, cap, rfl, ho, hb1⟩)
  have BX := Blk.new w1 #[.int .i64 k, .int .i64 n, .string ss, .string nm, .slice (some ⟨g, 0, none⟩) l.length cap] 26
  have hb2 := below1 w1 (.cells #[.int .i64 k, .int .i64 n, .string ss, .string nm, .slice (some ⟨g, 0, none⟩) l.length cap] 26)
  revert BX hb2
  generalize w1.alloc (.cells #[.int .i64 k, .int .i64 n, .string ss, .string nm, .slice (some ⟨g, 0, none⟩) l.length cap] 26) = W2
  intro BX hb2
  have hb12 := below_step hb1 hb2
  have BA2 : Hid (Blk W2 w.heap.size #[.int .i64 k, .int .i64 n, .string ss, .string nm, y] 26) := (Blk.old _ _ _ _).later hb12
  have BB := (Blk.new2 w #[.int .i64 k', .int .i64 n', .string ss', .string nm', z] 26 (.cells #[.int .i64 k, .int .i64 n, .string ss, .string nm, y] 26)).later hb12
  have BB2 : Hid (Blk W2 (w.heap.size + 1) #[.int .i64 k', .int .i64 n', .string ss', .string nm', z] 26) := BB
  have BX2 : Hid (Blk W2 _ _ _) := BX
  have OA2 : Hid (OwnT W2 _ (.slice (some ⟨g, 0, none⟩) (l.length + 1) cap) (l ++ [mark])) := ho.later hb2
  have BW2 : Hid (Below w.heap.size w W2) := below_step (below2 _ _ _) hb12
  obtain ⟨p0, p1, p2, p3, p4⟩ := five BB
  clear BB BX ho hb1 hb2 hb12
  go_upto_region 3 with (go_at_call 9; refine (lent_any ⟨⟨k', n', ss'⟩, nm', l'⟩ z _ (HB.out.later (Hid.out BW2)) (HM.out.later (Hid.out BW2))).mono ?_; rintro e w3 ⟨g', cap', rfl, ho, hb1⟩)
  have BY := Blk.new w3 #[.int .i64 k', .int .i64 n', .string ss', .string nm', .slice (some ⟨g', 0, none⟩) l'.length cap'] 26
  have hb2 := below1 w3 (.cells #[.int .i64 k', .int .i64 n', .string ss', .string nm', .slice (some ⟨g', 0, none⟩) l'.length cap'] 26)
  revert BY hb2
  generalize w3.alloc (.cells #[.int .i64 k', .int .i64 n', .string ss', .string nm', .slice (some ⟨g', 0, none⟩) l'.length cap'] 26) = W
  intro BY hb2
  have hb12 := below_step hb1 hb2
  have BA : Hid (Blk W _ _ _) := Blk.later (Hid.out BA2) hb12
  have BB : Hid (Blk W _ _ _) := Blk.later (Hid.out BB2) hb12
  have BX : Hid (Blk W _ _ _) := Blk.later (Hid.out BX2) hb12
  have BY : Hid (Blk W _ _ _) := BY
  have OA : Hid (OwnT W _ (.slice (some ⟨g, 0, none⟩) (l.length + 1) cap) (l ++ [mark])) := OA2.out.later hb12
  have OB : Hid (OwnT W _ (.slice (some ⟨g', 0, none⟩) (l'.length + 1) cap') (l' ++ [mark])) := ho.later hb2
  have BW : Hid (Below w.heap.size w W) := below_step (Hid.out BW2) hb12
  clear p0 p1 p2 p3 p4 BA2 BB2 BX2 OA2 BW2 ho hb1 hb2 hb12
  go_cut [30] from 11 to 30 (fun s30 wx => s30 = .bool false ∧ Below W.heap.size W wx)
  case first =>
    have TX : Hid (∀ X, Below W.heap.size W X → Ts X (.slice (some ⟨g, 0, none⟩) l.length cap) l) := fun X h => ownT_pre (OA.out.later h) (by omega)
    clear C1 C2 RC1 RC2 OB BY BB
    refine wp_region_held_drew (S := fun w' => Below W.heap.size W w') (by kernel_rfl) (Below.refl _ _).drew (fun hH => ?_)
    revert hH
    generalize W.drew = V
    intro hH
    refine wpAnyH_take (i := 0) (oi := ⟨_, _, _, _, _, _⟩) (v := .agg #[.int .i64 k, .int .i64 n, .string ss, .string nm, .slice (some ⟨g, 0, none⟩) l.length cap]) rfl (by kernel_rfl) (by kernel_rfl) (by kernel_rfl) (fun _ _ _ h => h) (Or.inl ⟨by rfl, fun w' h => by obtain ⟨p0, p1, p2, p3, p4⟩ := five (Hid.out BX); have z := Blk.lt (Hid.out BX); have a0 := cell_step h z p0; have a1 := cell_step h z p1; have a2 := cell_step h z p2; have a3 := cell_step h z p3; have a4 := cell_step h z p4; clear p0 p1 p2 p3 p4; go_simp⟩) hH ?_
    simp only [Act.put, List.setIfInBounds_toArray, List.set_cons_zero, List.set_cons_succ]
    refine wpAnyH_take (i := 2) (oi := ⟨_, _, _, _, _, _⟩) (v := .agg #[.int .i64 k, .int .i64 n, .string ss, .string nm, y]) rfl (by kernel_rfl) (by kernel_rfl) (by kernel_rfl) (fun _ _ _ h => h) (Or.inl ⟨by rfl, fun w' h => by obtain ⟨p0, p1, p2, p3, p4⟩ := five (Hid.out BA); have z := Blk.lt (Hid.out BA); have a0 := cell_step h z p0; have a1 := cell_step h z p1; have a2 := cell_step h z p2; have a3 := cell_step h z p3; have a4 := cell_step h z p4; clear p0 p1 p2 p3 p4; go_simp⟩) hH ?_
    simp only [Act.put, List.setIfInBounds_toArray, List.set_cons_zero, List.set_cons_succ]
    refine wpAnyH_ready (rs := [1]) (by kernel_rfl) (by simp) ?_
    refine (AllReadyH.cons (o := ⟨_, _, _, _, _, _⟩) rfl (fun K hK => ?_) AllReadyH.nil)
    go_simp
    refine (CK.out _ _ (TX.out _ hH)).mono ?_
    rintro e V1 ⟨rfl, hb⟩
    refine hK.out _ _ (below_step hH hb) (fun hH => ?_)
    clear hK K
    refine wpAnyH_ready (rs := [3]) (by kernel_rfl) (by simp) ?_
    refine (AllReadyH.cons (o := ⟨_, _, _, _, _, _⟩) rfl (fun K hK => ?_) AllReadyH.nil)
    go_simp
    refine (RCK.out _ (below_step (Hid.out BW) hH)).mono ?_
    rintro e V2 ⟨rfl, hb⟩
    refine hK.out _ _ (below_step hH hb) (fun hH => ?_)
    clear hK K
    refine wpAnyH_take (i := 4) (oi := ⟨_, _, _, _, _, _⟩) (v := .bool false) rfl (by kernel_rfl) (by kernel_rfl) (by kernel_rfl) (fun _ _ _ h => h) (Or.inl ⟨by rfl, fun w' _ => by go_simp⟩) hH ?_
    simp only [Act.put, List.setIfInBounds_toArray, List.set_cons_zero, List.set_cons_succ]
    refine wpAnyH_take (i := 5) (oi := ⟨_, _, _, _, _, _⟩) (v := .bool false) rfl (by kernel_rfl) (by kernel_rfl) (by kernel_rfl) (fun _ _ _ h => h) (Or.inl ⟨by rfl, fun w' _ => by go_simp⟩) hH ?_
    simp only [Act.put, List.setIfInBounds_toArray, List.set_cons_zero, List.set_cons_succ]
    refine wpAnyH_take (i := 6) (oi := ⟨_, _, _, _, _, _⟩) (v := .agg #[.int .i64 k, .int .i64 n, .string ss, .string nm, .slice (some ⟨g, 0, none⟩) l.length cap]) rfl (by kernel_rfl) (by kernel_rfl) (by kernel_rfl) (fun _ _ _ h => h) (Or.inl ⟨by rfl, fun w' h => by obtain ⟨p0, p1, p2, p3, p4⟩ := five (Hid.out BX); have z := Blk.lt (Hid.out BX); have a0 := cell_step h z p0; have a1 := cell_step h z p1; have a2 := cell_step h z p2; have a3 := cell_step h z p3; have a4 := cell_step h z p4; clear p0 p1 p2 p3 p4; go_simp⟩) hH ?_
    simp only [Act.put, List.setIfInBounds_toArray, List.set_cons_zero, List.set_cons_succ]
    refine wpAnyH_take (i := 8) (oi := ⟨_, _, _, _, _, _⟩) (v := .agg #[.int .i64 k, .int .i64 n, .string ss, .string nm, y]) rfl (by kernel_rfl) (by kernel_rfl) (by kernel_rfl) (fun _ _ _ h => h) (Or.inl ⟨by rfl, fun w' h => by obtain ⟨p0, p1, p2, p3, p4⟩ := five (Hid.out BA); have z := Blk.lt (Hid.out BA); have a0 := cell_step h z p0; have a1 := cell_step h z p1; have a2 := cell_step h z p2; have a3 := cell_step h z p3; have a4 := cell_step h z p4; clear p0 p1 p2 p3 p4; go_simp⟩) hH ?_
    simp only [Act.put, List.setIfInBounds_toArray, List.set_cons_zero, List.set_cons_succ]
    refine wpAnyH_ready (rs := [7]) (by kernel_rfl) (by simp) ?_
    refine (AllReadyH.cons (o := ⟨_, _, _, _, _, _⟩) rfl (fun K hK => ?_) AllReadyH.nil)
    go_simp
    refine (FA.out _ _ (TX.out _ hH)).mono ?_
    rintro e V3 ⟨rfl, hb⟩
    refine hK.out _ _ (below_step hH hb) (fun hH => ?_)
    clear hK K
    refine wpAnyH_ready (rs := [9]) (by kernel_rfl) (by simp) ?_
    refine (AllReadyH.cons (o := ⟨_, _, _, _, _, _⟩) rfl (fun K hK => ?_) AllReadyH.nil)
    go_simp
    refine (RFA.out _ (below_step (Hid.out BW) hH)).mono ?_
    rintro e V4 ⟨rfl, hb⟩
    refine hK.out _ _ (below_step hH hb) (fun hH => ?_)
    clear hK K
    refine wpAnyH_take (i := 10) (oi := ⟨_, _, _, _, _, _⟩) (v := .bool false) rfl (by kernel_rfl) (by kernel_rfl) (by kernel_rfl) (fun _ _ _ h => h) (Or.inl ⟨by rfl, fun w' _ => by go_simp⟩) hH ?_
    simp only [Act.put, List.setIfInBounds_toArray, List.set_cons_zero, List.set_cons_succ]
    refine wpAnyH_take (i := 11) (oi := ⟨_, _, _, _, _, _⟩) (v := .bool false) rfl (by kernel_rfl) (by kernel_rfl) (by kernel_rfl) (fun _ _ _ h => h) (Or.inl ⟨by rfl, fun w' _ => by go_simp⟩) hH ?_
    simp only [Act.put, List.setIfInBounds_toArray, List.set_cons_zero, List.set_cons_succ]
    refine wpAnyH_take (i := 12) (oi := ⟨_, _, _, _, _, _⟩) (v := .bool false) rfl (by kernel_rfl) (by kernel_rfl) (by kernel_rfl) (fun _ _ _ h => h) (Or.inl ⟨by rfl, fun w' _ => by go_simp⟩) hH ?_
    simp only [Act.put, List.setIfInBounds_toArray, List.set_cons_zero, List.set_cons_succ]
    refine wpAnyH_take (i := 13) (oi := ⟨_, _, _, _, _, _⟩) (v := .agg #[.int .i64 k, .int .i64 n, .string ss, .string nm, .slice (some ⟨g, 0, none⟩) l.length cap]) rfl (by kernel_rfl) (by kernel_rfl) (by kernel_rfl) (fun _ _ _ h => h) (Or.inl ⟨by rfl, fun w' h => by obtain ⟨p0, p1, p2, p3, p4⟩ := five (Hid.out BX); have z := Blk.lt (Hid.out BX); have a0 := cell_step h z p0; have a1 := cell_step h z p1; have a2 := cell_step h z p2; have a3 := cell_step h z p3; have a4 := cell_step h z p4; clear p0 p1 p2 p3 p4; go_simp⟩) hH ?_
    simp only [Act.put, List.setIfInBounds_toArray, List.set_cons_zero, List.set_cons_succ]
    refine wpAnyH_take (i := 15) (oi := ⟨_, _, _, _, _, _⟩) (v := .agg #[.int .i64 k, .int .i64 n, .string ss, .string nm, y]) rfl (by kernel_rfl) (by kernel_rfl) (by kernel_rfl) (fun _ _ _ h => h) (Or.inl ⟨by rfl, fun w' h => by obtain ⟨p0, p1, p2, p3, p4⟩ := five (Hid.out BA); have z := Blk.lt (Hid.out BA); have a0 := cell_step h z p0; have a1 := cell_step h z p1; have a2 := cell_step h z p2; have a3 := cell_step h z p3; have a4 := cell_step h z p4; clear p0 p1 p2 p3 p4; go_simp⟩) hH ?_
    simp only [Act.put, List.setIfInBounds_toArray, List.set_cons_zero, List.set_cons_succ]
    refine wpAnyH_ready (rs := [14]) (by kernel_rfl) (by simp) ?_
    refine (AllReadyH.cons (o := ⟨_, _, _, _, _, _⟩) rfl (fun K hK => ?_) AllReadyH.nil)
    go_simp
    refine (VA.out _ _ (TX.out _ hH)).mono ?_
    rintro e V5 ⟨v1, rfl, ho1, hb5⟩
    refine hK.out _ _ (below_step hH hb5) (fun hH => ?_)
    clear hK K
    refine wpAnyH_ready (rs := [16]) (by kernel_rfl) (by simp) ?_
    refine (AllReadyH.cons (o := ⟨_, _, _, _, _, _⟩) rfl (fun K hK => ?_) AllReadyH.nil)
    go_simp
    refine (RVA.out _ (below_step (Hid.out BW) hH)).mono ?_
    rintro e V6 ⟨v2, rfl, ho2, hb6⟩
    refine hK.out _ _ (below_step hH hb6) (fun hH => ?_)
    clear hK K
    have ho1 := ho1.later hb6
    refine wpAnyH_ready (rs := [17]) (by kernel_rfl) (by simp) ?_
    refine (AllReadyH.cons (o := ⟨_, _, _, _, _, _⟩) rfl (fun K hK => ?_) AllReadyH.nil)
    go_simp
    refine (lints_same L v1 v2 _ _ _ ho1 ho2 hLl).mono ?_
    rintro e V7 ⟨rfl, hb7⟩
    refine hK.out _ _ (below_step hH hb7) (fun hH => ?_)
    clear hK K
    refine wpAnyH_take (i := 18) (oi := ⟨_, _, _, _, _, _⟩) (v := .bool false) rfl (by kernel_rfl) (by kernel_rfl) (by kernel_rfl) (fun _ _ _ h => h) (Or.inl ⟨by rfl, fun w' _ => by go_simp⟩) hH ?_
    simp only [Act.put, List.setIfInBounds_toArray, List.set_cons_zero, List.set_cons_succ]
    refine wpAnyH_take (i := 19) (oi := ⟨_, _, _, _, _, _⟩) (v := .bool false) rfl (by kernel_rfl) (by kernel_rfl) (by kernel_rfl) (fun _ _ _ h => h) (Or.inl ⟨by rfl, fun w' _ => by go_simp⟩) hH ?_
    simp only [Act.put, List.setIfInBounds_toArray, List.set_cons_zero, List.set_cons_succ]
    refine wpAnyH_done (by kernel_rfl) ?_ _
    go_wp2_with fail
    go_meet
    case rel => exact ⟨rfl, hH⟩
  case rest =>
    obtain ⟨rfl, hbc⟩ := hcut
    have BA : Hid (Blk wc _ _ _) := Blk.later (Hid.out BA) hbc
    have BB : Hid (Blk wc _ _ _) := Blk.later (Hid.out BB) hbc
    have BX : Hid (Blk wc _ _ _) := Blk.later (Hid.out BX) hbc
    have BY : Hid (Blk wc _ _ _) := Blk.later (Hid.out BY) hbc
    have OA : Hid (OwnT wc _ (.slice (some ⟨g, 0, none⟩) (l.length + 1) cap) (l ++ [mark])) := OA.out.later hbc
    have OB : Hid (OwnT wc _ (.slice (some ⟨g', 0, none⟩) (l'.length + 1) cap') (l' ++ [mark])) := OB.out.later hbc
    have BW : Hid (Below w.heap.size w wc) := below_step (Hid.out BW) hbc
    clear hbc CK RCK FA RFA VA RVA
    obtain ⟨W3, hW3⟩ : ∃ W3, W3 = wc := ⟨_, rfl⟩
    subst hW3
    go_upto_region 5 with fail
    go_cut [46] from 31 to 46 (fun s46 wx => s46 = .bool false ∧ Below W3.heap.size W3 wx)
    case first =>
      have TX : Hid (∀ X, Below W3.heap.size W3 X → Ts X (.slice (some ⟨g, 0, none⟩) l.length cap) l) := fun X h => ownT_pre (OA.out.later h) (by omega)
      have TY : Hid (∀ X, Below W3.heap.size W3 X → Ts X (.slice (some ⟨g', 0, none⟩) l'.length cap') l') := fun X h => ownT_pre (OB.out.later h) (by omega)
      refine wp_region_held_drew (S := fun w' => Below W3.heap.size W3 w') (by kernel_rfl) (Below.refl _ _).drew (fun hH => ?_)
      revert hH
      generalize W3.drew = V
      intro hH
      refine wpAnyH_take (i := 0) (oi := ⟨_, _, _, _, _, _⟩) (v := .agg #[.int .i64 k, .int .i64 n, .string ss, .string nm, .slice (some ⟨g, 0, none⟩) l.length cap]) rfl (by kernel_rfl) (by kernel_rfl) (by kernel_rfl) (fun _ _ _ h => h) (Or.inl ⟨by rfl, fun w' h => by obtain ⟨p0, p1, p2, p3, p4⟩ := five (Hid.out BX); have z := Blk.lt (Hid.out BX); have a0 := cell_step h z p0; have a1 := cell_step h z p1; have a2 := cell_step h z p2; have a3 := cell_step h z p3; have a4 := cell_step h z p4; clear p0 p1 p2 p3 p4; go_simp⟩) hH ?_
      simp only [Act.put, List.setIfInBounds_toArray, List.set_cons_zero, List.set_cons_succ]
      refine wpAnyH_take (i := 1) (oi := ⟨_, _, _, _, _, _⟩) (v := .agg #[.int .i64 k', .int .i64 n', .string ss', .string nm', .slice (some ⟨g', 0, none⟩) l'.length cap']) rfl (by kernel_rfl) (by kernel_rfl) (by kernel_rfl) (fun _ _ _ h => h) (Or.inl ⟨by rfl, fun w' h => by obtain ⟨p0, p1, p2, p3, p4⟩ := five (Hid.out BY); have z := Blk.lt (Hid.out BY); have a0 := cell_step h z p0; have a1 := cell_step h z p1; have a2 := cell_step h z p2; have a3 := cell_step h z p3; have a4 := cell_step h z p4; clear p0 p1 p2 p3 p4; go_simp⟩) hH ?_
      simp only [Act.put, List.setIfInBounds_toArray, List.set_cons_zero, List.set_cons_succ]
      refine wpAnyH_take (i := 3) (oi := ⟨_, _, _, _, _, _⟩) (v := .agg #[.int .i64 k, .int .i64 n, .string ss, .string nm, y]) rfl (by kernel_rfl) (by kernel_rfl) (by kernel_rfl) (fun _ _ _ h => h) (Or.inl ⟨by rfl, fun w' h => by obtain ⟨p0, p1, p2, p3, p4⟩ := five (Hid.out BA); have z := Blk.lt (Hid.out BA); have a0 := cell_step h z p0; have a1 := cell_step h z p1; have a2 := cell_step h z p2; have a3 := cell_step h z p3; have a4 := cell_step h z p4; clear p0 p1 p2 p3 p4; go_simp⟩) hH ?_
      simp only [Act.put, List.setIfInBounds_toArray, List.set_cons_zero, List.set_cons_succ]
      refine wpAnyH_take (i := 4) (oi := ⟨_, _, _, _, _, _⟩) (v := .agg #[.int .i64 k', .int .i64 n', .string ss', .string nm', z]) rfl (by kernel_rfl) (by kernel_rfl) (by kernel_rfl) (fun _ _ _ h => h) (Or.inl ⟨by rfl, fun w' h => by obtain ⟨p0, p1, p2, p3, p4⟩ := five (Hid.out BB); have z := Blk.lt (Hid.out BB); have a0 := cell_step h z p0; have a1 := cell_step h z p1; have a2 := cell_step h z p2; have a3 := cell_step h z p3; have a4 := cell_step h z p4; clear p0 p1 p2 p3 p4; go_simp⟩) hH ?_
      simp only [Act.put, List.setIfInBounds_toArray, List.set_cons_zero, List.set_cons_succ]
      refine wpAnyH_ready (rs := [2]) (by kernel_rfl) (by simp) ?_
      refine (AllReadyH.cons (o := ⟨_, _, _, _, _, _⟩) rfl (fun K hK => ?_) AllReadyH.nil)
      go_simp
      refine (C1.out _ _ _ (TX.out _ hH) (TY.out _ hH)).mono ?_
      rintro e V1 ⟨rfl, hb⟩
      refine hK.out _ _ (below_step hH hb) (fun hH => ?_)
      clear hK K
      refine wpAnyH_ready (rs := [5]) (by kernel_rfl) (by simp) ?_
      refine (AllReadyH.cons (o := ⟨_, _, _, _, _, _⟩) rfl (fun K hK => ?_) AllReadyH.nil)
      go_simp
      refine (RC1.out _ (below_step (Hid.out BW) hH)).mono ?_
      rintro e V2 ⟨rfl, hb⟩
      refine hK.out _ _ (below_step hH hb) (fun hH => ?_)
      clear hK K
      refine wpAnyH_take (i := 6) (oi := ⟨_, _, _, _, _, _⟩) (v := .bool false) rfl (by kernel_rfl) (by kernel_rfl) (by kernel_rfl) (fun _ _ _ h => h) (Or.inl ⟨by rfl, fun w' _ => by go_simp⟩) hH ?_
      simp only [Act.put, List.setIfInBounds_toArray, List.set_cons_zero, List.set_cons_succ]
      refine wpAnyH_take (i := 7) (oi := ⟨_, _, _, _, _, _⟩) (v := .bool false) rfl (by kernel_rfl) (by kernel_rfl) (by kernel_rfl) (fun _ _ _ h => h) (Or.inl ⟨by rfl, fun w' _ => by go_simp⟩) hH ?_
      simp only [Act.put, List.setIfInBounds_toArray, List.set_cons_zero, List.set_cons_succ]
      refine wpAnyH_take (i := 8) (oi := ⟨_, _, _, _, _, _⟩) (v := .agg #[.int .i64 k', .int .i64 n', .string ss', .string nm', .slice (some ⟨g', 0, none⟩) l'.length cap']) rfl (by kernel_rfl) (by kernel_rfl) (by kernel_rfl) (fun _ _ _ h => h) (Or.inl ⟨by rfl, fun w' h => by obtain ⟨p0, p1, p2, p3, p4⟩ := five (Hid.out BY); have z := Blk.lt (Hid.out BY); have a0 := cell_step h z p0; have a1 := cell_step h z p1; have a2 := cell_step h z p2; have a3 := cell_step h z p3; have a4 := cell_step h z p4; clear p0 p1 p2 p3 p4; go_simp⟩) hH ?_
      simp only [Act.put, List.setIfInBounds_toArray, List.set_cons_zero, List.set_cons_succ]
      refine wpAnyH_take (i := 9) (oi := ⟨_, _, _, _, _, _⟩) (v := .agg #[.int .i64 k, .int .i64 n, .string ss, .string nm, .slice (some ⟨g, 0, none⟩) l.length cap]) rfl (by kernel_rfl) (by kernel_rfl) (by kernel_rfl) (fun _ _ _ h => h) (Or.inl ⟨by rfl, fun w' h => by obtain ⟨p0, p1, p2, p3, p4⟩ := five (Hid.out BX); have z := Blk.lt (Hid.out BX); have a0 := cell_step h z p0; have a1 := cell_step h z p1; have a2 := cell_step h z p2; have a3 := cell_step h z p3; have a4 := cell_step h z p4; clear p0 p1 p2 p3 p4; go_simp⟩) hH ?_
      simp only [Act.put, List.setIfInBounds_toArray, List.set_cons_zero, List.set_cons_succ]
      refine wpAnyH_take (i := 11) (oi := ⟨_, _, _, _, _, _⟩) (v := .agg #[.int .i64 k', .int .i64 n', .string ss', .string nm', z]) rfl (by kernel_rfl) (by kernel_rfl) (by kernel_rfl) (fun _ _ _ h => h) (Or.inl ⟨by rfl, fun w' h => by obtain ⟨p0, p1, p2, p3, p4⟩ := five (Hid.out BB); have z := Blk.lt (Hid.out BB); have a0 := cell_step h z p0; have a1 := cell_step h z p1; have a2 := cell_step h z p2; have a3 := cell_step h z p3; have a4 := cell_step h z p4; clear p0 p1 p2 p3 p4; go_simp⟩) hH ?_
      simp only [Act.put, List.setIfInBounds_toArray, List.set_cons_zero, List.set_cons_succ]
      refine wpAnyH_take (i := 12) (oi := ⟨_, _, _, _, _, _⟩) (v := .agg #[.int .i64 k, .int .i64 n, .string ss, .string nm, y]) rfl (by kernel_rfl) (by kernel_rfl) (by kernel_rfl) (fun _ _ _ h => h) (Or.inl ⟨by rfl, fun w' h => by obtain ⟨p0, p1, p2, p3, p4⟩ := five (Hid.out BA); have z := Blk.lt (Hid.out BA); have a0 := cell_step h z p0; have a1 := cell_step h z p1; have a2 := cell_step h z p2; have a3 := cell_step h z p3; have a4 := cell_step h z p4; clear p0 p1 p2 p3 p4; go_simp⟩) hH ?_
      simp only [Act.put, List.setIfInBounds_toArray, List.set_cons_zero, List.set_cons_succ]
      refine wpAnyH_ready (rs := [10]) (by kernel_rfl) (by simp) ?_
      refine (AllReadyH.cons (o := ⟨_, _, _, _, _, _⟩) rfl (fun K hK => ?_) AllReadyH.nil)
      go_simp
      refine (C2.out _ _ _ (TX.out _ hH) (TY.out _ hH)).mono ?_
      rintro e V3 ⟨rfl, hb⟩
      refine hK.out _ _ (below_step hH hb) (fun hH => ?_)
      clear hK K
      refine wpAnyH_ready (rs := [13]) (by kernel_rfl) (by simp) ?_
      refine (AllReadyH.cons (o := ⟨_, _, _, _, _, _⟩) rfl (fun K hK => ?_) AllReadyH.nil)
      go_simp
      refine (RC2.out _ (below_step (Hid.out BW) hH)).mono ?_
      rintro e V4 ⟨rfl, hb⟩
      refine hK.out _ _ (below_step hH hb) (fun hH => ?_)
      clear hK K
      refine wpAnyH_take (i := 14) (oi := ⟨_, _, _, _, _, _⟩) (v := .bool false) rfl (by kernel_rfl) (by kernel_rfl) (by kernel_rfl) (fun _ _ _ h => h) (Or.inl ⟨by rfl, fun w' _ => by go_simp⟩) hH ?_
      simp only [Act.put, List.setIfInBounds_toArray, List.set_cons_zero, List.set_cons_succ]
      refine wpAnyH_take (i := 15) (oi := ⟨_, _, _, _, _, _⟩) (v := .bool false) rfl (by kernel_rfl) (by kernel_rfl) (by kernel_rfl) (fun _ _ _ h => h) (Or.inl ⟨by rfl, fun w' _ => by go_simp⟩) hH ?_
      simp only [Act.put, List.setIfInBounds_toArray, List.set_cons_zero, List.set_cons_succ]
      refine wpAnyH_done (by kernel_rfl) ?_ _
      go_wp2_with fail
      go_meet
      case rel => exact ⟨rfl, hH⟩
    case rest =>
      obtain ⟨rfl, hbc⟩ := hcut
      have BA : Hid (Blk wc _ _ _) := Blk.later (Hid.out BA) hbc
      have BB : Hid (Blk wc _ _ _) := Blk.later (Hid.out BB) hbc
      have BX : Hid (Blk wc _ _ _) := Blk.later (Hid.out BX) hbc
      have BY : Hid (Blk wc _ _ _) := Blk.later (Hid.out BY) hbc
      have OA : Hid (OwnT wc _ (.slice (some ⟨g, 0, none⟩) (l.length + 1) cap) (l ++ [mark])) := OA.out.later hbc
      have OB : Hid (OwnT wc _ (.slice (some ⟨g', 0, none⟩) (l'.length + 1) cap') (l' ++ [mark])) := OB.out.later hbc
      have BW : Hid (Below w.heap.size w wc) := below_step (Hid.out BW) hbc
      clear hbc C1 C2 RC1 RC2
      obtain ⟨W4, hW4⟩ : ∃ W4, W4 = wc := ⟨_, rfl⟩
      subst hW4
      go_upto_region 7 with fail
      obtain ⟨a0, a1, a2, a3, a4⟩ := five (Hid.out BA)
      obtain ⟨x0, x1, x2, x3, x4⟩ := five (Hid.out BX)
      have ka := fun (X : World) (h : Below W4.heap.size W4 X) => kept_any ⟨⟨k, n, ss⟩, nm, l⟩ y g cap _ X (HA.out.later (below_step (Hid.out BW) h)).ts (OA.out.later h) (HM.out.later (below_step (Hid.out BW) h))
      have kb := fun (X : World) (h : Below W4.heap.size W4 X) => kept_any ⟨⟨k', n', ss'⟩, nm', l'⟩ z g' cap' _ X (HB.out.later (below_step (Hid.out BW) h)).ts (OB.out.later h) (HM.out.later (below_step (Hid.out BW) h))
      have KA : Hid _ := ka
      have KB : Hid _ := kb
      clear ka kb
      go_upto_region 99 with (first
        | (go_at_call 14; refine (KA.out _ (Below.refl _ _)).mono ?_; rintro e w5 ⟨rfl, hb5⟩; clear a0 a1 a2 a3 a4 x0 x1 x2 x3 x4; obtain ⟨a0, a1, a2, a3, a4⟩ := five (Blk.later (Hid.out BB) hb5); obtain ⟨x0, x1, x2, x3, x4⟩ := five (Blk.later (Hid.out BY) hb5); clear KA)
        | (go_at_call 14; refine (KB.out _ hb5).mono ?_; rintro e w6 ⟨rfl, hb6⟩; clear KB)
        | (go_at_call 15; refine (first_any _).mono ?_; rintro e w7 ⟨rfl, hb7⟩))
      go_ret
      exact ⟨ret_b rfl, below_step (below_step (below_step (Hid.out BW) hb5) hb6) hb7⟩
end Go.Proofs.YtjjppmidhpgnkabDoor
