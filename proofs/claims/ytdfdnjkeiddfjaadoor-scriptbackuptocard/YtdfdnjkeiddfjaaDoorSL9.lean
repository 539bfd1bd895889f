/-
  hearsaylaw25: ScriptBack's walk.
-/
import Derived.Test.YtdfdnjkeiddfjaaDoorSL8
import Derived.Test.YtdfdnjkeiddfjaaDoorSMH
namespace Go.Proofs.YtdfdnjkeiddfjaaDoor
open Go.RowKit
attribute [local go_sem ↓] Go.wp_at_zero Go.wp_at_succ

theorem mk_sm (d : SdO) (b : ByteArray) : SmS (mkD d) (mkB d b) := by
  have z : (⟨#[]⟩ : ByteArray).size = 0 := rfl
  unfold mkD mkB
  refine ⟨?_, ?_, ?_, ?_⟩
  all_goals
    try dsimp only
    split
  all_goals first | (rw [z]; omega) | exact ctL_size _
set_option maxRecDepth 20000 in
set_option maxHeartbeats 8000000 in
theorem sback_any (d : SdO) (b r : ByteArray) (a : Option Addr) (c : Nat) (w : World) (hb : LbW (fun _ => True) w (.slice a b.size c) (blK b)) (hE : EnS w) (hn : N64S d.n) (hm : N64S d.m) (hq : N64S d.q) : Calls Tryd.prog 7 #[d.v a b.size c, .string r] w fun e w' => e = .returned (.bool true) ∧ Below w.heap.size w w' := by
  have HE := hm7 hE
  have hok := mk_ok (d := d) b hn hm hq
  have hsm := mk_sm d b
  have hcl := mk_cl d b
  have hi := mkI_lt d
  have hk : (mkD d).k = (mkI d : Int) + 1 := rfl
  have hpr := st_pr hok hsm hi hk hcl
  have hrd := rd_pr hok hpr
  have hne := st_ne (mkD d) (mkB d b) hi
  have hbl := st_bl hok hi
  have hsz := st_size hok hsm (mkI d)
  have hrm := st_remark (r := liL (ctL r)) hok hsm hi hk hcl (li_no _) (Nat.le_trans (li_size _) (ctL_size r))
  have HMD : Hid (∀ X, LbW (fun _ => True) X (.slice a b.size c) (blK b) → Calls Tryd.prog 13 #[d.v a b.size c] X (MdQ X (mkD d) (mkB d b))) := fun X h => madeL_any d b a c X h
  have hlsz : (liL (ctL r)).size ≤ 4000 := Nat.le_trans (li_size _) (ctL_size r)
  obtain ⟨S, hS⟩ : ∃ S, stL (mkD d) (mkB d b) (mkI d) = S := ⟨_, rfl⟩
  obtain ⟨D, hD⟩ : ∃ D, mkD d = D := ⟨_, rfl⟩
  obtain ⟨B, hB⟩ : ∃ B, mkB d b = B := ⟨_, rfl⟩
  rw [hS] at hpr hne hbl hsz hrm hrd
  rw [hD] at hok hpr hrm HMD hrd
  rw [hB] at hok hpr hrm HMD hrd
  have HPR : Hid (∀ (X : World) a c, EnS X → LbW (fun _ => True) X (.slice a B.size c) (blK B) → Calls Tryd.prog 10 #[D.v a B.size c] X fun e w' => e = .returned (.tuple #[.string S, .bool true]) ∧ Below X.heap.size X w') := fun X a c h hl => by
    have := aSPrint_any D B a c hok X h hl
    rw [hpr] at this
    exact this
  have HBK : Hid (∀ X, EnS X → Calls Tryd.prog 17 #[.string S] X fun e w' => e = .returned (.bool false) ∧ Below X.heap.size X w') := fun X h => by rw [← hbl]; exact aSBlankE_any S (by omega) X h
  have HRD : Hid (∀ X, EnS X → Calls Tryd.prog 9 #[.string S] X (RdQ X ⟨D, B, 0, 0⟩)) := fun X h => by rw [← hrd]; exact aSRead_any S (by omega) X h
  have HSM : Hid (∀ (X : World) a c a' c', LbW (fun _ => True) X (.slice a B.size c) (blK B) → LbW (fun _ => True) X (.slice a' B.size c') (blK B) → Calls Tryd.prog 11 #[D.v a B.size c, D.v a' B.size c'] X fun e w' => e = .returned (.bool true) ∧ Below X.heap.size X w') := fun X a c a' c' hl hl' => samL_any D B a a' c c' X hl hl'
  have HCT : Hid (∀ X, Calls Tryd.prog 19 #[.string r] X fun e w' => e = .returned (.string (ctL r)) ∧ w' = X) := fun X => cutT_any r X
  have HLN : Hid (∀ X, Calls Tryd.prog 18 #[.string (ctL r)] X fun e w' => e = .returned (.string (liL (ctL r))) ∧ Below X.heap.size X w') := fun X => lineL_any (ctL r) (by have := ctL_size r; omega) X
  obtain ⟨R, hR⟩ : ∃ R, liL (ctL r) = R := ⟨_, rfl⟩
  rw [hR] at HLN hrm hlsz
  obtain ⟨A1, hA1⟩ : ∃ A, (⟨#[32, 9]⟩ : ByteArray) ++ S = A := ⟨_, rfl⟩
  rw [hA1] at hrm
  obtain ⟨A2, hA2⟩ : ∃ A, A1 ++ (⟨#[32, 37, 32]⟩ : ByteArray) = A := ⟨_, rfl⟩
  rw [hA2] at hrm
  obtain ⟨A3, hA3⟩ : ∃ A, A2 ++ R = A := ⟨_, rfl⟩
  rw [hA3] at hrm
  have l1 : A1.size = 2 + S.size := by rw [← hA1, ByteArray.size_append]; rfl
  have l2 : A2.size = A1.size + 3 := by rw [← hA2, ByteArray.size_append]; rfl
  have l3 : A3.size = A2.size + R.size := by rw [← hA3, ByteArray.size_append]
  have HRM : Hid (∀ X, EnS X → Calls Tryd.prog 9 #[.string A3] X (RdQ X ⟨D, B, 0, 0⟩)) := fun X h => by rw [← hrm]; exact aSRead_any A3 (by omega) X h
  have g1 : ¬ 9223372036854775807 < 2 + S.size := by omega
  have g2 : ¬ 9223372036854775807 < A1.size + 3 := by omega
  have g3 : ¬ 9223372036854775807 < A2.size + R.size := by omega
  have s1 : ¬ S.toList = [] := fun e => hne (toList_injK (e.trans emptyL.symm))
  have s2 : S.toList.isEmpty = false := by rw [isEK]; simpa using hne
  clear hok hsm hcl hi hk hpr hrd hne hbl hsz hrm hlsz hS hD hB hR l1 l2 l3 hn hm hq hE
  obtain ⟨W1, hW1⟩ : ∃ W, w.alloc (.cells (d.cs (.slice a b.size c)) 24) = W := ⟨_, rfl⟩
  have hb1 : Below w.heap.size w W1 := by rw [← hW1]; exact below1K w _
  have hB1 : BxS W1 w.heap.size d (.slice a b.size c) b := ⟨by rw [← hW1]; exact BlkK.new w _ _, hb.below hb1⟩
  obtain ⟨c0, c1, c2, c3, c4, c5, c6, c7⟩ := hB1.cells
  have HMD1 := hm7 (HMD.out W1 hB1.lb)
  have HB1 := hm7 hb1
  simp only [SdO.cs] at hW1
  clear hb1 hB1 hb
  go_enter Tryd.func7, Tryd.ntmps7
  go_upto_region 2 with (go_at_call 13; refine HMD1.out.mono ?_; rintro e w2 ⟨a2, n2, rfl, hl2, hb2⟩)
  have hb3 := below1K w2 (.cells (D.cs (.slice a2 B.size n2)) 24)
  have hB5 : BxS (w2.alloc (.cells (D.cs (.slice a2 B.size n2)) 24)) w2.heap.size D (.slice a2 B.size n2) B := ⟨BlkK.new _ _ _, hl2.below hb3⟩
  simp only [SdO.cs] at hb3 hB5
  revert hb3 hB5
  generalize w2.alloc _ = W2
  intro hb3 hB5
  have HB2 := hm7 (below_stepK (below_stepK HB1.out hb2) hb3)
  have HX2 := hm7 hB5
  have HE2 := hm7 (HE.out.later HB2.out)
  have HPR2 := hm7 (HPR.out W2 a2 n2 HE2.out hB5.lb)
  clear c0 c1 c2 c3 c4 c5 c6 c7
  obtain ⟨c0, c1, c2, c3, c4, c5, c6, c7⟩ := hB5.cells
  clear hb3 hB5 hl2 hb2 HPR HMD HMD1
  go_upto_region 3 with (go_at_call 10; refine HPR2.out.mono ?_; rintro e w3 ⟨rfl, hb3⟩)
  have HB3 := hm7 (below_stepK HB2.out hb3)
  have HX3 := hm7 (HX2.out.later hb3)
  have HE3 := hm7 (HE2.out.later hb3)
  clear c0 c1 c2 c3 c4 c5 c6 c7 hb3
  go_upto_region 5 with (go_at_call 17; refine (HBK.out _ HE3.out).mono ?_; rintro e w4 ⟨rfl, hb4⟩)
  have HB4 := hm7 (below_stepK HB3.out hb4)
  have HX4 := hm7 (HX3.out.later hb4)
  have HE4 := hm7 (HE3.out.later hb4)
  clear hb4
  go_upto_region 6 with (go_at_call 9; refine (HRD.out _ HE4.out).mono ?_; rintro e w5 ⟨a5, n5, rfl, ho, hb5⟩; simp only [RsS.v])
  obtain ⟨hB, hF, -, hb⟩ := boxR hb5 ho
  have hX5 := HX4.out.later hb
  have hne5 : w2.heap.size ≠ w5.heap.size := by have := HX4.out.blk.lt; have := hb5.size; omega
  simp only [SdO.cs] at hB hF hb hX5 ⊢
  revert hB hF hb hX5
  generalize (w5.alloc _).alloc _ = W5
  intro hB hF hb hX5
  have HB5 := hm7 (below_stepK HB4.out hb)
  have HE5 := hm7 (HE4.out.later hb)
  have HX5 := hm7 hX5
  have HY5 := hm7 hB
  have HF5 := hm7 hF
  have HN5 := hm7 hne5
  have HS5 := hm7 (HSM.out W5 a2 n2 a5 n5 hX5.lb hB.lb)
  have HD5 := hm7 hb
  have HG4 := hm7 hb5.size
  have HG5 : Hid (w.heap.size ≤ w5.heap.size) := Nat.le_trans HB4.out.size hb5.size
  obtain ⟨c0, c1, c2, c3, c4, c5, c6, c7⟩ := hX5.cells
  obtain ⟨d0, d1, d2, d3, d4, d5, d6, d7⟩ := hB.cells
  obtain ⟨f0, f1⟩ := ft_cells hF
  clear hB hF hb hX5 hne5 ho hb5
  go_upto_region 8 with (go_at_call 11; refine HS5.out.mono ?_; rintro e w6 ⟨rfl, hb6⟩)
  have HB6 := hm7 (below_stepK HB5.out hb6)
  have HE6 := hm7 (HE5.out.later hb6)
  have HX6 := hm7 (HX5.out.later hb6)
  have HY6 := hm7 (HY5.out.later hb6)
  have HD6 := hm7 (below_stepK HD5.out hb6)
  have HF6 := hm7 (HF5.out.later hb6)
  clear c0 c1 c2 c3 c4 c5 c6 c7 d0 d1 d2 d3 d4 d5 d6 d7 f0 f1 hb6
  go_upto_region 9 with (first | (go_at_call 19; refine (HCT.out _).mono ?_; rintro e wq ⟨rfl, rfl⟩) | (go_at_call 18; refine (HLN.out _).mono ?_; rintro e w7 ⟨rfl, hb7⟩; have HE7 := hm7 (HE6.out.later hb7); have HD7 := hm7 (below_stepK HD6.out hb7); have HY7 := hm7 (HY6.out.later hb7); have HF7 := hm7 (HF6.out.later hb7); have HB7 := hm7 (below_stepK HB6.out hb7); clear hb7) | (go_at_call 9; refine (HRM.out _ HE7.out).mono ?_; rintro e w8 ⟨a8, n8, rfl, ho8, hb8⟩; have HE8 := hm7 (HE7.out.later hb8); have HD8 := hm7 (below_stepK HD7.out hb8); have HB8 := hm7 (below_stepK HB7.out hb8); have HO8 := hm7 ho8; have hy8 := HY7.out.later hb8; have hf8 := HF7.out.later hb8; have HL8 := hm7 (And.intro HY7.out.blk.lt HF7.out.lt); have HY8 := hm7 hy8; have HF8 := hm7 hf8; have fz := froz8 hy8.blk; have ff := froz8 hf8; obtain ⟨d0, d1, d2, d3, d4, d5, d6, d7⟩ := hy8.cells; obtain ⟨f0, f1⟩ := ft_cells hf8; clear ho8 hb8 hy8 hf8; simp only [RsS.v]))
  have hne9 : w5.heap.size ≠ w5.heap.size + 1 := by omega
  have hlb9 : LbW (fun x => x ≠ w5.heap.size ∧ x ≠ w5.heap.size + 1) w8 (.slice a8 B.size n8) (blK B) := (HO8.out.lb (bl_bytW _)).mono fun x _ hx => by
    have h1 := hx.1
    have h2 := HL8.out.1
    have h3 := HL8.out.2
    exact ⟨by omega, by omega⟩
  obtain ⟨hB, hF, hch⟩ := boxW (d' := D) (v' := .slice a8 B.size n8) (b' := B) (e := 0) (p := 0) HY8.out HF8.out hne9 hlb9
  have hD9 := hch w4.heap.size HG4.out (Nat.le_succ_of_le HG4.out) w4 HD8.out
  have hW9 := hch w.heap.size HG5.out (Nat.le_succ_of_le HG5.out) w HB8.out
  clear hch hlb9 hne9 d0 d1 d2 d3 d4 d5 d6 d7 f0 f1 fz ff
  revert hB hF hD9 hW9
  generalize World.setCell _ _ _ = W9
  intro hB hF hD9 hW9
  have hX9 := HX4.out.later hD9
  have HS9 := hm7 (HSM.out W9 a2 n2 a8 n8 hX9.lb hB.lb)
  have HW9 := hm7 hW9
  obtain ⟨c0, c1, c2, c3, c4, c5, c6, c7⟩ := hX9.cells
  obtain ⟨d0, d1, d2, d3, d4, d5, d6, d7⟩ := hB.cells
  obtain ⟨f0, f1⟩ := ft_cells hF
  clear hB hF hD9 hW9 hX9
  go_wp2_with (go_at_call 11; refine HS9.out.mono ?_; rintro e wz ⟨rfl, hbz⟩; have HBZ := hm7 hbz; clear hbz)
  go_ret
  exact ⟨rfl, below_stepK HW9.out HBZ.out⟩
end Go.Proofs.YtdfdnjkeiddfjaaDoor
