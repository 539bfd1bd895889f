/-
  hearsaylaw25: made: its walk.
-/
import Derived.Test.YtdfdnjkeiddfjaaDoorSL7
namespace Go.Proofs.YtdfdnjkeiddfjaaDoor
open Go.RowKit
attribute [local go_sem ↓] Go.wp_at_zero Go.wp_at_succ

theorem mkD_eq (d : SdO) : Hid (mkD d = ⟨(mkI d : Int) + 1, if inS (mkP d) 119 = true then ctL d.who else ⟨#[]⟩, if inS (mkP d) 111 = true then ctL d.too else ⟨#[]⟩, if inS (mkP d) 116 = true then ctL d.tx else ⟨#[]⟩, if inS (mkP d) 110 = true then d.n else 0, if inS (mkP d) 109 = true then d.m else 0, if inS (mkP d) 107 = true then d.q else 0⟩) := rfl
theorem mkB_eq (d : SdO) (b : ByteArray) : Hid (mkB d b = if inS (mkP d) 98 = true then ctL b else ⟨#[]⟩) := rfl
def zcS : Array Value := #[.int .i64 0, .string ⟨#[]⟩, .string ⟨#[]⟩, .string ⟨#[]⟩, .slice none 0 0, .int .i64 0, .int .i64 0, .int .i64 0]
theorem LbW.set4 {F : Nat → Prop} {g i : Nat} {w : World} {v u : Value} {l : List Int} (h : LbW F w v l) (hg : ∀ b, F b → b ≠ g) : LbW F (w.setCell ⟨g, i, none⟩ u) v l :=
  h.same (Below.setCell (Below.refl g w) (p := ⟨g, i, none⟩) (Nat.le_refl _) u).size fun b _ hb => heap_setCell_other _ _ _ _ (hg b hb)
/-- made's three boxes: what came in, the answer's, the step's. -/
structure MkS (w : World) (g1 g2 g4 : Nat) (c1 c4 : Array Value) (wx : World) : Prop where
  d : BlkK wx g1 c1 24
  r : BlkK wx g2 zcS 24
  m : BlkK wx g4 c4 24
  b : Below w.heap.size w wx
theorem MkS.set {w wx : World} {g1 g2 g4 : Nat} {c1 c4 : Array Value} (h : MkS w g1 g2 g4 c1 c4 wx) (h1 : g1 ≠ g4) (h2 : g2 ≠ g4) (hw : w.heap.size ≤ g4) (i : Nat) (v : Value) : MkS w g1 g2 g4 c1 (c4.setIfInBounds i v) (wx.setCell ⟨g4, i, none⟩ v) :=
  ⟨h.d.other h1, h.r.other h2, heap_setCell_same _ _ _ _ _ _ h.m, h.b.setCell hw _⟩
theorem MkS.later {w wx wy : World} {g1 g2 g4 : Nat} {c1 c4 : Array Value} (h : MkS w g1 g2 g4 c1 c4 wx) (hb : Below wx.heap.size wx wy) : MkS w g1 g2 g4 c1 c4 wy :=
  ⟨h.d.later hb, h.r.later hb, h.m.later hb, below_stepK h.b hb⟩
/-- What made answers. -/
def MdQ (w : World) (d : SdO) (b : ByteArray) (e : Ending) (w' : World) : Prop := ∃ a c, e = .returned (d.v a b.size c) ∧ LbW (fun _ => True) w' (.slice a b.size c) (blK b) ∧ Below w.heap.size w w'
set_option maxRecDepth 20000 in
set_option maxHeartbeats 8000000 in
theorem madeL_any (d : SdO) (b : ByteArray) (a : Option Addr) (c : Nat) (w : World) (hb : LbW (fun _ => True) w (.slice a b.size c) (blK b)) : Calls Tryd.prog 13 #[d.v a b.size c] w (MdQ w (mkD d) (mkB d b)) := by
  have HI := hm7 (mkI_rem d)
  have HL := hm7 (mkI_lt d)
  have HP : Hid (∀ X, Calls Tryd.prog 25 #[.int .i64 ((mkI d : Int) + 1)] X fun e w' => e = .returned (.tuple #[.string (rwS.getD (mkI d) zrS).x, .string (mkP d)]) ∧ Below X.heap.size X w') := fun X => partsL_any (mkI d) (mkI_lt d) X
  have HH := hm7 (rw_has (mkI_lt d))
  have HIN : Hid (∀ (X : World) (p : Int) (r : Bool), inS (mkP d) p = r → Calls Tryd.prog 26 #[.string (mkP d), .int .u8 p] X fun e w' => e = .returned (.bool r) ∧ w' = X) := fun X p r h => by rw [← h]; exact hasL_any (mkP d) p (by have := (rw_le (mkI d)).2; unfold mkP; omega) X
  have HCT : Hid (∀ (X : World) (s : ByteArray), Calls Tryd.prog 19 #[.string s] X fun e w' => e = .returned (.string (ctL s)) ∧ w' = X) := fun X s => cutT_any s X
  have HMD := mkD_eq d
  have HMB := mkB_eq d b
  obtain ⟨D, hD⟩ : ∃ D, mkD d = D := ⟨_, rfl⟩
  obtain ⟨B, hB⟩ : ∃ B, mkB d b = B := ⟨_, rfl⟩
  obtain ⟨I, hI⟩ : ∃ I, mkI d = I := ⟨_, rfl⟩
  obtain ⟨P, hP⟩ : ∃ P, mkP d = P := ⟨_, rfl⟩
  have HH2 : Hid ([inS P 119, inS P 111, inS P 116, inS P 98, inS P 110, inS P 109, inS P 107] ∈ hasAll) := by rw [← hP]; exact HH.out
  rw [hD] at HMD ⊢
  rw [hB] at HMB ⊢
  rw [hI] at HP HI HL HMD
  rw [hP] at HP HIN HMD HMB
  clear hD hB hI hP HH
  obtain ⟨k, who, too, tx, n, m, q⟩ := d
  simp only at HMD HMB HI
  obtain ⟨r, hr⟩ : ∃ r, Int.tmod k 24 = r := ⟨_, rfl⟩
  rw [hr] at HI
  obtain ⟨W1, hW1⟩ : ∃ W, w.alloc (.cells #[.int .i64 k, .string who, .string too, .string tx, .slice a b.size c, .int .i64 n, .int .i64 m, .int .i64 q] 24) = W := ⟨_, rfl⟩
  obtain ⟨W2, hW2⟩ : ∃ W, W1.alloc (.cells #[.int .i64 0, .string ⟨#[]⟩, .string ⟨#[]⟩, .string ⟨#[]⟩, .slice none 0 0, .int .i64 0, .int .i64 0, .int .i64 0] 24) = W := ⟨_, rfl⟩
  have hb1 : Below w.heap.size w W1 := by rw [← hW1]; exact below1K w _
  have hb2 : Below W1.heap.size W1 W2 := by rw [← hW2]; exact below1K W1 _
  have z1 : W1.heap.size = w.heap.size + 1 := by rw [← hW1]; simp
  have z2 : W2.heap.size = W1.heap.size + 1 := by rw [← hW2]; simp
  have hd1 : BlkK W1 w.heap.size #[.int .i64 k, .string who, .string too, .string tx, .slice a b.size c, .int .i64 n, .int .i64 m, .int .i64 q] 24 := by rw [← hW1]; exact BlkK.new w _ _
  have hr2 : BlkK W2 W1.heap.size #[.int .i64 0, .string ⟨#[]⟩, .string ⟨#[]⟩, .string ⟨#[]⟩, .slice none 0 0, .int .i64 0, .int .i64 0, .int .i64 0] 24 := by rw [← hW2]; exact BlkK.new W1 _ _
  have HD0 := hm7 (hd1.later hb2)
  have HR0 := hm7 hr2
  have hw2 : Below w.heap.size w W2 := hb1.trans (hb2.mono (by omega))
  have HW2 := hm7 hw2
  have HZ := hm7 (And.intro z1 z2)
  have HLB0 := hm7 (hb.below hw2)
  have HLBw := hm7 hb
  have dk1 := cell8 hd1 0 _ rfl
  have dk2 : W2.cell? ⟨w.heap.size, 0, none⟩ = some (.int .i64 k) := cell8 (hd1.later hb2) 0 _ rfl
  clear hb hb1 hb2 z1 z2 hd1 hr2 hw2
  have il : (I : Int) < 24 := by have := HL.out; omega
  have i0 : (0 : Int) ≤ (I : Int) := by omega
  rcases HI.out with ⟨r0, r1⟩ | ⟨r0, r1⟩ <;>
  · go_enter Tryd.func13, Tryd.ntmps13
    go_upto_region 5 with (fail)
    have hm3 := BlkK.new W2 #[.int .i64 ((I : Int) + 1), .string ⟨#[]⟩, .string ⟨#[]⟩, .string ⟨#[]⟩, .slice none 0 0, .int .i64 0, .int .i64 0, .int .i64 0] 24
    have hb3 := below1K W2 (.cells #[.int .i64 ((I : Int) + 1), .string ⟨#[]⟩, .string ⟨#[]⟩, .string ⟨#[]⟩, .slice none 0 0, .int .i64 0, .int .i64 0, .int .i64 0] 24)
    revert hm3 hb3
    generalize W2.alloc (.cells #[.int .i64 ((I : Int) + 1), .string ⟨#[]⟩, .string ⟨#[]⟩, .string ⟨#[]⟩, .slice none 0 0, .int .i64 0, .int .i64 0, .int .i64 0] 24) = W3
    intro hm3 hb3
    have HD := hm7 (HD0.out.later hb3)
    have HR := hm7 (HR0.out.later hb3)
    have HM := hm7 hm3
    have HW3 := hm7 (below_stepK HW2.out hb3)
    have HLB := hm7 (HLB0.out.below hb3)
    have mk0 := cell8 hm3 0 _ rfl
    clear hm3 hb3
    go_upto_region 6 with (go_at_call 25; refine (HP.out _).mono ?_; rintro e W5 ⟨rfl, hb5⟩)
    have hS : MkS w w.heap.size W1.heap.size W2.heap.size #[.int .i64 k, .string who, .string too, .string tx, .slice a b.size c, .int .i64 n, .int .i64 m, .int .i64 q] #[.int .i64 ((I : Int) + 1), .string ⟨#[]⟩, .string ⟨#[]⟩, .string ⟨#[]⟩, .slice none 0 0, .int .i64 0, .int .i64 0, .int .i64 0] W5 := ⟨HD.out.later hb5, HR.out.later hb5, HM.out.later hb5, below_stepK HW3.out hb5⟩
    have HS := hm7 hS
    have HV : Hid (∀ wx, Below w.heap.size w wx → LbW (fun _ => True) wx (.slice a b.size c) (blK b)) := fun wx h => HLBw.out.below h
    clear hb5 hS mk0 dk1 dk2 r0 r1 HR HM HD HW3 HLB
    have n14 : w.heap.size ≠ W2.heap.size := by have := HZ.out; omega
    have n24 : W1.heap.size ≠ W2.heap.size := by have := HZ.out; omega
    have n04 : w.heap.size ≤ W2.heap.size := by have := HZ.out; omega
    have HN := hm7 (And.intro n14 (And.intro n24 n04))
    clear n14 n24 n04
    revert HS
    generalize W5 = wc
    intro HS
    obtain ⟨r1, hr1⟩ : ∃ r, inS P 119 = r := ⟨_, rfl⟩
    obtain ⟨U1, hU1⟩ : ∃ U, (if r1 = true then ctL who else ⟨#[]⟩) = U := ⟨_, rfl⟩
    have HIN1 := hm7 (fun X => HIN.out X 119 r1 hr1)
    have HU1 := hm7 hU1
    have HR1 := hm7 hr1
    clear hr1 hU1
    go_upto_if 24 with (go_at_call 26; refine (HIN1.out _).mono ?_; rintro e w6 ⟨rfl, rfl⟩)
    go_cut [] from 25 (fun wx => MkS w w.heap.size W1.heap.size W2.heap.size #[.int .i64 k, .string who, .string too, .string tx, .slice a b.size c, .int .i64 n, .int .i64 m, .int .i64 q] #[.int .i64 ((I : Int) + 1), .string U1, .string ⟨#[]⟩, .string ⟨#[]⟩, .slice none 0 0, .int .i64 0, .int .i64 0, .int .i64 0] wx)
    case first =>
      cases r1 with
      | true =>
        have hu := HU1.out
        simp only [if_pos] at hu
        subst hu
        have d1 := cell8 HS.out.d 1 _ rfl
        have m1 := cell8 HS.out.m 1 _ rfl
        have f1 := froz8 HS.out.m 1
        go_wp2_with (go_at_call 19; refine (HCT.out _ _).mono ?_; rintro e w6 ⟨rfl, rfl⟩)
        go_meet
        case rel => exact HS.out.set HN.out.1 HN.out.2.1 HN.out.2.2 1 _
      | false =>
        have hu : _ = U1 := (if_neg (by decide)).symm.trans HU1.out
        subst hu
        go_wp2
        go_meet
        case rel => exact HS.out
    case rest =>
      clear HS
      have HS := hm7 hcut
      clear hcut
      obtain ⟨r2, hr2⟩ : ∃ r, inS P 111 = r := ⟨_, rfl⟩
      obtain ⟨U2, hU2⟩ : ∃ U, (if r2 = true then ctL too else ⟨#[]⟩) = U := ⟨_, rfl⟩
      have HIN2 := hm7 (fun X => HIN.out X 111 r2 hr2)
      have HU2 := hm7 hU2
      have HR2 := hm7 hr2
      clear hr2 hU2
      go_upto_if 30 with (go_at_call 26; refine (HIN2.out _).mono ?_; rintro e w6 ⟨rfl, rfl⟩)
      go_cut [] from 31 (fun wx => MkS w w.heap.size W1.heap.size W2.heap.size #[.int .i64 k, .string who, .string too, .string tx, .slice a b.size c, .int .i64 n, .int .i64 m, .int .i64 q] #[.int .i64 ((I : Int) + 1), .string U1, .string U2, .string ⟨#[]⟩, .slice none 0 0, .int .i64 0, .int .i64 0, .int .i64 0] wx)
      case first =>
        cases r2 with
        | true =>
          have hu := HU2.out
          simp only [if_pos] at hu
          subst hu
          have d1 := cell8 HS.out.d 2 _ rfl
          have m1 := cell8 HS.out.m 2 _ rfl
          have f1 := froz8 HS.out.m 2
          go_wp2_with (go_at_call 19; refine (HCT.out _ _).mono ?_; rintro e w6 ⟨rfl, rfl⟩)
          go_meet
          case rel => exact HS.out.set HN.out.1 HN.out.2.1 HN.out.2.2 2 _
        | false =>
          have hu : _ = U2 := (if_neg (by decide)).symm.trans HU2.out
          subst hu
          go_wp2
          go_meet
          case rel => exact HS.out
      case rest =>
        clear HS
        have HS := hm7 hcut
        clear hcut
        obtain ⟨r3, hr3⟩ : ∃ r, inS P 116 = r := ⟨_, rfl⟩
        obtain ⟨U3, hU3⟩ : ∃ U, (if r3 = true then ctL tx else ⟨#[]⟩) = U := ⟨_, rfl⟩
        have HIN3 := hm7 (fun X => HIN.out X 116 r3 hr3)
        have HU3 := hm7 hU3
        have HR3 := hm7 hr3
        clear hr3 hU3
        go_upto_if 36 with (go_at_call 26; refine (HIN3.out _).mono ?_; rintro e w6 ⟨rfl, rfl⟩)
        go_cut [] from 37 (fun wx => MkS w w.heap.size W1.heap.size W2.heap.size #[.int .i64 k, .string who, .string too, .string tx, .slice a b.size c, .int .i64 n, .int .i64 m, .int .i64 q] #[.int .i64 ((I : Int) + 1), .string U1, .string U2, .string U3, .slice none 0 0, .int .i64 0, .int .i64 0, .int .i64 0] wx)
        case first =>
          cases r3 with
          | true =>
            have hu := HU3.out
            simp only [if_pos] at hu
            subst hu
            have d1 := cell8 HS.out.d 3 _ rfl
            have m1 := cell8 HS.out.m 3 _ rfl
            have f1 := froz8 HS.out.m 3
            go_wp2_with (go_at_call 19; refine (HCT.out _ _).mono ?_; rintro e w6 ⟨rfl, rfl⟩)
            go_meet
            case rel => exact HS.out.set HN.out.1 HN.out.2.1 HN.out.2.2 3 _
          | false =>
            have hu : _ = U3 := (if_neg (by decide)).symm.trans HU3.out
            subst hu
            go_wp2
            go_meet
            case rel => exact HS.out
        case rest =>
          clear HS
          have HS := hm7 hcut
          clear hcut
          obtain ⟨r4, hr4⟩ : ∃ r, inS P 98 = r := ⟨_, rfl⟩
          obtain ⟨U4, hU4⟩ : ∃ U, (if r4 = true then ctL b else ⟨#[]⟩) = U := ⟨_, rfl⟩
          have HIN4 := hm7 (fun X => HIN.out X 98 r4 hr4)
          have HU4 := hm7 hU4
          have HR4 := hm7 hr4
          clear hr4 hU4
          go_upto_if 42 with (go_at_call 26; refine (HIN4.out _).mono ?_; rintro e w6 ⟨rfl, rfl⟩)
          go_cut [] from 43 (fun wx => ∃ (A4 : Option Addr) (N4 : Nat), LbW (fun x => x ≠ W2.heap.size ∧ x ≠ W1.heap.size) wx (.slice A4 U4.size N4) (blK U4) ∧ MkS w w.heap.size W1.heap.size W2.heap.size #[.int .i64 k, .string who, .string too, .string tx, .slice a b.size c, .int .i64 n, .int .i64 m, .int .i64 q] #[.int .i64 ((I : Int) + 1), .string U1, .string U2, .string U3, .slice A4 U4.size N4, .int .i64 0, .int .i64 0, .int .i64 0] wx)
          case first =>
            cases r4 with
            | true =>
              have hu := HU4.out
              simp only [if_pos] at hu
              subst hu
              have d1 := cell8 HS.out.d 4 _ rfl
              have hv := convL (HV.out w6 HS.out.b)
              have hcv := conv_str w6 (ctL b)
              obtain ⟨X, hX⟩ : ∃ X, Lib.bytesWorld w6 5 (ctL b) = X := ⟨_, rfl⟩
              obtain ⟨N, hNN⟩ : ∃ N, grownCap w6 (ctL b).size 0 5 = N := ⟨_, rfl⟩
              have hbx : Below w6.heap.size w6 X := by rw [← hX]; exact below_conv w6 _
              have hY : OwY X w6.heap.size (.slice (some ⟨w6.heap.size, 0, none⟩) (ctL b).size N) (blK (ctL b)) := by rw [← hX, ← hNN]; exact OwY.conv w6 _ (by have := ctL_size b; omega)
              rw [hX, hNN] at hcv
              have hSX := HS.out.later hbx
              have m1 := cell8 hSX.m 4 _ rfl
              have f1 := froz8 hSX.m 4
              have hlt : W2.heap.size < w6.heap.size := HS.out.m.lt
              have hlt1 : W1.heap.size < w6.heap.size := HS.out.r.lt
              have HSX := hm7 hSX
              have HYL := hm7 (hY.set (i := 4) (u := .slice (some ⟨w6.heap.size, 0, none⟩) (ctL b).size N) hlt)
              have HLT := hm7 (And.intro hlt hlt1)
              clear hlt1 hX hNN hbx hY hSX hlt
              go_wp2_with (go_at_call 19; refine (HCT.out _ _).mono ?_; rintro e w7 ⟨rfl, rfl⟩)
              go_meet
              case rel => exact ⟨_, _, (HYL.out.lb (bl_bytW _)).mono fun x _ hx => by have := HLT.out.1; have := HLT.out.2; have := hx.1; exact ⟨by omega, by omega⟩, HSX.out.set HN.out.1 HN.out.2.1 HN.out.2.2 4 _⟩
            | false =>
              have hu : _ = U4 := (if_neg (by decide)).symm.trans HU4.out
              subst hu
              go_wp2
              go_meet
              case rel => exact ⟨_, _, LbW.nil _ _, HS.out⟩
          case rest =>
            clear HS
            obtain ⟨A4, N4, hl, hs⟩ := hcut
            have HLV := hm7 hl
            have HS := hm7 hs
            clear hl hs
            obtain ⟨r5, hr5⟩ : ∃ r, inS P 110 = r := ⟨_, rfl⟩
            obtain ⟨U5, hU5⟩ : ∃ U, (if r5 = true then n else 0) = U := ⟨_, rfl⟩
            have HIN5 := hm7 (fun X => HIN.out X 110 r5 hr5)
            have HU5 := hm7 hU5
            have HR5 := hm7 hr5
            clear hr5 hU5
            go_upto_if 50 with (go_at_call 26; refine (HIN5.out _).mono ?_; rintro e w6 ⟨rfl, rfl⟩)
            go_cut [] from 51 (fun wx => LbW (fun x => x ≠ W2.heap.size ∧ x ≠ W1.heap.size) wx (.slice A4 U4.size N4) (blK U4) ∧ MkS w w.heap.size W1.heap.size W2.heap.size #[.int .i64 k, .string who, .string too, .string tx, .slice a b.size c, .int .i64 n, .int .i64 m, .int .i64 q] #[.int .i64 ((I : Int) + 1), .string U1, .string U2, .string U3, .slice A4 U4.size N4, .int .i64 U5, .int .i64 0, .int .i64 0] wx)
            case first =>
              cases r5 with
              | true =>
                have hu := HU5.out
                simp only [if_pos] at hu
                subst hu
                have d1 := cell8 HS.out.d 5 _ rfl
                have m1 := cell8 HS.out.m 5 _ rfl
                have f1 := froz8 HS.out.m 5
                go_wp2
                go_meet
                case rel => exact ⟨HLV.out.set4 fun _ h => h.1, HS.out.set HN.out.1 HN.out.2.1 HN.out.2.2 5 _⟩
              | false =>
                have hu : _ = U5 := (if_neg (by decide)).symm.trans HU5.out
                subst hu
                go_wp2
                go_meet
                case rel => exact ⟨HLV.out, HS.out⟩
            case rest =>
              clear HS
              clear HLV
              obtain ⟨hl, hs⟩ := hcut
              have HLV := hm7 hl
              have HS := hm7 hs
              clear hl hs
              obtain ⟨r6, hr6⟩ : ∃ r, inS P 109 = r := ⟨_, rfl⟩
              obtain ⟨U6, hU6⟩ : ∃ U, (if r6 = true then m else 0) = U := ⟨_, rfl⟩
              have HIN6 := hm7 (fun X => HIN.out X 109 r6 hr6)
              have HU6 := hm7 hU6
              have HR6 := hm7 hr6
              clear hr6 hU6
              go_upto_if 55 with (go_at_call 26; refine (HIN6.out _).mono ?_; rintro e w6 ⟨rfl, rfl⟩)
              go_cut [] from 56 (fun wx => LbW (fun x => x ≠ W2.heap.size ∧ x ≠ W1.heap.size) wx (.slice A4 U4.size N4) (blK U4) ∧ MkS w w.heap.size W1.heap.size W2.heap.size #[.int .i64 k, .string who, .string too, .string tx, .slice a b.size c, .int .i64 n, .int .i64 m, .int .i64 q] #[.int .i64 ((I : Int) + 1), .string U1, .string U2, .string U3, .slice A4 U4.size N4, .int .i64 U5, .int .i64 U6, .int .i64 0] wx)
              case first =>
                cases r6 with
                | true =>
                  have hu := HU6.out
                  simp only [if_pos] at hu
                  subst hu
                  have d1 := cell8 HS.out.d 6 _ rfl
                  have m1 := cell8 HS.out.m 6 _ rfl
                  have f1 := froz8 HS.out.m 6
                  go_wp2
                  go_meet
                  case rel => exact ⟨HLV.out.set4 fun _ h => h.1, HS.out.set HN.out.1 HN.out.2.1 HN.out.2.2 6 _⟩
                | false =>
                  have hu : _ = U6 := (if_neg (by decide)).symm.trans HU6.out
                  subst hu
                  go_wp2
                  go_meet
                  case rel => exact ⟨HLV.out, HS.out⟩
              case rest =>
                clear HS
                clear HLV
                obtain ⟨hl, hs⟩ := hcut
                have HLV := hm7 hl
                have HS := hm7 hs
                clear hl hs
                obtain ⟨r7, hr7⟩ : ∃ r, inS P 107 = r := ⟨_, rfl⟩
                obtain ⟨U7, hU7⟩ : ∃ U, (if r7 = true then q else 0) = U := ⟨_, rfl⟩
                have HIN7 := hm7 (fun X => HIN.out X 107 r7 hr7)
                have HU7 := hm7 hU7
                have HR7 := hm7 hr7
                clear hr7 hU7
                go_upto_if 60 with (go_at_call 26; refine (HIN7.out _).mono ?_; rintro e w6 ⟨rfl, rfl⟩)
                go_cut [] from 61 (fun wx => LbW (fun x => x ≠ W2.heap.size ∧ x ≠ W1.heap.size) wx (.slice A4 U4.size N4) (blK U4) ∧ MkS w w.heap.size W1.heap.size W2.heap.size #[.int .i64 k, .string who, .string too, .string tx, .slice a b.size c, .int .i64 n, .int .i64 m, .int .i64 q] #[.int .i64 ((I : Int) + 1), .string U1, .string U2, .string U3, .slice A4 U4.size N4, .int .i64 U5, .int .i64 U6, .int .i64 U7] wx)
                case first =>
                  cases r7 with
                  | true =>
                    have hu := HU7.out
                    simp only [if_pos] at hu
                    subst hu
                    have d1 := cell8 HS.out.d 7 _ rfl
                    have m1 := cell8 HS.out.m 7 _ rfl
                    have f1 := froz8 HS.out.m 7
                    go_wp2
                    go_meet
                    case rel => exact ⟨HLV.out.set4 fun _ h => h.1, HS.out.set HN.out.1 HN.out.2.1 HN.out.2.2 7 _⟩
                  | false =>
                    have hu : _ = U7 := (if_neg (by decide)).symm.trans HU7.out
                    subst hu
                    go_wp2
                    go_meet
                    case rel => exact ⟨HLV.out, HS.out⟩
                case rest =>
                  clear HS
                  clear HLV
                  obtain ⟨hl, hs⟩ := hcut
                  have HLV := hm7 hl
                  have HS := hm7 hs
                  clear hl hs
                  have d0 := cell8 HS.out.m 0 _ rfl
                  have d1 := cell8 HS.out.m 1 _ rfl
                  have d2 := cell8 HS.out.m 2 _ rfl
                  have d3 := cell8 HS.out.m 3 _ rfl
                  have d4 := cell8 HS.out.m 4 _ rfl
                  have d5 := cell8 HS.out.m 5 _ rfl
                  have d6 := cell8 HS.out.m 6 _ rfl
                  have d7 := cell8 HS.out.m 7 _ rfl
                  have x0 := cell8 HS.out.r 0 (.int .i64 0) rfl
                  have s0 := froz8 HS.out.r 0
                  have x1 := cell8 HS.out.r 1 (.string ⟨#[]⟩) rfl
                  have s1 := froz8 HS.out.r 1
                  have x2 := cell8 HS.out.r 2 (.string ⟨#[]⟩) rfl
                  have s2 := froz8 HS.out.r 2
                  have x3 := cell8 HS.out.r 3 (.string ⟨#[]⟩) rfl
                  have s3 := froz8 HS.out.r 3
                  have x4 := cell8 HS.out.r 4 (.slice none 0 0) rfl
                  have s4 := froz8 HS.out.r 4
                  have x5 := cell8 HS.out.r 5 (.int .i64 0) rfl
                  have s5 := froz8 HS.out.r 5
                  have x6 := cell8 HS.out.r 6 (.int .i64 0) rfl
                  have s6 := froz8 HS.out.r 6
                  have x7 := cell8 HS.out.r 7 (.int .i64 0) rfl
                  have s7 := froz8 HS.out.r 7
                  have hD : D = ⟨(I : Int) + 1, U1, U2, U3, U5, U6, U7⟩ := by rw [HMD.out, HR1.out, HR2.out, HR3.out, HR5.out, HR6.out, HR7.out, HU1.out, HU2.out, HU3.out, HU5.out, HU6.out, HU7.out]
                  have hB : B = U4 := by rw [HMB.out, HR4.out, HU4.out]
                  have HDD := hm7 hD
                  have HBB := hm7 hB
                  clear hD hB
                  go_wp2
                  refine bodyPost_ret (ret_dS rfl _ _ W1.heap.size _ rfl (store8 (show BlkK _ _ #[.int .i64 0, .string ⟨#[]⟩, .string ⟨#[]⟩, .string ⟨#[]⟩, .slice none 0 0, .int .i64 0, .int .i64 0, .int .i64 0] _ from HS.out.r)) ⟨_, _, _, _, _, _, _, _, rfl⟩) rfl ?_
                  refine ⟨A4, N4, ?_, ?_, ?_⟩
                  · rw [HDD.out, HBB.out]
                  · rw [HBB.out]
                    have hg : ∀ b, (b ≠ W2.heap.size ∧ b ≠ W1.heap.size) → b ≠ W1.heap.size := fun b h => h.2
                    exact ((((((((HLV.out.set4 hg).set4 hg).set4 hg).set4 hg).set4 hg).set4 hg).set4 hg).set4 hg).mono fun _ _ _ => trivial
                  · have hw : w.heap.size ≤ W1.heap.size := by have := HZ.out; omega
                    exact (((((((HS.out.b.setCell hw _).setCell hw _).setCell hw _).setCell hw _).setCell hw _).setCell hw _).setCell hw _).setCell hw _
end Go.Proofs.YtdfdnjkeiddfjaaDoor
