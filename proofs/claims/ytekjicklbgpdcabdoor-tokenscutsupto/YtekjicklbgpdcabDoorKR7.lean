/-
  hearsaylaw04.TokensCuts: the walk.
-/
import Derived.Test.YtekjicklbgpdcabDoorKR5
import Derived.Test.YtekjicklbgpdcabDoorK41
namespace Go.Proofs.YtekjicklbgpdcabDoor
open Go.RowKit

theorem run_neq_ft (e p : Int) (w : World) : (binOp .neq 25 (.agg #[.int .i64 e, .int .i64 p]) (.agg #[.int .i64 e, .int .i64 p])).run Tryd.prog w = .ok (.bool false) w := by
  go_simp
theorem OwnK.set2 {w : World} {base g : Nat} {k : Value} {ws : List Tk} (e p : Int) (hK : OwnK w base k ws) (hg : g < base) : OwnK (fw2 w g e p) base k ws := by
  have hne : k.ownBlock ≠ some g := fun h => by have := (World.ownsRow.lt hK g h).1; omega
  exact (hK.setT hne).setT hne
theorem Blk.set2 {w : World} {g : Nat} {e p e' p' : Int} (h : Blk w g (fcs e p) 25) : Blk (fw2 w g e' p') g (fcs e' p') 25 := store2 h
theorem Blk.off2 {w : World} {g k : Nat} {e' p' : Int} {c : Array Value} {t : TypeId} (h : Blk w k c t) (hne : k ≠ g) : Blk (fw2 w g e' p') k c t := (h.other hne).other hne
theorem bel_set2 {B : Nat} {a w : World} (h : Below B a w) {g : Nat} (hg : B ≤ g) (e p : Int) : Below B a (fw2 w g e p) := (h.setCell hg _).setCell hg _
theorem cut_len (s : ByteArray) (most : Int) : (cutL (bl s) most).1.length ≤ s.size := by
  unfold cutL
  split
  · simp
  · have := ct_count ((bl s).length + 1) (bl s) 0 []
    rw [bl_len] at this ⊢
    simpa using this
set_option maxRecDepth 20000 in
set_option maxHeartbeats 4000000 in
theorem cuts_any (s : ByteArray) (most : Int) (h : List Int) (u : Value) (w : World) (hu : Js w u h) (hE : EnvOk w) (hQ : QOk w) (hs : s.size ≤ 1048576) (hh : h.length ≤ 2000000) :
    Calls Tryd.prog 5 #[.string s, .int .i64 most, u] w fun e w' => e = .returned (.bool true) ∧ Below w.heap.size w w' := by
  have HE : Hid (EnvOk w) := hE
  have HQ : Hid (QOk w) := hQ
  have ch := fun (X : World) (h : EnvOk X) => head_any X h
  have cc1 := cut_any s most (by omega) w hE
  have cc2 := fun (X : World) (h : QOk X) => qcut_any s most (by omega) X h
  have hlen := cut_len s most
  obtain ⟨⟨T, e, p⟩, hR⟩ : ∃ R, cutL (bl s) most = R := ⟨_, rfl⟩
  rw [hR] at cc1 cc2 hlen
  have hTl : T.length ≤ s.size := hlen
  have hnf := run_neq_ft e p
  obtain ⟨ua, uc, rfl, hum⟩ := hu
  have HUM : Hid (h = [] ∨ ∃ b o, ua = some ⟨b, o, none⟩ ∧ b < w.heap.size ∧ ∀ (i : Nat) (x : Int), h[i]? = some x → w.cell? ⟨b, o + i, none⟩ = some (.int .i64 x)) := hum
  clear hE hQ hR hum hlen
  go_enter Tryd.func5, Tryd.ntmps5
  go_upto_region 2 with (go_at_call 8; refine cc1.mono ?_; rintro x w1 ⟨v1, rfl, ho1, hb1⟩)
  have bx := below1 w1 (.cells #[.int .i64 e, .int .i64 p] 25)
  have fx := Blk.new w1 #[.int .i64 e, .int .i64 p] 25
  have hk1 := ho1.later bx
  obtain ⟨B1, hB1⟩ : ∃ B, w1.heap.size = B := ⟨_, rfl⟩
  have hB1b : w.heap.size ≤ B1 := by rw [← hB1]; exact hb1.size
  rw [hB1] at fx ⊢
  revert bx hk1 fx
  generalize w1.alloc (.cells #[.int .i64 e, .int .i64 p] 25) = W1
  intro bx hk1 fx
  have HB1 : Hid (Below w.heap.size w W1) := below_step hb1 bx
  have HF1 : Hid (Blk W1 B1 (fcs e p) 25) := fx
  have HK1 : Hid (Ks W1 v1 T) := hk1.ks
  clear bx fx ho1 hb1 hk1 cc1 hB1
  go_upto_region 3 with (go_at_call 16; refine (cc2 _ (HQ.out.later HB1.out)).mono ?_; rintro x w2 ⟨v2, rfl, ho2, hb2⟩)
  have bx := below1 w2 (.cells #[.int .i64 e, .int .i64 p] 25)
  have fx := Blk.new w2 #[.int .i64 e, .int .i64 p] 25
  have hk2 := ho2.later bx
  obtain ⟨B2, hB2⟩ : ∃ B, w2.heap.size = B := ⟨_, rfl⟩
  have hB12 : B1 < B2 := by rw [← hB2]; have := HF1.out.lt; have := hb2.size; omega
  rw [hB2] at fx ⊢
  revert bx hk2 fx
  generalize w2.alloc (.cells #[.int .i64 e, .int .i64 p] 25) = W2
  intro bx hk2 fx
  have h12 := below_step hb2 bx
  have HB2 : Hid (Below w.heap.size w W2) := below_step HB1.out h12
  have HF12 : Hid (Blk W2 B1 (fcs e p) 25) := HF1.out.later h12
  have HF22 : Hid (Blk W2 B2 (fcs e p) 25) := fx
  have HK12 : Hid (Ks W2 v1 T) := HK1.out.later h12
  have HK22 : Hid (Ks W2 v2 T) := hk2.ks
  clear bx fx ho2 hb2 hk2 cc2 hB2 h12 HF1 HK1 HB1
  obtain ⟨a0, a1, -, -⟩ := two HF12.out
  obtain ⟨b0, b1, -, -⟩ := two HF22.out
  go_upto_region 5 with (go_at_call 13; refine (same_any T v1 v2 _ HK12.out HK22.out (by omega)).mono ?_; rintro x w3 ⟨rfl, hb3⟩)
  have HB3 : Hid (Below w.heap.size w w3) := below_step HB2.out hb3
  have HF13 : Hid (Blk w3 B1 (fcs e p) 25) := HF12.out.later hb3
  have HF23 : Hid (Blk w3 B2 (fcs e p) 25) := HF22.out.later hb3
  clear a0 a1 b0 b1 hb3 HF12 HF22 HK12 HK22 HB2 hnf
  go_wp2
  go_loopg [7, 9, 11, 12] h.length (fun g _ _ i _ wr => ∃ (j : Nat) (e p e' p' : Int), j + g = h.length ∧ i = .int .i64 (j : Int) ∧ Blk wr B1 (fcs e p) 25 ∧ Blk wr B2 (fcs e' p') 25 ∧ Below w.heap.size w wr)
  case atStart => exact ⟨0, e, p, e, p, by omega, rfl, HF13.out, HF23.out, HB3.out⟩
  case round =>
    obtain ⟨j, e1, p1, e2, p2, hj, rfl, hf1, hf2, hbr⟩ := hrel
    have HBr : Hid (Below w.heap.size w wr) := hbr
    have HF1 : Hid (Blk wr B1 (fcs e1 p1) 25) := hf1
    have HF2 : Hid (Blk wr B2 (fcs e2 p2) 25) := hf2
    clear HF13 HF23 HB3 hTl
    cases gk with
    | succ g =>
      have hlt : j < h.length := by omega
      have i0 : (0 : Int) ≤ (j : Int) := by omega
      have i1 : (j : Int) < (h.length : Int) := by omega
      obtain ⟨x, hx⟩ : ∃ x, h[j]? = some x := ⟨_, List.getElem?_eq_getElem hlt⟩
      rcases HUM.out with hnil | ⟨b, o, rfl, hbl, hum⟩
      · rw [hnil] at hlt; simp at hlt
      have cx : wr.cell? ⟨b, o + j, none⟩ = some (.int .i64 x) := cell_step hbr hbl (hum j x hx)
      clear hum hx hbl hbr hf1 hf2
      by_cases q1 : x < 0
      · go_wp2
        go_roundg g
        case measure => omega
        case rel => exact ⟨j + 1, e1, p1, e2, p2, by omega, by go_num, HF1.out, HF2.out, HBr.out⟩
      · by_cases q2 : (s.size : Int) < x
        · go_wp2
          go_roundg g
          case measure => omega
          case rel => exact ⟨j + 1, e1, p1, e2, p2, by omega, by go_num, HF1.out, HF2.out, HBr.out⟩
        · have q3 : 0 ≤ x := by omega
          have q4 : x ≤ (s.size : Int) := by omega
          have hsz : (s.extract 0 x.toNat).size ≤ s.size := by rw [extract_eq, ofL_size, List.length_take, List.length_drop, bl_len]; omega
          obtain ⟨S, hS⟩ : ∃ S, s.extract 0 x.toNat = S := ⟨_, rfl⟩
          rw [hS] at hsz
          have d1 := fun (X : World) (h : EnvOk X) => cut_any S S.size (by omega) X h
          have d2 := fun (X : World) (h : QOk X) => qcut_any S S.size (by omega) X h
          have hlen := cut_len S S.size
          obtain ⟨⟨T, e, p⟩, hR⟩ : ∃ R, cutL (bl S) S.size = R := ⟨_, rfl⟩
          rw [hR] at d1 d2 hlen
          have hTl : T.length ≤ S.size := hlen
          have hnf := run_neq_ft e p
          clear hR hlen
          go_upto_region 10 with fail
          go_upto_region 11 with (go_at_call 8; refine (d1 _ (HE.out.later HBr.out)).mono ?_; rintro x w1 ⟨v1, rfl, ho1, hb1⟩; obtain ⟨y0, y1, z0, z1⟩ := two (HF1.out.later hb1))
          have bW := bel_set2 (below_step HBr.out hb1) hB1b e p
          have fW1 : Blk (fw2 w1 B1 e p) B1 (fcs e p) 25 := (HF1.out.later hb1).set2
          have fW2 : Blk (fw2 w1 B1 e p) B2 (fcs e2 p2) 25 := (HF2.out.later hb1).off2 (by omega)
          have kW := ho1.set2 (g := B1) e p HF1.out.lt
          clear y0 y1 z0 z1
          unfold fw2 at bW fW1 fW2 kW
          revert bW fW1 fW2 kW
          generalize (w1.setCell ⟨B1, 0, none⟩ (.int .i64 e)).setCell ⟨B1, 1, none⟩ (.int .i64 p) = X1
          intro bW fW1 fW2 kW
          have HBX : Hid (Below w.heap.size w X1) := bW
          have HG1 : Hid (Blk X1 B1 (fcs e p) 25) := fW1
          have HG2 : Hid (Blk X1 B2 (fcs e2 p2) 25) := fW2
          have HKX : Hid (OwnK X1 wr.heap.size v1 T) := kW
          clear bW fW1 fW2 kW ho1 hb1 d1
          go_upto_region 12 with (go_at_call 16; refine (d2 _ (HQ.out.later HBX.out)).mono ?_; rintro x w2 ⟨v2, rfl, ho2, hb2⟩; obtain ⟨y0, y1, z0, z1⟩ := two (HG2.out.later hb2))
          have bW := bel_set2 (below_step HBX.out hb2) (g := B2) (by omega) e p
          have fW1 : Blk (fw2 w2 B2 e p) B1 (fcs e p) 25 := (HG1.out.later hb2).off2 (by omega)
          have fW2 : Blk (fw2 w2 B2 e p) B2 (fcs e p) 25 := (HG2.out.later hb2).set2
          have kW1 := (HKX.out.later hb2).set2 (g := B2) e p HF2.out.lt
          have kW2 := ho2.set2 (g := B2) e p HG2.out.lt
          clear y0 y1 z0 z1
          unfold fw2 at bW fW1 fW2 kW1 kW2
          revert bW fW1 fW2 kW1 kW2
          generalize (w2.setCell ⟨B2, 0, none⟩ (.int .i64 e)).setCell ⟨B2, 1, none⟩ (.int .i64 p) = X2
          intro bW fW1 fW2 kW1 kW2
          have HBY : Hid (Below w.heap.size w X2) := bW
          have HH1 : Hid (Blk X2 B1 (fcs e p) 25) := fW1
          have HH2 : Hid (Blk X2 B2 (fcs e p) 25) := fW2
          have HY1 : Hid (Ks X2 v1 T) := kW1.ks
          have HY2 : Hid (Ks X2 v2 T) := kW2.ks
          obtain ⟨y0, y1, -, -⟩ := two fW1
          obtain ⟨z0, z1, -, -⟩ := two fW2
          clear bW fW1 fW2 kW1 kW2 ho2 hb2 d2 HKX HG1 HG2 HBX cx
          go_wp2_with (go_at_call 13; refine (same_any T v1 v2 _ HY1.out HY2.out (by omega)).mono ?_; rintro x w3 ⟨rfl, hb3⟩)
          go_roundg g
          case measure => omega
          case rel => exact ⟨j + 1, e, p, e, p, by omega, by go_num, HH1.out.later hb3, HH2.out.later hb3, below_step HBY.out hb3⟩
    | zero =>
      obtain rfl : j = h.length := by omega
      have hz : ¬ ((h.length : Int) < (h.length : Int)) := by omega
      clear hbr hf1 hf2
      go_wp2_with (go_at_call 9; refine (ch _ (HE.out.later HBr.out)).mono ?_; rintro x w4 ⟨rfl, hb4⟩)
      go_ret
      exact ⟨rfl, below_step HBr.out hb4⟩
end Go.Proofs.YtekjicklbgpdcabDoor
