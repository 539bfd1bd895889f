/-
  wire: law 23: WireLong.
-/
import Derived.Test.YtboomeeipnfbmaaWSA
namespace Go.Proofs.Ytboomeeipnfbmaa
open Go.RowKit
attribute [local go_sem ↓] Go.wp_at_zero Go.wp_at_succ

theorem mkW_any (n : Nat) (hn : n ≤ 281474976710656) (w : World) : ∃ w', (Instr.makeSlice 24 (.int .i64 (n : Int)) (.int .i64 (n : Int))).run Try.prog w = .ok (.slice (some ⟨w.heap.size, 0, none⟩) n n) w' ∧ OwW w' w.heap.size (.slice (some ⟨w.heap.size, 0, none⟩) n n) (List.replicate n 0) ∧ Below w.heap.size w w' := by
  obtain ⟨i, hi, h0, h1, h2⟩ := infoW Try.infoU8W
  obtain ⟨w', r1, r2, r3⟩ := run_make_full (P := Try.prog) w w.heap.size 24 5 i (.int .u8 0) 1 Try.underlying24 hi h0 h1 .i64 .i64 n (by rw [h2]; omega) (by unfold maxLen; omega) (Nat.le_refl _)
  refine ⟨w', r1, ?_, (Fr.grown (P := fun _ => False) r3 fun b hb => by cases hb).below fun _ _ h => h⟩
  unfold OwW
  rw [List.length_replicate]
  have e : (madeCells (Value.cells (.int .u8 0)) (n * 1)).toList = ubW (List.replicate n 0) := by
    rw [Nat.mul_one]
    have : Value.cells (.int .u8 0) = #[.int .u8 0] := rfl
    rw [this, toList_madeCells_one]
    simp [ubW]
  rw [e] at r2
  exact r2
theorem wrap8W (x : Int) : 0 ≤ IntKind.u8.wrap x ∧ IntKind.u8.wrap x ≤ 255 := by
  simp [IntKind.wrap, IntKind.bits, IntKind.signed]
  omega
theorem sndE_ok {s : WrW} {b : List Int} (h1 : b.length ≤ 1048576) (h2 : s.gv < 4096) : sndE s b = 0 := by
  unfold sndE; rw [if_neg (by omega), if_neg (by omega)]
theorem sndS_ok {s : WrW} {b : List Int} (h : sndE s b = 0) : sndS s b = putW s b := by unfold sndS; rw [if_pos h]
theorem sndN_ok {s : WrW} {b : List Int} (h : sndE s b = 0) : sndN s b = ((s.gv + 1 : Nat) : Int) := by unfold sndN; rw [if_pos h]
theorem sndS_no {s : WrW} {b : List Int} (h : sndE s b ≠ 0) : sndS s b = s := by unfold sndS; rw [if_neg h]
theorem sndN_no {s : WrW} {b : List Int} (h : sndE s b ≠ 0) : sndN s b = 0 := by unfold sndN; rw [if_neg h]
theorem sndE_long {s : WrW} {b : List Int} (h : 1048576 < b.length) : sndE s b = 233 := by unfold sndE; rw [if_pos h]
set_option maxRecDepth 20000 in
set_option maxHeartbeats 8000000 in
theorem wireLongW_any (fill : Int) (Y : World) : Calls Try.prog 3 #[.int .i64 fill] Y fun e Y' => e = .returned (.bool true) ∧ Below Y.heap.size Y Y' := by
  obtain ⟨N, hN⟩ : ∃ N : Nat, N = 1048577 := ⟨_, rfl⟩
  have hN1 : Hid (((1048577 : Int)) = (N : Int)) := by show _ = _; omega
  have HN := hm7 hN
  have hN2 : N ≤ 281474976710656 := by omega
  clear hN
  go_enter Try.func3, Try.ntmps3
  go_upto_region 4 with (go_at_call 9; refine (wnewW_any Y.heap.size Y (Nat.le_refl _)).mono ?_; rintro e Y0 ⟨T0, v, rfl, hw, ht, hb⟩; obtain ⟨g, rfl⟩ := hw.ptr; have HW0 := hm7 hw; have HB0 := hm7 hb; clear hw ht hb)
  obtain ⟨Y1, hmk, ho1, hb1⟩ := mkW_any N hN2 Y0
  rw [← hN1.out] at hmk
  have HO1 := hm7 ho1
  have HB1 := hm7 hb1
  have hs1 := hb1.size
  have HT0 := hm7 (WzW.lt HW0.out)
  clear ho1 hb1
  go_wp2
  go_loopg [5] N (fun gg i wr => ∃ (j : Nat) (l : List Int), j + gg = N ∧ i = .int .i64 j ∧ l.length = N ∧ bytW l ∧ OwW wr Y0.heap.size (.slice (some ⟨Y0.heap.size, 0, none⟩) N N) l ∧ Below Y0.heap.size Y0 wr)
  case atStart => exact ⟨0, List.replicate N 0, by omega, rfl, List.length_replicate, (fun x hx => by rw [List.mem_replicate] at hx; omega), HO1.out, HB1.out⟩
  case round =>
    obtain ⟨j, l, hj, rfl, hl, hy, ho, hb⟩ := hrel
    have HO := hm7 ho
    have HB := hm7 hb
    have HL := hm7 hl
    have HY := hm7 hy
    have hsz := hb.size
    cases gk with
    | succ gg =>
      have hlt : (j : Int) < (N : Int) := by omega
      have j0 : (0 : Int) ≤ (j : Int) := by omega
      obtain ⟨x, hx⟩ : ∃ x, l[j]? = some x := ⟨_, List.getElem?_eq_getElem (by omega)⟩
      have ho2 := ho
      unfold OwW at ho2
      rw [hl] at ho2
      obtain ⟨_, e9, -, -, q0, q1⟩ := row7_at ho2 (i := j) (u := .int .u8 x) (by simp [ubW, hx])
      cases e9
      clear ho hb hl hy ho2 hx hmk
      go_wp2
      go_roundg gg
      case measure => omega
      case rel =>
        refine ⟨j + 1, l.set j _, by omega, by go_num, by rw [List.length_set]; exact HL.out, ?_, HO.out.put HL.out, HB.out.setCell (p := ⟨Y0.heap.size, j, none⟩) (Nat.le_refl _) _⟩
        intro y hy
        rcases List.mem_or_eq_of_mem_set hy with hy | rfl
        · exact HY.out y hy
        · exact wrap8W _
    | zero =>
      have hlt : ¬ (j : Int) < (N : Int) := by omega
      have hN := HN.out
      obtain ⟨b1, hb1⟩ : ∃ b1, l.take 1048576 = b1 := ⟨_, rfl⟩
      obtain ⟨b3, hb3⟩ : ∃ b3, l.take 1 = b3 := ⟨_, rfl⟩
      have hl1 : b1.length = 1048576 := by rw [← hb1, List.length_take]; omega
      have hl3 : b3.length = 1 := by rw [← hb3, List.length_take]; omega
      have hlb := ho.lb hy
      have hlb1 := hlb.take (k := 1048576) (by omega)
      have hlb3 := hlb.take (k := 1) (by omega)
      rw [hb1] at hlb1
      rw [hb3] at hlb3
      have f1 : sndE ⟨[], 0⟩ b1 = 0 := sndE_ok (by omega) (by simp)
      have f2 : sndS ⟨[], 0⟩ b1 = putW ⟨[], 0⟩ b1 := sndS_ok f1
      have f3 : sndN ⟨[], 0⟩ b1 = 1 := sndN_ok f1
      have g1 : sndE (putW ⟨[], 0⟩ b1) l = 233 := sndE_long (by omega)
      have g2 : sndS (putW ⟨[], 0⟩ b1) l = putW ⟨[], 0⟩ b1 := sndS_no (by rw [g1]; decide)
      have g3 : sndN (putW ⟨[], 0⟩ b1) l = 0 := sndN_no (by rw [g1]; decide)
      have k1 : sndE (putW ⟨[], 0⟩ b1) b3 = 0 := sndE_ok (by omega) (by simp [putW])
      have k2 : sndS (putW ⟨[], 0⟩ b1) b3 = putW (putW ⟨[], 0⟩ b1) b3 := sndS_ok k1
      have k3 : sndN (putW ⟨[], 0⟩ b1) b3 = 2 := sndN_ok k1
      have m1 : lokE (putW (putW ⟨[], 0⟩ b1) b3) 1 = 0 := rfl
      have m2 : byW (putW (putW ⟨[], 0⟩ b1) b3) 1 = b1 := rfl
      have hF : ∀ T : Nat → Prop, (∀ x, T x → T0 x ∨ wr.heap.size ≤ x) → ∀ x, T x → ¬ (Y0.heap.size ≤ x ∧ (Value.slice (some ⟨Y0.heap.size, 0, none⟩) N N).ownBlock = some x) := fun T hT x hx hF => by
        obtain ⟨h1, h2⟩ := hF
        simp only [Value.ownBlock, Option.some.injEq] at h2
        obtain rfl : Y0.heap.size = x := h2
        have hlt9 : Y0.heap.size < wr.heap.size := (World.ownsRow.lt ho Y0.heap.size rfl).2
        have hT9 : ∀ z, T0 z → z < Y0.heap.size := HT0.out
        rcases hT _ hx with h | h
        · exact absurd (hT9 _ h) (Nat.lt_irrefl _)
        · exact absurd (Nat.lt_of_lt_of_le hlt9 h) (Nat.lt_irrefl _)
      have HF := hm7 hF
      have HL1 := hm7 hlb1
      have HL := hm7 hlb
      have HL3 := hm7 hlb3
      have HW := hm7 (HW0.out.below hb)
      have HBW : Hid (Below Y.heap.size Y wr) := HB0.out.trans (hb.mono HB0.out.size)
      have i1 : (1048576 : Int) ≤ (N : Int) := by omega
      have i2 : (1 : Int) ≤ (N : Int) := by omega
      clear ho hb hl hy hlb hlb1 hlb3 hF hmk hb1 hb3 hN
      go_upto_region 10 with (go_at_call 10; refine (wsendW_any HW.out HL1.out (HF.out T0 fun x h => Or.inl h)).mono ?_; rintro e Y3 ⟨hret, hq⟩; rw [f3, f1] at hret; rw [f2] at hq; obtain ⟨T3, hw, hs⟩ := hq.st; subst hret; have HW3 := hm7 hw; have HS3 := hm7 hs; have HB3 := hm7 (HW.out.go hs HBW.out HBW.out.size); have HT3 : Hid (∀ x, T3 x → T0 x ∨ wr.heap.size ≤ x) := hs.s; clear hq hw hs)
      have hL3 := HS3.out.lb HL.out fun x hx ht => HF.out T0 (fun x h => Or.inl h) x ht hx
      have HL4 := hm7 hL3
      go_upto_region 11 with (go_at_call 10; refine (wsendW_any HW3.out HL4.out (HF.out T3 HT3.out)).mono ?_; rintro e Y4 ⟨hret, hq⟩; rw [g3, g1] at hret; rw [g2] at hq; obtain ⟨T4, hw, hs⟩ := hq.st; subst hret; have HW4 := hm7 hw; have HS4 := hm7 hs; have HB4 := hm7 (HW3.out.go hs HB3.out HB3.out.size); have HT4 : Hid (∀ x, T4 x → T0 x ∨ wr.heap.size ≤ x) := fun x hx => (hs.s x hx).elim (HT3.out x) fun h => Or.inr (Nat.le_trans HS3.out.f.size h); clear hq hw hs)
      have HL5 := hm7 (HS4.out.lb (HS3.out.lb HL3.out fun x hx ht => HF.out T0 (fun x h => Or.inl h) x ht hx) fun x hx ht => HF.out T3 HT3.out x ht hx)
      go_upto_region 12 with (go_at_call 10; refine (wsendW_any HW4.out HL5.out (HF.out T4 HT4.out)).mono ?_; rintro e Y5 ⟨hret, hq⟩; rw [k3, k1] at hret; rw [k2] at hq; obtain ⟨T5, hw, hs⟩ := hq.st; subst hret; have HW5 := hm7 hw; have HS5 := hm7 hs; have HB5 := hm7 (HW4.out.go hs HB4.out HB4.out.size); have HT5 : Hid (∀ x, T5 x → T0 x ∨ wr.heap.size ≤ x) := fun x hx => (hs.s x hx).elim (HT4.out x) fun h => Or.inr (Nat.le_trans (Nat.le_trans HS3.out.f.size HS4.out.f.size) h); clear hq hw hs)
      have HL6 := hm7 (HS5.out.lb (HS4.out.lb (HS3.out.lb HL1.out fun x hx ht => HF.out T0 (fun x h => Or.inl h) x ht hx) fun x hx ht => HF.out T3 HT3.out x ht hx) fun x hx ht => HF.out T4 HT4.out x ht hx)
      go_upto_region 15 with (go_at_call 11; refine (wtakeW_any HW5.out 1).mono ?_; rintro e Y6 ⟨u, T6, hret, hw, h1, h2, h3⟩; rw [m1] at hret; rw [m2] at h3; subst hret; obtain ⟨ua, uc, rfl, -⟩ := h3.form; have hs : StW T5 T6 Y5 Y6 := ⟨h2, h1⟩; have HU := hm7 h3; have HS6 := hm7 hs; have HB6 := hm7 (HW5.out.go hs HB5.out HB5.out.size); clear h1 h2 h3 hw hs)
      have HM := hm7 (sameW_any _ _ b1 b1 _ _ Y6 HU.out (HS6.out.lb HL6.out fun x hx ht => HF.out T5 HT5.out x ht hx))
      rw [decide_eq_true rfl, hl1] at HM
      go_wp2_with (go_at_call 12; with_reducible refine HM.out.mono ?_; rintro e Y7 ⟨rfl, m7, rfl⟩)
      go_ret
      exact ⟨rfl, HB6.out.trans ⟨rfl, rfl, rfl, Nat.le_refl _, fun _ _ => rfl⟩⟩
end Go.Proofs.Ytboomeeipnfbmaa
