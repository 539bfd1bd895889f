/-
  wire: law 23: begun.
-/
import Derived.Test.YtboomeeipnfbmaaWSB
import Derived.Test.YtboomeeipnfbmaaWRF
namespace Go.Proofs.Ytboomeeipnfbmaa
open Go.RowKit
attribute [local go_sem ↓] Go.wp_at_zero Go.wp_at_succ

theorem sndS_gv (s : WrW) (b : List Int) : (sndS s b).gv ≤ s.gv + 1 := by
  unfold sndS; split
  · exact Nat.le_refl _
  · omega
theorem takS_gv (s : WrW) (n : Int) : (takS s n).gv = s.gv := by unfold takS; split <;> rfl
theorem cpyS_gv (s : WrW) (n : Int) : (cpyS s n).gv ≤ s.gv + 1 := by
  unfold cpyS; split
  · exact Nat.le_refl _
  · omega
theorem swpS_gv (s : WrW) (n m : Int) : (swpS s n m).gv = s.gv := by unfold swpS; split <;> rfl
theorem newB_gv (s : WrW) (n : Int) (b : List Int) : (newB s n b).gv = s.gv := by unfold newB; split <;> rfl
theorem flpS_gv (s : WrW) (n a k : Int) : (flpS s n a k).gv = s.gv := by
  unfold flpS; split
  · exact newB_gv _ _ _
  · rfl
theorem cutS_gv (s : WrW) (n l : Int) : (cutS s n l).gv = s.gv := by
  unfold cutS; split
  · exact newB_gv _ _ _
  · rfl
theorem stpW_gv (s : WrW) (o : OvW) : (stpW s o).gv ≤ s.gv + 1 := by
  have h1 := sndS_gv s o.b
  have h2 := takS_gv s o.n
  have h3 := cpyS_gv s o.n
  have h4 := swpS_gv s o.n o.m
  have h5 := flpS_gv s o.n o.m o.q
  have h6 := cutS_gv s o.n o.m
  unfold stpW
  repeat' split
  all_goals omega
theorem lit5W (Y : World) (F : Nat → Prop) (hF : F Y.heap.size) : LbW F (Y.alloc (.cells #[.int .u8 1, .int .u8 2, .int .u8 3, .int .u8 4, .int .u8 5] 5)) (.slice (some ⟨Y.heap.size, 0, none⟩) 5 5) [1, 2, 3, 4, 5] := by
  have hB := Bk.new Y #[.int .u8 1, .int .u8 2, .int .u8 3, .int .u8 4, .int .u8 5] 5
  refine ⟨_, 5, rfl, Nat.le_refl _, by omega, (by intro y hy; simp at hy; omega), Or.inr ⟨Y.heap.size, 0, rfl, hB.lt, hF, fun i y hy => ?_⟩⟩
  match i with
  | 0 => simp at hy; subst hy; exact hB.cell rfl
  | 1 => simp at hy; subst hy; exact hB.cell rfl
  | 2 => simp at hy; subst hy; exact hB.cell rfl
  | 3 => simp at hy; subst hy; exact hB.cell rfl
  | 4 => simp at hy; subst hy; exact hB.cell rfl
  | i + 5 => simp at hy
set_option maxRecDepth 20000 in
set_option maxHeartbeats 8000000 in
theorem begunL_any {sv : Value} {L : List (OvW × Value)} {Y : World} (h : ScW (fun x => x < Y.heap.size) Y sv L) :
    Calls Try.prog 23 #[sv] Y fun e Y' => ∃ (T : Nat → Prop) (v : Value) (s : WrW), e = .returned (.tuple #[v, .int .i64 ((s.gv : Int) + 1)]) ∧ WzW Y.heap.size T v (putW s [1, 2, 3, 4, 5]) Y' ∧ s.Ok ∧ s.gv ≤ 4000 ∧ Below Y.heap.size Y Y' ∧ (∀ x, T x → Y.heap.size ≤ x) ∧ s.gv ≤ L.length := by
  have HSC := hm7 h
  obtain ⟨⟨sa, sc, rfl, hl, hx⟩, -⟩ := h
  obtain ⟨N, hN⟩ : ∃ N, L.length = N := ⟨_, rfl⟩
  rw [hN] at hl HSC ⊢
  have HN := hm7 hN
  obtain ⟨R, hR⟩ : ∃ R, min N 4000 = R := ⟨_, rfl⟩
  have hR1 : R ≤ N := by omega
  have hR2 : R ≤ 4000 := by omega
  have HR3 : Hid (R = N ∨ R = 4000) := by show _ ∨ _; omega
  clear hN hR
  go_enter Try.func23, Try.ntmps23
  go_wp2_with (go_at_call 9; with_reducible refine (wnewW_any Y.heap.size Y (Nat.le_refl _)).mono ?_; rintro e Y1 ⟨T, v, rfl, hw, ht, hb⟩; obtain ⟨g, rfl⟩ := hw.ptr; have HW := hm7 hw; have HB1 := hm7 hb; clear hw ht hb)
  go_loopg [5] R (fun gg i wr => ∃ (j : Nat) (T : Nat → Prop) (s : WrW), j + gg = R ∧ i = .int .i64 j ∧ WzW Y.heap.size T (.pointer (some ⟨g, 0, none⟩)) s wr ∧ s.gv ≤ j ∧ Below Y.heap.size Y wr)
  case atStart => exact ⟨0, T, _, by omega, rfl, HW.out, Nat.le_refl _, HB1.out⟩
  case round =>
    obtain ⟨j, T, s, hj, rfl, hw, hgv, hb⟩ := hrel
    have HO := hm7 hw
    have HB := hm7 hb
    have HGV := hm7 hgv
    have hsz := hb.size
    cases gk with
    | succ gg =>
      have hlt : (j : Int) < (N : Int) := by omega
      have hlt2 : (j : Int) < 4000 := by omega
      have j0 : (0 : Int) ≤ (j : Int) := by omega
      have hsw := HSC.out.same hb.size fun x hx hF => hb.block x hF
      obtain ⟨p, hp⟩ : ∃ p, L[j]? = some p := ⟨_, List.getElem?_eq_getElem (by have := HN.out; omega)⟩
      obtain ⟨hpl, hpn⟩ := hsw.by_ p (List.mem_of_getElem? hp)
      rcases hx with hx | ⟨sb, so, rfl, hsb, hsF, -⟩
      · rw [hx] at hp; simp at hp
      have hcell : ∀ W, Below Y.heap.size Y W → W.cell? ⟨sb, so + j * 5, none⟩ = some (.int .i64 p.1.k) ∧ W.cell? ⟨sb, so + j * 5 + 1, none⟩ = some (.int .i64 p.1.n) ∧ W.cell? ⟨sb, so + j * 5 + 2, none⟩ = some (.int .i64 p.1.m) ∧ W.cell? ⟨sb, so + j * 5 + 3, none⟩ = some (.int .i64 p.1.q) ∧ W.cell? ⟨sb, so + j * 5 + 4, none⟩ = some p.2 := fun W hW => by
        have hs2 := HSC.out.same hW.size fun x hx hF => hW.block x hF
        obtain ⟨⟨a', c', e', -, h2⟩, -⟩ := hs2
        simp only [Value.slice.injEq] at e'
        obtain ⟨rfl, -, -⟩ := e'
        rcases h2 with h2 | ⟨b', o', e2, -, -, h3⟩
        · rw [h2] at hp; simp at hp
        · cases e2; exact h3 j p hp
      obtain ⟨⟨k, n, m, q, b⟩, bv⟩ := p
      simp only at hpl hpn hcell
      obtain ⟨ba, bc, rfl, -⟩ := hpl.form
      obtain ⟨x0, x1, x2, x3, x4⟩ := hcell wr hb
      have HD : Hid (Calls Try.prog 19 #[.pointer (some ⟨g, 0, none⟩), .agg #[.int .i64 k, .int .i64 n, .int .i64 m, .int .i64 q, .slice ba b.length bc]] wr (DoQ Y.heap.size T (.pointer (some ⟨g, 0, none⟩)) s ⟨k, n, m, q, b⟩ wr)) := doW_any (o := ⟨k, n, m, q, b⟩) HO.out hpl hpn
      obtain ⟨bn, hbn⟩ : ∃ bn, b.length = bn := ⟨_, rfl⟩
      rw [hbn] at x4 HD
      clear hw hb hsw hp hpl hpn hcell hbn hgv
      go_wp2_with (go_at_call 19; (with_reducible refine HD.out.mono ?_); rintro e Y4 ⟨tv, T1, rfl, ⟨tb, tr, rfl, ht1, ht2⟩, hw1, hw2, hw3⟩; have HW1 := hm7 hw1; have HB4 := hm7 (HO.out.go ⟨hw3, hw2⟩ HB.out HB.out.size); clear ht1 ht2 hw1 hw2 hw3)
      go_roundg gg
      case measure => omega
      case rel => exact ⟨j + 1, T1, _, by omega, by go_num, HW1.out, Nat.le_trans (stpW_gv _ _) (by have := HGV.out; omega), HB4.out⟩
    | zero =>
      obtain rfl : j = R := by omega
      have ha1 := below1 wr (.cells #[.int .u8 1, .int .u8 2, .int .u8 3, .int .u8 4, .int .u8 5] 5)
      have p1 : sndE s [1, 2, 3, 4, 5] = 0 := sndE_ok (by simp) (by omega)
      have hS := wsendW_any (hw.below ha1) (lit5W wr (fun x => wr.heap.size ≤ x) (Nat.le_refl _)) (fun x hx hF => by have := hw.lt x hx; omega)
      rw [sndN_ok p1, sndS_ok p1, p1, show ((s.gv + 1 : Nat) : Int) = (s.gv : Int) + 1 by omega] at hS
      have HS := hm7 hS
      have HA := hm7 ha1
      have hq1 : ¬ ((s.gv : Int) + 1 < 1) := by omega
      clear hw hb hS p1 ha1 hx
      rcases HR3.out with hr | hr
      · have hlt : ¬ (j : Int) < (N : Int) := by omega
        go_wp2_with (go_at_call 10; with_reducible refine HS.out.mono ?_; rintro e Y5 ⟨rfl, hq⟩; obtain ⟨T5, hw, hs⟩ := hq.st; have HW5 := hm7 hw; have HB5 := hm7 ((HO.out.below HA.out).go hs (HB.out.trans (HA.out.mono HB.out.size)) (Nat.le_trans HB.out.size HA.out.size)); clear hq hw hs)
        go_ret2
        exact ⟨T5, _, s, rfl, HW5.out, HO.out.ok, by have := HGV.out; omega, HB5.out, fun x hx => (HW5.out.t x hx).1, by have := HGV.out; omega⟩
      · subst hr
        have hlt2 : ¬ ((4000 : Nat) : Int) < 4000 := by omega
        by_cases hlt : ((4000 : Nat) : Int) < (N : Int)
        · have hd : decide (((4000 : Nat) : Int) < (N : Int)) = true := decide_eq_true hlt
          go_wp2_with (go_at_call 10; with_reducible refine HS.out.mono ?_; rintro e Y5 ⟨rfl, hq⟩; obtain ⟨T5, hw, hs⟩ := hq.st; have HW5 := hm7 hw; have HB5 := hm7 ((HO.out.below HA.out).go hs (HB.out.trans (HA.out.mono HB.out.size)) (Nat.le_trans HB.out.size HA.out.size)); clear hq hw hs)
          go_ret2
          exact ⟨T5, _, s, rfl, HW5.out, HO.out.ok, by have := HGV.out; omega, HB5.out, fun x hx => (HW5.out.t x hx).1, by have := HGV.out; omega⟩
        · go_wp2_with (go_at_call 10; with_reducible refine HS.out.mono ?_; rintro e Y5 ⟨rfl, hq⟩; obtain ⟨T5, hw, hs⟩ := hq.st; have HW5 := hm7 hw; have HB5 := hm7 ((HO.out.below HA.out).go hs (HB.out.trans (HA.out.mono HB.out.size)) (Nat.le_trans HB.out.size HA.out.size)); clear hq hw hs)
          go_ret2
          exact ⟨T5, _, s, rfl, HW5.out, HO.out.ok, by have := HGV.out; omega, HB5.out, fun x hx => (HW5.out.t x hx).1, by have := HGV.out; omega⟩
theorem begunW_any {sv : Value} {L : List (OvW × Value)} {Y : World} (h : ScW (fun x => x < Y.heap.size) Y sv L) :
    Calls Try.prog 23 #[sv] Y fun e Y' => ∃ (T : Nat → Prop) (v : Value) (s : WrW), e = .returned (.tuple #[v, .int .i64 ((s.gv : Int) + 1)]) ∧ WzW Y.heap.size T v (putW s [1, 2, 3, 4, 5]) Y' ∧ s.Ok ∧ s.gv ≤ 4000 ∧ Below Y.heap.size Y Y' ∧ (∀ x, T x → Y.heap.size ≤ x) :=
  (begunL_any h).mono fun _ _ ⟨T, v, s, h1, h2, h3, h4, h5, h6, _⟩ => ⟨T, v, s, h1, h2, h3, h4, h5, h6⟩
end Go.Proofs.Ytboomeeipnfbmaa
