/-
  hearsaylaw25: ScriptAgain's walk.
-/
import Derived.Test.YtdfdnjkeiddfjaaDoorSL2
import Derived.Test.YtdfdnjkeiddfjaaDoorSX5
namespace Go.Proofs.YtdfdnjkeiddfjaaDoor
open Go.RowKit
attribute [local go_sem ↓] Go.wp_at_zero Go.wp_at_succ

set_option maxRecDepth 20000 in
set_option maxHeartbeats 4000000 in
theorem again_bad (s : ByteArray) (hs : s.size ≤ 9000000) (w : World) (hE : EnS w) (e p : Int) (h : rdS s = noS e p) (he : e ≠ 0) (h0 : 0 ≤ p) (h1 : p ≤ (s.size : Int)) : Calls Tryd.prog 4 #[.string s] w fun e w' => e = .returned (.bool true) ∧ Below w.heap.size w w' := by
  have HE := hm7 hE
  have HR : Hid (Calls Tryd.prog 9 #[.string s] w (RdQ w (noS e p))) := by rw [← h]; exact aSRead_any s hs w hE
  have HF : Hid (∀ X, EnS X → Calls Tryd.prog 12 #[] X fun e w' => e = .returned (.bool true) ∧ Below X.heap.size X w') := fun X h => first_any X h
  have e0 : (e == 0) = false := by simpa using he
  have he2 : ¬ e = 0 := he
  have he3 : (e != 0) = true := by simpa using he
  have HS : Hid (∀ (X : World) a c, LbW (fun _ => True) X (.slice a 0 c) [] → Calls Tryd.prog 11 #[zdS.v a 0 c, zdS.v none 0 0] X fun e w' => e = .returned (.bool true) ∧ Below X.heap.size X w') := fun X a c hl => samL_any zdS ⟨#[]⟩ a none c 0 X hl (LbW.nil _ _)
  clear hE h he
  go_enter Tryd.func4, Tryd.ntmps4
  go_upto_region 2 with (go_at_call 9; refine HR.out.mono ?_; rintro e w1 ⟨a, c, rfl, ho, hb1⟩; simp only [RsS.v])
  obtain ⟨hB, hF, -, hb⟩ := boxR hb1 ho
  simp only [SdO.cs, noS, show (⟨#[]⟩ : ByteArray).size = 0 from rfl] at hB hF hb ⊢
  revert hB hF hb
  generalize (w1.alloc _).alloc _ = W1
  intro hB hF hb
  have HB1 := hm7 hB
  have HW1 := hm7 hb
  have HE1 := hm7 (HE.out.later hb)
  have HS1 := hm7 (HS.out W1 a c hB.lb)
  obtain ⟨c0, c1, c2, c3, c4, c5, c6, c7⟩ := hB.cells
  obtain ⟨f0, f1⟩ := ft_cells hF
  clear hB hF hb ho hb1 HS
  go_wp2_with (first | (go_at_call 11; refine HS1.out.mono ?_; rintro e w2 ⟨rfl, hb2⟩; have HB2 := hm7 hb2; clear hb2) | (go_at_call 12; refine (HF.out _ (HE1.out.later HB2.out)).mono ?_; rintro e w3 ⟨rfl, hb3⟩; have HB3 := hm7 hb3; clear hb3))
  go_ret
  exact ⟨rfl, below_stepK (below_stepK HW1.out HB2.out) HB3.out⟩
set_option maxRecDepth 20000 in
set_option maxHeartbeats 4000000 in
theorem again_long (s : ByteArray) (hs : s.size ≤ 9000000) (w : World) (hE : EnS w) (d : SdO) (b : ByteArray) (i : Nat) (hi : i < 24) (hk : d.k = (i : Int) + 1) (ho : OkS d b) (h : rdS s = ⟨d, b, 0, 0⟩) (hp : prS d b = none) (hz : 16376 < s.size) : Calls Tryd.prog 4 #[.string s] w fun e w' => e = .returned (.bool true) ∧ Below w.heap.size w w' := by
  have HE := hm7 hE
  have HR : Hid (Calls Tryd.prog 9 #[.string s] w (RdQ w ⟨d, b, 0, 0⟩)) := by rw [← h]; exact aSRead_any s hs w hE
  have HF : Hid (∀ X, EnS X → Calls Tryd.prog 12 #[] X fun e w' => e = .returned (.bool true) ∧ Below X.heap.size X w') := fun X h => first_any X h
  have HP : Hid (∀ (X : World) a c, EnS X → LbW (fun _ => True) X (.slice a b.size c) (blK b) → Calls Tryd.prog 10 #[d.v a b.size c] X fun e w' => e = .returned (.tuple #[.string ⟨#[]⟩, .bool false]) ∧ Below X.heap.size X w') := fun X a c h hl => by
    have := aSPrint_any d b a c ho X h hl
    rw [hp] at this
    exact this
  obtain ⟨k, who, too, tx, n, m, q⟩ := d
  simp only at hk
  subst hk
  have k1 : ¬ ((i : Int) + 1 < 1) := by omega
  have k2 : ¬ ((i : Int) + 1 > 24) := by omega
  have k3 : (s.size : Int) > 16376 := by omega
  clear hE h hp ho
  go_enter Tryd.func4, Tryd.ntmps4
  go_upto_region 2 with (go_at_call 9; refine HR.out.mono ?_; rintro e w1 ⟨a, c, rfl, ho, hb1⟩; simp only [RsS.v])
  obtain ⟨hB, hF, -, hb⟩ := boxR hb1 ho
  simp only [SdO.cs] at hB hF hb ⊢
  revert hB hF hb
  generalize (w1.alloc _).alloc _ = W1
  intro hB hF hb
  have HW1 := hm7 hb
  have HE1 := hm7 (HE.out.later hb)
  have HP1 := hm7 (HP.out W1 a c HE1.out hB.lb)
  obtain ⟨c0, c1, c2, c3, c4, c5, c6, c7⟩ := hB.cells
  obtain ⟨f0, f1⟩ := ft_cells hF
  clear hB hF hb ho hb1 HP
  go_wp2_with (first | (go_at_call 10; refine HP1.out.mono ?_; rintro e w2 ⟨rfl, hb2⟩; have HB2 := hm7 hb2; clear hb2) | (go_at_call 12; refine (HF.out _ (HE1.out.later HB2.out)).mono ?_; rintro e w3 ⟨rfl, hb3⟩; have HB3 := hm7 hb3; clear hb3))
  go_ret
  exact ⟨rfl, below_stepK (below_stepK HW1.out HB2.out) HB3.out⟩
set_option maxRecDepth 20000 in
set_option maxHeartbeats 4000000 in
theorem again_back (s S : ByteArray) (hs : s.size ≤ 9000000) (hS : S.size ≤ 65536) (w : World) (hE : EnS w) (d : SdO) (b : ByteArray) (i : Nat) (hi : i < 24) (hk : d.k = (i : Int) + 1) (ho : OkS d b) (h : rdS s = ⟨d, b, 0, 0⟩) (hp : prS d b = some S) (hr : rdS S = ⟨d, b, 0, 0⟩) : Calls Tryd.prog 4 #[.string s] w fun e w' => e = .returned (.bool true) ∧ Below w.heap.size w w' := by
  have HE := hm7 hE
  have HR : Hid (Calls Tryd.prog 9 #[.string s] w (RdQ w ⟨d, b, 0, 0⟩)) := by rw [← h]; exact aSRead_any s hs w hE
  have HR2 : Hid (∀ X, EnS X → Calls Tryd.prog 9 #[.string S] X (RdQ X ⟨d, b, 0, 0⟩)) := fun X hX => by rw [← hr]; exact aSRead_any S (by omega) X hX
  have HF : Hid (∀ X, EnS X → Calls Tryd.prog 12 #[] X fun e w' => e = .returned (.bool true) ∧ Below X.heap.size X w') := fun X h => first_any X h
  have HP : Hid (∀ (X : World) a c, EnS X → LbW (fun _ => True) X (.slice a b.size c) (blK b) → Calls Tryd.prog 10 #[d.v a b.size c] X fun e w' => e = .returned (.tuple #[.string S, .bool true]) ∧ Below X.heap.size X w') := fun X a c h hl => by
    have := aSPrint_any d b a c ho X h hl
    rw [hp] at this
    exact this
  have HS : Hid (∀ (X : World) a c a' c', LbW (fun _ => True) X (.slice a b.size c) (blK b) → LbW (fun _ => True) X (.slice a' b.size c') (blK b) → Calls Tryd.prog 11 #[d.v a b.size c, d.v a' b.size c'] X fun e w' => e = .returned (.bool true) ∧ Below X.heap.size X w') := fun X a c a' c' hl hl' => samL_any d b a a' c c' X hl hl'
  obtain ⟨k, who, too, tx, n, m, q⟩ := d
  simp only at hk
  subst hk
  have k1 : ¬ ((i : Int) + 1 < 1) := by omega
  have k2 : ¬ ((i : Int) + 1 > 24) := by omega
  clear hE h hp ho hr
  go_enter Tryd.func4, Tryd.ntmps4
  go_upto_region 2 with (go_at_call 9; refine HR.out.mono ?_; rintro e w1 ⟨a, c, rfl, ho, hb1⟩; simp only [RsS.v])
  obtain ⟨hB, hF, -, hb⟩ := boxR hb1 ho
  simp only [SdO.cs] at hB hF hb ⊢
  revert hB hF hb
  generalize (w1.alloc _).alloc _ = W1
  intro hB hF hb
  have HW1 := hm7 hb
  have HE1 := hm7 (HE.out.later hb)
  have HB1 := hm7 hB
  have HP1 := hm7 (HP.out W1 a c HE1.out hB.lb)
  obtain ⟨c0, c1, c2, c3, c4, c5, c6, c7⟩ := hB.cells
  obtain ⟨f0, f1⟩ := ft_cells hF
  clear hB hF hb ho hb1
  go_upto_region 9 with (go_at_call 10; refine HP1.out.mono ?_; rintro e w2 ⟨rfl, hb2⟩)
  have HB2 := hm7 (HB1.out.later hb2)
  have HW2 := hm7 (below_stepK HW1.out hb2)
  have HE2 := hm7 (HE1.out.later hb2)
  clear c0 c1 c2 c3 c4 c5 c6 c7 f0 f1 hb2
  go_upto_region 10 with (go_at_call 9; refine (HR2.out _ HE2.out).mono ?_; rintro e w3 ⟨a3, c3, rfl, ho, hb3⟩; simp only [RsS.v])
  obtain ⟨hB, hF, -, hb⟩ := boxR hb3 ho
  simp only [SdO.cs] at hB hF hb ⊢
  revert hB hF hb
  generalize (w3.alloc _).alloc _ = W3
  intro hB hF hb
  have HB3 := hm7 hB
  have HF3 := hm7 hF
  have HB1' := hm7 (HB2.out.later hb)
  have HW3 := hm7 (below_stepK HW2.out hb)
  have HE3 := hm7 (HE2.out.later hb)
  have HP3 := hm7 (HP.out W3 a3 c3 HE3.out hB.lb)
  obtain ⟨c0, c1, c2, c3, c4, c5, c6, c7⟩ := hB.cells
  clear hB hF hb ho hb3
  go_upto_region 11 with (go_at_call 10; refine HP3.out.mono ?_; rintro e w4 ⟨rfl, hb4⟩)
  have HW4 := hm7 (below_stepK HW3.out hb4)
  have HE4 := hm7 (HE3.out.later hb4)
  have hB := HB3.out.later hb4
  have hB1 := HB1'.out.later hb4
  have HS4 := hm7 (HS.out w4 _ _ _ _ hB1.lb hB.lb)
  clear c0 c1 c2 c3 c4 c5 c6 c7
  obtain ⟨c0, c1, c2, c3, c4, c5, c6, c7⟩ := hB.cells
  obtain ⟨d0, d1, d2, d3, d4, d5, d6, d7⟩ := hB1.cells
  obtain ⟨f0, f1⟩ := ft_cells (HF3.out.later hb4)
  clear hB hB1 hb4 HS
  go_wp2_with (first | (go_at_call 11; refine HS4.out.mono ?_; rintro e w5 ⟨rfl, hb5⟩; have HB5 := hm7 hb5; clear hb5) | (go_at_call 12; refine (HF.out _ (HE4.out.later HB5.out)).mono ?_; rintro e w6 ⟨rfl, hb6⟩; have HB6 := hm7 hb6; clear hb6))
  go_ret
  exact ⟨rfl, below_stepK (below_stepK HW4.out HB5.out) HB6.out⟩
theorem sagain_any (s : ByteArray) (hs : s.size ≤ 9000000) (w : World) (hE : EnS w) : Calls Tryd.prog 4 #[.string s] w fun e w' => e = .returned (.bool true) ∧ Below w.heap.size w w' := by
  rcases rd_ways s with ⟨e, p, h, he, h0, h1⟩ | ⟨d, b, i, hi, h, hk, -, ho, hp, hz⟩
  · exact again_bad s hs w hE e p h he h0 h1
  · by_cases hl : (joS d b (blK (rwS.getD i zrS).p) (rwS.getD i zrS).x).size ≤ 65536
    · rw [if_pos hl] at hp
      exact again_back s _ hs hl w hE d b i hi hk ho h hp (rd_pr ho hp)
    · rw [if_neg hl] at hp
      exact again_long s hs w hE d b i hi hk ho h hp (by omega)
end Go.Proofs.YtdfdnjkeiddfjaaDoor
