import Derived.Test.YtdfdnjkeiddfjabDoorSRE
import Derived.Test.YtdfdnjkeiddfjabDoorRA1
import Derived.Test.YtdfdnjkeiddfjabDoorSRD
import Derived.Test.YtdfdnjkeiddfjabDoorSL1
import Derived.ArgAppend
/-
  script (stage 25): the document's Read, whole.
-/
namespace Go.Proofs.YtdfdnjkeiddfjabDoor
open Go.RowKit

theorem bSRead_any (s : ByteArray) (w : World) (hQ : QOk w) : Calls Tryd.prog 10 #[.string s] w (RdQ w (rdS s)) := by
  by_cases hz : 65536 < s.size
  · have e : rdS s = noS 251 0 := by unfold rdS; rw [if_pos hz]
    rw [e]
    exact bread_long s w hz
  · have hz2 : s.size ≤ 65536 := by omega
    rcases cut_all_ways s with ⟨e, p, hc, he, -, -⟩ | ⟨T, hc, hf⟩
    · have e2 : rdS s = noS e p := by unfold rdS; rw [if_neg hz, hc]; exact if_neg he
      rw [e2]
      exact bread_bad s w hz2 hQ e p hc he
    · have e2 : rdS s = rlS s.size T := by unfold rdS; rw [if_neg hz, hc]; exact if_pos rfl
      rw [e2]
      cases T with
      | nil => exact bread_none s w hz2 hQ hc
      | cons t T => exact bread_main s w hz2 hQ t T hc hf
end Go.Proofs.YtdfdnjkeiddfjabDoor
/-
  hearsaylaw25: ScriptReads' walk.
-/
namespace Go.Proofs.YtdfdnjkeiddfjabDoor
open Go.RowKit
attribute [local go_sem ↓] Go.wp_at_zero Go.wp_at_succ

/-- What is read of a text, by both; told blank by both. -/
structure RbS (s : ByteArray) (w : World) (r : RsS) (bl : Bool) : Prop where
  a : ∀ X, Below w.heap.size w X → Calls Tryd.prog 9 #[.string s] X fun e w' => ∃ a c, e = .returned (r.v a c) ∧ OwY w' X.heap.size (.slice a r.b.size c) (blK r.b) ∧ Below X.heap.size X w'
  b : ∀ X, Below w.heap.size w X → Calls Tryd.prog 10 #[.string s] X fun e w' => ∃ a c, e = .returned (r.v a c) ∧ OwY w' X.heap.size (.slice a r.b.size c) (blK r.b) ∧ Below X.heap.size X w'
  p : ∀ X, Below w.heap.size w X → Calls Tryd.prog 12 #[.string s] X fun e w' => e = .returned (.bool bl) ∧ Below X.heap.size X w'
  q : ∀ X, Below w.heap.size w X → Calls Tryd.prog 13 #[.string s] X fun e w' => e = .returned (.bool bl) ∧ Below X.heap.size X w'
theorem rbS_any (s : ByteArray) (hs : s.size ≤ 9000000) (w : World) (hE : EnS w) (hQ : QOk w) : RbS s w (rdS s) (blS s) :=
  ⟨fun X h => aSRead_any s hs X (hE.later h), fun X h => bSRead_any s X (hQ.later h), fun X h => aSBlankE_any s hs X (hE.later h), fun X h => bSBlank_any s hs X (hQ.later h)⟩
set_option maxRecDepth 20000 in
set_option maxHeartbeats 8000000 in
theorem sreads_any (s : ByteArray) (hs : s.size ≤ 9000000) (w : World) (hE : EnS w) (hQ : QOk w) : Calls Tryd.prog 4 #[.string s] w fun e w' => e = .returned (.bool true) ∧ Below w.heap.size w w' := by
  have HRB : Hid (∀ x : ByteArray, x.size ≤ 9000000 → ∃ r bl, RbS x w r bl) := fun x hx => ⟨_, _, rbS_any x hx w hE hQ⟩
  have HF : Hid (∀ X, Below w.heap.size w X → Calls Tryd.prog 8 #[] X fun e w' => e = .returned (.bool true) ∧ Below w.heap.size w w') := fun X h => (first_any X (hE.later h)).mono fun e w' ⟨h1, h2⟩ => ⟨h1, below_stepK h h2⟩
  obtain ⟨N, hN⟩ : ∃ N, min s.size 300 + 1 = N := ⟨_, rfl⟩
  have HN := hm7 hN
  have HS := hm7 hs
  clear hN hE hQ
  go_enter Tryd.func4, Tryd.ntmps4
  go_upto_region 2 with (fail)
  go_loopg [3] N (fun gg i wr => ∃ j : Nat, j + gg = N ∧ i = .int .i64 j ∧ Below w.heap.size w wr)
  case atStart => exact ⟨0, by omega, rfl, Below.refl _ _⟩
  case round =>
    obtain ⟨j, hj, rfl, hb⟩ := hrel
    have HB := hm7 hb
    have HJ := hm7 hj
    clear hb hj
    cases gk with
    | succ gg =>
      have q1 : (j : Int) ≤ (s.size : Int) := by have := HN.out; have := HJ.out; omega
      have q2 : (j : Int) ≤ 300 := by have := HN.out; have := HJ.out; omega
      have q0 : (0 : Int) ≤ (j : Int) := by omega
      have q3 : j ≤ s.size := by omega
      have q4 : j ≤ 300 := by omega
      obtain ⟨F, hF⟩ : ∃ F, s.extract 0 j = F := ⟨_, rfl⟩
      obtain ⟨⟨D, B, E, P⟩, bl, hrb⟩ := HRB.out F (by rw [← hF, ByteArray.size_extract]; omega)
      have HR := hm7 hrb
      have HA := hm7 (hrb.a wr HB.out)
      clear hrb hs
      go_upto_region 4 with (fail)
      go_upto_region 5 with (go_at_call 9; refine HA.out.mono ?_; rintro e w5 ⟨a5, n5, rfl, ho, hb5⟩; simp only [RsS.v])
      obtain ⟨hB, hF5, -, hb⟩ := boxR (r := ⟨D, B, E, P⟩) hb5 ho
      simp only [SdO.cs] at hB hF5 hb ⊢
      revert hB hF5 hb
      generalize (w5.alloc _).alloc _ = W5
      intro hB hF5 hb
      have HY5 := hm7 hB
      have HF5 := hm7 hF5
      have HB5 := hm7 (below_stepK HB.out hb)
      have HA6 := hm7 (HR.out.b W5 HB5.out)
      clear hB hF5 hb ho hb5
      go_upto_region 6 with (go_at_call 10; refine HA6.out.mono ?_; rintro e w6 ⟨a6, n6, rfl, ho, hb6⟩; simp only [RsS.v])
      have hY := HY5.out.later hb6
      have hG := HF5.out.later hb6
      obtain ⟨hB, hF6, -, hb⟩ := boxR (r := ⟨D, B, E, P⟩) hb6 ho
      have hY6 := HY5.out.later hb
      have hG6 := HF5.out.later hb
      simp only [SdO.cs] at hB hF6 hb hY6 hG6 ⊢
      revert hB hF6 hb hY6 hG6
      generalize (w6.alloc _).alloc _ = W6
      intro hB hF6 hb hY6 hG6
      have hW6 := below_stepK HB5.out hb
      have HY6 := hm7 hY6
      have HX6 := hm7 hB
      have HG6 := hm7 hG6
      have HF6 := hm7 hF6
      have HW6 := hm7 hW6
      have HKEEP : Hid (∀ X, Below W6.heap.size W6 X → (X.cell? ⟨w5.heap.size, 0, none⟩ = some (.int .i64 D.k) ∧ X.cell? ⟨w5.heap.size, 1, none⟩ = some (.string D.who) ∧ X.cell? ⟨w5.heap.size, 2, none⟩ = some (.string D.too) ∧ X.cell? ⟨w5.heap.size, 3, none⟩ = some (.string D.tx) ∧ X.cell? ⟨w5.heap.size, 4, none⟩ = some (.slice a5 B.size n5) ∧ X.cell? ⟨w5.heap.size, 5, none⟩ = some (.int .i64 D.n) ∧ X.cell? ⟨w5.heap.size, 6, none⟩ = some (.int .i64 D.m) ∧ X.cell? ⟨w5.heap.size, 7, none⟩ = some (.int .i64 D.q) ∧ X.cell? ⟨w6.heap.size, 0, none⟩ = some (.int .i64 D.k) ∧ X.cell? ⟨w6.heap.size, 1, none⟩ = some (.string D.who) ∧ X.cell? ⟨w6.heap.size, 2, none⟩ = some (.string D.too) ∧ X.cell? ⟨w6.heap.size, 3, none⟩ = some (.string D.tx) ∧ X.cell? ⟨w6.heap.size, 4, none⟩ = some (.slice a6 B.size n6) ∧ X.cell? ⟨w6.heap.size, 5, none⟩ = some (.int .i64 D.n) ∧ X.cell? ⟨w6.heap.size, 6, none⟩ = some (.int .i64 D.m) ∧ X.cell? ⟨w6.heap.size, 7, none⟩ = some (.int .i64 D.q) ∧ X.cell? ⟨w5.heap.size + 1, 0, none⟩ = some (.int .i64 E) ∧ X.cell? ⟨w5.heap.size + 1, 1, none⟩ = some (.int .i64 P) ∧ X.cell? ⟨w6.heap.size + 1, 0, none⟩ = some (.int .i64 E) ∧ X.cell? ⟨w6.heap.size + 1, 1, none⟩ = some (.int .i64 P) ∧ Below W6.heap.size W6 X)) := fun X h => by
        obtain ⟨c0, c1, c2, c3, c4, c5, c6, c7⟩ := (HY6.out.later h).cells
        obtain ⟨d0, d1, d2, d3, d4, d5, d6, d7⟩ := (HX6.out.later h).cells
        obtain ⟨f0, f1⟩ := ft_cells (HG6.out.later h)
        obtain ⟨g0, g1⟩ := ft_cells (HF6.out.later h)
        exact ⟨c0, c1, c2, c3, c4, c5, c6, c7, d0, d1, d2, d3, d4, d5, d6, d7, f0, f1, g0, g1, h⟩
      have HSM : Hid (∀ X, Below W6.heap.size W6 X → Calls Tryd.prog 11 #[D.v a5 B.size n5, D.v a6 B.size n6] X fun e w' => e = .returned (.bool true) ∧ Below X.heap.size X w') := fun X h => samL_any D B a5 a6 n5 n6 X (HY6.out.lb.below h) (HX6.out.lb.below h)
      have HP : Hid (∀ X, Below W6.heap.size W6 X → Calls Tryd.prog 12 #[.string F] X fun e w' => e = .returned (.bool bl) ∧ Below X.heap.size X w') := fun X h => HR.out.p X (below_stepK HW6.out h)
      have HQ : Hid (∀ X, Below W6.heap.size W6 X → Calls Tryd.prog 13 #[.string F] X fun e w' => e = .returned (.bool bl) ∧ Below X.heap.size X w') := fun X h => HR.out.q X (below_stepK HW6.out h)
      clear hB hF6 hb hY6 hG6 hY hG ho hb6 hW6
      go_region_held3 (fun X => X.cell? ⟨w5.heap.size, 0, none⟩ = some (.int .i64 D.k) ∧ X.cell? ⟨w5.heap.size, 1, none⟩ = some (.string D.who) ∧ X.cell? ⟨w5.heap.size, 2, none⟩ = some (.string D.too) ∧ X.cell? ⟨w5.heap.size, 3, none⟩ = some (.string D.tx) ∧ X.cell? ⟨w5.heap.size, 4, none⟩ = some (.slice a5 B.size n5) ∧ X.cell? ⟨w5.heap.size, 5, none⟩ = some (.int .i64 D.n) ∧ X.cell? ⟨w5.heap.size, 6, none⟩ = some (.int .i64 D.m) ∧ X.cell? ⟨w5.heap.size, 7, none⟩ = some (.int .i64 D.q) ∧ X.cell? ⟨w6.heap.size, 0, none⟩ = some (.int .i64 D.k) ∧ X.cell? ⟨w6.heap.size, 1, none⟩ = some (.string D.who) ∧ X.cell? ⟨w6.heap.size, 2, none⟩ = some (.string D.too) ∧ X.cell? ⟨w6.heap.size, 3, none⟩ = some (.string D.tx) ∧ X.cell? ⟨w6.heap.size, 4, none⟩ = some (.slice a6 B.size n6) ∧ X.cell? ⟨w6.heap.size, 5, none⟩ = some (.int .i64 D.n) ∧ X.cell? ⟨w6.heap.size, 6, none⟩ = some (.int .i64 D.m) ∧ X.cell? ⟨w6.heap.size, 7, none⟩ = some (.int .i64 D.q) ∧ X.cell? ⟨w5.heap.size + 1, 0, none⟩ = some (.int .i64 E) ∧ X.cell? ⟨w5.heap.size + 1, 1, none⟩ = some (.int .i64 P) ∧ X.cell? ⟨w6.heap.size + 1, 0, none⟩ = some (.int .i64 E) ∧ X.cell? ⟨w6.heap.size + 1, 1, none⟩ = some (.int .i64 P) ∧ Below W6.heap.size W6 X)
        ((go_split_ands; first | exact HKEEP.out _ (bdrew1S W6) | exact HKEEP.out _ (below_stepK (by assumption) hb7)))
        ((first
          | (go_at_call 11; refine (HSM.out _ (by go_split_ands; assumption)).mono ?_; rintro e w7 ⟨rfl, hb7⟩)
          | (go_at_call 12; refine (HP.out _ (by go_split_ands; assumption)).mono ?_; rintro e w7 ⟨rfl, hb7⟩)
          | (go_at_call 13; refine (HQ.out _ (by go_split_ands; assumption)).mono ?_; rintro e w7 ⟨rfl, hb7⟩)))
      all_goals
        go_split_ands
        go_wp2
        go_roundg gg
        case measure => omega
        case rel => exact ⟨j + 1, by have := HJ.out; omega, by go_num, below_stepK HW6.out (by assumption)⟩
    | zero =>
      obtain ⟨⟨D, B, E, P⟩, bl, hrb⟩ := HRB.out s HS.out
      have HR := hm7 hrb
      have HA := hm7 (hrb.a wr HB.out)
      have hq : (¬ (j : Int) ≤ (s.size : Int)) ∨ ((j : Int) ≤ (s.size : Int) ∧ ¬ (j : Int) ≤ 300) := by have := HN.out; have := HJ.out; omega
      clear hrb hs
      rcases hq with q1 | ⟨q1, q2⟩
      all_goals
        go_upto_region 9 with (go_at_call 9; refine HA.out.mono ?_; rintro e w5 ⟨a5, n5, rfl, ho, hb5⟩; simp only [RsS.v])
        obtain ⟨hB, hF5, -, hb⟩ := boxR (r := ⟨D, B, E, P⟩) hb5 ho
        simp only [SdO.cs] at hB hF5 hb ⊢
        revert hB hF5 hb
        generalize (w5.alloc _).alloc _ = W5
        intro hB hF5 hb
        have HY5 := hm7 hB
        have HF5 := hm7 hF5
        have HB5 := hm7 (below_stepK HB.out hb)
        have HA6 := hm7 (HR.out.b W5 HB5.out)
        clear hB hF5 hb ho hb5
        go_upto_region 10 with (go_at_call 10; refine HA6.out.mono ?_; rintro e w6 ⟨a6, n6, rfl, ho, hb6⟩; simp only [RsS.v])
        obtain ⟨hB, hF6, -, hb⟩ := boxR (r := ⟨D, B, E, P⟩) hb6 ho
        have hY6 := HY5.out.later hb
        have hG6 := HF5.out.later hb
        simp only [SdO.cs] at hB hF6 hb hY6 hG6 ⊢
        revert hB hF6 hb hY6 hG6
        generalize (w6.alloc _).alloc _ = W6
        intro hB hF6 hb hY6 hG6
        have HW6 := hm7 (below_stepK HB5.out hb)
        obtain ⟨c0, c1, c2, c3, c4, c5, c6, c7⟩ := hY6.cells
        obtain ⟨d0, d1, d2, d3, d4, d5, d6, d7⟩ := hB.cells
        obtain ⟨f0, f1⟩ := ft_cells hG6
        obtain ⟨g0, g1⟩ := ft_cells hF6
        have HSM := hm7 (samL_any D B a5 a6 n5 n6 W6 hY6.lb hB.lb)
        clear hB hF6 hb hY6 hG6 ho hb6
        go_wp2_with (first
          | (go_at_call 11; refine HSM.out.mono ?_; rintro e w7 ⟨rfl, hb7⟩; have HB7 := hm7 (below_stepK HW6.out hb7); clear hb7)
          | (go_at_call 12; refine (HR.out.p _ HB7.out).mono ?_; rintro e w8 ⟨rfl, hb8⟩; have HB8 := hm7 (below_stepK HB7.out hb8); clear hb8)
          | (go_at_call 13; refine (HR.out.q _ HB8.out).mono ?_; rintro e w9 ⟨rfl, hb9⟩; have HB9 := hm7 (below_stepK HB8.out hb9); clear hb9)
          | (go_at_call 8; refine (HF.out _ HB9.out).mono ?_; rintro e wz ⟨rfl, hbz⟩; have HBZ := hm7 hbz; clear hbz))
        go_ret
        exact ⟨rfl, HBZ.out⟩
end Go.Proofs.YtdfdnjkeiddfjabDoor
