/-
  script (stage 25): the program's parts of a line, made.
-/
import Derived.Test.YtdfdnjkeiddfjaaDoorSM3
namespace Go.Proofs.YtdfdnjkeiddfjaaDoor
open Go.RowKit
attribute [local go_sem ↓] Go.wp_at_zero Go.wp_at_succ
attribute [local go_sem] run_store_funcA

set_option maxRecDepth 20000 in
set_option maxHeartbeats 4000000 in
theorem partsA_any (w : World) : Calls Tryd.prog 33 #[] w fun e w' => ∃ b f, e = .returned (.map (some b)) ∧ PsA w' w.heap.size b 7 f ∧ (∀ p : Int, (f p).isSome = true ↔ 1 ≤ p ∧ p ≤ 7) ∧ Below w.heap.size w w' := by
  have hmm := @run_makeMap Tryd.prog
  have HN1 : Hid (∀ X, Calls Tryd.prog 48 #[.func (.func 49) #[] #[]] X fun e w' => ∃ v, e = .returned v ∧ PtA w' 1 v ∧ Below X.heap.size X w') := fun X => (namedA_any 49 X).mono fun e w' ⟨h1, h2, h3⟩ => ⟨_, h1, Or.inr (Or.inr (Or.inl ⟨X.heap.size, rfl, Or.inl ⟨rfl, h2⟩⟩)), h3⟩
  have HN2 : Hid (∀ X, Calls Tryd.prog 48 #[.func (.func 50) #[] #[]] X fun e w' => ∃ v, e = .returned v ∧ PtA w' 2 v ∧ Below X.heap.size X w') := fun X => (namedA_any 50 X).mono fun e w' ⟨h1, h2, h3⟩ => ⟨_, h1, Or.inr (Or.inr (Or.inl ⟨X.heap.size, rfl, Or.inr ⟨rfl, h2⟩⟩)), h3⟩
  have HN5 : Hid (∀ X, Calls Tryd.prog 57 #[.func (.func 58) #[] #[]] X fun e w' => ∃ v, e = .returned v ∧ PtA w' 5 v ∧ Below X.heap.size X w') := fun X => (numberedA_any 58 X).mono fun e w' ⟨h1, h2, h3⟩ => ⟨_, h1, Or.inr (Or.inr (Or.inr ⟨X.heap.size, rfl, Or.inl ⟨rfl, h2⟩⟩)), h3⟩
  have HN6 : Hid (∀ X, Calls Tryd.prog 57 #[.func (.func 59) #[] #[]] X fun e w' => ∃ v, e = .returned v ∧ PtA w' 6 v ∧ Below X.heap.size X w') := fun X => (numberedA_any 59 X).mono fun e w' ⟨h1, h2, h3⟩ => ⟨_, h1, Or.inr (Or.inr (Or.inr ⟨X.heap.size, rfl, Or.inr (Or.inl ⟨rfl, h2⟩)⟩)), h3⟩
  have HN7 : Hid (∀ X, Calls Tryd.prog 57 #[.func (.func 60) #[] #[]] X fun e w' => ∃ v, e = .returned v ∧ PtA w' 7 v ∧ Below X.heap.size X w') := fun X => (numberedA_any 60 X).mono fun e w' ⟨h1, h2, h3⟩ => ⟨_, h1, Or.inr (Or.inr (Or.inr ⟨X.heap.size, rfl, Or.inr (Or.inr ⟨rfl, h2⟩)⟩)), h3⟩
  have HP0 : Hid (PsA (w.alloc (.map #[] 0)) w.heap.size w.heap.size 0 fun _ => none) := ⟨MqI.made _ _ w, (fun x v e => by cases e), Nat.le_refl _⟩
  have HB0 : Hid (Below w.heap.size w (w.alloc (.map #[] 0))) := below1K w _
  go_enter Tryd.func33, Tryd.ntmps33
  go_wp2_with (first
    | (go_at_call 48; refine (HN1.out _).mono ?_; clear HN1; rintro e w1 ⟨v1, rfl, hv1, hb1⟩; obtain ⟨V1, hr1, hp1, hq1⟩ := (HP0.out.later hb1).store (s := 1) (v := v1) (by omega) (by unfold wfI; decide) (by first | rfl | simp [iput]) hv1 (HB0.out.trans (hb1.mono HB0.out.size)).size; have HP1 := hm7 hp1; have HB1 := hm7 ((HB0.out.trans (hb1.mono HB0.out.size)).trans hq1); clear hp1 hq1; clear hv1 hb1)
    | (go_at_call 48; refine (HN2.out _).mono ?_; clear HN2; rintro e w2 ⟨v2, rfl, hv2, hb2⟩; obtain ⟨V2, hr2, hp2, hq2⟩ := (HP1.out.later hb2).store (s := 2) (v := v2) (by omega) (by unfold wfI; decide) (by first | rfl | simp [iput]) hv2 (HB1.out.trans (hb2.mono HB1.out.size)).size; have HP2 := hm7 hp2; have HB2 := hm7 ((HB1.out.trans (hb2.mono HB1.out.size)).trans hq2); clear hp2 hq2; clear hv2 hb2; obtain ⟨V3, hr3, hp3, hq3⟩ := (HP2.out).store (s := 3) (v := txA) (by omega) (by unfold wfI; decide) (by first | rfl | simp [iput]) (Or.inl ⟨rfl, rfl⟩) (HB2.out).size; have HP3 := hm7 hp3; have HB3 := hm7 ((HB2.out).trans hq3); clear hp3 hq3; simp only [txA] at hr3; obtain ⟨V4, hr4, hp4, hq4⟩ := (HP3.out).store (s := 4) (v := byA) (by omega) (by unfold wfI; decide) (by first | rfl | simp [iput]) (Or.inr (Or.inl ⟨rfl, rfl⟩)) (HB3.out).size; have HP4 := hm7 hp4; have HB4 := hm7 ((HB3.out).trans hq4); clear hp4 hq4; simp only [byA] at hr4)
    | (go_at_call 57; refine (HN5.out _).mono ?_; clear HN5; rintro e w5 ⟨v5, rfl, hv5, hb5⟩; obtain ⟨V5, hr5, hp5, hq5⟩ := (HP4.out.later hb5).store (s := 5) (v := v5) (by omega) (by unfold wfI; decide) (by first | rfl | simp [iput]) hv5 (HB4.out.trans (hb5.mono HB4.out.size)).size; have HP5 := hm7 hp5; have HB5 := hm7 ((HB4.out.trans (hb5.mono HB4.out.size)).trans hq5); clear hp5 hq5; clear hv5 hb5)
    | (go_at_call 57; refine (HN6.out _).mono ?_; clear HN6; rintro e w6 ⟨v6, rfl, hv6, hb6⟩; obtain ⟨V6, hr6, hp6, hq6⟩ := (HP5.out.later hb6).store (s := 6) (v := v6) (by omega) (by unfold wfI; decide) (by first | rfl | simp [iput]) hv6 (HB5.out.trans (hb6.mono HB5.out.size)).size; have HP6 := hm7 hp6; have HB6 := hm7 ((HB5.out.trans (hb6.mono HB5.out.size)).trans hq6); clear hp6 hq6; clear hv6 hb6)
    | (go_at_call 57; refine (HN7.out _).mono ?_; clear HN7; rintro e w7 ⟨v7, rfl, hv7, hb7⟩; obtain ⟨V7, hr7, hp7, hq7⟩ := (HP6.out.later hb7).store (s := 7) (v := v7) (by omega) (by unfold wfI; decide) (by first | rfl | simp [iput]) hv7 (HB6.out.trans (hb7.mono HB6.out.size)).size; have HP7 := hm7 hp7; have HB7 := hm7 ((HB6.out.trans (hb7.mono HB6.out.size)).trans hq7); clear hp7 hq7; clear hv7 hb7))
  go_ret
  refine ⟨_, _, rfl, HP7.out, fun p => ?_, HB7.out⟩
  unfold iput
  constructor
  · intro h
    by_cases h7 : p = 7 <;> by_cases h6 : p = 6 <;> by_cases h5 : p = 5 <;> by_cases h4 : p = 4 <;> by_cases h3 : p = 3 <;> by_cases h2 : p = 2 <;> by_cases h1 : p = 1 <;> first | omega | simp_all
  · intro ⟨h1, h2⟩
    have : p = 1 ∨ p = 2 ∨ p = 3 ∨ p = 4 ∨ p = 5 ∨ p = 6 ∨ p = 7 := by omega
    rcases this with rfl | rfl | rfl | rfl | rfl | rfl | rfl <;> rfl
end Go.Proofs.YtdfdnjkeiddfjaaDoor
