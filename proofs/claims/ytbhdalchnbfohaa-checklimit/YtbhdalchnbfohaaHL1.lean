/-
  CheckLimit, plain: the example's last step again and again.
-/
import Derived.Test.YtbhdalchnbfohaaHC10
namespace Go.Proofs.Ytbhdalchnbfohaa
open Go.RowKit

def st4 : Sk := (2, [⟨2, 0, ⟨#[98, 111, 98]⟩⟩, ⟨2, 0, ⟨#[99, 97, 114, 108]⟩⟩], [1, 2])
theorem step_more (X : List At) : stepH K4 st4 (fa1 :: gd4 :: fa6 :: X) = .ok my4 := by
  rw [stepH_some (c := (fa4, [fa3, fa5], [])) (by decide) rfl]
  have h5 : usH [1, 2] (fa1 :: gd4 :: fa6 :: X).length = true := by
    simp only [usH, List.all_cons, List.all_nil, Bool.and_true, Bool.and_eq_true, decide_eq_true_eq, List.length_cons]
    omega
  exact ruleH_8 (by kernel_rfl) (by kernel_rfl) (by kernel_rfl) rfl h5 (by kernel_rfl) (by kernel_rfl)
theorem all_more : ∀ (k : Nat) (X : List At), allH K4 (List.replicate k st4) (fa1 :: gd4 :: fa6 :: X) = .ok (fa1 :: gd4 :: fa6 :: (X ++ List.replicate k my4))
  | 0, X => by simp [allH]
  | k + 1, X => by
    rw [List.replicate_succ]
    unfold allH
    rw [step_more]
    have := all_more k (X ++ [my4])
    simp only [List.cons_append]
    rw [this, List.append_assoc, List.replicate_succ]
    rfl
theorem allH_app {R : List Ck} : ∀ {S T : List Sk} {F G : List At}, allH R S F = .ok G → allH R (S ++ T) F = allH R T G
  | [], T, F, G, h => by cases h; rfl
  | s :: S, T, F, G, h => by
    unfold allH at h
    rw [List.cons_append]
    conv => lhs; unfold allH
    cases hs : stepH R s F with
    | error c => rw [hs] at h; cases h
    | ok a => rw [hs] at h; exact allH_app h
theorem con_more {k : Nat} (hk : k + 4 ≤ 5000) : conH K4 (S4 ++ List.replicate k st4) = .ok (fa1 :: gd4 :: fa6 :: ([my4] ++ List.replicate k my4)) := by
  unfold conH
  have hl : (S4 ++ List.replicate k st4).length = k + 4 := by rw [List.length_append, List.length_replicate]; simp [S4]; omega
  rw [if_neg (by omega), allH_app (show allH K4 S4 [] = .ok [fa1, gd4, fa6, my4] by kernel_rfl)]
  exact all_more k [my4]
theorem wi_more (k : Nat) : wiH K4 K4 (S4 ++ List.replicate k st4) = true := by
  unfold wiH
  rw [List.all_append, show S4.all (inH K4 K4) = true by kernel_rfl, Bool.true_and, List.all_eq_true]
  intro x hx
  rw [(List.mem_replicate.1 hx).2]
  kernel_rfl
theorem last_more (k : Nat) : (fa1 :: gd4 :: fa6 :: ([my4] ++ List.replicate k my4)).getLast? = some my4 := by
  rw [show [my4] ++ List.replicate k my4 = List.replicate k my4 ++ [my4] by rw [← List.replicate_succ', List.replicate_succ]; rfl]
  rw [← List.cons_append, ← List.cons_append, ← List.cons_append, List.getLast?_concat]
theorem che_more {k : Nat} (hk : k + 4 ≤ 5000) : cheH K4 K4 (S4 ++ List.replicate k st4) my4 = 0 := by
  unfold cheH
  rw [con_more hk]
  simp only
  rw [if_neg (by rw [wi_more]; simp), last_more, if_pos rfl]
theorem che_over {k : Nat} (hk : 5000 < k + 4) : cheH K4 K4 (S4 ++ List.replicate k st4) my4 = 121 := by
  unfold cheH conH
  have hl : (S4 ++ List.replicate k st4).length = k + 4 := by rw [List.length_append, List.length_replicate]; simp [S4]; omega
  rw [if_pos (Or.inr (by omega))]
end Go.Proofs.Ytbhdalchnbfohaa
