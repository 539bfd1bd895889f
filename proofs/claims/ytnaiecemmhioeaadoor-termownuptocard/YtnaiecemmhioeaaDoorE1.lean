/-
  '==' and '!=' of terms and of binds.
-/
import Derived.Test.YtnaiecemmhioeaaDoorB4
namespace Go.Proofs.YtnaiecemmhioeaaDoor
open Go.RowKit
theorem run_eql_tm (t u : Tm) (w : World) : (binOp .eql 23 t.v u.v).run Tryd.prog w = .ok (.bool (decide (t = u))) w := by
  obtain ⟨k, n, s⟩ := t
  obtain ⟨k', n', s'⟩ := u
  by_cases h1 : k = k'
  · by_cases h2 : n = n'
    · by_cases h3 : s = s'
      · subst h1 h2 h3
        go_simp
      · have h4 : ¬ s.toList = s'.toList := fun e => h3 (toList_inj e)
        subst h1 h2
        go_simp
    · subst h1
      go_simp
  · go_simp
theorem run_neq_tm (t u : Tm) (w : World) : (binOp .neq 23 t.v u.v).run Tryd.prog w = .ok (.bool (!decide (t = u))) w := by
  obtain ⟨k, n, s⟩ := t
  obtain ⟨k', n', s'⟩ := u
  by_cases h1 : k = k'
  · by_cases h2 : n = n'
    · by_cases h3 : s = s'
      · subst h1 h2 h3
        go_simp
      · have h4 : ¬ s.toList = s'.toList := fun e => h3 (toList_inj e)
        subst h1 h2
        go_simp
    · subst h1
      go_simp
  · go_simp
theorem run_eql_bd (t u : Bd) (w : World) : (binOp .eql 43 t.v u.v).run Tryd.prog w = .ok (.bool (decide (t = u))) w := by
  obtain ⟨x, k, n, s⟩ := t
  obtain ⟨x', k', n', s'⟩ := u
  by_cases h0 : x = x'
  · by_cases h1 : k = k'
    · by_cases h2 : n = n'
      · by_cases h3 : s = s'
        · subst h0 h1 h2 h3
          go_simp
        · have h4 : ¬ s.toList = s'.toList := fun e => h3 (toList_inj e)
          subst h0 h1 h2
          go_simp
      · subst h0 h1
        go_simp
    · subst h0
      go_simp
  · go_simp
theorem run_neq_bd (t u : Bd) (w : World) : (binOp .neq 43 t.v u.v).run Tryd.prog w = .ok (.bool (!decide (t = u))) w := by
  obtain ⟨x, k, n, s⟩ := t
  obtain ⟨x', k', n', s'⟩ := u
  by_cases h0 : x = x'
  · by_cases h1 : k = k'
    · by_cases h2 : n = n'
      · by_cases h3 : s = s'
        · subst h0 h1 h2 h3
          go_simp
        · have h4 : ¬ s.toList = s'.toList := fun e => h3 (toList_inj e)
          subst h0 h1 h2
          go_simp
      · subst h0 h1
        go_simp
    · subst h0
      go_simp
  · go_simp
end Go.Proofs.YtnaiecemmhioeaaDoor
