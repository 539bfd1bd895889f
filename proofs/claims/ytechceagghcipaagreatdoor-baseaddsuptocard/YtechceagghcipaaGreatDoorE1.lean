import Derived.Test.YtechceagghcipaaGreatDoorB4
namespace Go.Proofs.YtechceagghcipaaGreatDoor
open Go.RowKit
theorem run_eql_tm (t u : Tm) (w : World) : (binOp .eql 24 t.v u.v).run Tryz.prog w = .ok (.bool (decide (t = u))) w := by
 obtain ⟨k, n, s⟩ := t
 obtain ⟨k', n', s'⟩ := u
 by_cases h1 : k = k'
 ·by_cases h2 : n = n'
  ·by_cases h3 : s = s'
   ·subst h1 h2 h3
    go_simp
   ·have h4 : ¬ s.toList = s'.toList := fun e => h3 (toList_inj e)
    subst h1 h2
    go_simp
  ·subst h1
   go_simp
 ·go_simp
theorem run_neq_tm (t u : Tm) (w : World) : (binOp .neq 24 t.v u.v).run Tryz.prog w = .ok (.bool (!decide (t = u))) w := by
 obtain ⟨k, n, s⟩ := t
 obtain ⟨k', n', s'⟩ := u
 by_cases h1 : k = k'
 ·by_cases h2 : n = n'
  ·by_cases h3 : s = s'
   ·subst h1 h2 h3
    go_simp
   ·have h4 : ¬ s.toList = s'.toList := fun e => h3 (toList_inj e)
    subst h1 h2
    go_simp
  ·subst h1
   go_simp
 ·go_simp
end Go.Proofs.YtechceagghcipaaGreatDoor
