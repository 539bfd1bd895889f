import Derived.Test.YtechceagghcipaaGreatDoorB2
namespace Go.Proofs.YtechceagghcipaaGreatDoor
open Go.RowKit

set_option maxHeartbeats 400000 in
theorem rvar_any (t : Tm) (w : World) :
  Calls Tryz.prog 149 #[t.v] w fun e w' => e = .returned (.bool t.var) /\ Below w.heap.size w w' := by
 obtain ⟨k, n, s⟩ := t
 unfold Tm.var
 go_enter Tryz.func149, Tryz.ntmps149
 go_wp2
 all_goals
  go_ret
  refine ⟨ret_b ?_, below1 _ _⟩
  simp_all [isE]
  try omega
set_option maxHeartbeats 400000 in
theorem rcon_any (t : Tm) (w : World) :
  Calls Tryz.prog 166 #[t.v] w fun e w' => e = .returned (.bool t.con) /\ Below w.heap.size w w' := by
 obtain ⟨k, n, s⟩ := t
 cases h2 : s.toList.isEmpty
 all_goals
  have h3 := isE s
  rw [h2] at h3
  by_cases h1 : k = 1
  ·unfold Tm.con
   subst h1
   clear h3
   go_enter Tryz.func166, Tryz.ntmps166
   go_wp2
   all_goals
    go_ret
    refine ⟨ret_b ?_, below1 _ _⟩
    simp_all [isE]
    try omega
  ·by_cases h4 : k = 2
   ·by_cases h5 : n = 0
    all_goals
     unfold Tm.con
     subst h4
     clear h3
     go_enter Tryz.func166, Tryz.ntmps166
     go_wp2
     all_goals
      go_ret
      refine ⟨ret_b ?_, below1 _ _⟩
      simp_all [isE]
      try omega
   ·unfold Tm.con
    clear h3
    go_enter Tryz.func166, Tryz.ntmps166
    go_wp2
    all_goals
     go_ret
     refine ⟨ret_b ?_, below1 _ _⟩
     simp_all [isE]
set_option maxHeartbeats 400000 in
theorem rprin_any (t : Tm) (w : World) :
  Calls Tryz.prog 165 #[t.v] w fun e w' => e = .returned (.bool t.prin) /\ Below w.heap.size w w' := by
 obtain ⟨k, n, s⟩ := t
 cases hc : Tm.con ⟨k, n, s⟩
 ·have hp : Hid (false = Tm.prin ⟨k, n, s⟩) := by
   show false = Tm.prin ⟨k, n, s⟩
   by_cases h : k = 2 /\ s ≠ ⟨#[]⟩
   ·rw [<- prin_eq _ _ _ h.1 h.2, hc]
   ·exact prin_no _ _ _ h
  have HC : Hid (Tm.con ⟨k, n, s⟩ = false) := hc
  clear hc
  go_enter Tryz.func165, Tryz.ntmps165
  go_wp2_with (go_at_call 166; refine (rcon_any ⟨k, n, s⟩ _).mono ?_; rw [HC.out]; rintro e w1 ⟨rfl, hb⟩)
  go_ret
  exact ⟨ret_b hp.out, (below1 _ _).trans (hb.mono (by simp))⟩
 ·have HC : Hid (Tm.con ⟨k, n, s⟩ = true) := hc
  clear hc
  go_enter Tryz.func165, Tryz.ntmps165
  go_wp2_with (go_at_call 166; refine (rcon_any ⟨k, n, s⟩ _).mono ?_; rw [HC.out]; rintro e w1 ⟨rfl, hb⟩; obtain ⟨hcl, hfr⟩ := bcell hb)
  all_goals
   go_ret
   refine ⟨ret_b ?_, (below1 _ _).trans (hb.mono (by simp))⟩
   have := HC.out
   simp_all [isE, Tm.prin, Tm.con]
set_option maxHeartbeats 400000 in
theorem rcompare_any (a b : Tm) (w : World) (hsa : a.s.size <= maxLen) (hsb : b.s.size <= maxLen) :
  Calls Tryz.prog 147 #[a.v, b.v] w fun e w' => e = .returned (.int .i64 (a.cmp b)) /\ Below w.heap.size w w' := by
 obtain ⟨k, n, s⟩ := a
 obtain ⟨k', n', s'⟩ := b
 go_enter Tryz.func147, Tryz.ntmps147
 go_wp2_with (first
  | (go_at_call 146; refine (ints_any _ _ _).mono ?_; rintro e w1 ⟨rfl, rfl⟩)
  | (go_at_call 145; refine (texts_any _ _ _ hsa hsb).mono ?_; rintro e w1 ⟨rfl, hb⟩))
 all_goals go_ret
 ·refine ⟨ret_i ?_, below2 _ _ _⟩
  unfold Tm.cmp; simp_all
 ·refine ⟨ret_i ?_, below2 _ _ _⟩
  unfold Tm.cmp; simp_all
 ·refine ⟨ret_i ?_, (below2 _ _ _).trans (hb.mono (by simp; omega))⟩
  unfold Tm.cmp; simp_all
end Go.Proofs.YtechceagghcipaaGreatDoor
