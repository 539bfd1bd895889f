import Derived.Test.YtechceagghcipaaGreatDoorRD7
namespace Go.Proofs.YtechceagghcipaaGreatDoor
open Go.RowKit
attribute [local go_sem ↓] Go.wp_at_zero Go.wp_at_succ

theorem rows_three {s : St7} (ho : s.Ok) : s.rows = s.rows.take s.nf ++ ((s.rows.take s.xf).drop s.nf ++ s.rows.drop s.xf) := by
 have h1 := ho.a
 have e : (s.rows.take s.xf).take s.nf = s.rows.take s.nf := by rw [List.take_take, Nat.min_eq_left h1]
 rw [<- List.append_assoc, <- e, List.take_append_drop, List.take_append_drop]
theorem filter_const {α : Type} (f : α -> Bool) {L : List α} {b : Bool} (h : ∀ x ∈ L, f x = b) : L.filter f = if b then L else [] := by
 cases b with
 | true => rw [List.filter_eq_self.2 h]; rfl
 | false => rw [List.filter_eq_nil_iff.2 fun x hx => by rw [h x hx]; simp]; rfl
theorem filt_three {s : St7} (ho : s.Ok) (parts : Int) : s.rows.filter (fun r => hp7 parts (part7 s r)) = (if hp7 parts 1 then s.rows.take s.nf else []) ++ ((if hp7 parts 2 then (s.rows.take s.xf).drop s.nf else []) ++ if hp7 parts 4 then s.rows.drop s.xf else []) := by
 have ha := ho.a
 have hb := ho.b
 have f1 : (s.rows.take s.nf).filter (fun r => hp7 parts (part7 s r)) = if hp7 parts 1 then s.rows.take s.nf else [] := filter_const _ fun x hx => by
  obtain ⟨i, hi⟩ := List.getElem?_of_mem hx
  rw [List.getElem?_take] at hi
  split at hi
  ·rename_i h1
   rw [part7_at ho hi, if_pos h1]
  ·cases hi
 have f2 : ((s.rows.take s.xf).drop s.nf).filter (fun r => hp7 parts (part7 s r)) = if hp7 parts 2 then (s.rows.take s.xf).drop s.nf else [] := filter_const _ fun x hx => by
  obtain ⟨i, hi⟩ := List.getElem?_of_mem hx
  rw [List.getElem?_drop, List.getElem?_take] at hi
  split at hi
  ·rename_i h1
   rw [part7_at ho hi, if_neg (by omega), if_pos h1]
  ·cases hi
 have f3 : (s.rows.drop s.xf).filter (fun r => hp7 parts (part7 s r)) = if hp7 parts 4 then s.rows.drop s.xf else [] := filter_const _ fun x hx => by
  obtain ⟨i, hi⟩ := List.getElem?_of_mem hx
  rw [List.getElem?_drop] at hi
  rw [part7_at ho hi, if_neg (by omega), if_neg (by omega)]
 have e : s.rows.filter (fun r => hp7 parts (part7 s r)) = (s.rows.take s.nf ++ ((s.rows.take s.xf).drop s.nf ++ s.rows.drop s.xf)).filter (fun r => hp7 parts (part7 s r)) := by rw [<- rows_three ho]
 rw [e, List.filter_append, List.filter_append, f1, f2, f3]
theorem sel_filter {s : St7} (ho : s.Ok) (parts : Int) : sel7 s parts [] [] = s.rows.filter fun r => hp7 parts (part7 s r) := by
 have r1 : rws7 s.rows (wn7 0 (s.nf : Int) (nat7 (List.range s.rows.length))) = s.rows.take s.nf := by
  have := rws_range s.rows 0 s.nf (by omega) (Nat.le_trans ho.a ho.b)
  simpa using this
 have r2 := rws_range s.rows s.nf s.xf ho.a ho.b
 have r3 : rws7 s.rows (wn7 (s.xf : Int) (s.rows.length : Int) (nat7 (List.range s.rows.length))) = s.rows.drop s.xf := by
  have := rws_range s.rows s.xf s.rows.length ho.b (Nat.le_refl _)
  simpa using this
 rw [filt_three ho, sel7, pls7_all, sts7]
 cases hp7 parts 1 <;> cases hp7 parts 2 <;> cases hp7 parts 4 <;> simp [r1, r2, r3]
theorem rsel_eq {s : St7} (ho : s.Ok) (parts : Int) : srt7 (sel7 s parts [] []) = rsel7 s parts := by rw [sel_filter ho, srt7_filter]; rfl
theorem rsel_len {s : St7} (ho : s.Ok) (parts : Int) : len7 s parts = ((rsel7 s parts).length : Int) := by
 have ha := ho.a
 have hb := ho.b
 rw [<- rsel_eq ho, (srt7_perm _).length_eq, sel_filter ho, filt_three ho, len7, sts7]
 cases hp7 parts 1 <;> cases hp7 parts 2 <;> cases hp7 parts 4 <;> simp [sum7] <;> omega
end Go.Proofs.YtechceagghcipaaGreatDoor
