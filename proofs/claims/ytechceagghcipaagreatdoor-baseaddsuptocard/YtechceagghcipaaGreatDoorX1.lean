import Derived.Test.YtechceagghcipaaGreatDoorP3
import Derived.Test.YtechceagghcipaaGreatDoorBK
import Derived.Deep.CutRange
namespace Go.Proofs.YtechceagghcipaaGreatDoor
open Go.RowKit
attribute [local go_sem ↓] Go.wp_at_zero Go.wp_at_succ

def fr (out : List Bd) (x : Int) : Bool := match out.getLast? with
 | none => true
 | some d => decide (d.x < x)
theorem fr_snoc (out : List Bd) (d : Bd) (x : Int) : fr (out ++ [d]) x = decide (d.x < x) := by unfold fr; rw [List.getLast?_append]; rfl
def SInv (s out : List Bd) : Prop := up out /\ ∀ x, fr out x = false -> look out x = look s x
def cnt (s out : List Bd) : Nat := (s.filter fun d => fr out d.x).length
theorem look_ne {l : List Bd} {x : Int} (h : ∀ d ∈ l, ¬ d.x = x) : look l x = none := by
 induction l with
 | nil => rfl
 | cons d l ih =>
  rw [look, if_neg (h d List.mem_cons_self)]
  exact ih fun e he => h e (List.mem_cons_of_mem _ he)
theorem up_lt {out : List Bd} {x : Int} (hu : up out) (h : fr out x = true) : ∀ d ∈ out, d.x < x := by
 rcases List.eq_nil_or_concat out with rfl | ⟨ys, e, rfl⟩
 ·intro d hd; cases hd
 ·intro d hd
  rw [List.concat_eq_append] at *
  rw [fr_snoc, decide_eq_true_eq] at h
  rcases List.mem_append.1 hd with hd | hd
  ·have := (List.pairwise_append.1 hu).2.2 d hd e (List.mem_singleton.2 rfl); omega
  ·rw [List.mem_singleton.1 hd]; exact h
theorem up_none {out : List Bd} {x : Int} (hu : up out) (h : fr out x = true) : look out x = none :=
 look_ne fun d hd e => by have := up_lt hu h d hd; omega
theorem look_first : ∀ (s : List Bd) (i : Nat) (d : Bd), s[i]? = some d -> (∀ j e, j < i -> s[j]? = some e -> ¬ e.x = d.x) -> look s d.x = some d.to := by
 intro s
 induction s with
 | nil => intro i d h; simp at h
 | cons a s ih =>
  intro i d h hf
  cases i with
  | zero => simp only [List.getElem?_cons_zero, Option.some.injEq] at h; subst h; rw [look, if_pos rfl]
  | succ i =>
   simp only [List.getElem?_cons_succ] at h
   rw [look, if_neg (hf 0 a (by omega) (by simp))]
   exact ih i d h fun j e hj he => hf (j + 1) e (by omega) (by simpa using he)
theorem sinv_start (s : List Bd) : SInv s [] := ⟨List.Pairwise.nil, fun x h => by cases h⟩
theorem sinv_end {s out : List Bd} (h : SInv s out) (hn : ∀ (i : Nat) (e : Bd), s[i]? = some e -> fr out e.x = false) : ∀ x, look out x = look s x := fun x => by
 cases hf : fr out x with
 | false => exact h.2 x hf
 | true =>
  rw [up_none h.1 hf, look_ne]
  intro d hd e
  obtain ⟨i, hi, rfl⟩ := List.getElem_of_mem hd
  have := hn i _ (List.getElem?_eq_getElem hi)
  rw [e, hf] at this; cases this
theorem sinv_step {s out : List Bd} (h : SInv s out) {i0 : Nat} {d : Bd} (hd : s[i0]? = some d) (hf : fr out d.x = true)
  (hm : ∀ (i : Nat) (e : Bd), s[i]? = some e -> fr out e.x = true -> d.x <= e.x) (h1 : ∀ (i : Nat) (e : Bd), i < i0 -> s[i]? = some e -> ¬ e.x = d.x) : SInv s (out ++ [d]) /\ cnt s (out ++ [d]) < cnt s out := by
 refine ⟨⟨?_, fun x hx => ?_⟩, ?_⟩
 ·exact List.pairwise_append.2 ⟨h.1, List.pairwise_singleton _ _, fun a ha b hb => by rw [List.mem_singleton.1 hb]; exact up_lt h.1 hf a ha⟩
 ·rw [fr_snoc, decide_eq_false_iff_not] at hx
  rw [look_append, look_one]
  cases hfx : fr out x with
  | false =>
   rw [h.2 x hfx]
   rw [if_neg (fun e => by rw [<- e, hf] at hfx; cases hfx)]
   cases look s x <;> rfl
  | true =>
   rw [up_none h.1 hfx]
   by_cases e : d.x = x
   ·rw [if_pos e, <- e, look_first s i0 d hd h1]; rfl
   ·rw [if_neg e, look_ne]
    ·rfl
    ·intro a ha ea
     obtain ⟨i, hi, rfl⟩ := List.getElem_of_mem ha
     have := hm i _ (List.getElem?_eq_getElem hi) (by rw [ea]; exact hfx)
     omega
 ·unfold cnt
  have e : (s.filter fun a => fr (out ++ [d]) a.x) = (s.filter fun a => fr out a.x).filter fun a => fr (out ++ [d]) a.x := by
   rw [List.filter_filter]
   apply List.filter_congr
   intro a _
   rw [fr_snoc]
   by_cases hh : d.x < a.x
   ·rw [decide_eq_true hh, Bool.true_and]
    symm
    rcases List.eq_nil_or_concat out with rfl | ⟨ys, z, rfl⟩
    ·rfl
    ·rw [List.concat_eq_append] at *
     rw [fr_snoc, decide_eq_true_eq] at hf ⊢; omega
   ·rw [decide_eq_false hh, Bool.false_and]
  rw [e, List.length_filter_lt_length_iff_exists]
  refine ⟨d, List.mem_filter.2 ⟨List.mem_of_getElem? hd, hf⟩, ?_⟩
  rw [fr_snoc]; simp
def AtI (s out : List Bd) (j : Nat) (a : Int) : Prop :=
 (a = -1 /\ ∀ (i : Nat) (e : Bd), i < j -> s[i]? = some e -> fr out e.x = false) ∨
 ∃ (i0 : Nat) (d : Bd), a = (i0 : Int) /\ i0 < j /\ s[i0]? = some d /\ fr out d.x = true /\ (∀ (i : Nat) (e : Bd), i < j -> s[i]? = some e -> fr out e.x = true -> d.x <= e.x) /\ (∀ (i : Nat) (e : Bd), i < i0 -> s[i]? = some e -> ¬ e.x = d.x)
theorem at_no {s out : List Bd} {j : Nat} {a : Int} {e : Bd} (h : AtI s out j a) (he : s[j]? = some e) (hf : fr out e.x = false) : AtI s out (j + 1) a := by
 rcases h with ⟨rfl, h⟩ | ⟨i0, d, rfl, h0, h1, h2, h3, h4⟩
 ·refine Or.inl ⟨rfl, fun i e' hi he' => ?_⟩
  rcases Nat.lt_or_ge i j with hh | hh
  ·exact h i e' hh he'
  ·obtain rfl : i = j := by omega
   rw [he] at he'; cases he'; exact hf
 ·refine Or.inr ⟨i0, d, rfl, by omega, h1, h2, fun i e' hi he' hfe => ?_, h4⟩
  rcases Nat.lt_or_ge i j with hh | hh
  ·exact h3 i e' hh he' hfe
  ·obtain rfl : i = j := by omega
   rw [he] at he'; cases he'; rw [hf] at hfe; cases hfe
theorem at_new {s out : List Bd} {j : Nat} {e : Bd} (h : ∀ (i : Nat) (e : Bd), i < j -> s[i]? = some e -> fr out e.x = false) (he : s[j]? = some e) (hf : fr out e.x = true) : AtI s out (j + 1) j := by
 refine Or.inr ⟨j, e, rfl, by omega, he, hf, fun i e' hi he' hfe => ?_, fun i e' hi he' hx => ?_⟩
 ·rcases Nat.lt_or_ge i j with hh | hh
  ·rw [h i e' hh he'] at hfe; cases hfe
  ·obtain rfl : i = j := by omega
   rw [he] at he'; cases he'; exact Int.le_refl _
 ·have := h i e' hi he'
  rw [hx, hf] at this; cases this
theorem at_less {s out : List Bd} {j : Nat} {d e : Bd} (hm : ∀ (i : Nat) (e : Bd), i < j -> s[i]? = some e -> fr out e.x = true -> d.x <= e.x) (he : s[j]? = some e) (hf : fr out e.x = true) (hl : e.x < d.x) : AtI s out (j + 1) j := by
 refine Or.inr ⟨j, e, rfl, by omega, he, hf, fun i e' hi he' hfe => ?_, fun i e' hi he' hx => ?_⟩
 ·rcases Nat.lt_or_ge i j with hh | hh
  ·have := hm i e' hh he' hfe; omega
  ·obtain rfl : i = j := by omega
   rw [he] at he'; cases he'; exact Int.le_refl _
 ·have := hm i e' hi he' (by rw [hx]; exact hf); omega
theorem at_more {s out : List Bd} {j i0 : Nat} {d e : Bd} (h0 : i0 < j) (h1 : s[i0]? = some d) (h2 : fr out d.x = true) (hm : ∀ (i : Nat) (e : Bd), i < j -> s[i]? = some e -> fr out e.x = true -> d.x <= e.x) (h4 : ∀ (i : Nat) (e : Bd), i < i0 -> s[i]? = some e -> ¬ e.x = d.x) (he : s[j]? = some e) (hl : ¬ e.x < d.x) : AtI s out (j + 1) i0 := by
 refine Or.inr ⟨i0, d, rfl, by omega, h1, h2, fun i e' hi he' hfe => ?_, h4⟩
 rcases Nat.lt_or_ge i j with hh | hh
 ·exact hm i e' hh he' hfe
 ·obtain rfl : i = j := by omega
  rw [he] at he'; cases he'; omega
end Go.Proofs.YtechceagghcipaaGreatDoor
