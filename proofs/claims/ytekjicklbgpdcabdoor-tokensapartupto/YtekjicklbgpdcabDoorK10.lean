/-
  variable, signOf, endsInRun, growTogether.
-/
import Derived.Test.YtekjicklbgpdcabDoorK4
namespace Go.Proofs.YtekjicklbgpdcabDoor
open Go.RowKit

def vrb (s : ByteArray) : Bool := !decide (s = ⟨#[]⟩) && (grt (at_ s 0) && decide (rne s 0 = s.size))
theorem variable_any (s : ByteArray) (hs : s.size < 4611686018427387904) (w : World) :
    Calls Tryd.prog 26 #[.string s] w fun e w' => e = .returned (.bool (vrb s)) ∧ w' = w := by
  have ca := great_any (at_ s 0)
  have cr := runEnd_any s 0 (Nat.zero_le _) hs
  have cq := int_beq (rne s 0) s.size
  unfold vrb
  by_cases h1 : s = ⟨#[]⟩
  · have z1 : s.toList = [] := by rw [h1]; exact emptyL
    rw [decide_eq_true h1]
    clear h1 ca cr cq
    go_enter Tryd.func26, Tryd.ntmps26
    go_wp2
    go_ret
    exact ⟨by simp, rfl⟩
  · have hp := size_pos h1
    have hidx := run_index_at s 0 hp 0 rfl
    have z1 : ¬ s.toList = [] := fun e => h1 (toList_inj (e.trans emptyL.symm))
    rw [decide_eq_false h1]
    clear h1
    obtain ⟨c, hc⟩ : ∃ c, at_ s 0 = c := ⟨_, rfl⟩
    rw [hc] at hidx ca
    rw [hc]
    obtain ⟨r, hr⟩ : ∃ r, rne s 0 = r := ⟨_, rfl⟩
    rw [hr] at cr cq
    rw [hr]
    clear hc hr
    cases a : grt c <;> cases b : decide (r = s.size) <;>
      (rw [a] at ca; rw [b] at cq
       clear a b
       go_enter Tryd.func26, Tryd.ntmps26
       go_wp2_with (first | (go_at_call 35; refine (ca _).mono ?_; rintro e w1 ⟨rfl, rfl⟩) | (go_at_call 33; refine (cr _).mono ?_; rintro e w1 ⟨rfl, rfl⟩))
       go_ret
       exact ⟨by simp [z1], rfl⟩)
/-- The sign of a kind; nothing of what is none. -/
def sgo (k : Int) : ByteArray := if 0 ≤ k then (signL[k.toNat]?).getD ⟨#[]⟩ else ⟨#[]⟩
theorem signOf_any (k : Int) (w : World) (hS : SignsOk w) :
    Calls Tryd.prog 29 #[.int .i64 k] w fun e w' => e = .returned (.string (sgo k)) ∧ w' = w := by
  by_cases h0 : k < 0
  · have E : sgo k = ⟨#[]⟩ := by unfold sgo; rw [if_neg (by omega)]
    rw [E]
    clear E
    go_enter Tryd.func29, Tryd.ntmps29
    go_wp2
    go_ret
    exact ⟨rfl, rfl⟩
  · by_cases h1 : 17 ≤ k
    · have E : sgo k = ⟨#[]⟩ := by
        unfold sgo
        rw [if_pos (by omega), List.getElem?_eq_none (by rw [signL_len]; omega)]; rfl
      rw [E]
      clear E
      go_enter Tryd.func29, Tryd.ntmps29
      go_wp2
      go_ret
      exact ⟨rfl, rfl⟩
    · obtain ⟨n, rfl⟩ : ∃ n : Nat, k = n := ⟨k.toNat, by omega⟩
      have hn : n < signL.length := by rw [signL_len]; omega
      obtain ⟨t, ht⟩ : ∃ t, signL[n]? = some t := ⟨_, List.getElem?_eq_getElem hn⟩
      have E : sgo (n : Int) = t := by unfold sgo; rw [if_pos (by omega), Int.toNat_natCast, ht]; rfl
      rw [E]
      have c1 := hS.2 n t ht
      have i0 : (0 : Int) ≤ (n : Int) := by omega
      have i1 : (n : Int) < 17 := by omega
      clear E ht hn h0 h1
      go_enter Tryd.func29, Tryd.ntmps29
      go_wp2
      go_ret
      exact ⟨rfl, rfl⟩
def enr (k : Int) : Bool := decide (k = 1 ∨ k = 2 ∨ k = 5 ∨ k = 4)
theorem endsInRun_any (t : Tk) (w : World) : Calls Tryd.prog 40 #[t.v] w fun e w' => e = .returned (.bool (enr t.k)) ∧ Below w.heap.size w w' := by
  obtain ⟨k, x, n, a, e⟩ := t
  by_cases h : k = 1 ∨ k = 2 ∨ k = 5 ∨ k = 4
  · have E : enr k = true := decide_eq_true h
    simp only [E]
    clear E
    rcases h with rfl | rfl | rfl | rfl <;>
    · go_enter Tryd.func40, Tryd.ntmps40
      go_wp2
      go_ret
      exact ⟨rfl, below1 _ _⟩
  · have E : enr k = false := decide_eq_false h
    simp only [E]
    have n1 : (k == 1) = false := beq_eq_false_iff_ne.2 (by omega)
    have n2 : (k == 2) = false := beq_eq_false_iff_ne.2 (by omega)
    have n3 : (k == 5) = false := beq_eq_false_iff_ne.2 (by omega)
    have n4 : (k == 4) = false := beq_eq_false_iff_ne.2 (by omega)
    clear E h
    go_enter Tryd.func40, Tryd.ntmps40
    go_wp2
    go_ret
    exact ⟨rfl, below1 _ _⟩
def grw (a b : Tk) : Bool := if b.k = 4 then (if b.n < 0 then false else enr a.k) else if b.k = 1 ∨ b.k = 2 ∨ b.k = 5 then enr a.k else if b.k = 13 then decide (a.k = 15) else false
end Go.Proofs.YtekjicklbgpdcabDoor
