import Derived.Test.YtechceagghcipaaGreatDoorRA43
import Derived.RangeFuncCalls
import Derived.Shelf.Abstract
import Derived.Shelf.RegionOpen
import Derived.WalkKit
import Derived.OwnWalkIn
import Derived.TacticsInMore
import Derived.LoopNIn
import Derived.LoopIn
namespace Go.Proofs.YtechceagghcipaaGreatDoor
open Go.RowKit Go.Shelf Go.Lib
attribute [local go_sem] Oper.semAt_some

set_option maxRecDepth 100000 in
theorem find_none (b1 b2 b3 b4 b5 : Nat) :
  SeqX Tryz.prog 91 #[.pointer (some ⟨b1, 0, none⟩), .pointer (some ⟨b2, 0, none⟩), .pointer (some ⟨b3, 0, none⟩), .pointer (some ⟨b4, 0, none⟩), .pointer (some ⟨b5, 0, none⟩)] [] (fun W => Bk W b1 #[.bool false] 4) (fun W W1 => W1 = W) (fun _ _ => True) := by
 intro n l J Jx W hd hEff hK hY
 have c1 := hd.cell (i := 0) rfl
 have HE := hm7 (hEff W rfl)
 clear hd hEff hK hY
 refine callsIn_of_wp Tryz.func91 rfl trivial ?_ rfl
 simp only [Tryz.ntmps91, List.size_toArray, List.length_cons, List.length_nil, Nat.reduceAdd, Nat.reduceSub, Array.replicate_succ, Array.replicate_zero, List.push_toArray, List.append_toArray, List.nil_append, List.cons_append]
 gi_wp2
 refine bodyPost_ret (results_none rfl _ _ _) rfl ?_
 exact ⟨⟨_, rfl⟩, _, .inl HE.out⟩
theorem compact_rise {l : List (Int × Int)} (h : srtZ7 l) : (compact l).Pairwise fun a b => a.1 < b.1 ∨ (a.1 = b.1 /\ a.2 < b.2) := by
 unfold compact compactUpTo
 rw [List.pairwise_map]
 have h0 : ((List.range l.length).filter (keeps l.toArray)).Pairwise (· < ·) := List.Pairwise.filter _ List.pairwise_lt_range
 refine List.Pairwise.imp_of_mem ?_ h0
 intro i j hi hj hij
 simp only [List.mem_filter, List.mem_range] at hi hj
 have gi : l.toArray[i]! = l[i]'hi.1 := by rw [getElem!_pos l.toArray i (by simpa using hi.1)]; simp
 have gj : l.toArray[j]! = l[j]'hj.1 := by rw [getElem!_pos l.toArray j (by simpa using hj.1)]; simp
 have gp : l.toArray[j - 1]! = l[j - 1]'(by omega) := by rw [getElem!_pos l.toArray (j - 1) (by simp; omega)]; simp
 have hk : j = 0 ∨ l.toArray[j]! ≠ l.toArray[j - 1]! := by simpa [keeps] using hj.2
 have hne : l[j]'hj.1 ≠ l[j - 1]'(by omega) := by
  rcases hk with hk | hk
  ·omega
  ·rw [gj, gp] at hk; exact hk
 have hs := List.pairwise_iff_getElem.1 h
 have h1 := hs (j - 1) j (by omega) hj.1 (by omega)
 have h2 : l[i]'hi.1 = l[j - 1]'(by omega) ∨ ((l[i]'hi.1).1 < (l[j - 1]'(by omega)).1 ∨ ((l[i]'hi.1).1 = (l[j - 1]'(by omega)).1 /\ (l[i]'hi.1).2 <= (l[j - 1]'(by omega)).2)) := by
  by_cases e : i = j - 1
  ·left; subst e; rfl
  ·exact Or.inr (hs i (j - 1) hi.1 (by omega) (by omega))
 rw [gi, gj]
 have h3 : (l[j]'hj.1).1 = (l[j - 1]'(by omega)).1 -> (l[j]'hj.1).2 ≠ (l[j - 1]'(by omega)).2 := fun e1 e2 => hne (Prod.ext e1 e2)
 rcases h2 with h2 | h2
 ·rw [h2]; omega
 ·omega
end Go.Proofs.YtechceagghcipaaGreatDoor
