import Derived.Test.YtechceagghcipaaGreatDoorEB3
import Derived.Test.YtechceagghcipaaGreatDoorMD2
import Derived.Lib.AppendZeros
namespace Go.Proofs.YtechceagghcipaaGreatDoor
open Go.RowKit
attribute [local go_sem ↓] Go.wp_at_zero Go.wp_at_succ

set_option maxRecDepth 100000 in
theorem app_zeros8 {ops : Array Oper} {rest : List Oper} {o : Oper} {a : Act} {Q : Exit -> Act -> World -> Prop} {w : World} (hgd : o.guard = none) (s x : Operand)
  (ho : o.op = .call { callee := .builtin .append, args := #[s, x], argTypes := #[25, 3] }) (hs : a.eval s = .slice none 0 0) (n : Nat) (hx : a.eval x = .int .i64 (n : Int)) (h0 : 0 < n) (hn : n <= 1000000000000)
  (h : ∀ cap w', OwnT w' w.heap.size (.slice (some ⟨w.heap.size, 0, none⟩) 0 cap) [] -> n <= cap -> Below w.heap.size w w' -> wpList Tryz.prog ops Q rest (a.put o.dst (.slice (some ⟨w.heap.size, 0, none⟩) n cap)) w') : wpList Tryz.prog ops Q (o :: rest) a w := by
 obtain ⟨i, hi, hz0, hz1, hz2⟩ := info7 Tryz.infoTerm8
 have hrun := Lib.run_append_nil_zeros (P := Tryz.prog) w 25 3 o.type 24 i _ .i64 .i64 Tryz.underlying25 Tryz.underlying3 hi hz0 n h0 (by omega) (by omega) (by rw [hz2]; omega)
 refine wpList_plain hgd fun K hK => ?_
 simp [Oper.wp, execOp, ho, resolve, invoke, builtin, hs, hx, hrun, Result.andThen]
 refine hK _ _ (h _ _ ?_ (grownCap_ge _ _ _ _) ?_)
 ·refine ⟨rfl, Or.inr ⟨w.heap.size, grownCap w n 0 24, _, rfl, Nat.le_refl _, heap_alloc_new _ _, Nat.zero_le _, grownCap_le_maxLen _ _ _ _ (by unfold maxLen; omega), ?_, by simp [tcs]⟩⟩
  have hc : n <= grownCap w n 0 24 := grownCap_ge _ _ _ _
  rw [Array.size_append, size_zeroCells, size_zeroCells]
  have e3 : (Value.agg #[.int .i64 0, .int .i64 0, .string ⟨#[]⟩]).cells.size = 3 := rfl
  rw [e3, <- Nat.add_mul]
  congr 1
  omega
 ·exact (show Below w.heap.size w w.drew from ⟨rfl, rfl, rfl, Nat.le_refl _, fun _ _ => rfl⟩).trans (show Below w.heap.size w.drew _ from below1 w.drew _)
set_option maxRecDepth 20000 in
theorem grow8_any (n : Nat) (h0 : 0 < n) (hn : n <= 1000000000000) (Y : World) : Calls Tryz.prog 121 #[.slice none 0 0, .int .i64 (n : Int)] Y fun e Y' => ∃ g cap, e = .returned (.slice (some ⟨g, 0, none⟩) 0 cap) /\ OwnT Y' Y.heap.size (.slice (some ⟨g, 0, none⟩) 0 cap) [] /\ Below Y.heap.size Y Y' := by
 have n0 : ¬ (n : Int) < 0 := by omega
 have n1 : (0 : Int) < (n : Int) := by omega
 have n2 : (n : Int) - (0 - 0) = (n : Int) := by omega
 have n3 : (n : Int) > 0 := n1
 go_enter Tryz.func121, Tryz.ntmps121
 go_wp2_with (at_builtin; refine app_zeros8 rfl _ _ rfl rfl n rfl h0 hn ?_; intro cap w' ho hc hb; have HO := hm7 ho; have HB := hm7 hb; clear ho hb)
 go_ret
 exact ⟨_, _, rfl, HO.out, HB.out⟩
end Go.Proofs.YtechceagghcipaaGreatDoor
