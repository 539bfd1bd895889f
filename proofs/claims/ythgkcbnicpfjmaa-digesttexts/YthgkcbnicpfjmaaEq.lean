/-
  '==' of two digests that are the same.
-/
import Derived.Test.YthgkcbnicpfjmaaFh
namespace Go.Proofs.Ythgkcbnicpfjmaa
open Go.RowKit

theorem run_eqGuard_digest (x y : Operand) (a b : Array Value) (w : World) : (eqGuard .eql 23 x y (.agg a) (.agg b)).run Try.prog w = .ok () w := by
  have h : Try.prog.eqGuardType Try.prog.depth 23 = false := by kernel_rfl
  simp [eqGuard, run_program, h]
theorem run_part5 (c : Array Value) (i : Nat) (v : Value) (h : c[i]? = some v) (w : World) : (part 5 c i).run Try.prog w = .ok v w := by
  simp [part, h, go_sem]
theorem run_forIn_all {P : Program} {α β : Type} {w : World} (l : List α) (init : β) (body : α → β → Sem (ForInStep β))
    (h : ∀ a ∈ l, ∀ w, (body a init).run P w = .ok (.yield init) w) : (forIn l init body).run P w = .ok init w := by
  induction l with
  | nil => simp
  | cons a l ih =>
    rw [List.forIn_cons, Sem.run_bind, h a (by simp) w]
    simp only [Result.andThen_ok]
    exact ih fun b hb => h b (by simp [hb])
theorem run_eql_digest (f : Nat → Int) (w : World) : (binOp .eql 23 (.agg (dcells f)) (.agg (dcells f))).run Try.prog w = .ok (.bool true) w := by
  have hs : ∀ w, (sizeOf 5).run Try.prog w = .ok 1 w := fun w => by kernel_rfl
  have hp : ∀ i, i < 32 → ∀ w, (part 5 (dcells f) i).run Try.prog w = .ok (.int .u8 (f i)) w := fun i hi w => run_part5 _ _ _ (dcells_get f i hi) w
  have he : ∀ d i w, (Op.equalIn (d + 1) 5 (.int .u8 (f i)) (.int .u8 (f i))).run Try.prog w = .ok true w := fun d i w => by simp [Op.equalIn, run_underlying Try.underlying5]
  have h : ∀ d, (∀ i w, (Op.equalIn d 5 (.int .u8 (f i)) (.int .u8 (f i))).run Try.prog w = .ok true w) → (Op.equalIn (d + 1) 23 (.agg (dcells f)) (.agg (dcells f))).run Try.prog w = .ok true w := fun d he => by
    simp only [Op.equalIn, Sem.run_bind, run_underlying Try.underlying23, Result.andThen_ok, hs]
    rw [Std.Legacy.Range.forIn_eq_forIn_range']
    rw [run_forIn_all (P := Try.prog) (w := w) _ _ _ (fun i hi w' => by
      have hi' : i < 32 := by simpa [List.mem_range'_1] using hi
      simp only [Nat.mul_one, Sem.run_bind, hp i hi', Result.andThen_ok, he]
      simp)]
    simp
  have := h 9999 (he 9998)
  simp [binOp, Op.equal, Op.maxDepth, this]
end Go.Proofs.Ythgkcbnicpfjmaa
