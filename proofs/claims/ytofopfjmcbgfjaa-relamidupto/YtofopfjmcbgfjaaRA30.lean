/-
  law 7: head's walk.
-/
import Derived.Test.YtofopfjmcbgfjaaRA29
namespace Go.Proofs.Ytofopfjmcbgfjaa
open Go.RowKit
attribute [local go_sem ↓] Go.wp_at_zero Go.wp_at_succ

set_option maxRecDepth 100000 in
theorem eqP7 (w : World) (x : Addr) : (binOp .eql 25 (.pointer (some x)) (.pointer none)).run Try.prog w = .ok (.bool false) w := rfl
theorem new8_any (n : Nat) (hn : n ≤ 9223372036854775807) (w : World) :
    Calls Try.prog 21 #[.int .i64 (n : Int)] w fun e w' => ∃ g, e = .returned (.tuple #[.pointer (some ⟨g, 0, none⟩), .int .i64 0]) ∧ HD7 w g 0 (New7 n) w' := by
  refine (new7_any n hn w).mono ?_
  rintro e w' ⟨g, rfl, -, h, hb⟩
  exact ⟨g, rfl, _, _, h, fun b hb => hb.elim (fun h => h.1) False.elim, hb⟩
set_option maxRecDepth 20000 in
set_option maxHeartbeats 2000000 in
theorem head7_any (w : World) : Calls Try.prog 11 #[] w fun e w' => e = .returned (.bool true) ∧ Below w.heap.size w w' := by
  have HNEW := hm7 (new8_any 2 (by omega) w)
  have qP := eqP7
  have qF : ∀ (w : World) (b1 b2 b3 b4 b5 : Nat), (binOp .eql 32 (fnd7 b1 b2 b3 b4 b5) .nilFunc).run Try.prog w = .ok (.bool false) w := by
    intro w b1 b2 b3 b4 b5
    rfl
  have qG : ∀ (w : World) (x y : Operand) (b1 b2 b3 b4 b5 : Nat), (eqGuard .eql 32 x y (fnd7 b1 b2 b3 b4 b5) .nilFunc).run Try.prog w = .ok () w := by
    intro w x y b1 b2 b3 b4 b5
    rfl
  have HL1 : Hid (∀ X : World, Li Any (X.alloc (.cells #[.int .i64 3, .int .i64 1] 3)) (.slice (some ⟨X.heap.size, 0, none⟩) 2 2) [3, 1]) := fun X => li_lit (Bk.new _ _ _) rfl rfl (by intro x hx; simp at hx; rcases hx with rfl | rfl <;> rfl) (by omega)
  have HL2 : Hid (∀ X : World, Li Any (X.alloc (.cells #[.int .i64 1, .int .i64 2] 3)) (.slice (some ⟨X.heap.size, 0, none⟩) 2 2) [1, 2]) := fun X => li_lit (Bk.new _ _ _) rfl rfl (by intro x hx; simp at hx; rcases hx with rfl | rfl <;> rfl) (by omega)
  have HL3 : Hid (∀ X : World, Li Any (X.alloc (.cells #[.int .i64 1] 3)) (.slice (some ⟨X.heap.size, 0, none⟩) 1 1) [1]) := fun X => li_lit (Bk.new _ _ _) rfl rfl (by intro x hx; simp at hx; subst hx; rfl) (by omega)
  go_enter Try.func11, Try.ntmps11
  go_upto_region 2 with (go_at_call 21; refine HNEW.out.mono ?_; rintro e W0 ⟨g, rfl, hh⟩; have HH0 := hm7 hh; clear hh)
  go_upto_region 4 with (go_at_call 13; refine (find0_any g 7 W0).mono ?_; rintro e W1 ⟨b1, b2, b3, b4, b5, rfl, -, -, hb⟩; have HH1 := hm7 (HH0.out.below hb); clear hb)
  clear qP qF qG HNEW HH0
  go_upto_region 5 with (go_at_call 16; refine ((HH1.out.below (below1 _ _)).add (HL1.out W1) rfl (by simp) (by simp [New7])).mono ?_; rintro e W2 ⟨rfl, hh⟩; have HH2 := hm7 hh; clear hh)
  go_upto_region 6 with (go_at_call 16; refine ((HH2.out.below (below1 _ _)).add (HL2.out W2) rfl (by simp) (by decide)).mono ?_; rintro e W3 ⟨rfl, hh⟩; rw [s71_is] at hh; rw [show decide ([1, 2] ∉ (ad7 (New7 2) [3, 1]).rows) = true from rfl]; have HH3 := hm7 hh; clear hh)
  go_upto_region 7 with (go_at_call 16; refine ((HH3.out.below (below1 _ _)).no (HL3.out W3) (by decide)).mono ?_; rintro e W4 ⟨rfl, hh⟩; have HH4 := hm7 hh; clear hh)
  go_upto_region 9 with (first | (go_at_call 18; refine HH4.out.turn.mono ?_; rintro e W5 ⟨rfl, hh⟩; rw [show ((s71.rows.length : Int) - (s71.xf : Int)) = 2 from rfl]; have HH5 : Hid (HD7 w g 0 s72 W5) := hh; clear hh) | (go_at_call 28; refine ((HH5.out.below (below1 _ _)).part (HL1.out W5) (by simp)).mono ?_; rintro e W6 ⟨rfl, hh⟩; rw [s72_part]; have HH6 := hm7 hh; clear hh))
  clear HL1 HL2 HL3 HH1 HH2 HH3 HH4 HH5
  go_upto_region 10 with (go_at_call 12; refine (HH6.out.rows 7 (by omega)).mono ?_; rintro e W7 ⟨u, rfl, Q, hol, hq, hh⟩; rw [s72_rows] at hq; obtain ⟨ua, uc, hu, -⟩ := row7_form hol.o; have hQ2 : Q.length = 2 := (by have := congrArg List.length hq; simpa using this); rw [hQ2] at hu; subst hu; have HH7 := hm7 hh; have HOL := hm7 hol; have HQ := hm7 hq; have HQ2 := hm7 hQ2; clear hh hol hq hQ2)
  obtain ⟨v1, v2, hQ⟩ : ∃ v1 v2, Q = [([1, 2], v1), ([3, 1], v2)] := by
    have hq := HQ.out
    match Q, hq with
    | [(x, v1), (y, v2)], hq =>
      simp at hq
      obtain ⟨rfl, rfl⟩ := hq
      exact ⟨v1, v2, rfl⟩
  have hol := HOL.out
  subst hQ
  obtain ⟨bu, rfl, -, -, p0, -⟩ := row7_at hol.o (i := 0) (u := v1) rfl
  obtain ⟨bu', e', -, -, p1, -⟩ := row7_at hol.o (i := 1) (u := v2) rfl
  cases e'
  obtain ⟨a1, c1, hv1, -, -, -, l1⟩ := hol.l ([1, 2], v1) (by simp)
  obtain ⟨a2, c2, hv2, -, -, -, l2⟩ := hol.l ([3, 1], v2) (by simp)
  simp only at hv1 hv2 l1 l2
  rcases l1 with ⟨l1, -⟩ | ⟨x1, o1, rfl, -, -, l1⟩
  · simp at l1
  rcases l2 with ⟨l2, -⟩ | ⟨x2, o2, rfl, -, -, l2⟩
  · simp at l2
  have q1 := l1 0 1 rfl
  have q2 := l2 0 3 rfl
  rw [Nat.add_zero] at q1 q2
  simp only [List.length_cons, List.length_nil] at hv1 hv2
  subst hv1 hv2
  clear l1 l2 hol HOL HQ HQ2 HH6
  go_wp2
  go_ret
  obtain ⟨F, S, -, -, hb⟩ := HH7.out
  exact ⟨rfl, hb⟩
end Go.Proofs.Ytofopfjmcbgfjaa
