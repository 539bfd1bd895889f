/-
  What Instance makes of a term.
-/
import Derived.Test.YtbhdalchnbfohaaCL20
namespace Go.Proofs.Ytbhdalchnbfohaa
open Go.RowKit
attribute [local go_sem ↓] Go.wp_at_zero Go.wp_at_succ

/-- The list of values in its box. -/
def VB (w : World) (P : Nat) (v : Value) (vs : List Tm) : Prop := CBlk w P #[v] 28 ∧ Ts w v vs
theorem VB.later {w w' : World} {P : Nat} {v : Value} {vs : List Tm} (h : VB w P v vs) (hb : Below w.heap.size w w') : VB w' P v vs := ⟨h.1.later hb, h.2.later hb⟩
def ins (vs : List Tm) (t : Tm) : Tm := if t.var = true then (vs[t.n.toNat]?).getD t else t
theorem cone {w : World} {g : Nat} {a : Value} {t : TypeId} (h : CBlk w g #[a] t) : w.cell? ⟨g, 0, none⟩ = some a := cell_of_row _ _ _ _ _ _ h
theorem two3 (w : World) (t : Tm) : CBlk ((w.alloc (.cells #[.int .i64 t.k, .int .i64 t.n, .string t.s] 27)).alloc (.cells #[.int .i64 0, .int .i64 0, .string ⟨#[]⟩] 27)) w.heap.size #[.int .i64 t.k, .int .i64 t.n, .string t.s] 27 ∧
    CBlk ((w.alloc (.cells #[.int .i64 t.k, .int .i64 t.n, .string t.s] 27)).alloc (.cells #[.int .i64 0, .int .i64 0, .string ⟨#[]⟩] 27)) (w.heap.size + 1) #[.int .i64 0, .int .i64 0, .string ⟨#[]⟩] 27 := by
  have x2 := CBlk.new (w.alloc (.cells #[.int .i64 t.k, .int .i64 t.n, .string t.s] 27)) #[.int .i64 0, .int .i64 0, .string ⟨#[]⟩] 27
  rw [show (w.alloc (.cells #[.int .i64 t.k, .int .i64 t.n, .string t.s] 27)).heap.size = w.heap.size + 1 by simp] at x2
  exact ⟨(CBlk.new w _ _).later (below1 _ _), x2⟩
set_option maxRecDepth 20000 in
set_option maxHeartbeats 4000000 in
theorem ins1_any (vs : List Tm) (v : Value) (P : Nat) (t : Tm) (w : World) (h : VB w P v vs) : Calls Try.prog 32 #[t.v, .pointer (some ⟨P, 0, none⟩)] w fun e w' => e = .returned (ins vs t).v ∧ Below w.heap.size w w' := by
  have HV : Hid (VB w P v vs) := h
  have hvar := fun X => var_any t X
  obtain ⟨b, hb⟩ : ∃ b, t.var = b := ⟨_, rfl⟩
  have HB : Hid (t.var = b) := hb
  rw [hb] at hvar
  have HVA : Hid (∀ X : World, Calls Try.prog 33 #[t.v] X fun e w' => e = .returned (.bool b) ∧ Below X.heap.size X w') := hvar
  obtain ⟨R, hR⟩ : ∃ R, ins vs t = R := ⟨_, rfl⟩
  have HR : Hid (ins vs t = R) := hR
  have HT3 : Hid (CBlk _ _ _ _ ∧ CBlk _ _ _ _) := two3 w t
  rw [hR]
  clear hvar hb hR
  obtain ⟨k, n, s⟩ := t
  obtain ⟨ad, cap, rfl, hvl, hm⟩ := h.2
  clear h
  cases b
  · obtain rfl : (⟨k, n, s⟩ : Tm) = R := by have := HR.out; unfold ins at this; rw [HB.out, if_neg (by simp)] at this; exact this
    go_enter Try.func32, Try.ntmps32
    go_wp2_with (go_at_call 33; refine (HVA.out _).mono ?_; clear HVA; rintro e w1 ⟨rfl, hb⟩; obtain ⟨c0, c1, c2⟩ := cthree (HT3.out.1.later hb); obtain ⟨r0, r1, r2⟩ := cthree (HT3.out.2.later hb); have f0 : w1.frozen? ⟨w.heap.size + 1, 0, none⟩ = false := (HT3.out.2.later hb).froz; have f1 : w1.frozen? ⟨w.heap.size + 1, 1, none⟩ = false := (HT3.out.2.later hb).froz; have f2 : w1.frozen? ⟨w.heap.size + 1, 2, none⟩ = false := (HT3.out.2.later hb).froz; have HW : Hid (Below w.heap.size w w1) := below_step (below2 _ _ _) hb; clear hb HT3; simp only at c0 c1 c2)
    have nw : w.heap.size ≤ w.heap.size + 1 := by omega
    exact bodyPost_ret (v := Tm.v ⟨k, n, s⟩) (by simp [results, Try.results32, go_sem, r0, r1, r2]) rfl ⟨rfl, ((HW.out.setCell nw _).setCell nw _).setCell nw _⟩
  · have hn0 : 0 ≤ n := by have := HB.out; unfold Tm.var at this; exact (of_decide_eq_true this).2.1
    by_cases hlt : n < (vs.length : Int)
    · have hlt' : n.toNat < vs.length := by omega
      obtain ⟨y, hy⟩ : ∃ y, vs[n.toNat]? = some y := ⟨_, List.getElem?_eq_getElem hlt'⟩
      obtain rfl : y = R := by have := HR.out; unfold ins at this; rw [HB.out, if_pos rfl] at this; simp only [hy, Option.getD_some] at this; exact this
      obtain ⟨j, rfl⟩ : ∃ j : Nat, n = (j : Int) := ⟨n.toNat, by omega⟩
      rcases hm with hm | ⟨bb, o, rfl, hm⟩
      · subst hm; simp at hlt'
      have hlb := hm.1
      have HM : Hid _ := hm.2 j y (by simpa using hy)
      clear hm hy hlt'
      obtain ⟨yk, yn, ys⟩ := y
      go_enter Try.func32, Try.ntmps32
      go_wp2_with (go_at_call 33; refine (HVA.out _).mono ?_; clear HVA; rintro e w1 ⟨rfl, hb⟩; obtain ⟨c0, c1, c2⟩ := cthree (HT3.out.1.later hb); obtain ⟨r0, r1, r2⟩ := cthree (HT3.out.2.later hb); have f0 : w1.frozen? ⟨w.heap.size + 1, 0, none⟩ = false := (HT3.out.2.later hb).froz; have f1 : w1.frozen? ⟨w.heap.size + 1, 1, none⟩ = false := (HT3.out.2.later hb).froz; have f2 : w1.frozen? ⟨w.heap.size + 1, 2, none⟩ = false := (HT3.out.2.later hb).froz; have HW : Hid (Below w.heap.size w w1) := below_step (below2 _ _ _) hb; have e0 := cone (HV.out.later HW.out).1; have q0 := cell_step HW.out hlb HM.out.1; have q1 := cell_step HW.out hlb HM.out.2.1; have q2 := cell_step HW.out hlb HM.out.2.2; clear hb HT3 HM; simp only at c0 c1 c2 q0 q1 q2)
      have nw : w.heap.size ≤ w.heap.size + 1 := by omega
      exact bodyPost_ret (v := Tm.v ⟨yk, yn, ys⟩) (by simp [results, Try.results32, go_sem, r0, r1, r2]) rfl ⟨rfl, ((HW.out.setCell nw _).setCell nw _).setCell nw _⟩
    · obtain rfl : (⟨k, n, s⟩ : Tm) = R := by have := HR.out; unfold ins at this; rw [HB.out, if_pos rfl] at this; simp only [List.getElem?_eq_none (show vs.length ≤ n.toNat by omega), Option.getD_none] at this; exact this
      go_enter Try.func32, Try.ntmps32
      go_wp2_with (go_at_call 33; refine (HVA.out _).mono ?_; clear HVA; rintro e w1 ⟨rfl, hb⟩; obtain ⟨c0, c1, c2⟩ := cthree (HT3.out.1.later hb); obtain ⟨r0, r1, r2⟩ := cthree (HT3.out.2.later hb); have f0 : w1.frozen? ⟨w.heap.size + 1, 0, none⟩ = false := (HT3.out.2.later hb).froz; have f1 : w1.frozen? ⟨w.heap.size + 1, 1, none⟩ = false := (HT3.out.2.later hb).froz; have f2 : w1.frozen? ⟨w.heap.size + 1, 2, none⟩ = false := (HT3.out.2.later hb).froz; have HW : Hid (Below w.heap.size w w1) := below_step (below2 _ _ _) hb; have e0 := cone (HV.out.later HW.out).1; clear hb HT3; simp only at c0 c1 c2)
      have nw : w.heap.size ≤ w.heap.size + 1 := by omega
      exact bodyPost_ret (v := Tm.v ⟨k, n, s⟩) (by simp [results, Try.results32, go_sem, r0, r1, r2]) rfl ⟨rfl, ((HW.out.setCell nw _).setCell nw _).setCell nw _⟩
end Go.Proofs.Ytbhdalchnbfohaa
