/-
  copied; unqualified; what a clause quoted is. (Written by CL19.py.)
-/
import Derived.Test.YtdfgijdededolabCL18
namespace Go.Proofs.Ytdfgijdededolab
open Go.RowKit
attribute [local go_sem ↓] Go.wp_at_zero Go.wp_at_succ

set_option maxRecDepth 20000 in
set_option maxHeartbeats 4000000 in
theorem copied_any (c : Cm) (w : World) (h : c.ok w) (hl1 : c.head.1.args.length ≤ 1900000000000) (hl2 : c.body.length ≤ 1900000000000) (hl3 : c.tests.length ≤ 1900000000000) (hl4 : ∀ x ∈ c.body, x.1.args.length ≤ 1900000000000) :
    Calls Try.prog 23 #[c.v] w (RPost w c) := by
  have hb2 := below2 w (.cells c.cs 30) (.cells zcs 30)
  have K1 := rep_copied c ((w.alloc (.cells c.cs 30)).alloc (.cells zcs 30)) (h.later hb2) hl1 hl2 hl3 hl4
  have z2 : ((w.alloc (.cells c.cs 30)).alloc (.cells zcs 30)).heap.size = w.heap.size + 2 := by simp
  have HB2 : Hid (Below w.heap.size w ((w.alloc (.cells c.cs 30)).alloc (.cells zcs 30))) := hb2
  clear hl1 hl2 hl3 hl4 hb2
  obtain ⟨⟨a, hn, cap, h1⟩, ⟨a', cap', h2⟩, ⟨a'', cap'', h3⟩, hbl, htl⟩ := h.shape
  clear h
  obtain ⟨⟨⟨⟨k, m, s⟩, nm, ls⟩, hx⟩, body, bv, tests, tv⟩ := c
  simp only at h1 h2 h3 hbl htl
  subst h1 h2 h3
  go_enter Try.func23, Try.ntmps23
  go_wp2_with (go_at_call 46; refine K1.mono ?_; clear K1; rintro e w1 ⟨M1, M2, M3, lb, rfl, hrp, hb1⟩; have hbx := two_boxes hb1; obtain ⟨r0, r1, r2, r3, r4, r5, r6⟩ := cseven hbx.2; have hfr : ∀ i, w1.frozen? ⟨w.heap.size + 1, i, none⟩ = false := fun i => frozen_of_row _ _ _ _ _ hbx.2; have s0 := hfr 0; have s1 := hfr 1; have s2 := hfr 2; have s3 := hfr 3; have s4 := hfr 4; have s5 := hfr 5; have s6 := hfr 6; rw [z2] at hrp; have HRP : Hid (RP (w.heap.size + 2) w1 ⟨(⟨⟨k, m, s⟩, nm, ls⟩, .slice a hn cap), body, .slice a' body.length cap', tests, .slice a'' tests.length cap''⟩ M1 M2 M3 lb) := hrp; have HW1 : Hid (Below w.heap.size w w1) := below_step HB2.out hb1; clear hfr hrp hb1 hbx HB2; simp only [Cm.cp])
  have nw : w.heap.size ≤ w.heap.size + 1 := by omega
  have ng : w.heap.size + 1 < w.heap.size + 2 := by omega
  have hrp := HRP.out
  have hbw := HW1.out
  exact bodyPost_ret (v := (Cm.cp ⟨(⟨⟨k, m, s⟩, nm, ls⟩, .slice a hn cap), body, .slice a' body.length cap', tests, .slice a'' tests.length cap''⟩ M1 M2 M3 lb).v) (by simp [results, Try.results23, go_sem, Cm.v, Cm.cp, r0, r1, r2, r3, r4, r5, r6]) rfl
    ⟨M1, M2, M3, lb, rfl, (((((((hrp.off ng).off ng).off ng).off ng).off ng).off ng).off ng).mono (by omega), ((((((hbw.setCell nw _).setCell nw _).setCell nw _).setCell nw _).setCell nw _).setCell nw _).setCell nw _⟩

theorem unqualified_any (x : At) (v : Value) (w : World) (hv : ∃ a n cap, v = .slice a n cap) : Calls Try.prog 22 #[x.v v] w fun e w' => e = .returned (.bool (decide (x.by_ = zt))) ∧ Below w.heap.size w w' := by
  obtain ⟨⟨k, n, s⟩, nm, ls⟩ := x
  obtain ⟨a, hn, cap, rfl⟩ := hv
  have he := run_eql_tm ⟨k, n, s⟩ zt
  obtain ⟨b1, h1⟩ : ∃ b, decide (Tm.mk k n s = zt) = b := ⟨_, rfl⟩
  have HR : Hid (decide (Tm.mk k n s = zt) = b1) := h1
  rw [h1] at he
  unfold zt at he
  clear h1
  cases b1
  all_goals
    go_enter Try.func22, Try.ntmps22
    go_wp2
    go_ret
    exact ⟨ret_b (by rw [HR.out]), below1 _ _⟩

/-- Cells of an atom's qualifier set anew. -/
abbrev Aby (w : World) (g k : Nat) (t : Tm) : World := ((w.setCell ⟨g, k * 5, none⟩ (.int .i64 t.k)).setCell ⟨g, k * 5 + 1, none⟩ (.int .i64 t.n)).setCell ⟨g, k * 5 + 2, none⟩ (.string t.s)
theorem ABlk.by_ {w : World} {g n k : Nat} {l : List (At × Value)} {x : At × Value} (h : ABlk w g n l) (hx : l[k]? = some x) (hk : k < n) (t : Tm) : ABlk (Aby w g k t) g n (l.set k (⟨t, x.1.name, x.1.args⟩, x.2)) := by
  obtain ⟨C, h1, h2, h3⟩ := h
  have e0 := heap_setCell_same _ _ (k * 5) _ _ (.int .i64 t.k) h1
  have e1 := heap_setCell_same _ _ (k * 5 + 1) _ _ (.int .i64 t.n) e0
  have e2 := heap_setCell_same _ _ (k * 5 + 2) _ _ (.string t.s) e1
  refine ⟨_, e2, by simp [h2], fun i u hu => ?_⟩
  by_cases hik : i = k
  · subst hik
    have hlt : i < l.length := (List.getElem?_eq_some_iff.1 hx).1
    rw [List.getElem?_set_self hlt] at hu
    obtain rfl := Option.some.inj hu
    obtain ⟨q0, q1, q2, q3, q4⟩ := h3 i x hx
    refine ⟨?_, ?_, ?_, ?_, ?_⟩
    · simp [Array.getElem?_setIfInBounds, h2]; omega
    · simp [Array.getElem?_setIfInBounds, h2]; omega
    · simp [Array.getElem?_setIfInBounds, h2]; omega
    · rw [Array.getElem?_setIfInBounds_ne (by omega), Array.getElem?_setIfInBounds_ne (by omega), Array.getElem?_setIfInBounds_ne (by omega)]; exact q3
    · rw [Array.getElem?_setIfInBounds_ne (by omega), Array.getElem?_setIfInBounds_ne (by omega), Array.getElem?_setIfInBounds_ne (by omega)]; exact q4
  · rw [List.getElem?_set_ne (fun e => hik e.symm)] at hu
    obtain ⟨q0, q1, q2, q3, q4⟩ := h3 i u hu
    refine ⟨?_, ?_, ?_, ?_, ?_⟩ <;> rw [Array.getElem?_setIfInBounds_ne (by omega), Array.getElem?_setIfInBounds_ne (by omega), Array.getElem?_setIfInBounds_ne (by omega)] <;> assumption
end Go.Proofs.Ytdfgijdededolab
