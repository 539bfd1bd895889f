/-
  Quote's refusals. (Written by CL26.py.)
-/
import Derived.Test.YtdfgijdededolabDoorCL20
namespace Go.Proofs.YtdfgijdededolabDoor
open Go.RowKit
attribute [local go_sem ↓] Go.wp_at_zero Go.wp_at_succ

set_option maxRecDepth 20000 in
set_option maxHeartbeats 4000000 in
theorem quote_no1 (c : Cm) (u : ByteArray) (w : World) (h : c.ok w) (hp : Tm.prin ⟨2, 0, u⟩ = false) :
    Calls Tryd.prog 10 #[.string u, c.v] w fun e w' => e = .returned (.tuple #[.agg #[.int .i64 0, .int .i64 0, .string ⟨#[]⟩, .string ⟨#[]⟩, .slice none 0 0, .slice none 0 0, .slice none 0 0], .int .i64 36]) ∧ Below w.heap.size w w' := by
  have HB0 : Hid (QB w (((w.alloc (.cells c.cs 30)).alloc (.cells zcs 30)).alloc (.cells #[.int .i64 2, .int .i64 0, .string u] 23)) c u) := QB.start w c u h
  have HPR : Hid (∀ X : World, Calls Tryd.prog 26 #[Tm.v ⟨2, 0, u⟩] X fun e w' => e = .returned (.bool false) ∧ Below X.heap.size X w') := fun X => by have := prin_any ⟨2, 0, u⟩ X; rw [hp] at this; exact this
  obtain ⟨⟨a, hn, cap, h1⟩, ⟨a', cap', h2⟩, ⟨a'', cap'', h3⟩, hbl, htl⟩ := h.shape
  clear h hp
  obtain ⟨⟨⟨⟨k, m, s⟩, nm, ls⟩, hx⟩, body, bv, tests, tv⟩ := c
  simp only at h1 h2 h3 hbl htl
  subst h1 h2 h3
  go_enter Tryd.func10, Tryd.ntmps10
  go_wp2_with (go_at_call 26; refine (HPR.out _).mono ?_; clear HPR; rintro e w1 ⟨rfl, hb⟩; have HB1 : Hid (QB w w1 ⟨(⟨⟨k, m, s⟩, nm, ls⟩, .slice a hn cap), body, .slice a' body.length cap', tests, .slice a'' tests.length cap''⟩ u) := HB0.out.later hb; clear HB0 hb; obtain ⟨r0, r1, r2, r3, r4, r5, r6⟩ := cseven HB1.out.br; have f0 : w1.frozen? ⟨w.heap.size + 1, 0, none⟩ = false := HB1.out.br.froz; have f1 : w1.frozen? ⟨w.heap.size + 1, 1, none⟩ = false := HB1.out.br.froz; have f2 : w1.frozen? ⟨w.heap.size + 1, 2, none⟩ = false := HB1.out.br.froz; have f3 : w1.frozen? ⟨w.heap.size + 1, 3, none⟩ = false := HB1.out.br.froz; have f4 : w1.frozen? ⟨w.heap.size + 1, 4, none⟩ = false := HB1.out.br.froz; have f5 : w1.frozen? ⟨w.heap.size + 1, 5, none⟩ = false := HB1.out.br.froz; have f6 : w1.frozen? ⟨w.heap.size + 1, 6, none⟩ = false := HB1.out.br.froz)
  have hq := HB1.out
  have nw : w.heap.size ≤ w.heap.size + 1 := by omega
  exact bodyPost_ret (v := .tuple #[.agg #[.int .i64 0, .int .i64 0, .string ⟨#[]⟩, .string ⟨#[]⟩, .slice none 0 0, .slice none 0 0, .slice none 0 0], .int .i64 36]) (by simp [results, Tryd.results10, go_sem, r0, r1, r2, r3, r4, r5, r6]) rfl
    ⟨rfl, ((((((hq.bw.setCell nw _).setCell nw _).setCell nw _).setCell nw _).setCell nw _).setCell nw _).setCell nw _⟩
set_option maxRecDepth 20000 in
set_option maxHeartbeats 4000000 in
theorem quote_no2 (c : Cm) (u : ByteArray) (w : World) (h : c.ok w) (hwf : c.wf) (hp : Tm.prin ⟨2, 0, u⟩ = true) (R : Int) (hk : c.chk = R) (hR : R ≠ 0) :
    Calls Tryd.prog 10 #[.string u, c.v] w fun e w' => e = .returned (.tuple #[.agg #[.int .i64 0, .int .i64 0, .string ⟨#[]⟩, .string ⟨#[]⟩, .slice none 0 0, .slice none 0 0, .slice none 0 0], .int .i64 R]) ∧ Below w.heap.size w w' := by
  have HB0 : Hid (QB w (((w.alloc (.cells c.cs 30)).alloc (.cells zcs 30)).alloc (.cells #[.int .i64 2, .int .i64 0, .string u] 23)) c u) := QB.start w c u h
  have HPR : Hid (∀ X : World, Calls Tryd.prog 26 #[Tm.v ⟨2, 0, u⟩] X fun e w' => e = .returned (.bool true) ∧ Below X.heap.size X w') := fun X => by have := prin_any ⟨2, 0, u⟩ X; rw [hp] at this; exact this
  have HCK : Hid (∀ X : World, c.ok X → Calls Tryd.prog 27 #[c.v] X fun e w' => e = .returned (.int .i64 R) ∧ Below X.heap.size X w') := fun X hX => by have := check9_any c X hX hwf; rw [hk] at this; exact this
  obtain ⟨⟨a, hn, cap, h1⟩, ⟨a', cap', h2⟩, ⟨a'', cap'', h3⟩, hbl, htl⟩ := h.shape
  clear h hp hk hwf
  obtain ⟨⟨⟨⟨k, m, s⟩, nm, ls⟩, hx⟩, body, bv, tests, tv⟩ := c
  simp only at h1 h2 h3 hbl htl
  subst h1 h2 h3
  go_enter Tryd.func10, Tryd.ntmps10
  go_wp2_with (first | (go_at_call 26; refine (HPR.out _).mono ?_; clear HPR; rintro e w1 ⟨rfl, hb⟩; have HB1 : Hid (QB w w1 ⟨(⟨⟨k, m, s⟩, nm, ls⟩, .slice a hn cap), body, .slice a' body.length cap', tests, .slice a'' tests.length cap''⟩ u) := HB0.out.later hb; clear HB0 hb; obtain ⟨c0, c1, c2, c3, c4, c5, c6⟩ := cseven HB1.out.bc) | (go_at_call 27; refine (HCK.out _ HB1.out.ok).mono ?_; clear HCK; rintro e w2 ⟨rfl, hb⟩; have HB2 : Hid (QB w w2 ⟨(⟨⟨k, m, s⟩, nm, ls⟩, .slice a hn cap), body, .slice a' body.length cap', tests, .slice a'' tests.length cap''⟩ u) := HB1.out.later hb; clear c0 c1 c2 c3 c4 c5 c6; clear HB1 hb; obtain ⟨r0, r1, r2, r3, r4, r5, r6⟩ := cseven HB2.out.br; have f0 : w2.frozen? ⟨w.heap.size + 1, 0, none⟩ = false := HB2.out.br.froz; have f1 : w2.frozen? ⟨w.heap.size + 1, 1, none⟩ = false := HB2.out.br.froz; have f2 : w2.frozen? ⟨w.heap.size + 1, 2, none⟩ = false := HB2.out.br.froz; have f3 : w2.frozen? ⟨w.heap.size + 1, 3, none⟩ = false := HB2.out.br.froz; have f4 : w2.frozen? ⟨w.heap.size + 1, 4, none⟩ = false := HB2.out.br.froz; have f5 : w2.frozen? ⟨w.heap.size + 1, 5, none⟩ = false := HB2.out.br.froz; have f6 : w2.frozen? ⟨w.heap.size + 1, 6, none⟩ = false := HB2.out.br.froz))
  have hq := HB2.out
  have nw : w.heap.size ≤ w.heap.size + 1 := by omega
  exact bodyPost_ret (v := .tuple #[.agg #[.int .i64 0, .int .i64 0, .string ⟨#[]⟩, .string ⟨#[]⟩, .slice none 0 0, .slice none 0 0, .slice none 0 0], .int .i64 R]) (by simp [results, Tryd.results10, go_sem, r0, r1, r2, r3, r4, r5, r6]) rfl
    ⟨rfl, ((((((hq.bw.setCell nw _).setCell nw _).setCell nw _).setCell nw _).setCell nw _).setCell nw _).setCell nw _⟩
set_option maxRecDepth 20000 in
set_option maxHeartbeats 4000000 in
theorem quote_no3 (c : Cm) (u : ByteArray) (w : World) (h : c.ok w) (hwf : c.wf) (hp : Tm.prin ⟨2, 0, u⟩ = true) (hk : c.chk = 0) (hu : ¬ c.head.1.by_ = zt) :
    Calls Tryd.prog 10 #[.string u, c.v] w fun e w' => e = .returned (.tuple #[.agg #[.int .i64 0, .int .i64 0, .string ⟨#[]⟩, .string ⟨#[]⟩, .slice none 0 0, .slice none 0 0, .slice none 0 0], .int .i64 37]) ∧ Below w.heap.size w w' := by
  have HB0 : Hid (QB w (((w.alloc (.cells c.cs 30)).alloc (.cells zcs 30)).alloc (.cells #[.int .i64 2, .int .i64 0, .string u] 23)) c u) := QB.start w c u h
  have HPR : Hid (∀ X : World, Calls Tryd.prog 26 #[Tm.v ⟨2, 0, u⟩] X fun e w' => e = .returned (.bool true) ∧ Below X.heap.size X w') := fun X => by have := prin_any ⟨2, 0, u⟩ X; rw [hp] at this; exact this
  have HCK : Hid (∀ X : World, c.ok X → Calls Tryd.prog 27 #[c.v] X fun e w' => e = .returned (.int .i64 0) ∧ Below X.heap.size X w') := fun X hX => by have := check9_any c X hX hwf; rw [hk] at this; exact this
  have HUQ : Hid (∀ X : World, (∃ a n cap, c.head.2 = .slice a n cap) → Calls Tryd.prog 28 #[c.head.1.v c.head.2] X fun e w' => e = .returned (.bool false) ∧ Below X.heap.size X w') := fun X hX => by have := unqualified_any c.head.1 c.head.2 X hX; rw [decide_eq_false hu] at this; exact this
  obtain ⟨⟨a, hn, cap, h1⟩, ⟨a', cap', h2⟩, ⟨a'', cap'', h3⟩, hbl, htl⟩ := h.shape
  clear h hp hk hwf hu
  obtain ⟨⟨⟨⟨k, m, s⟩, nm, ls⟩, hx⟩, body, bv, tests, tv⟩ := c
  simp only at h1 h2 h3 hbl htl
  subst h1 h2 h3
  go_enter Tryd.func10, Tryd.ntmps10
  go_wp2_with (first | (go_at_call 26; refine (HPR.out _).mono ?_; clear HPR; rintro e w1 ⟨rfl, hb⟩; have HB1 : Hid (QB w w1 ⟨(⟨⟨k, m, s⟩, nm, ls⟩, .slice a hn cap), body, .slice a' body.length cap', tests, .slice a'' tests.length cap''⟩ u) := HB0.out.later hb; clear HB0 hb; obtain ⟨c0, c1, c2, c3, c4, c5, c6⟩ := cseven HB1.out.bc) | (go_at_call 27; refine (HCK.out _ HB1.out.ok).mono ?_; clear HCK; rintro e w2 ⟨rfl, hb⟩; have HB2 : Hid (QB w w2 ⟨(⟨⟨k, m, s⟩, nm, ls⟩, .slice a hn cap), body, .slice a' body.length cap', tests, .slice a'' tests.length cap''⟩ u) := HB1.out.later hb; clear c0 c1 c2 c3 c4 c5 c6; clear HB1 hb; obtain ⟨c0, c1, c2, c3, c4, c5, c6⟩ := cseven HB2.out.bc) | (go_at_call 28; refine (HUQ.out _ ⟨_, _, _, rfl⟩).mono ?_; clear HUQ; rintro e w3 ⟨rfl, hb⟩; have HB3 : Hid (QB w w3 ⟨(⟨⟨k, m, s⟩, nm, ls⟩, .slice a hn cap), body, .slice a' body.length cap', tests, .slice a'' tests.length cap''⟩ u) := HB2.out.later hb; clear c0 c1 c2 c3 c4 c5 c6; clear HB2 hb; obtain ⟨r0, r1, r2, r3, r4, r5, r6⟩ := cseven HB3.out.br; have f0 : w3.frozen? ⟨w.heap.size + 1, 0, none⟩ = false := HB3.out.br.froz; have f1 : w3.frozen? ⟨w.heap.size + 1, 1, none⟩ = false := HB3.out.br.froz; have f2 : w3.frozen? ⟨w.heap.size + 1, 2, none⟩ = false := HB3.out.br.froz; have f3 : w3.frozen? ⟨w.heap.size + 1, 3, none⟩ = false := HB3.out.br.froz; have f4 : w3.frozen? ⟨w.heap.size + 1, 4, none⟩ = false := HB3.out.br.froz; have f5 : w3.frozen? ⟨w.heap.size + 1, 5, none⟩ = false := HB3.out.br.froz; have f6 : w3.frozen? ⟨w.heap.size + 1, 6, none⟩ = false := HB3.out.br.froz))
  have hq := HB3.out
  have nw : w.heap.size ≤ w.heap.size + 1 := by omega
  exact bodyPost_ret (v := .tuple #[.agg #[.int .i64 0, .int .i64 0, .string ⟨#[]⟩, .string ⟨#[]⟩, .slice none 0 0, .slice none 0 0, .slice none 0 0], .int .i64 37]) (by simp [results, Tryd.results10, go_sem, r0, r1, r2, r3, r4, r5, r6]) rfl
    ⟨rfl, ((((((hq.bw.setCell nw _).setCell nw _).setCell nw _).setCell nw _).setCell nw _).setCell nw _).setCell nw _⟩
end Go.Proofs.YtdfgijdededolabDoor
