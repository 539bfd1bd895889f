import Derived.Test.YtdfgijdededolaaOQ1
import Derived.Test.YtdfgijdededolaaRF1
import Derived.Test.YtdfgijdededolaaRF2
import Derived.Test.YtdfgijdededolaaCL20
/-
  name; bare; Quote of a valid clause.
-/
namespace Go.Proofs.Ytdfgijdededolaa
open Go.RowKit
attribute [local go_sem ↓] Go.wp_at_zero Go.wp_at_succ

/-- A principal out of any text. -/
def cutU (u : ByteArray) : ByteArray := if 64 < u.size then u.extract 0 64 else u
def nmU (u : ByteArray) : ByteArray := if cutU u = ⟨#[]⟩ then ⟨#[117]⟩ else cutU u
theorem cutU_size (u : ByteArray) : (cutU u).size ≤ 64 := by
  unfold cutU
  split
  · rw [ByteArray.size_extract]; omega
  · omega
theorem nmU_prin (u : ByteArray) : Tm.prin ⟨2, 0, nmU u⟩ = true := by
  have h := cutU_size u
  unfold nmU
  by_cases h1 : cutU u = ⟨#[]⟩
  · rw [if_pos h1]; decide
  · rw [if_neg h1]; simp [Tm.prin, h, h1]
set_option maxHeartbeats 1000000 in
theorem name3_any (u : ByteArray) (w : World) : Calls Try.prog 19 #[.string u] w fun e w' => e = .returned (.string (nmU u)) ∧ Below w.heap.size w w' := by
  by_cases h64 : 64 < u.size
  · have hi : (64 : Int) < (u.size : Int) := by omega
    have hle : (64 : Int) ≤ (u.size : Int) := by omega
    have hne : u.extract 0 64 ≠ ⟨#[]⟩ := fun e => by
      have := congrArg ByteArray.size e
      rw [ByteArray.size_extract] at this
      have h0 : (⟨#[]⟩ : ByteArray).size = 0 := rfl
      omega
    have hE : (u.extract 0 64).toList.isEmpty = false := by rw [isE]; exact decide_eq_false hne
    have hR : nmU u = u.extract 0 64 := by unfold nmU cutU; rw [if_pos h64, if_neg hne]
    rw [hR]
    have HNE : Hid (u.extract 0 64 ≠ ⟨#[]⟩) := hne
    clear hne hR
    go_enter Try.func19, Try.ntmps19
    go_wp2
    go_ret
    exact ⟨rfl, Below.refl _ _⟩
  · have hi : ¬ (64 : Int) < (u.size : Int) := by omega
    by_cases hne : u = ⟨#[]⟩
    · have hR : nmU u = ⟨#[117]⟩ := by unfold nmU cutU; rw [if_neg h64, if_pos hne]
      rw [hR]
      subst hne
      clear hR
      go_enter Try.func19, Try.ntmps19
      go_wp2
      go_ret
      exact ⟨rfl, Below.refl _ _⟩
    · have hE : u.toList.isEmpty = false := by rw [isE]; exact decide_eq_false hne
      have hR : nmU u = u := by unfold nmU cutU; rw [if_neg h64, if_neg hne]
      rw [hR]
      have HNE : Hid (u ≠ ⟨#[]⟩) := hne
      clear hne hR
      go_enter Try.func19, Try.ntmps19
      go_wp2
      go_ret
      exact ⟨rfl, Below.refl _ _⟩
/-- Quote of a clause that may be quoted. -/
theorem quo4_any (c : Cm) (u : ByteArray) (w : World) (h : c.ok w) (hs : KS c.key) (hwf : c.wf) (hp : Tm.prin ⟨2, 0, u⟩ = true) (hk : c.chk = 0) (hu : c.head.1.by_ = zt) :
    Calls Try.prog 20 #[.string u, c.v] w fun e w' => ∃ d : Cm, e = .returned (.tuple #[d.v, .int .i64 0]) ∧ d.key = quoK u c.key ∧ d.ok w' ∧ Below w.heap.size w w' := by
  obtain ⟨h1, h2, h3, h4⟩ := hs.lens
  refine (quote_ok c u w h hwf hp hk hu (by omega) (by omega) (by omega) (fun x hx => by have := h4 x hx; omega)).mono fun e w' he => ?_
  obtain ⟨M1, M2, M3, lb, rfl, hr, hb⟩ := he
  have hl : lb.length = c.body.length := by have := congrArg List.length hr.f; simpa [fsts, Cm.quo] using this
  have hbl : (c.quo u).body.length = c.body.length := by simp [Cm.quo]
  refine ⟨_, rfl, ?_, ⟨hr.t1, ?_, ?_⟩, hb⟩
  · have hf := hr.f
    rw [fsts_quo] at hf
    unfold Cm.key quoK Cm.cp
    simp only
    rw [hf]
    rfl
  · exact hr.a.as (by rw [hbl]; exact hl) (by rw [hbl]; omega) fun x hx => (hr.ts x hx).1.1
  · exact hr.e.es rfl (by show c.tests.length < _; omega)
/-- One atom's qualifier in a list that the call made. -/
theorem acs_set : ∀ (l : List (At × Value)) (j : Nat) (x : At × Value) (t : Tm), l[j]? = some x → acs (l.set j (⟨t, x.1.name, x.1.args⟩, x.2)) = (((acs l).set (j * 5) (.int .i64 t.k)).set (j * 5 + 1) (.int .i64 t.n)).set (j * 5 + 2) (.string t.s)
  | a :: l, 0, x, t, h => by simp at h; subst h; simp [acs, acell]
  | a :: l, j + 1, x, t, h => by
    rw [List.getElem?_cons_succ] at h
    have ih := acs_set l j x t h
    have e : ∀ m : List (At × Value), acs (a :: m) = acell a ++ acs m := fun m => by simp [acs]
    have hc : (acell a).length = 5 := rfl
    rw [List.set_cons_succ, e, e, ih, List.set_append_right _ _ (by omega), List.set_append_right _ _ (by omega), List.set_append_right _ _ (by omega), hc]
    rw [show (j + 1) * 5 - 5 = j * 5 by omega, show (j + 1) * 5 + 1 - 5 = j * 5 + 1 by omega, show (j + 1) * 5 + 2 - 5 = j * 5 + 2 by omega]
theorem OwnA.by_ {X : World} {base g n cap j : Nat} {L : List (At × Value)} {x : At × Value} (h : OwnA X base (.slice (some ⟨g, 0, none⟩) n cap) L) (hx : L[j]? = some x) (t : Tm) : OwnA (Aby X g j t) base (.slice (some ⟨g, 0, none⟩) n cap) (L.set j (⟨t, x.1.name, x.1.args⟩, x.2)) := by
  rcases h.2 with ⟨h, _⟩ | ⟨g', cap', cur, hv, hb, hg, hn, hc, hs, ht⟩
  · cases h
  · simp only [Value.slice.injEq, Option.some.injEq, Addr.mk.injEq] at hv
    obtain ⟨⟨rfl, -⟩, rfl, rfl⟩ := hv
    have k1 := heap_setCell_same _ _ (j * 5) _ _ (.int .i64 t.k) hg
    have k2 := heap_setCell_same _ _ (j * 5 + 1) _ _ (.int .i64 t.n) k1
    have k3 := heap_setCell_same _ _ (j * 5 + 2) _ _ (.string t.s) k2
    refine ⟨by rw [acs_len, List.length_set], Or.inr ⟨g, cap, _, by rw [List.length_set], hb, k3, by rw [List.length_set]; exact hn, hc, by simpa using hs, ?_⟩⟩
    rw [List.length_set, acs_set L j x t hx, ← ht]
    simp [List.take_set]
end Go.Proofs.Ytdfgijdededolaa
/-
  Quote's refusals. (Written by CL26.py.)
-/
namespace Go.Proofs.Ytdfgijdededolaa
open Go.RowKit
attribute [local go_sem ↓] Go.wp_at_zero Go.wp_at_succ

set_option maxRecDepth 20000 in
set_option maxHeartbeats 4000000 in
theorem quote_no1 (c : Cm) (u : ByteArray) (w : World) (h : c.ok w) (hp : Tm.prin ⟨2, 0, u⟩ = false) :
    Calls Try.prog 20 #[.string u, c.v] w fun e w' => e = .returned (.tuple #[.agg #[.int .i64 0, .int .i64 0, .string ⟨#[]⟩, .string ⟨#[]⟩, .slice none 0 0, .slice none 0 0, .slice none 0 0], .int .i64 36]) ∧ Below w.heap.size w w' := by
  have HB0 : Hid (QB w (((w.alloc (.cells c.cs 30)).alloc (.cells zcs 30)).alloc (.cells #[.int .i64 2, .int .i64 0, .string u] 23)) c u) := QB.start w c u h
  have HPR : Hid (∀ X : World, Calls Try.prog 41 #[Tm.v ⟨2, 0, u⟩] X fun e w' => e = .returned (.bool false) ∧ Below X.heap.size X w') := fun X => by have := prin_any ⟨2, 0, u⟩ X; rw [hp] at this; exact this
  obtain ⟨⟨a, hn, cap, h1⟩, ⟨a', cap', h2⟩, ⟨a'', cap'', h3⟩, hbl, htl⟩ := h.shape
  clear h hp
  obtain ⟨⟨⟨⟨k, m, s⟩, nm, ls⟩, hx⟩, body, bv, tests, tv⟩ := c
  simp only at h1 h2 h3 hbl htl
  subst h1 h2 h3
  go_enter Try.func20, Try.ntmps20
  go_wp2_with (go_at_call 41; refine (HPR.out _).mono ?_; clear HPR; rintro e w1 ⟨rfl, hb⟩; have HB1 : Hid (QB w w1 ⟨(⟨⟨k, m, s⟩, nm, ls⟩, .slice a hn cap), body, .slice a' body.length cap', tests, .slice a'' tests.length cap''⟩ u) := HB0.out.later hb; clear HB0 hb; obtain ⟨r0, r1, r2, r3, r4, r5, r6⟩ := cseven HB1.out.br; have f0 : w1.frozen? ⟨w.heap.size + 1, 0, none⟩ = false := HB1.out.br.froz; have f1 : w1.frozen? ⟨w.heap.size + 1, 1, none⟩ = false := HB1.out.br.froz; have f2 : w1.frozen? ⟨w.heap.size + 1, 2, none⟩ = false := HB1.out.br.froz; have f3 : w1.frozen? ⟨w.heap.size + 1, 3, none⟩ = false := HB1.out.br.froz; have f4 : w1.frozen? ⟨w.heap.size + 1, 4, none⟩ = false := HB1.out.br.froz; have f5 : w1.frozen? ⟨w.heap.size + 1, 5, none⟩ = false := HB1.out.br.froz; have f6 : w1.frozen? ⟨w.heap.size + 1, 6, none⟩ = false := HB1.out.br.froz)
  have hq := HB1.out
  have nw : w.heap.size ≤ w.heap.size + 1 := by omega
  exact bodyPost_ret (v := .tuple #[.agg #[.int .i64 0, .int .i64 0, .string ⟨#[]⟩, .string ⟨#[]⟩, .slice none 0 0, .slice none 0 0, .slice none 0 0], .int .i64 36]) (by simp [results, Try.results20, go_sem, r0, r1, r2, r3, r4, r5, r6]) rfl
    ⟨rfl, ((((((hq.bw.setCell nw _).setCell nw _).setCell nw _).setCell nw _).setCell nw _).setCell nw _).setCell nw _⟩
set_option maxRecDepth 20000 in
set_option maxHeartbeats 4000000 in
theorem quote_no2 (c : Cm) (u : ByteArray) (w : World) (h : c.ok w) (hwf : c.wf) (hp : Tm.prin ⟨2, 0, u⟩ = true) (R : Int) (hk : c.chk = R) (hR : R ≠ 0) :
    Calls Try.prog 20 #[.string u, c.v] w fun e w' => e = .returned (.tuple #[.agg #[.int .i64 0, .int .i64 0, .string ⟨#[]⟩, .string ⟨#[]⟩, .slice none 0 0, .slice none 0 0, .slice none 0 0], .int .i64 R]) ∧ Below w.heap.size w w' := by
  have HB0 : Hid (QB w (((w.alloc (.cells c.cs 30)).alloc (.cells zcs 30)).alloc (.cells #[.int .i64 2, .int .i64 0, .string u] 23)) c u) := QB.start w c u h
  have HPR : Hid (∀ X : World, Calls Try.prog 41 #[Tm.v ⟨2, 0, u⟩] X fun e w' => e = .returned (.bool true) ∧ Below X.heap.size X w') := fun X => by have := prin_any ⟨2, 0, u⟩ X; rw [hp] at this; exact this
  have HCK : Hid (∀ X : World, c.ok X → Calls Try.prog 9 #[c.v] X fun e w' => e = .returned (.int .i64 R) ∧ Below X.heap.size X w') := fun X hX => by have := check9_any c X hX hwf; rw [hk] at this; exact this
  obtain ⟨⟨a, hn, cap, h1⟩, ⟨a', cap', h2⟩, ⟨a'', cap'', h3⟩, hbl, htl⟩ := h.shape
  clear h hp hk hwf
  obtain ⟨⟨⟨⟨k, m, s⟩, nm, ls⟩, hx⟩, body, bv, tests, tv⟩ := c
  simp only at h1 h2 h3 hbl htl
  subst h1 h2 h3
  go_enter Try.func20, Try.ntmps20
  go_wp2_with (first | (go_at_call 41; refine (HPR.out _).mono ?_; clear HPR; rintro e w1 ⟨rfl, hb⟩; have HB1 : Hid (QB w w1 ⟨(⟨⟨k, m, s⟩, nm, ls⟩, .slice a hn cap), body, .slice a' body.length cap', tests, .slice a'' tests.length cap''⟩ u) := HB0.out.later hb; clear HB0 hb; obtain ⟨c0, c1, c2, c3, c4, c5, c6⟩ := cseven HB1.out.bc) | (go_at_call 9; refine (HCK.out _ HB1.out.ok).mono ?_; clear HCK; rintro e w2 ⟨rfl, hb⟩; have HB2 : Hid (QB w w2 ⟨(⟨⟨k, m, s⟩, nm, ls⟩, .slice a hn cap), body, .slice a' body.length cap', tests, .slice a'' tests.length cap''⟩ u) := HB1.out.later hb; clear c0 c1 c2 c3 c4 c5 c6; clear HB1 hb; obtain ⟨r0, r1, r2, r3, r4, r5, r6⟩ := cseven HB2.out.br; have f0 : w2.frozen? ⟨w.heap.size + 1, 0, none⟩ = false := HB2.out.br.froz; have f1 : w2.frozen? ⟨w.heap.size + 1, 1, none⟩ = false := HB2.out.br.froz; have f2 : w2.frozen? ⟨w.heap.size + 1, 2, none⟩ = false := HB2.out.br.froz; have f3 : w2.frozen? ⟨w.heap.size + 1, 3, none⟩ = false := HB2.out.br.froz; have f4 : w2.frozen? ⟨w.heap.size + 1, 4, none⟩ = false := HB2.out.br.froz; have f5 : w2.frozen? ⟨w.heap.size + 1, 5, none⟩ = false := HB2.out.br.froz; have f6 : w2.frozen? ⟨w.heap.size + 1, 6, none⟩ = false := HB2.out.br.froz))
  have hq := HB2.out
  have nw : w.heap.size ≤ w.heap.size + 1 := by omega
  exact bodyPost_ret (v := .tuple #[.agg #[.int .i64 0, .int .i64 0, .string ⟨#[]⟩, .string ⟨#[]⟩, .slice none 0 0, .slice none 0 0, .slice none 0 0], .int .i64 R]) (by simp [results, Try.results20, go_sem, r0, r1, r2, r3, r4, r5, r6]) rfl
    ⟨rfl, ((((((hq.bw.setCell nw _).setCell nw _).setCell nw _).setCell nw _).setCell nw _).setCell nw _).setCell nw _⟩
set_option maxRecDepth 20000 in
set_option maxHeartbeats 4000000 in
theorem quote_no3 (c : Cm) (u : ByteArray) (w : World) (h : c.ok w) (hwf : c.wf) (hp : Tm.prin ⟨2, 0, u⟩ = true) (hk : c.chk = 0) (hu : ¬ c.head.1.by_ = zt) :
    Calls Try.prog 20 #[.string u, c.v] w fun e w' => e = .returned (.tuple #[.agg #[.int .i64 0, .int .i64 0, .string ⟨#[]⟩, .string ⟨#[]⟩, .slice none 0 0, .slice none 0 0, .slice none 0 0], .int .i64 37]) ∧ Below w.heap.size w w' := by
  have HB0 : Hid (QB w (((w.alloc (.cells c.cs 30)).alloc (.cells zcs 30)).alloc (.cells #[.int .i64 2, .int .i64 0, .string u] 23)) c u) := QB.start w c u h
  have HPR : Hid (∀ X : World, Calls Try.prog 41 #[Tm.v ⟨2, 0, u⟩] X fun e w' => e = .returned (.bool true) ∧ Below X.heap.size X w') := fun X => by have := prin_any ⟨2, 0, u⟩ X; rw [hp] at this; exact this
  have HCK : Hid (∀ X : World, c.ok X → Calls Try.prog 9 #[c.v] X fun e w' => e = .returned (.int .i64 0) ∧ Below X.heap.size X w') := fun X hX => by have := check9_any c X hX hwf; rw [hk] at this; exact this
  have HUQ : Hid (∀ X : World, (∃ a n cap, c.head.2 = .slice a n cap) → Calls Try.prog 42 #[c.head.1.v c.head.2] X fun e w' => e = .returned (.bool false) ∧ Below X.heap.size X w') := fun X hX => by have := unqualified_any c.head.1 c.head.2 X hX; rw [decide_eq_false hu] at this; exact this
  obtain ⟨⟨a, hn, cap, h1⟩, ⟨a', cap', h2⟩, ⟨a'', cap'', h3⟩, hbl, htl⟩ := h.shape
  clear h hp hk hwf hu
  obtain ⟨⟨⟨⟨k, m, s⟩, nm, ls⟩, hx⟩, body, bv, tests, tv⟩ := c
  simp only at h1 h2 h3 hbl htl
  subst h1 h2 h3
  go_enter Try.func20, Try.ntmps20
  go_wp2_with (first | (go_at_call 41; refine (HPR.out _).mono ?_; clear HPR; rintro e w1 ⟨rfl, hb⟩; have HB1 : Hid (QB w w1 ⟨(⟨⟨k, m, s⟩, nm, ls⟩, .slice a hn cap), body, .slice a' body.length cap', tests, .slice a'' tests.length cap''⟩ u) := HB0.out.later hb; clear HB0 hb; obtain ⟨c0, c1, c2, c3, c4, c5, c6⟩ := cseven HB1.out.bc) | (go_at_call 9; refine (HCK.out _ HB1.out.ok).mono ?_; clear HCK; rintro e w2 ⟨rfl, hb⟩; have HB2 : Hid (QB w w2 ⟨(⟨⟨k, m, s⟩, nm, ls⟩, .slice a hn cap), body, .slice a' body.length cap', tests, .slice a'' tests.length cap''⟩ u) := HB1.out.later hb; clear c0 c1 c2 c3 c4 c5 c6; clear HB1 hb; obtain ⟨c0, c1, c2, c3, c4, c5, c6⟩ := cseven HB2.out.bc) | (go_at_call 42; refine (HUQ.out _ ⟨_, _, _, rfl⟩).mono ?_; clear HUQ; rintro e w3 ⟨rfl, hb⟩; have HB3 : Hid (QB w w3 ⟨(⟨⟨k, m, s⟩, nm, ls⟩, .slice a hn cap), body, .slice a' body.length cap', tests, .slice a'' tests.length cap''⟩ u) := HB2.out.later hb; clear c0 c1 c2 c3 c4 c5 c6; clear HB2 hb; obtain ⟨r0, r1, r2, r3, r4, r5, r6⟩ := cseven HB3.out.br; have f0 : w3.frozen? ⟨w.heap.size + 1, 0, none⟩ = false := HB3.out.br.froz; have f1 : w3.frozen? ⟨w.heap.size + 1, 1, none⟩ = false := HB3.out.br.froz; have f2 : w3.frozen? ⟨w.heap.size + 1, 2, none⟩ = false := HB3.out.br.froz; have f3 : w3.frozen? ⟨w.heap.size + 1, 3, none⟩ = false := HB3.out.br.froz; have f4 : w3.frozen? ⟨w.heap.size + 1, 4, none⟩ = false := HB3.out.br.froz; have f5 : w3.frozen? ⟨w.heap.size + 1, 5, none⟩ = false := HB3.out.br.froz; have f6 : w3.frozen? ⟨w.heap.size + 1, 6, none⟩ = false := HB3.out.br.froz))
  have hq := HB3.out
  have nw : w.heap.size ≤ w.heap.size + 1 := by omega
  exact bodyPost_ret (v := .tuple #[.agg #[.int .i64 0, .int .i64 0, .string ⟨#[]⟩, .string ⟨#[]⟩, .slice none 0 0, .slice none 0 0, .slice none 0 0], .int .i64 37]) (by simp [results, Try.results20, go_sem, r0, r1, r2, r3, r4, r5, r6]) rfl
    ⟨rfl, ((((((hq.bw.setCell nw _).setCell nw _).setCell nw _).setCell nw _).setCell nw _).setCell nw _).setCell nw _⟩
end Go.Proofs.Ytdfgijdededolaa
