import Derived.Test.YtbhdalchnbfohaaCL29
import Derived.Test.YtbhdalchnbfohaaMD14
import Derived.Test.YtbhdalchnbfohaaMP1
/-
  Instance. (Written by CL30.py.)
-/
namespace Go.Proofs.Ytbhdalchnbfohaa
open Go.RowKit
attribute [local go_sem ↓] Go.wp_at_zero Go.wp_at_succ

set_option maxRecDepth 20000 in
set_option maxHeartbeats 4000000 in
theorem inst_any (vs : List Tm) (v : Value) (c : Cm) (w : World) (hv : Ts w v vs) (h : c.ok w) (hl1 : c.head.1.args.length ≤ 1900000000000) (hl2 : c.body.length ≤ 1900000000000) (hl3 : c.tests.length ≤ 1900000000000) (hl4 : ∀ x ∈ c.body, x.1.args.length ≤ 1900000000000) :
    Calls Try.prog 24 #[c.v, v] w (IPost w c vs) := by
  have hb3 := below_step (below2 w (.cells c.cs 50) (.cells #[v] 28)) (below1 _ (.cells zcs 50))
  have x1 := (CBlk.new (w.alloc (.cells c.cs 50)) #[v] 28).later (below1 _ (.cells zcs 50))
  have x2 := CBlk.new ((w.alloc (.cells c.cs 50)).alloc (.cells #[v] 28)) zcs 50
  rw [show (w.alloc (.cells c.cs 50)).heap.size = w.heap.size + 1 by simp] at x1
  rw [show ((w.alloc (.cells c.cs 50)).alloc (.cells #[v] 28)).heap.size = w.heap.size + 1 + 1 by simp] at x2
  have K1 := rep_inst vs v (w.heap.size + 1) c (((w.alloc (.cells c.cs 50)).alloc (.cells #[v] 28)).alloc (.cells zcs 50)) ⟨x1, hv.later hb3⟩ (h.later hb3) hl1 hl2 hl3 hl4
  have z2 : (((w.alloc (.cells c.cs 50)).alloc (.cells #[v] 28)).alloc (.cells zcs 50)).heap.size = w.heap.size + 3 := by simp
  have HB2 : Hid (Below w.heap.size w (((w.alloc (.cells c.cs 50)).alloc (.cells #[v] 28)).alloc (.cells zcs 50))) := hb3
  have HX2 : Hid (CBlk (((w.alloc (.cells c.cs 50)).alloc (.cells #[v] 28)).alloc (.cells zcs 50)) (w.heap.size + 1 + 1) zcs 50) := x2
  clear hl1 hl2 hl3 hl4 hb3 x1 x2
  obtain ⟨av, cv, rfl, -, -⟩ := hv
  obtain ⟨⟨a, hn, cap, h1⟩, ⟨a', cap', h2⟩, ⟨a'', cap'', h3⟩, hbl, htl⟩ := h.shape
  clear h
  obtain ⟨⟨⟨⟨k, m, s⟩, nm, ls⟩, hx⟩, body, bv, tests, tv⟩ := c
  simp only at h1 h2 h3 hbl htl
  subst h1 h2 h3
  go_enter Try.func24, Try.ntmps24
  go_wp2_with (go_at_call 31; refine K1.mono ?_; clear K1; rintro e w1 ⟨M1, M2, M3, lb, rfl, hrp, hb1⟩; have hbx := HX2.out.later hb1; obtain ⟨r0, r1, r2, r3, r4, r5, r6⟩ := cseven hbx; have hfr : ∀ i, w1.frozen? ⟨w.heap.size + 1 + 1, i, none⟩ = false := fun i => hbx.froz; have s0 := hfr 0; have s1 := hfr 1; have s2 := hfr 2; have s3 := hfr 3; have s4 := hfr 4; have s5 := hfr 5; have s6 := hfr 6; rw [z2] at hrp; have HRP : Hid (RJ (w.heap.size + 3) w1 ls.length body.length tests.length (ls.map (ins vs)) ((fsts body).map (insA vs)) (tests.map (insE vs)) M1 M2 M3 lb) := hrp; have HW1 : Hid (Below w.heap.size w w1) := below_step HB2.out hb1; clear hfr hrp hb1 hbx HB2 HX2; simp only [Cm.cpI, insA])
  have nw : w.heap.size ≤ w.heap.size + 1 + 1 := by omega
  have ng : w.heap.size + 1 + 1 < w.heap.size + 3 := by omega
  have hrp := HRP.out
  have hbw := HW1.out
  exact bodyPost_ret (v := (Cm.cpI ⟨(⟨⟨k, m, s⟩, nm, ls⟩, .slice a hn cap), body, .slice a' body.length cap', tests, .slice a'' tests.length cap''⟩ vs M1 M2 M3 lb).v) (by simp [results, Try.results24, go_sem, Cm.v, Cm.cpI, insA, r0, r1, r2, r3, r4, r5, r6]) rfl
    ⟨M1, M2, M3, lb, rfl, (((((((hrp.off ng).off ng).off ng).off ng).off ng).off ng).off ng).mono (by omega), ((((((hbw.setCell nw _).setCell nw _).setCell nw _).setCell nw _).setCell nw _).setCell nw _).setCell nw _⟩
end Go.Proofs.Ytbhdalchnbfohaa
/-
  consts; Instance, Vars of small clauses.
-/
namespace Go.Proofs.Ytbhdalchnbfohaa
open Go.RowKit
attribute [local go_sem ↓] Go.wp_at_zero Go.wp_at_succ

/-- A clause of few and short lists. -/
structure KS (x : Ck) : Prop where
  h : x.1.args.length ≤ 8
  b : x.2.1.length ≤ 8
  t : x.2.2.length ≤ 8
  x : ∀ a ∈ x.2.1, a.args.length ≤ 8
theorem KS.len {x : Ck} (h : KS x) : (Ck.terms x).length ≤ 100 := by
  have h1 := h.h; have h2 := h.b; have h3 := h.t
  have := flat_len9 x.2.1 fun a ha => by have := h.x a ha; simp [At.pl]; omega
  unfold Ck.terms
  rw [List.length_append, List.length_append, tls_len]
  simp [At.pl] at this ⊢
  omega
theorem KS.lens {c : Cm} (h : KS c.key) : c.head.1.args.length ≤ 8 ∧ c.body.length ≤ 8 ∧ c.tests.length ≤ 8 ∧ ∀ x ∈ c.body, x.1.args.length ≤ 8 :=
  ⟨h.h, by have := h.b; simpa [Cm.key, fsts] using this, h.t, fun x hx => h.x x.1 (List.mem_map.2 ⟨x, hx, rfl⟩)⟩
end Go.Proofs.Ytbhdalchnbfohaa
