import Derived.Test.YtdfgijdededolaaCL29
import Derived.Test.YtdfgijdededolaaMD14
import Derived.Test.YtdfgijdededolaaOQ1
/-
  Instance. (Written by CL30.py.)
-/
namespace Go.Proofs.Ytdfgijdededolaa
open Go.RowKit
attribute [local go_sem ↓] Go.wp_at_zero Go.wp_at_succ

set_option maxRecDepth 20000 in
set_option maxHeartbeats 4000000 in
theorem inst_any (vs : List Tm) (v : Value) (c : Cm) (w : World) (hv : Ts w v vs) (h : c.ok w) (hl1 : c.head.1.args.length ≤ 1900000000000) (hl2 : c.body.length ≤ 1900000000000) (hl3 : c.tests.length ≤ 1900000000000) (hl4 : ∀ x ∈ c.body, x.1.args.length ≤ 1900000000000) :
    Calls Try.prog 17 #[c.v, v] w (IPost w c vs) := by
  have hb3 := below_step (below2 w (.cells c.cs 30) (.cells #[v] 24)) (below1 _ (.cells zcs 30))
  have x1 := (CBlk.new (w.alloc (.cells c.cs 30)) #[v] 24).later (below1 _ (.cells zcs 30))
  have x2 := CBlk.new ((w.alloc (.cells c.cs 30)).alloc (.cells #[v] 24)) zcs 30
  rw [show (w.alloc (.cells c.cs 30)).heap.size = w.heap.size + 1 by simp] at x1
  rw [show ((w.alloc (.cells c.cs 30)).alloc (.cells #[v] 24)).heap.size = w.heap.size + 1 + 1 by simp] at x2
  have K1 := rep_inst vs v (w.heap.size + 1) c (((w.alloc (.cells c.cs 30)).alloc (.cells #[v] 24)).alloc (.cells zcs 30)) ⟨x1, hv.later hb3⟩ (h.later hb3) hl1 hl2 hl3 hl4
  have z2 : (((w.alloc (.cells c.cs 30)).alloc (.cells #[v] 24)).alloc (.cells zcs 30)).heap.size = w.heap.size + 3 := by simp
  have HB2 : Hid (Below w.heap.size w (((w.alloc (.cells c.cs 30)).alloc (.cells #[v] 24)).alloc (.cells zcs 30))) := hb3
  have HX2 : Hid (CBlk (((w.alloc (.cells c.cs 30)).alloc (.cells #[v] 24)).alloc (.cells zcs 30)) (w.heap.size + 1 + 1) zcs 30) := x2
  clear hl1 hl2 hl3 hl4 hb3 x1 x2
  obtain ⟨av, cv, rfl, -, -⟩ := hv
  obtain ⟨⟨a, hn, cap, h1⟩, ⟨a', cap', h2⟩, ⟨a'', cap'', h3⟩, hbl, htl⟩ := h.shape
  clear h
  obtain ⟨⟨⟨⟨k, m, s⟩, nm, ls⟩, hx⟩, body, bv, tests, tv⟩ := c
  simp only at h1 h2 h3 hbl htl
  subst h1 h2 h3
  go_enter Try.func17, Try.ntmps17
  go_wp2_with (go_at_call 36; refine K1.mono ?_; clear K1; rintro e w1 ⟨M1, M2, M3, lb, rfl, hrp, hb1⟩; have hbx := HX2.out.later hb1; obtain ⟨r0, r1, r2, r3, r4, r5, r6⟩ := cseven hbx; have hfr : ∀ i, w1.frozen? ⟨w.heap.size + 1 + 1, i, none⟩ = false := fun i => hbx.froz; have s0 := hfr 0; have s1 := hfr 1; have s2 := hfr 2; have s3 := hfr 3; have s4 := hfr 4; have s5 := hfr 5; have s6 := hfr 6; rw [z2] at hrp; have HRP : Hid (RJ (w.heap.size + 3) w1 ls.length body.length tests.length (ls.map (ins vs)) ((fsts body).map (insA vs)) (tests.map (insE vs)) M1 M2 M3 lb) := hrp; have HW1 : Hid (Below w.heap.size w w1) := below_step HB2.out hb1; clear hfr hrp hb1 hbx HB2 HX2; simp only [Cm.cpI, insA])
  have nw : w.heap.size ≤ w.heap.size + 1 + 1 := by omega
  have ng : w.heap.size + 1 + 1 < w.heap.size + 3 := by omega
  have hrp := HRP.out
  have hbw := HW1.out
  exact bodyPost_ret (v := (Cm.cpI ⟨(⟨⟨k, m, s⟩, nm, ls⟩, .slice a hn cap), body, .slice a' body.length cap', tests, .slice a'' tests.length cap''⟩ vs M1 M2 M3 lb).v) (by simp [results, Try.results17, go_sem, Cm.v, Cm.cpI, insA, r0, r1, r2, r3, r4, r5, r6]) rfl
    ⟨M1, M2, M3, lb, rfl, (((((((hrp.off ng).off ng).off ng).off ng).off ng).off ng).off ng).mono (by omega), ((((((hbw.setCell nw _).setCell nw _).setCell nw _).setCell nw _).setCell nw _).setCell nw _).setCell nw _⟩
end Go.Proofs.Ytdfgijdededolaa
/-
  consts; Instance, Vars of small clauses.
-/
namespace Go.Proofs.Ytdfgijdededolaa
open Go.RowKit
attribute [local go_sem ↓] Go.wp_at_zero Go.wp_at_succ

theorem cst_in {l : List Tm} {i : Nat} {t : Tm} (h : l[i]? = some t) : cst l i = mkC t := by unfold cst; rw [h]
theorem cst_out {l : List Tm} {i : Nat} (h : l.length ≤ i) : cst l i = ⟨1, (i : Int), ⟨#[]⟩⟩ := by unfold cst; rw [List.getElem?_eq_none h]
set_option maxRecDepth 20000 in
set_option maxHeartbeats 4000000 in
theorem consts_any (l : List Tm) (v : Value) (n : Nat) (w : World) (h : Ts w v l) (hn : n ≤ 1000) :
    Calls Try.prog 18 #[v, .int .i64 (n : Int)] w fun e w' => ∃ v', e = .returned v' ∧ OwnT w' w.heap.size v' (csts l n) ∧ Below w.heap.size w w' := by
  obtain ⟨ad, cap, rfl, hl, h⟩ := h
  go_enter Try.func18, Try.ntmps18
  go_wp2
  go_loopg [5, 6] n (fun g u i wr => ∃ j : Nat, j + g = n ∧ i = .int .i64 j ∧ LS w wr u (csts l j))
  case atStart => exact ⟨0, by omega, rfl, ownT_nil _ _, Below.refl _ _⟩
  case round =>
    obtain ⟨j, hj, rfl, hls⟩ := hrel
    have HLS : Hid (LS w wr u5 (csts l j)) := hls
    clear hls
    cases gk with
    | succ g =>
      have hlt : (j : Int) < (n : Int) := by omega
      have j0 : (0 : Int) ≤ (j : Int) := by omega
      have HTJ : Hid (csts l j ++ [cst l j] = csts l (j + 1)) := (csts_succ l j).symm
      have HLJ : Hid ((csts l j).length ≤ 1000) := by show _ ≤ _; rw [csts_len]; omega
      have HG0 : Hid (CBlk (wr.alloc (.cells #[.int .i64 1, .int .i64 (j : Int), .string ⟨#[]⟩] 23)) wr.heap.size #[.int .i64 1, .int .i64 (j : Int), .string ⟨#[]⟩] 23) := CBlk.new _ _ _
      have HL0 : Hid (LS w (wr.alloc (.cells #[.int .i64 1, .int .i64 (j : Int), .string ⟨#[]⟩] 23)) u5 (csts l j)) := HLS.out.later (below1 _ _)
      have HUB : Hid (∀ k, u5.ownBlock = some k → k < wr.heap.size) := fun k hk => (HLS.out.ow.lt k hk).2
      have hsB := HLS.out.bw.size
      have hCI : ∀ t, l[j]? = some t → cst l j = mkC t := fun t ht => cst_in ht
      have hCO : l.length ≤ j → cst l j = ⟨1, (j : Int), ⟨#[]⟩⟩ := cst_out
      obtain ⟨⟨fk, fn, fs⟩, hf⟩ : ∃ x, cst l j = x := ⟨_, rfl⟩
      rw [hf] at HTJ hCI hCO
      have HCI : Hid (∀ t, l[j]? = some t → (⟨fk, fn, fs⟩ : Tm) = mkC t) := hCI
      have HCO : Hid (l.length ≤ j → (⟨fk, fn, fs⟩ : Tm) = ⟨1, (j : Int), ⟨#[]⟩⟩) := hCO
      clear hf HLS hCI hCO
      generalize csts l j = LJ at HL0 HTJ HLJ
      go_upto_if 18 with fail
      revert HG0 HL0
      generalize wr.alloc (.cells #[.int .i64 1, .int .i64 (j : Int), .string ⟨#[]⟩] 23) = Y
      intro HG0 HL0
      generalize wr.heap.size = B at HG0 HUB hsB ⊢
      go_cut [] from 18 to 27 (fun wx => LS w wx u5 LJ ∧ CBlk wx B #[.int .i64 fk, .int .i64 fn, .string fs] 23)
      case first =>
        by_cases hjl : (j : Int) < (l.length : Int)
        · obtain ⟨t, ht⟩ : ∃ t, l[j]? = some t := ⟨_, List.getElem?_eq_getElem (by omega)⟩
          rcases h with h | ⟨b1, o1, rfl, hb1, h⟩
          · subst h; simp at ht
          obtain ⟨p0, p1, p2⟩ := h j t ht
          have q0 := cell_step HL0.out.bw hb1 p0
          have q1 := cell_step HL0.out.bw hb1 p1
          have q2 := cell_step HL0.out.bw hb1 p2
          have HMC : Hid (∀ X : World, Calls Try.prog 40 #[t.v] X fun e w' => e = .returned (mkC t).v ∧ Below X.heap.size X w') := fun X => madeConst_any t X
          rw [← HCI.out t ht] at HMC
          clear h ht p0 p1 p2 HCI HCO
          obtain ⟨tk, tn, ts⟩ := t
          simp only at q0 q1 q2
          go_wp2_with (go_at_call 40; refine (HMC.out _).mono ?_; clear HMC; rintro e w2 ⟨rfl, hb⟩; have HL1 : Hid (LS w w2 u5 LJ) := HL0.out.later hb; have HG1 : Hid (CBlk w2 B _ 23) := HG0.out.later hb; clear hb q0 q1 q2; obtain ⟨c0, c1, c2⟩ := cthree HG1.out; have f0 : w2.frozen? ⟨B, 0, none⟩ = false := HG1.out.froz; have f1 : w2.frozen? ⟨B, 1, none⟩ = false := HG1.out.froz; have f2 : w2.frozen? ⟨B, 2, none⟩ = false := HG1.out.froz)
          go_meet
          case rel =>
            refine ⟨((HL1.out.far hsB HUB.out _).far hsB HUB.out _).far hsB HUB.out _, ?_⟩
            have := ((HG1.out.set 0 (.int .i64 fk)).set 1 (.int .i64 fn)).set 2 (.string fs)
            simpa using this
        · have e := HCO.out (by omega)
          simp only [Tm.mk.injEq] at e
          obtain ⟨rfl, rfl, rfl⟩ := e
          go_wp2
          go_meet
          case rel => exact ⟨HL0.out, HG0.out⟩
      case rest =>
        obtain ⟨hl2, hg2⟩ := hcut
        obtain ⟨c0, c1, c2⟩ := cthree hg2
        have HG3 : Hid (CBlk (wc.alloc (.cells #[.int .i64 fk, .int .i64 fn, .string fs] 23)) wc.heap.size #[.int .i64 fk, .int .i64 fn, .string fs] 23) := CBlk.new _ _ _
        have HL3 : Hid (LS w (wc.alloc (.cells #[.int .i64 fk, .int .i64 fn, .string fs] 23)) u5 LJ) := hl2.later (below1 _ _)
        clear hl2 hg2 HL0 HG0 HCI HCO h
        go_wp2_with (at_builtin; refine app_terms rfl _ _ rfl w.heap.size u5 LJ (by rfl) HL3.out.ow (.slice (some ⟨wc.heap.size, 0, none⟩) 1 1) [⟨fk, fn, fs⟩] (by rfl) (TsP.one HG3.out) (by have := HLJ.out; simp only [List.length_cons, List.length_nil]; omega) HL3.out.bw.size ?_; intro v' w4 hown hb3 hg3; have HL4 : Hid (LS w w4 v' (LJ ++ [⟨fk, fn, fs⟩])) := ⟨hown, HL3.out.bw.trans hb3⟩; clear hown hb3 hg3 HL3 HG3 c0 c1 c2)
        go_roundg g
        case measure => omega
        case rel => exact ⟨j + 1, by omega, by go_num, by rw [← HTJ.out]; exact HL4.out⟩
    | zero =>
      obtain rfl : j = n := by omega
      have hz : ¬ ((j : Int) < (j : Int)) := by omega
      clear h
      go_wp2
      go_ret
      exact ⟨_, rfl, HLS.out.ow, HLS.out.bw⟩
/-- A clause of few and short lists. -/
structure KS (x : Ck) : Prop where
  h : x.1.args.length ≤ 8
  b : x.2.1.length ≤ 8
  t : x.2.2.length ≤ 8
  x : ∀ a ∈ x.2.1, a.args.length ≤ 8
theorem Val0.ks {x : Ck} (h : Val0 x) : KS x := ⟨(err_zero' (h.e _ (by simp))).2.1, h.bl, h.tl, fun a ha => (err_zero' (h.e a (by simp [ha]))).2.1⟩
theorem KS.map {x : Ck} (h : KS x) (f : Tm → Tm) : KS (mapC f x) := ⟨by simpa [mapC, mapA] using h.h, by simpa [mapC] using h.b, by simpa [mapC] using h.t, fun a ha => by obtain ⟨b, hb, rfl⟩ := List.mem_map.1 ha; simpa [mapA] using h.x b hb⟩
theorem KS.len {x : Ck} (h : KS x) : (Ck.terms x).length ≤ 100 := by
  have h1 := h.h; have h2 := h.b; have h3 := h.t
  have := flat_len9 x.2.1 fun a ha => by have := h.x a ha; simp [At.pl]; omega
  unfold Ck.terms
  rw [List.length_append, List.length_append, tls_len]
  simp [At.pl] at this ⊢
  omega
theorem KS.lens {c : Cm} (h : KS c.key) : c.head.1.args.length ≤ 8 ∧ c.body.length ≤ 8 ∧ c.tests.length ≤ 8 ∧ ∀ x ∈ c.body, x.1.args.length ≤ 8 :=
  ⟨h.h, by have := h.b; simpa [Cm.key, fsts] using this, h.t, fun x hx => h.x x.1 (List.mem_map.2 ⟨x, hx, rfl⟩)⟩
theorem MCl.ok8 {B : Nat} {X : World} {d : Cm} (h : MCl B X d) (hs : KS d.key) : d.ok X := by
  obtain ⟨h1, h2, h3, h4⟩ := hs.lens
  exact h.ok (by omega) (by omega) (fun y hy => by have := h4 y hy; omega) (by omega)
theorem inst3_any (c : Cm) (vs : List Tm) (v : Value) (w : World) (h : c.ok w) (hv : Ts w v vs) (hs : KS c.key) :
    Calls Try.prog 17 #[c.v, v] w fun e w' => ∃ d : Cm, e = .returned d.v ∧ d.key = mapC (ins vs) c.key ∧ d.ok w' ∧ Below w.heap.size w w' := by
  obtain ⟨h1, h2, h3, h4⟩ := hs.lens
  refine (inst_any vs v c w hv h (by omega) (by omega) (by omega) (fun x hx => by have := h4 x hx; omega)).mono fun e w' he => ?_
  obtain ⟨M1, M2, M3, lb, rfl, hr, hb⟩ := he
  have hl : lb.length = c.body.length := by have := congrArg List.length hr.f; simpa [fsts] using this
  refine ⟨_, rfl, ?_, ⟨?_, ?_, ?_⟩, hb⟩
  · unfold Cm.key mapC Cm.cpI
    simp only
    rw [hr.f]; rfl
  · have := hr.t1
    rwa [show (c.cpI vs M1 M2 M3 lb).head.1.args = c.head.1.args.map (ins vs) from rfl]
  · exact hr.a.as hl (by omega) fun x hx => (hr.ts x hx).1.1
  · exact hr.e.es (by simp) (by omega)
theorem wf_small {v : Int} (h : 0 ≤ v) (h' : v < 100000) : (Lit.int .i64 v).wf = true := by
  simp only [Lit.wf, IntKind.min, IntKind.max, IntKind.signed, IntKind.bits, Bool.and_eq_true, decide_eq_true_eq, if_true]
  omega
theorem vars3_any (c : Cm) (w : World) (h : c.ok w) (hs : KS c.key) (hn : ∀ t ∈ Ck.terms c.key, t.var = true → t.n < 100000) :
    Calls Try.prog 14 #[c.v] w fun e w' => e = .returned (.int .i64 ((dis (vrs (Ck.terms c.key))).length : Nat)) ∧ Below w.heap.size w w' := by
  have e : c.vars = vrs (Ck.terms c.key) := by rw [← key_terms]; rfl
  rw [← e]
  refine vars_any c w h (fun v hv => ?_) ?_
  · rw [e] at hv
    obtain ⟨t, ht, rfl⟩ := List.mem_map.1 hv
    obtain ⟨ht, hvt⟩ := List.mem_filter.1 ht
    exact wf_small (var_nn hvt) (hn t ht hvt)
  · rw [e]
    have := vrs_len (Ck.terms c.key)
    have := hs.len
    omega
theorem same_of_key {c d : Cm} (h : c.key = d.key) : c.same d = true := by
  unfold Cm.key at h
  simp only [Prod.mk.injEq] at h
  unfold Cm.same
  simp [h.1, h.2.1, h.2.2]
end Go.Proofs.Ytdfgijdededolaa
