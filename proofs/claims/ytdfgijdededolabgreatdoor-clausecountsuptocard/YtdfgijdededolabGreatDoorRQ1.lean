/-
  The reference's Own and Quote. (Written by RQ1.py, out of CL26 and OQ3.)
-/
import Derived.Test.YtdfgijdededolabGreatDoorRC2
import Derived.Test.YtdfgijdededolabGreatDoorOQ2
import Derived.Test.YtdfgijdededolabGreatDoorMD14
import Derived.Deep.RegionHeld3
namespace Go.Proofs.YtdfgijdededolabGreatDoor
open Go.RowKit
attribute [local go_sem ↓] Go.wp_at_zero Go.wp_at_succ

/-- A clause in memory, with all that a copy wants to know of its lists. -/
structure OKP (w : World) (c : Cm) : Prop where
  ok : c.ok w
  hh : TsP w c.head.2 c.head.1.args
  hp : ∀ x ∈ c.body, TsP w x.2 x.1.args
  bp : AsP w c.bv c.body
theorem OKP.later {w w' : World} {c : Cm} (h : OKP w c) (hb : Below w.heap.size w w') : OKP w' c := ⟨h.ok.later hb, h.hh.later hb, fun x hx => (h.hp x hx).later hb, h.bp.later hb⟩
theorem ok_of_mc3k {B : Nat} {X : World} {d : Cm} (h : MCl B X d) (hs : (Ck.terms d.key).length ≤ 4000000) : d.ok X := by
  obtain ⟨s1, s2, s3, s4⟩ := cm_sizes hs
  exact h.ok (by omega) (by omega) (fun y hy => by have := s4 y hy; omega) (by omega)
theorem ok_of_mc3 {B : Nat} {X : World} {d : Cm} (h : MCl B X d) (h1 : d.head.1.args.length < 1000000000000000000) (h2 : d.body.length < 1000000000000000000) (h3 : ∀ y ∈ d.body, y.1.args.length < 1000000000000000000) (h4 : d.tests.length < 1000000000000000000) : d.ok X := h.ok h1 h2 h3 h4
theorem qual_zero {t : Tm} (h : qualOk t = true) (hk : t.k = 0) : t = zt := by
  simp only [qualOk, Bool.or_eq_true, decide_eq_true_eq, Tm.prin, Tm.var] at h
  rcases h with h | h
  · first | exact h | (rcases h with h | h; (exact h); (exfalso; omega))
  · exfalso; first | omega | (rcases h with h | h <;> omega)
theorem chk_err {c : Cm} (h : c.chk = 0) : ∀ a ∈ c.key.1 :: c.key.2.1, a.err = 0 := by
  have h1 : long c = false := by
    cases e : long c
    · rfl
    · rw [chk_1 e] at h; cases h
  have h2 : aErr c.atoms = 0 := by
    by_cases e : aErr c.atoms = 0
    · exact e
    · rw [chk_2 h1 e] at h; exact absurd h e
  intro a ha
  have hall := aErr_all h2
  rcases List.mem_cons.1 ha with rfl | ha
  · exact hall c.head (by simp [Cm.atoms])
  · obtain ⟨x, hx, rfl⟩ := List.mem_map.1 ha
    exact hall x (by simp [Cm.atoms, hx])
set_option maxRecDepth 20000 in
set_option maxHeartbeats 4000000 in
theorem rquote_no1 (c : Cm) (u : ByteArray) (w : World) (h : c.ok w) (hp : Tm.prin ⟨2, 0, u⟩ = false) :
    Calls Tryz.prog 64 #[.string u, c.v] w fun e w' => e = .returned (.tuple #[.agg #[.int .i64 0, .int .i64 0, .string ⟨#[]⟩, .string ⟨#[]⟩, .slice none 0 0, .slice none 0 0, .slice none 0 0], .int .i64 36]) ∧ Below w.heap.size w w' := by
  have HB0 : Hid (QB w (((w.alloc (.cells c.cs 41)).alloc (.cells zcs 41)).alloc (.cells #[.int .i64 2, .int .i64 0, .string u] 35)) c u) := QB.start w c u h
  have HPR : Hid (∀ X : World, Calls Tryz.prog 108 #[Tm.v ⟨2, 0, u⟩] X fun e w' => e = .returned (.bool false) ∧ Below X.heap.size X w') := fun X => by have := rprin_any ⟨2, 0, u⟩ X; rw [hp] at this; exact this
  obtain ⟨⟨a, hn, cap, h1⟩, ⟨a', cap', h2⟩, ⟨a'', cap'', h3⟩, hbl, htl⟩ := h.shape
  clear h hp
  obtain ⟨⟨⟨⟨k, m, s⟩, nm, ls⟩, hx⟩, body, bv, tests, tv⟩ := c
  simp only at h1 h2 h3 hbl htl
  subst h1 h2 h3
  go_enter Tryz.func64, Tryz.ntmps64
  go_wp2_with (go_at_call 108; refine (HPR.out _).mono ?_; clear HPR; rintro e w1 ⟨rfl, hb⟩; have HB1 : Hid (QB w w1 ⟨(⟨⟨k, m, s⟩, nm, ls⟩, .slice a hn cap), body, .slice a' body.length cap', tests, .slice a'' tests.length cap''⟩ u) := HB0.out.later hb; clear HB0 hb; obtain ⟨r0, r1, r2, r3, r4, r5, r6⟩ := cseven HB1.out.br; have f0 : w1.frozen? ⟨w.heap.size + 1, 0, none⟩ = false := HB1.out.br.froz; have f1 : w1.frozen? ⟨w.heap.size + 1, 1, none⟩ = false := HB1.out.br.froz; have f2 : w1.frozen? ⟨w.heap.size + 1, 2, none⟩ = false := HB1.out.br.froz; have f3 : w1.frozen? ⟨w.heap.size + 1, 3, none⟩ = false := HB1.out.br.froz; have f4 : w1.frozen? ⟨w.heap.size + 1, 4, none⟩ = false := HB1.out.br.froz; have f5 : w1.frozen? ⟨w.heap.size + 1, 5, none⟩ = false := HB1.out.br.froz; have f6 : w1.frozen? ⟨w.heap.size + 1, 6, none⟩ = false := HB1.out.br.froz)
  have hq := HB1.out
  have nw : w.heap.size ≤ w.heap.size + 1 := by omega
  exact bodyPost_ret (v := .tuple #[.agg #[.int .i64 0, .int .i64 0, .string ⟨#[]⟩, .string ⟨#[]⟩, .slice none 0 0, .slice none 0 0, .slice none 0 0], .int .i64 36]) (by simp [results, Tryz.results64, go_sem, r0, r1, r2, r3, r4, r5, r6]) rfl
    ⟨rfl, ((((((hq.bw.setCell nw _).setCell nw _).setCell nw _).setCell nw _).setCell nw _).setCell nw _).setCell nw _⟩
set_option maxRecDepth 20000 in
set_option maxHeartbeats 4000000 in
theorem rquote_no2 (c : Cm) (u : ByteArray) (w : World) (hP : OKP w c) (hp : Tm.prin ⟨2, 0, u⟩ = true) (R : Int) (hk : c.chk = R) (hR : R ≠ 0) :
    Calls Tryz.prog 64 #[.string u, c.v] w fun e w' => e = .returned (.tuple #[.agg #[.int .i64 0, .int .i64 0, .string ⟨#[]⟩, .string ⟨#[]⟩, .slice none 0 0, .slice none 0 0, .slice none 0 0], .int .i64 R]) ∧ Below w.heap.size w w' := by
  have h := hP.ok
  have HB0 : Hid (QB w (((w.alloc (.cells c.cs 41)).alloc (.cells zcs 41)).alloc (.cells #[.int .i64 2, .int .i64 0, .string u] 35)) c u) := QB.start w c u h
  have HPR : Hid (∀ X : World, Calls Tryz.prog 108 #[Tm.v ⟨2, 0, u⟩] X fun e w' => e = .returned (.bool true) ∧ Below X.heap.size X w') := fun X => by have := rprin_any ⟨2, 0, u⟩ X; rw [hp] at this; exact this
  have HCK : Hid (∀ X : World, Below w.heap.size w X → Calls Tryz.prog 109 #[c.v] X fun e w' => e = .returned (.int .i64 R) ∧ Below X.heap.size X w') := fun X hX => by have := rcheckC_any c X (hP.ok.later hX) (hP.hh.later hX) (fun x hx => (hP.hp x hx).later hX) (hP.bp.later hX); rw [hk] at this; exact this
  obtain ⟨⟨a, hn, cap, h1⟩, ⟨a', cap', h2⟩, ⟨a'', cap'', h3⟩, hbl, htl⟩ := h.shape
  have hR2 : (R != 0) = true := by simp [hR]
  clear h hp hk hP hR
  obtain ⟨⟨⟨⟨k, m, s⟩, nm, ls⟩, hx⟩, body, bv, tests, tv⟩ := c
  simp only at h1 h2 h3 hbl htl
  subst h1 h2 h3
  go_enter Tryz.func64, Tryz.ntmps64
  go_wp2_with (first | (go_at_call 108; refine (HPR.out _).mono ?_; clear HPR; rintro e w1 ⟨rfl, hb⟩; have HB1 : Hid (QB w w1 ⟨(⟨⟨k, m, s⟩, nm, ls⟩, .slice a hn cap), body, .slice a' body.length cap', tests, .slice a'' tests.length cap''⟩ u) := HB0.out.later hb; clear HB0 hb; obtain ⟨c0, c1, c2, c3, c4, c5, c6⟩ := cseven HB1.out.bc) | (go_at_call 109; refine (HCK.out _ HB1.out.bw).mono ?_; clear HCK; rintro e w2 ⟨rfl, hb⟩; have HB2 : Hid (QB w w2 ⟨(⟨⟨k, m, s⟩, nm, ls⟩, .slice a hn cap), body, .slice a' body.length cap', tests, .slice a'' tests.length cap''⟩ u) := HB1.out.later hb; clear c0 c1 c2 c3 c4 c5 c6; clear HB1 hb; obtain ⟨r0, r1, r2, r3, r4, r5, r6⟩ := cseven HB2.out.br; have f0 : w2.frozen? ⟨w.heap.size + 1, 0, none⟩ = false := HB2.out.br.froz; have f1 : w2.frozen? ⟨w.heap.size + 1, 1, none⟩ = false := HB2.out.br.froz; have f2 : w2.frozen? ⟨w.heap.size + 1, 2, none⟩ = false := HB2.out.br.froz; have f3 : w2.frozen? ⟨w.heap.size + 1, 3, none⟩ = false := HB2.out.br.froz; have f4 : w2.frozen? ⟨w.heap.size + 1, 4, none⟩ = false := HB2.out.br.froz; have f5 : w2.frozen? ⟨w.heap.size + 1, 5, none⟩ = false := HB2.out.br.froz; have f6 : w2.frozen? ⟨w.heap.size + 1, 6, none⟩ = false := HB2.out.br.froz))
  have hq := HB2.out
  have nw : w.heap.size ≤ w.heap.size + 1 := by omega
  exact bodyPost_ret (v := .tuple #[.agg #[.int .i64 0, .int .i64 0, .string ⟨#[]⟩, .string ⟨#[]⟩, .slice none 0 0, .slice none 0 0, .slice none 0 0], .int .i64 R]) (by simp [results, Tryz.results64, go_sem, r0, r1, r2, r3, r4, r5, r6]) rfl
    ⟨rfl, ((((((hq.bw.setCell nw _).setCell nw _).setCell nw _).setCell nw _).setCell nw _).setCell nw _).setCell nw _⟩
set_option maxRecDepth 20000 in
set_option maxHeartbeats 4000000 in
theorem rquote_no3 (c : Cm) (u : ByteArray) (w : World) (hP : OKP w c) (hp : Tm.prin ⟨2, 0, u⟩ = true) (hk : c.chk = 0) (hu : ¬ c.head.1.by_.k = 0) :
    Calls Tryz.prog 64 #[.string u, c.v] w fun e w' => e = .returned (.tuple #[.agg #[.int .i64 0, .int .i64 0, .string ⟨#[]⟩, .string ⟨#[]⟩, .slice none 0 0, .slice none 0 0, .slice none 0 0], .int .i64 37]) ∧ Below w.heap.size w w' := by
  have h := hP.ok
  have HB0 : Hid (QB w (((w.alloc (.cells c.cs 41)).alloc (.cells zcs 41)).alloc (.cells #[.int .i64 2, .int .i64 0, .string u] 35)) c u) := QB.start w c u h
  have HPR : Hid (∀ X : World, Calls Tryz.prog 108 #[Tm.v ⟨2, 0, u⟩] X fun e w' => e = .returned (.bool true) ∧ Below X.heap.size X w') := fun X => by have := rprin_any ⟨2, 0, u⟩ X; rw [hp] at this; exact this
  have HCK : Hid (∀ X : World, Below w.heap.size w X → Calls Tryz.prog 109 #[c.v] X fun e w' => e = .returned (.int .i64 0) ∧ Below X.heap.size X w') := fun X hX => by have := rcheckC_any c X (hP.ok.later hX) (hP.hh.later hX) (fun x hx => (hP.hp x hx).later hX) (hP.bp.later hX); rw [hk] at this; exact this
  obtain ⟨⟨a, hn, cap, h1⟩, ⟨a', cap', h2⟩, ⟨a'', cap'', h3⟩, hbl, htl⟩ := h.shape
  have hR2 : (c.head.1.by_.k != 0) = true := by simp [hu]
  clear h hp hk hP hu
  obtain ⟨⟨⟨⟨k, m, s⟩, nm, ls⟩, hx⟩, body, bv, tests, tv⟩ := c
  simp only at h1 h2 h3 hbl htl hR2
  subst h1 h2 h3
  go_enter Tryz.func64, Tryz.ntmps64
  go_wp2_with (first | (go_at_call 108; refine (HPR.out _).mono ?_; clear HPR; rintro e w1 ⟨rfl, hb⟩; have HB1 : Hid (QB w w1 ⟨(⟨⟨k, m, s⟩, nm, ls⟩, .slice a hn cap), body, .slice a' body.length cap', tests, .slice a'' tests.length cap''⟩ u) := HB0.out.later hb; clear HB0 hb; obtain ⟨c0, c1, c2, c3, c4, c5, c6⟩ := cseven HB1.out.bc) | (go_at_call 109; refine (HCK.out _ HB1.out.bw).mono ?_; clear HCK; rintro e w2 ⟨rfl, hb⟩; have HB2 : Hid (QB w w2 ⟨(⟨⟨k, m, s⟩, nm, ls⟩, .slice a hn cap), body, .slice a' body.length cap', tests, .slice a'' tests.length cap''⟩ u) := HB1.out.later hb; clear c0 c1 c2 c3 c4 c5 c6; clear HB1 hb; obtain ⟨c0, c1, c2, c3, c4, c5, c6⟩ := cseven HB2.out.bc; obtain ⟨r0, r1, r2, r3, r4, r5, r6⟩ := cseven HB2.out.br; have f0 : w2.frozen? ⟨w.heap.size + 1, 0, none⟩ = false := HB2.out.br.froz; have f1 : w2.frozen? ⟨w.heap.size + 1, 1, none⟩ = false := HB2.out.br.froz; have f2 : w2.frozen? ⟨w.heap.size + 1, 2, none⟩ = false := HB2.out.br.froz; have f3 : w2.frozen? ⟨w.heap.size + 1, 3, none⟩ = false := HB2.out.br.froz; have f4 : w2.frozen? ⟨w.heap.size + 1, 4, none⟩ = false := HB2.out.br.froz; have f5 : w2.frozen? ⟨w.heap.size + 1, 5, none⟩ = false := HB2.out.br.froz; have f6 : w2.frozen? ⟨w.heap.size + 1, 6, none⟩ = false := HB2.out.br.froz))
  have hq := HB2.out
  have nw : w.heap.size ≤ w.heap.size + 1 := by omega
  exact bodyPost_ret (v := .tuple #[.agg #[.int .i64 0, .int .i64 0, .string ⟨#[]⟩, .string ⟨#[]⟩, .slice none 0 0, .slice none 0 0, .slice none 0 0], .int .i64 37]) (by simp [results, Tryz.results64, go_sem, r0, r1, r2, r3, r4, r5, r6]) rfl
    ⟨rfl, ((((((hq.bw.setCell nw _).setCell nw _).setCell nw _).setCell nw _).setCell nw _).setCell nw _).setCell nw _⟩
set_option maxRecDepth 20000 in
set_option maxHeartbeats 4000000 in
theorem own3_any (c : Cm) (w : World) (hP : OKP w c) (hs : (Ck.terms c.key).length ≤ 4000000) :
    Calls Tryz.prog 58 #[c.v] w fun e w' => ∃ d : Cm, e = .returned d.v ∧ d.key = c.key ∧ MCl w.heap.size w' d ∧ Below w.heap.size w w' := by
  obtain ⟨s1, s2, s3, s4⟩ := cm_sizes hs
  have hl : c.terms.length ≤ 4000000 := by rw [key_terms]; exact hs
  have HTM : Hid (∀ X : World, Below w.heap.size w X → Calls Tryz.prog 38 #[c.v] X fun e w' => ∃ v', e = .returned v' ∧ OwnT w' X.heap.size v' c.terms ∧ Below X.heap.size X w') := fun X hX => terms3_any c X (hP.ok.later hX) (hP.hh.later hX) (fun x hx => (hP.hp x hx).later hX) (by omega)
  have HPU : Hid (∀ (X : World) (y : Value), Below w.heap.size w X → OwnT X 0 y c.terms → Calls Tryz.prog 104 #[c.v, y] X fun e w' => ∃ d : Cm, e = .returned d.v ∧ d.key = c.key ∧ MCl X.heap.size w' d ∧ Below X.heap.size X w') := fun X y hX hy => by
    have := put3_any (fun t => t) c y X (hP.ok.later hX) (by rw [List.map_id']; exact hy.tsP.ts (by omega)) (by omega) (by omega) (by omega) (fun x hx => by have := s4 x hx; omega)
    rw [mapC_id] at this; exact this
  have HC0 : Hid (C2 w ((w.alloc (.cells c.cs 41)).alloc (.cells #[.int .i64 0, .int .i64 0, .string ⟨#[]⟩, .string ⟨#[]⟩, .slice none 0 0, .slice none 0 0, .slice none 0 0] 41)) c.cs) := C2.start w c.cs
  have hok0 := hP.ok
  generalize c.key = KEY at HPU
  generalize c.terms = TT at HTM HPU hl
  clear hP s1 s2 s3 s4 hs
  obtain ⟨⟨r1, r2, r3, tz1⟩, ⟨r4, r6, tz2⟩, ⟨r7, r9, tz3⟩, -, -⟩ := (hok0).shape
  obtain ⟨r5, tz4⟩ : ∃ n, n = c.body.length := ⟨_, rfl⟩
  obtain ⟨r8, tz5⟩ : ∃ n, n = c.tests.length := ⟨_, rfl⟩
  rw [← tz4] at tz2
  rw [← tz5] at tz3
  obtain ⟨⟨⟨⟨rk, rn, rs⟩, rm, ra⟩, rv⟩, rb, rbv, rt, rtv⟩ := c
  simp only at tz1 tz2 tz3
  subst tz1 tz2 tz3
  clear tz4 tz5
  clear hok0
  go_enter Tryz.func58, Tryz.ntmps58
  go_upto_region 1 with fail
  revert HC0
  generalize (w.alloc (.cells #[.int .i64 rk, .int .i64 rn, .string rs, .string rm, .slice r1 r2 r3, .slice r4 r5 r6, .slice r7 r8 r9] 41)).alloc (.cells #[.int .i64 0, .int .i64 0, .string ⟨#[]⟩, .string ⟨#[]⟩, .slice none 0 0, .slice none 0 0, .slice none 0 0] 41) = W0
  intro HC0
  refine wp_region_held_drew (S := fun w' => Below w.heap.size w w' ∧ CBlk w' w.heap.size #[.int .i64 rk, .int .i64 rn, .string rs, .string rm, .slice r1 r2 r3, .slice r4 r5 r6, .slice r7 r8 r9] 41) (by kernel_rfl) ⟨below_step HC0.out.bw (Below.refl _ _).drew, HC0.out.bc.later (Below.refl _ _).drew⟩ (fun hH => ?_)
  have HR0 : Hid (CBlk W0.drew (w.heap.size + 1) zcs 41 ∧ w.heap.size + 1 + 1 ≤ W0.drew.heap.size) := ⟨HC0.out.br.later (Below.refl _ _).drew, Nat.le_trans HC0.out.sz (Below.refl 0 W0).drew.size⟩
  revert hH HR0
  generalize W0.drew = V0
  intro hH HR0
  clear HC0
  refine wpAnyH_take (i := 0) (oi := ⟨_, _, _, _, _, _⟩) (v := .agg #[.int .i64 rk, .int .i64 rn, .string rs, .string rm, .slice r1 r2 r3, .slice r4 r5 r6, .slice r7 r8 r9]) rfl (by kernel_rfl) (by kernel_rfl) (by kernel_rfl) (fun _ _ _ h => h) (Or.inl ⟨by rfl, fun w' h => by obtain ⟨c0, c1, c2, c3, c4, c5, c6⟩ := cseven h.2; clear h; go_simp⟩) hH ?_
  simp only [Act.put, List.setIfInBounds_toArray, List.set_cons_zero, List.set_cons_succ]
  refine wpAnyH_take (i := 1) (oi := ⟨_, _, _, _, _, _⟩) (v := .agg #[.int .i64 rk, .int .i64 rn, .string rs, .string rm, .slice r1 r2 r3, .slice r4 r5 r6, .slice r7 r8 r9]) rfl (by kernel_rfl) (by kernel_rfl) (by kernel_rfl) (fun _ _ _ h => h) (Or.inl ⟨by rfl, fun w' h => by obtain ⟨c0, c1, c2, c3, c4, c5, c6⟩ := cseven h.2; clear h; go_simp⟩) hH ?_
  simp only [Act.put, List.setIfInBounds_toArray, List.set_cons_zero, List.set_cons_succ]
  refine wpAnyH_ready (rs := [2]) (by kernel_rfl) (by simp) ?_
  refine (AllReadyH.cons (o := ⟨_, _, _, _, _, _⟩) rfl (fun K hK => ?_) AllReadyH.nil)
  go_simp
  refine (HTM.out _ hH.1).mono ?_
  rintro x V1 ⟨y, rfl, hy, hb⟩
  have HY : Hid (OwnT V1 0 y TT) := hy.mono (Nat.zero_le _)
  have HR1 : Hid (CBlk V1 (w.heap.size + 1) zcs 41 ∧ w.heap.size + 1 + 1 ≤ V1.heap.size) := ⟨HR0.out.1.later hb, Nat.le_trans HR0.out.2 hb.size⟩
  refine hK.out _ _ ⟨below_step hH.1 hb, hH.2.later hb⟩ (fun hH => ?_)
  clear hK K hb hy HR0
  try simp only [Act.put, List.setIfInBounds_toArray, List.set_cons_zero, List.set_cons_succ]
  refine wpAnyH_ready (rs := [3]) (by kernel_rfl) (by simp) ?_
  refine (AllReadyH.cons (o := ⟨_, _, _, _, _, _⟩) rfl (fun K hK => ?_) AllReadyH.nil)
  go_simp
  refine (HPU.out _ _ hH.1 HY.out).mono ?_
  rintro x V2 ⟨dd, rfl, hdk, hmc, hb⟩
  obtain ⟨d1, d2, d3, d4, d5, d6, d7, d8, d9, e1, e2, e3⟩ := Cm.form hmc
  obtain ⟨⟨⟨⟨dk, dn, ds⟩, dm, da⟩, dv⟩, db, dbv, dt, dtv⟩ := dd
  simp only at e1 e2 e3
  subst e1 e2 e3
  have HDK : Hid (Cm.key ⟨(⟨⟨dk, dn, ds⟩, dm, da⟩, .slice d1 d2 d3), db, .slice d4 d5 d6, dt, .slice d7 d8 d9⟩ = KEY) := hdk
  have HMC : Hid (MCl (w.heap.size + 1 + 1) V2 ⟨(⟨⟨dk, dn, ds⟩, dm, da⟩, .slice d1 d2 d3), db, .slice d4 d5 d6, dt, .slice d7 d8 d9⟩) := hmc.mono HR1.out.2
  have HR2 : Hid (CBlk V2 (w.heap.size + 1) zcs 41) := HR1.out.1.later hb
  refine hK.out _ _ ⟨below_step hH.1 hb, hH.2.later hb⟩ (fun hH => ?_)
  clear hK K hb hdk hmc HY
  try simp only [Act.put, List.setIfInBounds_toArray, List.set_cons_zero, List.set_cons_succ]
  refine wpAnyH_ready (rs := [4]) (by kernel_rfl) (by simp) ?_
  refine (AllReadyH.cons (o := ⟨_, _, _, _, _, _⟩) rfl (fun K hK => ?_) AllReadyH.nil)
  obtain ⟨r0, r1, r2, r3, r4, r5, r6⟩ := cseven HR2.out
  have f0 : V2.frozen? ⟨w.heap.size + 1, 0, none⟩ = false := HR2.out.froz
  have f1 : V2.frozen? ⟨w.heap.size + 1, 1, none⟩ = false := HR2.out.froz
  have f2 : V2.frozen? ⟨w.heap.size + 1, 2, none⟩ = false := HR2.out.froz
  have f3 : V2.frozen? ⟨w.heap.size + 1, 3, none⟩ = false := HR2.out.froz
  have f4 : V2.frozen? ⟨w.heap.size + 1, 4, none⟩ = false := HR2.out.froz
  have f5 : V2.frozen? ⟨w.heap.size + 1, 5, none⟩ = false := HR2.out.froz
  have f6 : V2.frozen? ⟨w.heap.size + 1, 6, none⟩ = false := HR2.out.froz
  go_simp
  have n4 : w.heap.size ≤ w.heap.size + 1 := by omega
  have ng : w.heap.size ≠ w.heap.size + 1 := by omega
  refine hK.out _ _ ⟨((((((hH.1.setCell n4 _).setCell n4 _).setCell n4 _).setCell n4 _).setCell n4 _).setCell n4 _).setCell n4 _, ((((((hH.2.off ng).off ng).off ng).off ng).off ng).off ng).off ng⟩ (fun hH2 => ?_)
  clear hK K
  refine wpAnyH_done (by kernel_rfl) ?_ _
  have HV : Hid _ := hH2.1
  clear hH hH2
  go_wp2
  have n3 : w.heap.size + 1 < w.heap.size + 1 + 1 := by omega
  refine bodyPost_ret (v := Cm.v ⟨(⟨⟨dk, dn, ds⟩, dm, da⟩, .slice d1 d2 d3), db, .slice d4 d5 d6, dt, .slice d7 d8 d9⟩) (by simp [results, Tryz.results58, go_sem, r0, r1, r2, r3, r4, r5, r6]) rfl ⟨⟨(⟨⟨dk, dn, ds⟩, dm, da⟩, .slice d1 d2 d3), db, .slice d4 d5 d6, dt, .slice d7 d8 d9⟩, rfl, HDK.out, ?_, HV.out⟩
  exact (((((((HMC.out.set n3 _).set n3 _).set n3 _).set n3 _).set n3 _).set n3 _).set n3 _).mono (by omega)
structure BQ (w : World) (u : ByteArray) (X : World) (Go : Nat) (d : Cm) : Prop where
  br : CBlk X (w.heap.size + 1) zcs 41
  bt : CBlk X (w.heap.size + 1 + 1) #[.int .i64 2, .int .i64 0, .string u] 35
  bo : CBlk X Go d.cs 41
  mc : MCl (w.heap.size + 1 + 1 + 1) X d
  fr : Fr d.head d.bv d.body d.tv Go
  g1 : w.heap.size + 1 + 1 + 1 ≤ Go
  bw : Below w.heap.size w X
theorem BQ.start {w w1 : World} {u : ByteArray} {d : Cm} (hm : MCl (w.heap.size + 1 + 1 + 1) w1 d) (hr : CBlk w1 (w.heap.size + 1) zcs 41) (ht : CBlk w1 (w.heap.size + 1 + 1) #[.int .i64 2, .int .i64 0, .string u] 35) (hb : Below w.heap.size w w1) (hs : w.heap.size + 1 + 1 + 1 ≤ w1.heap.size) : BQ w u (w1.alloc (.cells d.cs 41)) w1.heap.size d :=
  ⟨hr.later (below1 _ _), ht.later (below1 _ _), CBlk.new _ _ _, hm.later (below1 _ _), ⟨fun k hk => by have := (hm.h.lt k hk).2; omega, fun k hk => by have := (hm.b.lt k hk).2; omega, fun x hx k hk => by have := ((hm.x x hx).lt k hk).2; omega, fun k hk => by have := (hm.t.lt k hk).2; omega⟩, hs, below_step hb (below1 _ _)⟩
theorem BQ.by_ {w X : World} {u : ByteArray} {Go g n cap j : Nat} {h : At × Value} {L : List (At × Value)} {LT : List Te} {tu : Value} {x : At × Value} (H : BQ w u X Go ⟨h, L, .slice (some ⟨g, 0, none⟩) n cap, LT, tu⟩) (hx : L[j]? = some x) (t : Tm) :
    BQ w u (Aby X g j t) Go ⟨h, L.set j (⟨t, x.1.name, x.1.args⟩, x.2), .slice (some ⟨g, 0, none⟩) n cap, LT, tu⟩ := by
  have hg := (H.mc.b.lt g rfl).1
  have hGo : Go ≠ g := fun e => H.fr.b g rfl e.symm
  have hs := H.mc.s g rfl
  have n1 : ∀ k, h.2.ownBlock = some k → k ≠ g := fun k hk e => hs.1 (by rw [hk, e])
  have n2 : ∀ k, tu.ownBlock = some k → k ≠ g := fun k hk e => hs.2.2 (by rw [← e]; exact hk)
  have n3 : ∀ y ∈ L, ∀ k, y.2.ownBlock = some k → k ≠ g := fun y hy k hk e => hs.2.1 y hy (by rw [hk, e])
  have hxm := List.mem_of_getElem? hx
  have nw : w.heap.size ≤ g := by omega
  refine ⟨((H.br.off (by omega)).off (by omega)).off (by omega), ((H.bt.off (by omega)).off (by omega)).off (by omega), ((H.bo.off hGo).off hGo).off hGo, ⟨((H.mc.h.off n1).off n1).off n1, H.mc.b.by_ hx t, fun y hy => ?_, ((H.mc.t.off n2).off n2).off n2, fun k hk => ⟨(H.mc.s k hk).1, fun y hy => ?_, (H.mc.s k hk).2.2⟩⟩, ⟨H.fr.h, H.fr.b, fun y hy => ?_, H.fr.t⟩, H.g1, ((H.bw.setCell nw _).setCell nw _).setCell nw _⟩
  · rcases List.mem_or_eq_of_mem_set hy with hy | rfl
    · exact (((H.mc.x y hy).off (n3 y hy)).off (n3 y hy)).off (n3 y hy)
    · exact (((H.mc.x x hxm).off (n3 x hxm)).off (n3 x hxm)).off (n3 x hxm)
  · rcases List.mem_or_eq_of_mem_set hy with hy | rfl
    · exact (H.mc.s k hk).2.1 y hy
    · exact (H.mc.s k hk).2.1 x hxm
  · rcases List.mem_or_eq_of_mem_set hy with hy | rfl
    · exact H.fr.x y hy
    · exact H.fr.x x hxm
theorem mixG3 {α : Type} {L : List α} {g : α → α} {j : Nat} {t : α} (h : L[j]? = some t) : ((L.take j).map g ++ L.drop j).set j (g t) = (L.take (j + 1)).map g ++ L.drop (j + 1) ∧ ((L.take j).map g ++ L.drop j)[j]? = some t := by
  obtain ⟨hj, e⟩ := List.getElem?_eq_some_iff.1 h
  have e0 := List.drop_eq_getElem_cons hj
  rw [e] at e0
  have hl : ((L.take j).map g).length = j := by rw [List.length_map, List.length_take]; omega
  rw [e0]
  constructor
  · rw [List.set_append_right _ _ (by omega), hl, Nat.sub_self, List.set_cons_zero, List.take_add_one, h]; simp
  · rw [List.getElem?_append_right (by omega), hl, Nat.sub_self]; rfl
theorem set_same3 {α : Type} {L : List α} {j : Nat} {t : α} (h : L[j]? = some t) : L.set j t = L := by
  obtain ⟨hj, rfl⟩ := List.getElem?_eq_some_iff.1 h
  exact List.set_getElem_self hj
theorem OwnA.froz3 {X : World} {base g n cap i : Nat} {L : List (At × Value)} (h : OwnA X base (.slice (some ⟨g, 0, none⟩) n cap) L) : X.frozen? ⟨g, i, none⟩ = false := by
  rcases h.2 with ⟨h, _⟩ | ⟨g', cap', cur, hv, hb, hg, -⟩
  · cases h
  · simp only [Value.slice.injEq, Option.some.injEq, Addr.mk.injEq] at hv
    obtain ⟨⟨rfl, -⟩, -, -⟩ := hv
    exact frozen_of_row _ _ _ _ _ hg
theorem BQ.head {w X : World} {u : ByteArray} {Go : Nat} {d : Cm} (H : BQ w u X Go d) :
    BQ w u (((X.setCell ⟨Go, 0, none⟩ (.int .i64 2)).setCell ⟨Go, 1, none⟩ (.int .i64 0)).setCell ⟨Go, 2, none⟩ (.string u)) Go ⟨(⟨⟨2, 0, u⟩, d.head.1.name, d.head.1.args⟩, d.head.2), d.body, d.bv, d.tests, d.tv⟩ := by
  have hg := H.g1
  have nw : w.heap.size ≤ Go := by omega
  have k1 := ((H.bo.set 0 (.int .i64 2)).set 1 (.int .i64 0)).set 2 (.string u)
  exact ⟨((H.br.off (by omega)).off (by omega)).off (by omega), ((H.bt.off (by omega)).off (by omega)).off (by omega), by simpa using k1, ⟨((H.mc.h.off H.fr.h).off H.fr.h).off H.fr.h, ((H.mc.b.off H.fr.b).off H.fr.b).off H.fr.b, fun y hy => (((H.mc.x y hy).off (H.fr.x y hy)).off (H.fr.x y hy)).off (H.fr.x y hy), ((H.mc.t.off H.fr.t).off H.fr.t).off H.fr.t, H.mc.s⟩, ⟨H.fr.h, H.fr.b, H.fr.x, H.fr.t⟩, H.g1, ((H.bw.setCell nw _).setCell nw _).setCell nw _⟩
set_option maxRecDepth 20000 in
set_option maxHeartbeats 4000000 in
theorem rquote_ok (c : Cm) (u : ByteArray) (w : World) (hP : OKP w c) (hp : Tm.prin ⟨2, 0, u⟩ = true) (hk : c.chk = 0) (hu : c.head.1.by_ = zt) (hs : (Ck.terms c.key).length ≤ 4000000) :
    Calls Tryz.prog 64 #[.string u, c.v] w fun e w' => ∃ d : Cm, e = .returned (.tuple #[d.v, .int .i64 0]) ∧ d.key = quoK u c.key ∧ d.ok w' ∧ Below w.heap.size w w' := by
  have h := hP.ok
  have HB0 : Hid (QB w (((w.alloc (.cells c.cs 41)).alloc (.cells zcs 41)).alloc (.cells #[.int .i64 2, .int .i64 0, .string u] 35)) c u) := QB.start w c u h
  have HPR : Hid (∀ X : World, Calls Tryz.prog 108 #[Tm.v ⟨2, 0, u⟩] X fun e w' => e = .returned (.bool true) ∧ Below X.heap.size X w') := fun X => by have := rprin_any ⟨2, 0, u⟩ X; rw [hp] at this; exact this
  have HCK : Hid (∀ X : World, Below w.heap.size w X → Calls Tryz.prog 109 #[c.v] X fun e w' => e = .returned (.int .i64 0) ∧ Below X.heap.size X w') := fun X hX => by have := rcheckC_any c X (hP.ok.later hX) (hP.hh.later hX) (fun x hx => (hP.hp x hx).later hX) (hP.bp.later hX); rw [hk] at this; exact this
  have HOW : Hid (∀ X : World, Below w.heap.size w X → Calls Tryz.prog 58 #[c.v] X fun e w' => ∃ d : Cm, e = .returned d.v ∧ d.key = c.key ∧ MCl X.heap.size w' d ∧ Below X.heap.size X w') := fun X hX => own3_any c X (hP.later hX) hs
  have hz : c.head.1.by_.k = 0 := by rw [hu]; rfl
  have HQ0 : ∀ a ∈ c.key.2.1, a.by_.k = 0 → a.by_ = zt := fun a ha hk0 => by
    have herr := chk_err hk a (List.mem_cons_of_mem _ ha)
    exact qual_zero (err_zero' herr).2.2.1 hk0
  obtain ⟨KK, hKK⟩ : ∃ K, c.key = K := ⟨_, rfl⟩
  rw [hKK] at HOW HQ0 hs
  rw [hKK]
  have hok0 := h
  clear h hp hk hP hu hKK
  obtain ⟨⟨r1, r2, r3, tz1⟩, ⟨r4, r6, tz2⟩, ⟨r7, r9, tz3⟩, -, -⟩ := (hok0).shape
  obtain ⟨r5, tz4⟩ : ∃ n, n = c.body.length := ⟨_, rfl⟩
  obtain ⟨r8, tz5⟩ : ∃ n, n = c.tests.length := ⟨_, rfl⟩
  rw [← tz4] at tz2
  rw [← tz5] at tz3
  obtain ⟨⟨⟨⟨rk, rn, rs⟩, rm, ra⟩, rv⟩, rb, rbv, rt, rtv⟩ := c
  simp only at tz1 tz2 tz3
  subst tz1 tz2 tz3
  clear tz4 tz5
  clear hok0
  simp only at hz
  subst hz
  go_enter Tryz.func64, Tryz.ntmps64
  go_upto_region 10 with (first
    | (go_at_call 108; refine (HPR.out _).mono ?_; clear HPR; rintro e w1 ⟨rfl, hb⟩; have HB1 : Hid (QB w w1 ⟨(⟨⟨0, rn, rs⟩, rm, ra⟩, .slice r1 r2 r3), rb, .slice r4 r5 r6, rt, .slice r7 r8 r9⟩ u) := HB0.out.later hb; clear HB0 hb; obtain ⟨c0, c1, c2, c3, c4, c5, c6⟩ := cseven HB1.out.bc)
    | (go_at_call 109; refine (HCK.out _ HB1.out.bw).mono ?_; clear HCK; rintro e w2 ⟨rfl, hb⟩; have HB2 : Hid (QB w w2 ⟨(⟨⟨0, rn, rs⟩, rm, ra⟩, .slice r1 r2 r3), rb, .slice r4 r5 r6, rt, .slice r7 r8 r9⟩ u) := HB1.out.later hb; clear c0 c1 c2 c3 c4 c5 c6; clear HB1 hb; obtain ⟨c0, c1, c2, c3, c4, c5, c6⟩ := cseven HB2.out.bc)
    | (go_at_call 58; refine (HOW.out _ HB2.out.bw).mono ?_; clear HOW; rintro e w3 ⟨d, rfl, hdk, hmc, hb⟩; have hok := ok_of_mc3k hmc (by rw [hdk]; exact hs); obtain ⟨⟨d1, d2, d3, tz1⟩, ⟨d4, d6, tz2⟩, ⟨d7, d9, tz3⟩, -, -⟩ := (hok).shape; obtain ⟨d5, tz4⟩ : ∃ n, n = d.body.length := ⟨_, rfl⟩; obtain ⟨d8, tz5⟩ : ∃ n, n = d.tests.length := ⟨_, rfl⟩; rw [← tz4] at tz2; rw [← tz5] at tz3; obtain ⟨⟨⟨⟨dk, dn, ds⟩, dm, da⟩, dv⟩, db, dbv, dt, dtv⟩ := d; simp only at tz1 tz2 tz3; subst tz1 tz2 tz3; clear tz4 tz5; have HDK : Hid (Cm.key ⟨(⟨⟨dk, dn, ds⟩, dm, da⟩, .slice d1 d2 d3), db, .slice d4 d5 d6, dt, .slice d7 d8 d9⟩ = KK) := hdk; have HBS : Hid (BQ w u (w3.alloc (.cells (Cm.cs ⟨(⟨⟨dk, dn, ds⟩, dm, da⟩, .slice d1 d2 d3), db, .slice d4 d5 d6, dt, .slice d7 d8 d9⟩) 41)) w3.heap.size ⟨(⟨⟨dk, dn, ds⟩, dm, da⟩, .slice d1 d2 d3), db, .slice d4 d5 d6, dt, .slice d7 d8 d9⟩) := BQ.start (hmc.mono HB2.out.sz) (HB2.out.br.later hb) (HB2.out.bb.later hb) (below_step HB2.out.bw hb) (Nat.le_trans HB2.out.sz hb.size); clear hb hok hmc hdk c0 c1 c2 c3 c4 c5 c6 HB2))
  revert HBS
  generalize w3.alloc (.cells #[.int .i64 dk, .int .i64 dn, .string ds, .string dm, .slice d1 d2 d3, .slice d4 d5 d6, .slice d7 d8 d9] 41) = X1
  generalize w3.heap.size = Go
  intro HBS
  obtain ⟨c0, c1, c2, c3, c4, c5, c6⟩ := cseven HBS.out.bo
  obtain ⟨t0, t1, t2⟩ := cthree HBS.out.bt
  have f0 : X1.frozen? ⟨Go, 0, none⟩ = false := HBS.out.bo.froz
  have f1 : X1.frozen? ⟨Go, 1, none⟩ = false := HBS.out.bo.froz
  have f2 : X1.frozen? ⟨Go, 2, none⟩ = false := HBS.out.bo.froz
  go_upto_region 11 with fail
  have HB9 : Hid (BQ w u (((X1.setCell ⟨Go, 0, none⟩ (.int .i64 2)).setCell ⟨Go, 1, none⟩ (.int .i64 0)).setCell ⟨Go, 2, none⟩ (.string u)) Go ⟨(⟨⟨2, 0, u⟩, dm, da⟩, .slice d1 d2 d3), db, .slice d4 d5 d6, dt, .slice d7 d8 d9⟩) := HBS.out.head
  clear c0 c1 c2 c3 c4 c5 c6 t0 t1 t2 f0 f1 f2 HBS
  revert HB9
  generalize ((X1.setCell ⟨Go, 0, none⟩ (.int .i64 2)).setCell ⟨Go, 1, none⟩ (.int .i64 0)).setCell ⟨Go, 2, none⟩ (.string u) = X2
  intro HBS
  have hln := cm_sizes (c := ⟨(⟨⟨dk, dn, ds⟩, dm, da⟩, .slice d1 d2 d3), db, .slice d4 d5 d6, dt, .slice d7 d8 d9⟩) (by rw [HDK.out]; exact hs)
  simp only at hln
  obtain ⟨hd5, h5⟩ : ∃ hd5 : d5 = db.length, True := ⟨by obtain ⟨_, _, e⟩ := OwnA.form HBS.out.mc.b; simp only [Value.slice.injEq] at e; exact e.2.1, trivial⟩
  have HD5 : Hid (d5 = db.length) := hd5
  have HMM : Hid (∀ (j : Nat) (a : At), (fsts db)[j]? = some a → a ∈ KK.2.1) := fun j a ha => by rw [← HDK.out]; exact List.mem_of_getElem? ha
  have HQK : Hid (∀ a ∈ KK.2.1, a.by_.k = 0 → a.by_ = zt) := HQ0
  clear hd5 h5 HQ0 hs
  go_wp2_with fail
  go_loopg [9] db.length (fun g i wr => ∃ (j : Nat) (L : List (At × Value)), j + g = db.length ∧ i = .int .i64 j ∧ fsts L = ((fsts db).take j).map (qa u) ++ (fsts db).drop j ∧ BQ w u wr Go ⟨(⟨⟨2, 0, u⟩, dm, da⟩, .slice d1 d2 d3), L, .slice d4 d5 d6, dt, .slice d7 d8 d9⟩)
  case atStart => exact ⟨0, db, by omega, rfl, by simp, HBS.out⟩
  case round =>
    obtain ⟨j, L, hj, rfl, hL, hbs⟩ := hrel
    have HB : Hid (BQ w u wr Go ⟨(⟨⟨2, 0, u⟩, dm, da⟩, .slice d1 d2 d3), L, .slice d4 d5 d6, dt, .slice d7 d8 d9⟩) := hbs
    have HL : Hid (fsts L = ((fsts db).take j).map (qa u) ++ (fsts db).drop j) := hL
    clear hbs HBS
    obtain ⟨c0, c1, c2, c3, c4, c5, c6⟩ := cseven HB.out.bo
    simp only at c0 c1 c2 c3 c4 c5 c6
    have hdb := hln.2.1
    cases gk with
    | succ g =>
      have hlt : (j : Int) < (d5 : Int) := by have := HD5.out; omega
      have j0 : (0 : Int) ≤ (j : Int) := by omega
      obtain ⟨aj, haj⟩ : ∃ a, (fsts db)[j]? = some a := ⟨_, List.getElem?_eq_getElem (by simp [fsts]; omega)⟩
      obtain ⟨hm1, hm2⟩ := mixG3 (g := qa u) haj
      rw [← hL] at hm1 hm2
      obtain ⟨x, hx, hxa⟩ : ∃ x, L[j]? = some x ∧ x.1 = aj := by
        unfold fsts at hm2
        rw [List.getElem?_map] at hm2
        cases e : L[j]? with
        | none => rw [e] at hm2; simp at hm2
        | some x => rw [e] at hm2; simp at hm2; exact ⟨x, rfl, hm2⟩
      subst hxa
      have hLp : 0 < L.length := by have := (List.getElem?_eq_some_iff.1 hx).1; omega
      obtain ⟨gb, hgb⟩ : ∃ g, d4 = some ⟨g, 0, none⟩ := by
        rcases HB.out.mc.b.2 with ⟨_, hn0⟩ | ⟨g', cap', cur, hv, -⟩
        · exact absurd hn0 (by show ¬ L.length = 0; omega)
        · simp only [Value.slice.injEq] at hv; exact ⟨g', hv.1⟩
      subst hgb
      have q0 : wr.cell? ⟨gb, j * 5, none⟩ = some (.int .i64 x.1.by_.k) := OwnA.cells HB.out.mc.b j x hx 0 (by omega)
      have q1 : wr.cell? ⟨gb, j * 5 + 1, none⟩ = some (.int .i64 x.1.by_.n) := OwnA.cells HB.out.mc.b j x hx 1 (by omega)
      have q2 : wr.cell? ⟨gb, j * 5 + 2, none⟩ = some (.string x.1.by_.s) := OwnA.cells HB.out.mc.b j x hx 2 (by omega)
      have f0 : wr.frozen? ⟨gb, j * 5, none⟩ = false := OwnA.froz3 HB.out.mc.b
      have f1 : wr.frozen? ⟨gb, j * 5 + 1, none⟩ = false := OwnA.froz3 HB.out.mc.b
      have f2 : wr.frozen? ⟨gb, j * 5 + 2, none⟩ = false := OwnA.froz3 HB.out.mc.b
      have hqk := HQK.out x.1 (HMM.out j x.1 haj)
      obtain ⟨t0, t1, t2⟩ := cthree HB.out.bt
      by_cases hq : x.1.by_ = zt
      · have hk : (x.1.by_.k == 0) = true := by rw [hq]; rfl
        have HN : Hid (fsts (L.set j (⟨⟨2, 0, u⟩, x.1.name, x.1.args⟩, x.2)) = ((fsts db).take (j + 1)).map (qa u) ++ (fsts db).drop (j + 1)) := by
          show _ = _
          rw [← hm1, fsts_set]
          unfold qa; rw [if_pos hq]
        have HB2 : Hid (BQ w u (Aby wr gb j ⟨2, 0, u⟩) Go ⟨(⟨⟨2, 0, u⟩, dm, da⟩, .slice d1 d2 d3), (L.set j (⟨⟨2, 0, u⟩, x.1.name, x.1.args⟩, x.2)), .slice (some ⟨gb, 0, none⟩) d5 d6, dt, .slice d7 d8 d9⟩) := HB.out.by_ hx ⟨2, 0, u⟩
        clear hq hm1 hm2 haj hL hqk
        obtain ⟨⟨⟨xk, xn, xs⟩, xm, xa⟩, xv⟩ := x
        simp only at q0 q1 q2 hk
        go_wp2
        go_roundg g
        case measure => omega
        case rel => exact ⟨j + 1, _, by omega, by go_num, HN.out, HB2.out⟩
      · have hk : (x.1.by_.k == 0) = false := beq_eq_false_iff_ne.2 fun e => hq (hqk e)
        have HN : Hid (fsts L = ((fsts db).take (j + 1)).map (qa u) ++ (fsts db).drop (j + 1)) := by
          show _ = _
          rw [← hm1]
          have : qa u x.1 = x.1 := by unfold qa; rw [if_neg hq]
          rw [this, set_same3 hm2]
        clear hq hm1 hm2 haj hL hx hqk
        obtain ⟨⟨⟨xk, xn, xs⟩, xm, xa⟩, xv⟩ := x
        simp only at q0 q1 q2 hk
        go_wp2
        go_roundg g
        case measure => omega
        case rel => exact ⟨j + 1, L, by omega, by go_num, HN.out, HB.out⟩
    | zero =>
      have hz : ¬ ((j : Int) < (d5 : Int)) := by have := HD5.out; omega
      have hLf : fsts L = (fsts db).map (qa u) := by
        rw [hL, List.take_of_length_le (by simp [fsts]; omega), List.drop_eq_nil_of_le (by simp [fsts]; omega), List.append_nil]
      have HLF : Hid (fsts L = (fsts db).map (qa u)) := hLf
      have HLN : Hid (L.length = db.length) := by show L.length = db.length; have := congrArg List.length hLf; simpa [fsts] using this
      obtain ⟨r0, r1, r2, r3, r4, r5, r6⟩ := cseven HB.out.br
      have f0 : wr.frozen? ⟨w.heap.size + 1, 0, none⟩ = false := HB.out.br.froz
      have f1 : wr.frozen? ⟨w.heap.size + 1, 1, none⟩ = false := HB.out.br.froz
      have f2 : wr.frozen? ⟨w.heap.size + 1, 2, none⟩ = false := HB.out.br.froz
      have f3 : wr.frozen? ⟨w.heap.size + 1, 3, none⟩ = false := HB.out.br.froz
      have f4 : wr.frozen? ⟨w.heap.size + 1, 4, none⟩ = false := HB.out.br.froz
      have f5 : wr.frozen? ⟨w.heap.size + 1, 5, none⟩ = false := HB.out.br.froz
      have f6 : wr.frozen? ⟨w.heap.size + 1, 6, none⟩ = false := HB.out.br.froz
      have n4 : w.heap.size ≤ w.heap.size + 1 := by omega
      clear hLf hL
      go_wp2
      have n3 : w.heap.size + 1 < w.heap.size + 1 + 1 + 1 := by omega
      refine bodyPost_ret (v := .tuple #[Cm.v ⟨(⟨⟨2, 0, u⟩, dm, da⟩, .slice d1 d2 d3), L, .slice d4 d5 d6, dt, .slice d7 d8 d9⟩, .int .i64 0]) (by simp [results, Tryz.results64, go_sem, r0, r1, r2, r3, r4, r5, r6]) rfl ⟨⟨(⟨⟨2, 0, u⟩, dm, da⟩, .slice d1 d2 d3), L, .slice d4 d5 d6, dt, .slice d7 d8 d9⟩, rfl, ?_, ?_, ?_⟩
      · have hk := HDK.out
        rw [← hk]
        unfold Cm.key quoK
        simp only
        rw [HLF.out]
      · refine ok_of_mc3 (((((((HB.out.mc.set n3 _).set n3 _).set n3 _).set n3 _).set n3 _).set n3 _).set n3 _) (by show da.length < _; have := hln.1; omega) (by show L.length < _; have := HLN.out; omega) (fun y hy => ?_) (by show dt.length < _; have := hln.2.2.1; omega)
        have hy1 : y.1 ∈ (fsts db).map (qa u) := by rw [← HLF.out]; exact List.mem_map.2 ⟨y, hy, rfl⟩
        obtain ⟨b, hb, e⟩ := List.mem_map.1 hy1
        obtain ⟨z, hz, rfl⟩ := List.mem_map.1 hb
        have := hln.2.2.2 z hz
        have e2 : y.1.args = z.1.args := by rw [← e]; unfold qa; split <;> rfl
        rw [e2]; omega
      · exact ((((((HB.out.bw.setCell n4 _).setCell n4 _).setCell n4 _).setCell n4 _).setCell n4 _).setCell n4 _).setCell n4 _
end Go.Proofs.YtdfgijdededolabGreatDoor
