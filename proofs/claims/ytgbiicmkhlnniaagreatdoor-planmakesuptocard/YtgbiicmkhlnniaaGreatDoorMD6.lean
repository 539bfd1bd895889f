/-
  testTerms, Terms. (Written by MD6.py.)
-/
import Derived.Test.YtgbiicmkhlnniaaGreatDoorMD5
namespace Go.Proofs.YtgbiicmkhlnniaaGreatDoor
open Go.RowKit
attribute [local go_sem ↓] Go.wp_at_zero Go.wp_at_succ

theorem step_terms {ops : Array Oper} {o : Oper} {a : Act} {K : Act → World → Prop} {Q : Exit → Act → World → Prop} {E : Prop} {w : World} (hgd : o.guard = none) (s x : Operand)
    (ho : o.op = .call { callee := .builtin .append, args := #[s, x], argTypes := #[24, 24] }) (base : Nat) (v : Value) (l : List Tm) (hs : a.eval s = v) (hown : OwnT w base v l)
    (b : Nat) (m : List Tm) (hm : 0 < m.length) (hx : a.eval x = .slice (some ⟨b, 0, none⟩) m.length m.length) (hy : TRow w b 0 m) (hlen : l.length + m.length ≤ 4000000000000) (hbase : base ≤ w.heap.size)
    (h : ∀ v' w', OwnT w' base v' (l ++ m) → Below base w w' → w.grownBy w' v.ownBlock → K (a.put o.dst v') w') : if Region.wanted o (yielded ops a.tmps) = true then Oper.wp Tryz.prog o a w K Q else E := by
  obtain ⟨i0, hi0, hz0, hz1, hz2⟩ := info_parts Tryz.infoTerm
  refine step_append_lies _ hgd s x 24 ho base 23 i0 _ 3 32 Tryz.underlying24 hi0 hz0 hz1 hz2 rfl (by omega) v l.length (tcs l) hs hown ⟨b, 0, none⟩ m.length m.length (tcs m) hx (tcs_len m) (trow_get hy) (fun u hu => tcs_mem hu) hm (by unfold maxLen; omega) (by omega) hbase _ rfl ?_
  intro g cap w' h1 h2 _ _
  refine h _ w' ?_ (grown_below3 h2 (fun k hk => (World.ownsRow.lt hown k hk).1) hbase) h2
  unfold OwnT
  rw [List.length_append, tcs_app]
  exact h1
theorem row_of {w : World} {b o n cap : Nat} {l : List Tm} (h : TsP w (.slice (some ⟨b, o, none⟩) n cap) l) (hl : 0 < l.length) : TRow w b o l := by
  rcases h with ⟨h, -⟩ | ⟨ad, cap', h1, h2⟩
  · cases h
  · simp only [Value.slice.injEq, Option.some.injEq] at h1
    obtain ⟨rfl, -, -⟩ := h1
    rcases h2 with rfl | ⟨b', o', h2, h3⟩
    · simp at hl
    · cases h2; exact h3
theorem row_two {w : World} {b : Nat} {t u : Tm} (h : CBlk w b #[.int .i64 t.k, .int .i64 t.n, .string t.s, .int .i64 u.k, .int .i64 u.n, .string u.s] 23) : TRow w b 0 [t, u] := row_of (TsP.two h) (by simp)
set_option maxRecDepth 20000 in
set_option maxHeartbeats 4000000 in
theorem testTerms_any (c : Cm) (w : World) (h : c.ok w) (hl : c.tests.length ≤ 1900000000000) :
    Calls Tryz.prog 69 #[c.v] w fun e w' => ∃ v', e = .returned v' ∧ OwnT w' w.heap.size v' (tls c.tests) ∧ Below w.heap.size w w' := by
  obtain ⟨⟨a, hn, cap, h1⟩, ⟨a', cap', h2⟩, ⟨a'', cap'', h3⟩, hbl, htl⟩ := h.shape
  have hB := h.t
  obtain ⟨⟨⟨⟨k, m, s⟩, nm, ls⟩, hx⟩, body, bv, tests, tv⟩ := c
  simp only at h1 h2 h3 hbl htl hl hB
  subst h1 h2 h3
  obtain ⟨_, _, he, -, hm⟩ := hB
  simp only [Value.slice.injEq, true_and] at he
  obtain ⟨rfl, rfl⟩ := he
  clear h
  have HB0 : Hid (BT w _ (Cm.cs ⟨(⟨⟨k, m, s⟩, nm, ls⟩, .slice a hn cap), body, .slice a' body.length cap', tests, .slice a'' tests.length cap''⟩) [] (.slice none 0 0)) := BT.start w (Cm.cs ⟨(⟨⟨k, m, s⟩, nm, ls⟩, .slice a hn cap), body, .slice a' body.length cap', tests, .slice a'' tests.length cap''⟩)
  go_enter Tryz.func69, Tryz.ntmps69
  go_wp2_with fail
  go_loopg [3, 4] tests.length (fun g u i wr => ∃ j : Nat, j + g = tests.length ∧ i = .int .i64 j ∧ BT w wr (Cm.cs ⟨(⟨⟨k, m, s⟩, nm, ls⟩, .slice a hn cap), body, .slice a' body.length cap', tests, .slice a'' tests.length cap''⟩) (tls (tests.take j)) u)
  case atStart => exact ⟨0, by omega, rfl, HB0.out⟩
  case round =>
    obtain ⟨j, hj, rfl, hbt⟩ := hrel
    have HBT : Hid (BT w wr (Cm.cs ⟨(⟨⟨k, m, s⟩, nm, ls⟩, .slice a hn cap), body, .slice a' body.length cap', tests, .slice a'' tests.length cap''⟩) (tls (tests.take j)) u3) := hbt
    clear hbt HB0
    obtain ⟨c0, c1, c2, c3, c4, c5, c6⟩ := cseven HBT.out.bc
    cases gk with
    | succ g =>
      have hlt : (j : Int) < (tests.length : Int) := by omega
      have j0 : (0 : Int) ≤ (j : Int) := by omega
      obtain ⟨x, hx⟩ : ∃ x, tests[j]? = some x := ⟨_, List.getElem?_eq_getElem (by omega)⟩
      rcases hm with hm | ⟨b1, o1, rfl, hb1, hm⟩
      · subst hm; simp at hj
      obtain ⟨p0, p1, p2, p3, p4, p5, p6⟩ := hm j x hx
      have HX : Hid (tls (tests.take j) ++ [x.l, x.r] = tls (tests.take (j + 1))) := tls_next hx
      have HLJ : Hid ((tls (tests.take j)).length ≤ 3800000000000) := by show _ ≤ _; rw [tls_len, List.length_take]; omega
      clear hm hx p0
      obtain ⟨op, ⟨lk, ln, lz⟩, ⟨rk, rn, rz⟩⟩ := x
      simp only at p1 p2 p3 p4 p5 p6 HX
      generalize tls (tests.take j) = LJ at HBT HX HLJ
      go_wp2_with fail
      clear c0 c1 c2 c3 c4 c5 c6
      have hV0 : BT w wr.drew (Cm.cs ⟨(⟨⟨k, m, s⟩, nm, ls⟩, .slice a hn cap), body, .slice a' body.length cap', tests, .slice (some ⟨b1, o1, none⟩) tests.length cap''⟩) LJ u3 := HBT.out.later (Below.refl _ _).drew
      refine wp_region_held_drew (S := fun w' => ∃ L u, BT w w' (Cm.cs ⟨(⟨⟨k, m, s⟩, nm, ls⟩, .slice a hn cap), body, .slice a' body.length cap', tests, .slice (some ⟨b1, o1, none⟩) tests.length cap''⟩) L u) (by kernel_rfl) ⟨_, _, hV0⟩ (fun hH => ?_)
      revert hH hV0
      generalize wr.drew = V0
      intro hV0 hH
      have HV0 : Hid (BT w V0 (Cm.cs ⟨(⟨⟨k, m, s⟩, nm, ls⟩, .slice a hn cap), body, .slice a' body.length cap', tests, .slice (some ⟨b1, o1, none⟩) tests.length cap''⟩) LJ u3) := hV0
      clear hV0 HBT
      refine wpAnyH_take (i := 0) (oi := ⟨_, _, _, _, _, _⟩) (v := u3) rfl (by kernel_rfl) (by kernel_rfl) (by kernel_rfl) (fun _ _ _ h => h) (Or.inl ⟨by rfl, fun w' h => by clear h; go_simp⟩) hH ?_
      simp only [Act.put, List.setIfInBounds_toArray, List.set_cons_zero, List.set_cons_succ]
      refine wpAnyH_take (i := 1) (oi := ⟨_, _, _, _, _, _⟩) (v := .pointer (some ⟨w.heap.size, 6, none⟩)) rfl (by kernel_rfl) (by kernel_rfl) (by kernel_rfl) (fun _ _ _ h => h) (Or.inl ⟨by rfl, fun w' h => by clear h; go_simp⟩) hH ?_
      simp only [Act.put, List.setIfInBounds_toArray, List.set_cons_zero, List.set_cons_succ]
      refine wpAnyH_take (i := 2) (oi := ⟨_, _, _, _, _, _⟩) (v := .slice (some ⟨b1, o1, none⟩) tests.length cap'') rfl (by kernel_rfl) (by kernel_rfl) (by kernel_rfl) (fun _ _ _ h => h) (Or.inl ⟨by rfl, fun w' h => by obtain ⟨L, u, h⟩ := h; obtain ⟨c0, c1, c2, c3, c4, c5, c6⟩ := cseven h.bc; clear h; go_simp⟩) hH ?_
      simp only [Act.put, List.setIfInBounds_toArray, List.set_cons_zero, List.set_cons_succ]
      refine wpAnyH_take (i := 3) (oi := ⟨_, _, _, _, _, _⟩) (v := .int .i64 (j : Int)) rfl (by kernel_rfl) (by kernel_rfl) (by kernel_rfl) (fun _ _ _ h => h) (Or.inl ⟨by rfl, fun w' h => by clear h; go_simp⟩) hH ?_
      simp only [Act.put, List.setIfInBounds_toArray, List.set_cons_zero, List.set_cons_succ]
      refine wpAnyH_take (i := 4) (oi := ⟨_, _, _, _, _, _⟩) (v := .pointer (some ⟨b1, o1 + j * 7, none⟩)) rfl (by kernel_rfl) (by kernel_rfl) (by kernel_rfl) (fun _ _ _ h => h) (Or.inl ⟨by rfl, fun w' h => by clear h; go_simp⟩) hH ?_
      simp only [Act.put, List.setIfInBounds_toArray, List.set_cons_zero, List.set_cons_succ]
      refine wpAnyH_take (i := 5) (oi := ⟨_, _, _, _, _, _⟩) (v := .pointer (some ⟨b1, o1 + j * 7 + 1, none⟩)) rfl (by kernel_rfl) (by kernel_rfl) (by kernel_rfl) (fun _ _ _ h => h) (Or.inl ⟨by rfl, fun w' h => by clear h; go_simp⟩) hH ?_
      simp only [Act.put, List.setIfInBounds_toArray, List.set_cons_zero, List.set_cons_succ]
      refine wpAnyH_take (i := 6) (oi := ⟨_, _, _, _, _, _⟩) (v := Tm.v ⟨lk, ln, lz⟩) rfl (by kernel_rfl) (by kernel_rfl) (by kernel_rfl) (fun _ _ _ h => h) (Or.inl ⟨by rfl, fun w' h => by obtain ⟨L, u, h⟩ := h; have z1 := cell_step h.bw hb1 p1; have z2 := cell_step h.bw hb1 p2; have z3 := cell_step h.bw hb1 p3; clear h; go_simp⟩) hH ?_
      simp only [Act.put, List.setIfInBounds_toArray, List.set_cons_zero, List.set_cons_succ]
      refine wpAnyH_take (i := 7) (oi := ⟨_, _, _, _, _, _⟩) (v := .pointer (some ⟨w.heap.size, 6, none⟩)) rfl (by kernel_rfl) (by kernel_rfl) (by kernel_rfl) (fun _ _ _ h => h) (Or.inl ⟨by rfl, fun w' h => by clear h; go_simp⟩) hH ?_
      simp only [Act.put, List.setIfInBounds_toArray, List.set_cons_zero, List.set_cons_succ]
      refine wpAnyH_take (i := 8) (oi := ⟨_, _, _, _, _, _⟩) (v := .slice (some ⟨b1, o1, none⟩) tests.length cap'') rfl (by kernel_rfl) (by kernel_rfl) (by kernel_rfl) (fun _ _ _ h => h) (Or.inl ⟨by rfl, fun w' h => by obtain ⟨L, u, h⟩ := h; obtain ⟨c0, c1, c2, c3, c4, c5, c6⟩ := cseven h.bc; clear h; go_simp⟩) hH ?_
      simp only [Act.put, List.setIfInBounds_toArray, List.set_cons_zero, List.set_cons_succ]
      refine wpAnyH_take (i := 9) (oi := ⟨_, _, _, _, _, _⟩) (v := .int .i64 (j : Int)) rfl (by kernel_rfl) (by kernel_rfl) (by kernel_rfl) (fun _ _ _ h => h) (Or.inl ⟨by rfl, fun w' h => by clear h; go_simp⟩) hH ?_
      simp only [Act.put, List.setIfInBounds_toArray, List.set_cons_zero, List.set_cons_succ]
      refine wpAnyH_take (i := 10) (oi := ⟨_, _, _, _, _, _⟩) (v := .pointer (some ⟨b1, o1 + j * 7, none⟩)) rfl (by kernel_rfl) (by kernel_rfl) (by kernel_rfl) (fun _ _ _ h => h) (Or.inl ⟨by rfl, fun w' h => by clear h; go_simp⟩) hH ?_
      simp only [Act.put, List.setIfInBounds_toArray, List.set_cons_zero, List.set_cons_succ]
      refine wpAnyH_take (i := 11) (oi := ⟨_, _, _, _, _, _⟩) (v := .pointer (some ⟨b1, o1 + j * 7 + 4, none⟩)) rfl (by kernel_rfl) (by kernel_rfl) (by kernel_rfl) (fun _ _ _ h => h) (Or.inl ⟨by rfl, fun w' h => by clear h; go_simp⟩) hH ?_
      simp only [Act.put, List.setIfInBounds_toArray, List.set_cons_zero, List.set_cons_succ]
      refine wpAnyH_take (i := 12) (oi := ⟨_, _, _, _, _, _⟩) (v := Tm.v ⟨rk, rn, rz⟩) rfl (by kernel_rfl) (by kernel_rfl) (by kernel_rfl) (fun _ _ _ h => h) (Or.inl ⟨by rfl, fun w' h => by obtain ⟨L, u, h⟩ := h; have z1 := cell_step h.bw hb1 p4; have z2 := cell_step h.bw hb1 p5; have z3 := cell_step h.bw hb1 p6; clear h; go_simp⟩) hH ?_
      simp only [Act.put, List.setIfInBounds_toArray, List.set_cons_zero, List.set_cons_succ]
      refine wpAnyH_ready (rs := [13]) (by kernel_rfl) (by simp) ?_
      refine (AllReadyH.cons (o := ⟨_, _, _, _, _, _⟩) rfl (fun K hK => ?_) AllReadyH.nil)
      go_simp
      have HV1 : Hid (BT w (V0.alloc (.cells #[.int .i64 lk, .int .i64 ln, .string lz, .int .i64 rk, .int .i64 rn, .string rz] 23)) (Cm.cs ⟨(⟨⟨k, m, s⟩, nm, ls⟩, .slice a hn cap), body, .slice a' body.length cap', tests, .slice (some ⟨b1, o1, none⟩) tests.length cap''⟩) LJ u3) := HV0.out.later (below1 _ _)
      have HG1 : Hid (CBlk (V0.alloc (.cells #[.int .i64 lk, .int .i64 ln, .string lz, .int .i64 rk, .int .i64 rn, .string rz] 23)) V0.heap.size #[.int .i64 lk, .int .i64 ln, .string lz, .int .i64 rk, .int .i64 rn, .string rz] 23) := CBlk.new _ _ _
      clear hH
      refine hK.out _ _ ⟨_, _, HV1.out⟩ (fun hH => ?_)
      clear hK K HV0
      revert hH HV1 HG1
      generalize V0.alloc (.cells #[.int .i64 lk, .int .i64 ln, .string lz, .int .i64 rk, .int .i64 rn, .string rz] 23) = V1
      generalize V0.heap.size = G1
      intro HV1 HG1 hH
      refine wpAnyH_ready (rs := [14]) (by kernel_rfl) (by simp) ?_
      refine (AllReadyH.cons (o := ⟨_, _, _, _, _, _⟩) rfl (fun K hK => ?_) AllReadyH.nil)
      refine step_terms rfl _ _ rfl (w.heap.size + 1) u3 LJ (by rfl) HV1.out.ow G1 [⟨lk, ln, lz⟩, ⟨rk, rn, rz⟩] (by simp) (by rfl) (row_two HG1.out) (by have := HLJ.out; simp only [List.length_cons, List.length_nil]; omega) HV1.out.sz ?_
      intro v' w3 hown hb3 hg3
      have HB2 : Hid (BT w w3 (Cm.cs ⟨(⟨⟨k, m, s⟩, nm, ls⟩, .slice a hn cap), body, .slice a' body.length cap', tests, .slice (some ⟨b1, o1, none⟩) tests.length cap''⟩) (LJ ++ [⟨lk, ln, lz⟩, ⟨rk, rn, rz⟩]) v') := HV1.out.grow hb3 hown
      clear hown hb3 hg3 HV1 HG1 hH
      refine hK.out _ _ ⟨_, _, HB2.out⟩ (fun hH => ?_)
      clear hK K
      simp only [Act.put, List.setIfInBounds_toArray, List.set_cons_zero, List.set_cons_succ]
      refine wpAnyH_take (i := 15) (oi := ⟨_, _, _, _, _, _⟩) (v := v') rfl (by kernel_rfl) (by kernel_rfl) (by kernel_rfl) (fun _ _ _ h => h) (Or.inl ⟨by rfl, fun w' h => by clear h; go_simp⟩) hH ?_
      simp only [Act.put, List.setIfInBounds_toArray, List.set_cons_zero, List.set_cons_succ]
      refine wpAnyH_done (by kernel_rfl) ?_ _
      clear hH
      go_wp2
      go_roundg g
      case measure => omega
      case rel => exact ⟨j + 1, by omega, by go_num, by rw [← HX.out]; exact HB2.out⟩
    | zero =>
      obtain rfl : j = tests.length := by omega
      have hz : ¬ ((tests.length : Int) < (tests.length : Int)) := by omega
      rw [List.take_length] at HBT
      clear hm
      go_wp2
      go_ret
      exact ⟨_, rfl, HBT.out.ow.mono (Nat.le_succ _), HBT.out.bw⟩
set_option maxRecDepth 20000 in
set_option maxHeartbeats 4000000 in
theorem terms3_any (c : Cm) (w : World) (h : c.ok w) (hh : TsP w c.head.2 c.head.1.args) (hp : ∀ x ∈ c.body, TsP w x.2 x.1.args) (hl : c.terms.length ≤ 3800000000000) :
    Calls Tryz.prog 72 #[c.v] w fun e w' => ∃ v', e = .returned v' ∧ OwnT w' w.heap.size v' c.terms ∧ Below w.heap.size w w' := by
  obtain ⟨⟨a, hn, cap, h1⟩, ⟨a', cap', h2⟩, ⟨a'', cap'', h3⟩, hbl, htl⟩ := h.shape
  have hll : c.head.1.pl.length + (flt c.body).length + (tls c.tests).length ≤ 3800000000000 := by
    rw [Cm.terms_eq, List.length_append, List.length_append] at hl; omega
  have HHD : Hid (∀ X : World, Below w.heap.size w X → Calls Tryz.prog 68 #[c.head.1.v c.head.2] X fun e w' => ∃ v', e = .returned v' ∧ OwnT w' X.heap.size v' c.head.1.pl ∧ Below X.heap.size X w') := fun X hX => atomTerms_any _ _ X (hh.later hX) (by simp [At.pl] at hll; omega)
  have HBO : Hid (∀ X : World, Below w.heap.size w X → Calls Tryz.prog 67 #[c.v] X fun e w' => ∃ v', e = .returned v' ∧ OwnT w' X.heap.size v' (flt c.body) ∧ Below X.heap.size X w') := fun X hX => bodyTerms_any c X (h.later hX) (fun x hx => (hp x hx).later hX) (by omega)
  have HTE : Hid (∀ X : World, Below w.heap.size w X → Calls Tryz.prog 69 #[c.v] X fun e w' => ∃ v', e = .returned v' ∧ OwnT w' X.heap.size v' (tls c.tests) ∧ Below X.heap.size X w') := fun X hX => testTerms_any c X (h.later hX) (by rw [tls_len] at hll; omega)
  have HEQ : Hid (c.head.1.pl ++ flt c.body ++ tls c.tests = c.terms) := c.terms_eq.symm
  have HB0 : Hid (BT w _ c.cs [] (.slice none 0 0)) := BT.start w c.cs
  generalize c.terms = TT at HEQ
  obtain ⟨⟨⟨⟨k, m, s⟩, nm, ls⟩, hx⟩, body, bv, tests, tv⟩ := c
  simp only at h1 h2 h3 hbl htl hll HHD HEQ
  subst h1 h2 h3
  generalize At.pl ⟨⟨k, m, s⟩, nm, ls⟩ = PH at HHD HEQ hll
  generalize flt body = PB at HBO HEQ hll
  generalize tls tests = PT at HTE HEQ hll
  clear h hh hp hl
  go_enter Tryz.func72, Tryz.ntmps72
  go_upto_region 2 with (go_at_call 68; refine (HHD.out _ HB0.out.bw).mono ?_; clear HHD; rintro e w1 ⟨y, rfl, hy, hb⟩; have HB1 : Hid (BT w w1 (Cm.cs ⟨(⟨⟨k, m, s⟩, nm, ls⟩, .slice a hn cap), body, .slice a' body.length cap', tests, .slice a'' tests.length cap''⟩) PH y) := ⟨HB0.out.bc.later hb, hy.mono HB0.out.sz, below_step HB0.out.bw hb, Nat.le_trans HB0.out.sz hb.size⟩; clear hb hy HB0)
  obtain ⟨c0, c1, c2, c3, c4, c5, c6⟩ := cseven HB1.out.bc
  go_upto_region 3 with (first
    | (go_at_call 67; refine (HBO.out _ HB1.out.bw).mono ?_; clear HBO; rintro e w2 ⟨z, rfl, hz, hb⟩; have HZ : Hid (TsP w2 z PB) := hz.tsP; have HB2 : Hid (BT w w2 (Cm.cs ⟨(⟨⟨k, m, s⟩, nm, ls⟩, .slice a hn cap), body, .slice a' body.length cap', tests, .slice a'' tests.length cap''⟩) PH y) := HB1.out.later hb; clear hb hz HB1 c0 c1 c2 c3 c4 c5 c6)
    | (at_builtin; refine app_terms rfl _ _ rfl (w.heap.size + 1) y PH (by rfl) HB2.out.ow z PB (by rfl) HZ.out (by omega) HB2.out.sz ?_; intro y2 w3 hown hb3 hg3; have HB3 : Hid (BT w w3 (Cm.cs ⟨(⟨⟨k, m, s⟩, nm, ls⟩, .slice a hn cap), body, .slice a' body.length cap', tests, .slice a'' tests.length cap''⟩) (PH ++ PB) y2) := HB2.out.grow hb3 hown; clear hown hb3 hg3 HB2 HZ))
  obtain ⟨c0, c1, c2, c3, c4, c5, c6⟩ := cseven HB3.out.bc
  go_wp2_with (first
    | (go_at_call 69; refine (HTE.out _ HB3.out.bw).mono ?_; clear HTE; rintro e w4 ⟨z, rfl, hz, hb⟩; have HZ : Hid (TsP w4 z PT) := hz.tsP; have HB4 : Hid (BT w w4 (Cm.cs ⟨(⟨⟨k, m, s⟩, nm, ls⟩, .slice a hn cap), body, .slice a' body.length cap', tests, .slice a'' tests.length cap''⟩) (PH ++ PB) y2) := HB3.out.later hb; clear hb hz HB3 c0 c1 c2 c3 c4 c5 c6)
    | (at_builtin; refine app_terms rfl _ _ rfl (w.heap.size + 1) y2 (PH ++ PB) (by rfl) HB4.out.ow z PT (by rfl) HZ.out (by rw [List.length_append]; omega) HB4.out.sz ?_; intro y3 w5 hown hb3 hg3; have HB5 : Hid (BT w w5 (Cm.cs ⟨(⟨⟨k, m, s⟩, nm, ls⟩, .slice a hn cap), body, .slice a' body.length cap', tests, .slice a'' tests.length cap''⟩) (PH ++ PB ++ PT) y3) := HB4.out.grow hb3 hown; clear hown hb3 hg3 HB4 HZ))
  go_ret
  exact ⟨_, rfl, by rw [← HEQ.out]; exact HB5.out.ow.mono (Nat.le_succ _), HB5.out.bw⟩
end Go.Proofs.YtgbiicmkhlnniaaGreatDoor
