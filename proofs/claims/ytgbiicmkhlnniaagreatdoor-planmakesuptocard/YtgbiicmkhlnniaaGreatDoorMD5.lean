import Derived.Test.YtgbiicmkhlnniaaGreatDoorCL29
import Derived.Test.YtgbiicmkhlnniaaGreatDoorCL5
import Derived.Deep.CutRange
import Derived.Deep.RegionHeld3
import Derived.Test.YtgbiicmkhlnniaaGreatDoorFA1
/-
  Instance. (Written by CL30.py.)
-/
namespace Go.Proofs.YtgbiicmkhlnniaaGreatDoor
open Go.RowKit
attribute [local go_sem ↓] Go.wp_at_zero Go.wp_at_succ

set_option maxRecDepth 20000 in
set_option maxHeartbeats 4000000 in
theorem inst_any (vs : List Tm) (v : Value) (c : Cm) (w : World) (hv : Ts w v vs) (h : c.ok w) (hl1 : c.head.1.args.length ≤ 1900000000000) (hl2 : c.body.length ≤ 1900000000000) (hl3 : c.tests.length ≤ 1900000000000) (hl4 : ∀ x ∈ c.body, x.1.args.length ≤ 1900000000000) :
    Calls Tryz.prog 46 #[c.v, v] w (IPost w c vs) := by
  have hb3 := below_step (below2 w (.cells c.cs 30) (.cells #[v] 24)) (below1 _ (.cells zcs 30))
  have x1 := (CBlk.new (w.alloc (.cells c.cs 30)) #[v] 24).later (below1 _ (.cells zcs 30))
  have x2 := CBlk.new ((w.alloc (.cells c.cs 30)).alloc (.cells #[v] 24)) zcs 30
  rw [show (w.alloc (.cells c.cs 30)).heap.size = w.heap.size + 1 by simp] at x1
  rw [show ((w.alloc (.cells c.cs 30)).alloc (.cells #[v] 24)).heap.size = w.heap.size + 1 + 1 by simp] at x2
  have K1 := rep_inst vs v (w.heap.size + 1) c (((w.alloc (.cells c.cs 30)).alloc (.cells #[v] 24)).alloc (.cells zcs 30)) ⟨x1, hv.later hb3⟩ (h.later hb3) hl1 hl2 hl3 hl4
  have z2 : (((w.alloc (.cells c.cs 30)).alloc (.cells #[v] 24)).alloc (.cells zcs 30)).heap.size = w.heap.size + 3 := by simp
  have HB2 : Hid (Below w.heap.size w (((w.alloc (.cells c.cs 30)).alloc (.cells #[v] 24)).alloc (.cells zcs 30))) := hb3
  have HX2 : Hid (CBlk (((w.alloc (.cells c.cs 30)).alloc (.cells #[v] 24)).alloc (.cells zcs 30)) (w.heap.size + 1 + 1) zcs 30) := x2
  clear hl1 hl2 hl3 hl4 hb3 x1 x2
  obtain ⟨av, cv, rfl, -, -⟩ := hv
  obtain ⟨⟨a, hn, cap, h1⟩, ⟨a', cap', h2⟩, ⟨a'', cap'', h3⟩, hbl, htl⟩ := h.shape
  clear h
  obtain ⟨⟨⟨⟨k, m, s⟩, nm, ls⟩, hx⟩, body, bv, tests, tv⟩ := c
  simp only at h1 h2 h3 hbl htl
  subst h1 h2 h3
  go_enter Tryz.func46, Tryz.ntmps46
  go_wp2_with (go_at_call 82; refine K1.mono ?_; clear K1; rintro e w1 ⟨M1, M2, M3, lb, rfl, hrp, hb1⟩; have hbx := HX2.out.later hb1; obtain ⟨r0, r1, r2, r3, r4, r5, r6⟩ := cseven hbx; have hfr : ∀ i, w1.frozen? ⟨w.heap.size + 1 + 1, i, none⟩ = false := fun i => hbx.froz; have s0 := hfr 0; have s1 := hfr 1; have s2 := hfr 2; have s3 := hfr 3; have s4 := hfr 4; have s5 := hfr 5; have s6 := hfr 6; rw [z2] at hrp; have HRP : Hid (RJ (w.heap.size + 3) w1 ls.length body.length tests.length (ls.map (ins vs)) ((fsts body).map (insA vs)) (tests.map (insE vs)) M1 M2 M3 lb) := hrp; have HW1 : Hid (Below w.heap.size w w1) := below_step HB2.out hb1; clear hfr hrp hb1 hbx HB2 HX2; simp only [Cm.cpI, insA])
  have nw : w.heap.size ≤ w.heap.size + 1 + 1 := by omega
  have ng : w.heap.size + 1 + 1 < w.heap.size + 3 := by omega
  have hrp := HRP.out
  have hbw := HW1.out
  exact bodyPost_ret (v := (Cm.cpI ⟨(⟨⟨k, m, s⟩, nm, ls⟩, .slice a hn cap), body, .slice a' body.length cap', tests, .slice a'' tests.length cap''⟩ vs M1 M2 M3 lb).v) (by simp [results, Tryz.results46, go_sem, Cm.v, Cm.cpI, insA, r0, r1, r2, r3, r4, r5, r6]) rfl
    ⟨M1, M2, M3, lb, rfl, (((((((hrp.off ng).off ng).off ng).off ng).off ng).off ng).off ng).mono (by omega), ((((((hbw.setCell nw _).setCell nw _).setCell nw _).setCell nw _).setCell nw _).setCell nw _).setCell nw _⟩
end Go.Proofs.YtgbiicmkhlnniaaGreatDoor
/-
  Fact; ref's CheckAtom.
-/
namespace Go.Proofs.YtgbiicmkhlnniaaGreatDoor
open Go.RowKit

set_option maxHeartbeats 2000000 in
theorem rchk_any (a : At) (x : Value) (w : World) (h : Ts w x a.args) :
    Calls Tryz.prog 65 #[a.v x] w fun e w' => e = .returned (.int .i64 a.err) ∧ Below w.heap.size w w' := by
  obtain ⟨⟨k, n, ss⟩, nm, l⟩ := a
  simp only at h
  obtain ⟨r, hr⟩ : ∃ r, At.err ⟨⟨k, n, ss⟩, nm, l⟩ = r := ⟨_, rfl⟩
  rw [hr]
  simp only [At.err] at hr
  have HX : Hid (Ts w x l) := h
  obtain ⟨ad, cap, rfl, hl, -⟩ := h
  cases hn : nameOk nm
  · have HR : Hid (21 = r) := by show _ = _; rw [← hr, if_pos hn]
    clear hr
    go_enter Tryz.func65, Tryz.ntmps65
    go_wp2_with (go_at_call 95; refine (rname_any nm _).mono ?_; rw [hn]; rintro e w1 ⟨rfl, hb1⟩)
    go_ret
    exact ⟨ret_i HR.out, below_step (below1 _ _) hb1⟩
  · rw [hn, if_neg (by simp)] at hr
    have HN : Hid (nameOk nm = true) := hn
    clear hn
    by_cases h8 : 8 < l.length
    · have HR : Hid (22 = r) := by show _ = _; rw [← hr, if_pos h8]
      have q8 : (8 : Int) < (l.length : Int) := by omega
      clear hr h8
      go_enter Tryz.func65, Tryz.ntmps65
      go_wp2_with (go_at_call 95; refine (rname_any nm _).mono ?_; rw [HN.out]; rintro e w1 ⟨rfl, hb1⟩; obtain ⟨p0, p1, p2, p3, p4⟩ := five ((Blk.new w #[.int .i64 k, .int .i64 n, .string ss, .string nm, .slice ad l.length cap] 26).later hb1))
      go_ret
      exact ⟨ret_i HR.out, below_step (below1 _ _) hb1⟩
    · rw [if_neg h8] at hr
      have q8 : ¬ (8 : Int) < (l.length : Int) := by omega
      have HR : Hid ((if qualOk ⟨k, n, ss⟩ = false then 23 else if l.all Tm.cov then 0 else 24) = r) := hr
      clear hr h8
      go_enter Tryz.func65, Tryz.ntmps65
      go_upto_region 5 with (go_at_call 95; refine (rname_any nm _).mono ?_; rw [HN.out]; rintro e W ⟨rfl, hb1⟩; have B1 := (Blk.new w #[.int .i64 k, .int .i64 n, .string ss, .string nm, .slice ad l.length cap] 26).later hb1; obtain ⟨p0, p1, p2, p3, p4⟩ := five B1; have HB : Hid (Blk _ _ _ _) := B1; clear B1)
      have hW : Hid (Below w.heap.size w W) := below_step (below1 _ _) hb1
      clear p0 p1 p2 p3 p4 hb1
      go_cut [27] from 12 to 27 (fun s27 wx => s27 = .bool (!qualOk ⟨k, n, ss⟩) ∧ Below W.heap.size W wx)
      case first =>
        obtain ⟨p0, p1, p2, p3, p4⟩ := five (Hid.out HB)
        have he := run_neq_tm ⟨k, n, ss⟩ zt
        obtain ⟨b1, h1⟩ : ∃ b, decide (Tm.mk k n ss = zt) = b := ⟨_, rfl⟩
        obtain ⟨b2, h2⟩ : ∃ b, Tm.prin ⟨k, n, ss⟩ = b := ⟨_, rfl⟩
        obtain ⟨b3, h3⟩ : ∃ b, Tm.var ⟨k, n, ss⟩ = b := ⟨_, rfl⟩
        have HQ : Hid (qualOk ⟨k, n, ss⟩ = (b1 || (b2 || b3))) := by show _ = _; unfold qualOk; rw [h1, h2, h3]
        have H2 : Hid (Tm.prin ⟨k, n, ss⟩ = b2) := h2
        have H3 : Hid (Tm.var ⟨k, n, ss⟩ = b3) := h3
        rw [h1] at he
        unfold zt at he
        clear h1 h2 h3 HR
        cases b1
        · cases b2
          · go_wp2_with (first
              | (go_at_call 96; refine (rprin_any ⟨k, n, ss⟩ _).mono ?_; rw [H2.out]; rintro e w2 ⟨rfl, hb2⟩; clear p0 p1 p2 p3 p4; obtain ⟨p0, p1, p2, p3, p4⟩ := five (Blk.later (Hid.out HB) hb2))
              | (go_at_call 39; refine (rvar_any ⟨k, n, ss⟩ _).mono ?_; rw [H3.out]; rintro e w3 ⟨rfl, hb3⟩))
            go_meet
            case rel => exact ⟨by rw [HQ.out]; rfl, below_step hb2 hb3⟩
          · go_wp2_with (go_at_call 96; refine (rprin_any ⟨k, n, ss⟩ _).mono ?_; rw [H2.out]; rintro e w2 ⟨rfl, hb2⟩)
            go_meet
            case rel => exact ⟨by rw [HQ.out]; rfl, hb2⟩
        · go_wp2_with fail
          go_meet
          case rel => exact ⟨by rw [HQ.out]; rfl, Below.refl _ _⟩
      case rest =>
        obtain ⟨rfl, hbc⟩ := hcut
        have hbw := below_step (Hid.out hW) hbc
        have B2 := Blk.later (Hid.out HB) hbc
        clear HB hW hbc
        cases hq : qualOk ⟨k, n, ss⟩
        · have HR2 : Hid (23 = r) := by show _ = _; rw [← HR.out, if_pos hq]
          clear HR
          go_wp2
          go_ret
          exact ⟨ret_i HR2.out, hbw⟩
        · have HR2 : Hid ((if l.all Tm.cov then 0 else 24) = r) := by show _ = _; rw [← HR.out, hq]; rfl
          clear HR hq
          go_wp2
          go_loopg [3] l.length (fun g i wr => ∃ j : Nat, j + g = l.length ∧ i = .int .i64 j ∧ (∀ i t, i < j → l[i]? = some t → t.cov = true) ∧ Below w.heap.size w wr ∧ Blk wr w.heap.size #[.int .i64 k, .int .i64 n, .string ss, .string nm, .slice ad l.length cap] 26)
          case atStart => exact ⟨0, by omega, rfl, fun i t hi => by omega, hbw, B2⟩
          case round =>
            obtain ⟨j, hj, rfl, hall, hbr, hB⟩ := hrel
            have HA : Hid (∀ i t, i < j → l[i]? = some t → t.cov = true) := hall
            have HB : Hid (Blk wr _ _ _) := hB
            obtain ⟨p0, p1, p2, p3, p4⟩ := five hB
            have zw := Blk.lt hB
            clear hall hbw B2 hB
            cases gk with
            | succ g =>
              have hlt : j < l.length := by omega
              obtain ⟨t, ht⟩ : ∃ t, l[j]? = some t := ⟨_, List.getElem?_eq_getElem hlt⟩
              obtain ⟨ad', cap', hx, -, hxx⟩ := HX.out.later hbr
              simp only [Value.slice.injEq] at hx
              obtain ⟨rfl, -, rfl⟩ := hx
              rcases hxx with hxx | ⟨b, o, rfl, hbs, hxx⟩
              · subst hxx; simp at hlt
              · obtain ⟨c0, c1, c2⟩ := hxx j _ ht
                have HT : Hid (l[j]? = some t) := ht
                obtain ⟨tk, tn, ts⟩ := t
                simp only at c0 c1 c2
                clear hxx ht
                have i1 : (0 : Int) ≤ (j : Int) := by omega
                have i2 : (j : Int) < (l.length : Int) := by omega
                cases hc : Tm.con ⟨tk, tn, ts⟩
                · have HC : Hid (Tm.con ⟨tk, tn, ts⟩ = false) := hc
                  clear hc
                  cases hv : Tm.var ⟨tk, tn, ts⟩
                  · have HV : Hid (Tm.var ⟨tk, tn, ts⟩ = false) := hv
                    have HR3 : Hid (24 = r) := by show _ = _; rw [← HR2.out, all_no HT.out (by unfold Tm.cov; rw [HC.out, hv]; rfl)]; rfl
                    clear hv
                    go_wp2_with (first
                      | (go_at_call 97; refine (rcon_any ⟨tk, tn, ts⟩ _).mono ?_; rw [HC.out]; rintro e w3 ⟨rfl, hb3⟩; have d0 := cell_step hb3 hbs c0; have d1 := cell_step hb3 hbs c1; have d2 := cell_step hb3 hbs c2; have d4 := cell_step hb3 zw p4; clear p0 p1 p2 p3 p4 c0 c1 c2)
                      | (go_at_call 39; refine (rvar_any ⟨tk, tn, ts⟩ _).mono ?_; rw [HV.out]; rintro e w4 ⟨rfl, hb4⟩))
                    go_ret
                    exact ⟨ret_i HR3.out, below_step (below_step hbr hb3) hb4⟩
                  · have HV : Hid (Tm.var ⟨tk, tn, ts⟩ = true) := hv
                    clear hv
                    go_wp2_with (first
                      | (go_at_call 97; refine (rcon_any ⟨tk, tn, ts⟩ _).mono ?_; rw [HC.out]; rintro e w3 ⟨rfl, hb3⟩; have d0 := cell_step hb3 hbs c0; have d1 := cell_step hb3 hbs c1; have d2 := cell_step hb3 hbs c2; have d4 := cell_step hb3 zw p4; clear p0 p1 p2 p3 p4 c0 c1 c2)
                      | (go_at_call 39; refine (rvar_any ⟨tk, tn, ts⟩ _).mono ?_; rw [HV.out]; rintro e w4 ⟨rfl, hb4⟩))
                    go_roundg g
                    case measure => omega
                    case rel =>
                      refine ⟨j + 1, by omega, by go_num, fun i t hi ht => ?_, below_step (below_step hbr hb3) hb4, Blk.later (Blk.later (Hid.out HB) hb3) hb4⟩
                      rcases Nat.lt_or_ge i j with h | h
                      · exact HA.out i t h ht
                      · obtain rfl : i = j := by omega
                        rw [HT.out] at ht; cases ht; unfold Tm.cov; rw [HV.out, Bool.or_true]
                · have HC : Hid (Tm.con ⟨tk, tn, ts⟩ = true) := hc
                  clear hc
                  go_wp2_with (go_at_call 97; refine (rcon_any ⟨tk, tn, ts⟩ _).mono ?_; rw [HC.out]; rintro e w3 ⟨rfl, hb3⟩)
                  go_roundg g
                  case measure => omega
                  case rel =>
                    refine ⟨j + 1, by omega, by go_num, fun i t hi ht => ?_, below_step hbr hb3, Blk.later (Hid.out HB) hb3⟩
                    rcases Nat.lt_or_ge i j with h | h
                    · exact HA.out i t h ht
                    · obtain rfl : i = j := by omega
                      rw [HT.out] at ht; cases ht; unfold Tm.cov; rw [HC.out, Bool.true_or]
            | zero =>
              obtain rfl : j = l.length := by omega
              have HR3 : Hid (0 = r) := by show _ = _; rw [← HR2.out, all_yes fun i t ht => HA.out i t (List.getElem?_eq_some_iff.1 ht).1 ht]; rfl
              have hz : ¬ ((l.length : Int) < (l.length : Int)) := by omega
              go_wp2
              go_ret
              exact ⟨ret_i HR3.out, hbr⟩
end Go.Proofs.YtgbiicmkhlnniaaGreatDoor
/-
  bodyTerms, testTerms, Terms. (Written by MD5.py.)
-/
namespace Go.Proofs.YtgbiicmkhlnniaaGreatDoor
open Go.RowKit
attribute [local go_sem ↓] Go.wp_at_zero Go.wp_at_succ

/-- A clause's box, and the list so far. -/
structure BT (w X : World) (o : Array Value) (L : List Tm) (u : Value) : Prop where
  bc : CBlk X w.heap.size o 30
  ow : OwnT X (w.heap.size + 1) u L
  bw : Below w.heap.size w X
  sz : w.heap.size + 1 ≤ X.heap.size
theorem BT.later {w X X' : World} {o : Array Value} {L : List Tm} {u : Value} (h : BT w X o L u) (hb : Below X.heap.size X X') : BT w X' o L u :=
  ⟨h.bc.later hb, h.ow.later hb, below_step h.bw hb, Nat.le_trans h.sz hb.size⟩
theorem BT.grow {w X X' : World} {o : Array Value} {L L' : List Tm} {u u' : Value} (h : BT w X o L u) (hb : Below (w.heap.size + 1) X X') (ho : OwnT X' (w.heap.size + 1) u' L') : BT w X' o L' u' :=
  ⟨(hb.block _ (by omega)).trans h.bc, ho, h.bw.trans (hb.mono (by omega)), Nat.le_trans h.sz hb.size⟩
theorem BT.start (w : World) (o : Array Value) : BT w (w.alloc (.cells o 30)) o [] (.slice none 0 0) := ⟨CBlk.new _ _ _, ownT_nil _ _, below1 _ _, by simp⟩
theorem flt_next {l : List (At × Value)} {j : Nat} {x : At × Value} (h : l[j]? = some x) : flt (l.take j) ++ x.1.pl = flt (l.take (j + 1)) := by
  rw [List.take_add_one, h]; simp [flt]
theorem flt_take (l : List (At × Value)) (j : Nat) : (flt (l.take j)).length ≤ (flt l).length := by
  have e : flt l = flt (l.take j) ++ flt (l.drop j) := by unfold flt; rw [← List.flatMap_append, List.take_append_drop]
  rw [e, List.length_append]; omega
theorem tls_next {l : List Te} {j : Nat} {x : Te} (h : l[j]? = some x) : tls (l.take j) ++ [x.l, x.r] = tls (l.take (j + 1)) := by
  rw [List.take_add_one, h]; simp [tls]
theorem tls_len (l : List Te) : (tls l).length = l.length * 2 := by
  induction l with
  | nil => rfl
  | cons a l ih => unfold tls at ih ⊢; rw [List.flatMap_cons, List.length_append, ih]; simp; omega
set_option maxRecDepth 20000 in
set_option maxHeartbeats 4000000 in
theorem bodyTerms_any (c : Cm) (w : World) (h : c.ok w) (hp : ∀ x ∈ c.body, TsP w x.2 x.1.args) (hl : (flt c.body).length ≤ 3900000000000) :
    Calls Tryz.prog 67 #[c.v] w fun e w' => ∃ v', e = .returned v' ∧ OwnT w' w.heap.size v' (flt c.body) ∧ Below w.heap.size w w' := by
  obtain ⟨⟨a, hn, cap, h1⟩, ⟨a', cap', h2⟩, ⟨a'', cap'', h3⟩, hbl, htl⟩ := h.shape
  have HAT : Hid (∀ x ∈ c.body, ∀ X : World, Below w.heap.size w X → Calls Tryz.prog 68 #[x.1.v x.2] X fun e w' => ∃ v', e = .returned v' ∧ OwnT w' X.heap.size v' x.1.pl ∧ Below X.heap.size X w') := fun x hx X hX => atomTerms_any x.1 x.2 X ((hp x hx).later hX) (by
    have : x.1.pl.length ≤ (flt c.body).length := by
      obtain ⟨i, hi, rfl⟩ := List.getElem_of_mem hx
      have e := flt_next (List.getElem?_eq_getElem hi)
      have e2 := flt_take c.body (i + 1)
      rw [← e, List.length_append] at e2; omega
    simp [At.pl] at this; omega)
  have hB := h.b
  obtain ⟨⟨⟨⟨k, m, s⟩, nm, ls⟩, hx⟩, body, bv, tests, tv⟩ := c
  simp only at h1 h2 h3 hbl htl hl HAT hB
  subst h1 h2 h3
  obtain ⟨_, _, he, -, hm, hts⟩ := hB
  simp only [Value.slice.injEq, true_and] at he
  obtain ⟨rfl, rfl⟩ := he
  clear h hp hts
  have HB0 : Hid (BT w _ (Cm.cs ⟨(⟨⟨k, m, s⟩, nm, ls⟩, .slice a hn cap), body, .slice a' body.length cap', tests, .slice a'' tests.length cap''⟩) [] (.slice none 0 0)) := BT.start w (Cm.cs ⟨(⟨⟨k, m, s⟩, nm, ls⟩, .slice a hn cap), body, .slice a' body.length cap', tests, .slice a'' tests.length cap''⟩)
  go_enter Tryz.func67, Tryz.ntmps67
  go_wp2_with fail
  go_loopg [3, 4] body.length (fun g u i wr => ∃ j : Nat, j + g = body.length ∧ i = .int .i64 j ∧ BT w wr (Cm.cs ⟨(⟨⟨k, m, s⟩, nm, ls⟩, .slice a hn cap), body, .slice a' body.length cap', tests, .slice a'' tests.length cap''⟩) (flt (body.take j)) u)
  case atStart => exact ⟨0, by omega, rfl, HB0.out⟩
  case round =>
    obtain ⟨j, hj, rfl, hbt⟩ := hrel
    have HBT : Hid (BT w wr (Cm.cs ⟨(⟨⟨k, m, s⟩, nm, ls⟩, .slice a hn cap), body, .slice a' body.length cap', tests, .slice a'' tests.length cap''⟩) (flt (body.take j)) u3) := hbt
    clear hbt HB0
    obtain ⟨c0, c1, c2, c3, c4, c5, c6⟩ := cseven HBT.out.bc
    cases gk with
    | succ g =>
      have hlt : (j : Int) < (body.length : Int) := by omega
      have j0 : (0 : Int) ≤ (j : Int) := by omega
      obtain ⟨x, hx⟩ : ∃ x, body[j]? = some x := ⟨_, List.getElem?_eq_getElem (by omega)⟩
      rcases hm with hm | ⟨b1, o1, rfl, hb1, hm⟩
      · subst hm; simp at hj
      obtain ⟨p0, p1, p2, p3, p4⟩ := hm j x hx
      have q0 := cell_step HBT.out.bw hb1 p0
      have q1 := cell_step HBT.out.bw hb1 p1
      have q2 := cell_step HBT.out.bw hb1 p2
      have q3 := cell_step HBT.out.bw hb1 p3
      have q4 := cell_step HBT.out.bw hb1 p4
      have HX : Hid (flt (body.take j) ++ x.1.pl = flt (body.take (j + 1))) := flt_next hx
      have HLX : Hid ((flt (body.take j)).length + x.1.pl.length ≤ 3900000000000) := by
        show _ ≤ _
        rw [← List.length_append, flt_next hx]
        exact Nat.le_trans (flt_take body (j + 1)) hl
      have HA1 : Hid (∀ X : World, Below w.heap.size w X → Calls Tryz.prog 68 #[x.1.v x.2] X fun e w' => ∃ v', e = .returned v' ∧ OwnT w' X.heap.size v' x.1.pl ∧ Below X.heap.size X w') := HAT.out x (List.mem_of_getElem? hx)
      clear hm hx p0 p1 p2 p3 p4 HAT
      obtain ⟨⟨⟨xk, xn, xs⟩, xm, xa⟩, xv⟩ := x
      simp only at q0 q1 q2 q3 q4 HX HLX HA1
      generalize flt (body.take j) = LJ at HBT HX HLX
      generalize At.pl ⟨⟨xk, xn, xs⟩, xm, xa⟩ = PL at HX HLX HA1
      go_wp2_with (first
        | (go_at_call 68; refine (HA1.out _ HBT.out.bw).mono ?_; clear HA1; rintro e w1 ⟨y, rfl, hy, hb⟩; have HY : Hid (TsP w1 y PL) := hy.tsP; have HB1 : Hid (BT w w1 _ LJ u3) := HBT.out.later hb; clear hb hy HBT c0 c1 c2 c3 c4 c5 c6 q0 q1 q2 q3 q4)
        | (at_builtin; refine app_terms rfl _ _ rfl (w.heap.size + 1) u3 LJ (by rfl) HB1.out.ow y PL (by rfl) HY.out (by have := HLX.out; omega) HB1.out.sz ?_; intro v' w3 hown hb3 hg3; have HB2 : Hid (BT w w3 _ (LJ ++ PL) v') := HB1.out.grow hb3 hown; clear hown hb3 hg3 HB1 HY))
      go_roundg g
      case measure => omega
      case rel => exact ⟨j + 1, by omega, by go_num, by rw [← HX.out]; exact HB2.out⟩
    | zero =>
      obtain rfl : j = body.length := by omega
      have hz : ¬ ((body.length : Int) < (body.length : Int)) := by omega
      rw [List.take_length] at HBT
      clear hm HAT
      go_wp2
      go_ret
      exact ⟨_, rfl, HBT.out.ow.mono (Nat.le_succ _), HBT.out.bw⟩
end Go.Proofs.YtgbiicmkhlnniaaGreatDoor
