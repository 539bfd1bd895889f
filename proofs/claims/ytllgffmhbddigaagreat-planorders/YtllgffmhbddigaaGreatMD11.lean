/-
  Put. (Written by MD11.py.)
-/
import Derived.Test.YtllgffmhbddigaaGreatMD10
import Derived.Deep.RegionHeld3
namespace Go.Proofs.YtllgffmhbddigaaGreat
open Go.RowKit
attribute [local go_sem ↓] Go.wp_at_zero Go.wp_at_succ

structure UB (w X : World) (o : Array Value) : Prop where
  bc : CBlk X w.heap.size o 30
  bw : Below w.heap.size w X
theorem UB.laterB {w X X' : World} {o : Array Value} {B : Nat} (h : UB w X o) (hb : Below B X X') (hB : w.heap.size + 1 ≤ B) : UB w X' o := ⟨(hb.block _ (by omega)).trans h.bc, h.bw.trans (hb.mono (by omega))⟩
theorem US.ub {w X : World} {o : Array Value} {h : At × Value} {bu : Value} {LB : List (At × Value)} {tu : Value} {LT : List Te} (H : US w X o h bu LB tu LT) : UB w X o := ⟨H.bc, H.bw⟩
theorem wrapS {x : Int} (h : -9223372036854775808 ≤ x ∧ x ≤ 9223372036854775807) : IntKind.i64.wrap x = x := by
  rw [IntKind.wrap_i64]; omega
/-- Where the terms of the atom number j begin. -/
def aj (c : Cm) (j : Nat) : Nat := c.head.1.pl.length + (flt (c.body.take j)).length
theorem aj_next {c : Cm} {j : Nat} {x : At × Value} (h : c.body[j]? = some x) : aj c j + x.1.pl.length = aj c (j + 1) := by
  unfold aj; rw [← flt_next h, List.length_append]; omega
theorem terms_at {c : Cm} {j : Nat} {x : At × Value} (h : c.body[j]? = some x) (f : Tm → Tm) : ∃ pre post, pre.length = aj c j ∧ c.terms.map f = pre ++ (x.1.pl.map f ++ post) := by
  have e : flt c.body = flt (c.body.take j) ++ (x.1.pl ++ flt (c.body.drop (j + 1))) := by
    have h1 : c.body = c.body.take j ++ (x :: c.body.drop (j + 1)) := by
      have e0 := List.drop_eq_getElem_cons (List.getElem?_eq_some_iff.1 h).1
      rw [(List.getElem?_eq_some_iff.1 h).2] at e0
      rw [← e0, List.take_append_drop]
    conv => lhs; rw [h1]
    simp [flt]
  refine ⟨(c.head.1.pl ++ flt (c.body.take j)).map f, (flt (c.body.drop (j + 1)) ++ tls c.tests).map f, by simp [aj], ?_⟩
  rw [Cm.terms_eq, e]; simp
theorem tls_at : ∀ {l : List Te} {j : Nat} {t : Te}, l[j]? = some t → (tls l)[j * 2]? = some t.l ∧ (tls l)[j * 2 + 1]? = some t.r
  | x :: l, 0, t, h => by simp at h; subst h; simp [tls]
  | x :: l, j + 1, t, h => by
    rw [List.getElem?_cons_succ] at h
    have := tls_at h
    have e : tls (x :: l) = [x.l, x.r] ++ tls l := by simp [tls]
    rw [e, show (j + 1) * 2 = j * 2 + 2 by omega, show j * 2 + 2 + 1 = (j * 2 + 1) + 2 by omega]
    simpa using this
theorem terms_test {c : Cm} {j : Nat} {t : Te} (h : c.tests[j]? = some t) (f : Tm → Tm) : (c.terms.map f)[aj c c.body.length + j * 2]? = some (f t.l) ∧ (c.terms.map f)[aj c c.body.length + j * 2 + 1]? = some (f t.r) := by
  obtain ⟨h1, h2⟩ := tls_at h
  have e : aj c c.body.length = (c.head.1.pl ++ flt c.body).length := by simp [aj]
  have k : ∀ i t, (tls c.tests)[i]? = some t → (c.terms.map f)[aj c c.body.length + i]? = some (f t) := fun i t hi => by
    rw [Cm.terms_eq, List.getElem?_map, List.getElem?_append_right (by rw [e]; omega), e, show (c.head.1.pl ++ flt c.body).length + i - (c.head.1.pl ++ flt c.body).length = i by omega, hi]; rfl
  exact ⟨k _ _ h1, by rw [Nat.add_assoc]; exact k _ _ h2⟩
set_option maxRecDepth 20000 in
set_option maxHeartbeats 4000000 in
theorem put3_any (f : Tm → Tm) (c : Cm) (vl : Value) (w : World) (h : c.ok w) (hl : Ts w vl (c.terms.map f)) (hl1 : c.head.1.args.length ≤ 3900000000000) (hl2 : c.body.length ≤ 1800000000000) (hl3 : c.tests.length ≤ 1800000000000) (hl4 : ∀ x ∈ c.body, x.1.args.length ≤ 3900000000000) :
    Calls Tryz.prog 82 #[c.v, vl] w fun e w' => ∃ d : Cm, e = .returned d.v ∧ d.key = mapC f c.key ∧ MCl w.heap.size w' d ∧ Below w.heap.size w w' := by
  obtain ⟨⟨a, hn, cap, h1⟩, ⟨a', cap', h2⟩, ⟨a'', cap'', h3⟩, hbl, htl⟩ := h.shape
  have HP0 : Hid (∀ X : World, Below w.heap.size w X → Calls Tryz.prog 121 #[c.head.1.v c.head.2, vl, .int .i64 0] X fun e w' => ∃ v', e = .returned (.tuple #[(mapA f c.head.1).v v', .int .i64 ((aj c 0 : Nat) : Int)]) ∧ OwnT w' X.heap.size v' (mapA f c.head.1).args ∧ Below X.heap.size X w') := fun X hX => by
    have hs : ∃ a cap, c.head.2 = .slice a c.head.1.args.length cap := by obtain ⟨a, cap, e, -⟩ := h.h; exact ⟨a, cap, e⟩
    have e : c.terms.map f = [] ++ (c.head.1.pl.map f ++ (flt c.body ++ tls c.tests).map f) := by rw [Cm.terms_eq]; simp
    have := putAtom_any f c.head.1 c.head.2 [] ((flt c.body ++ tls c.tests).map f) vl X hs hl1 (by rw [← e]; exact hl.later hX)
    simpa [aj, flt] using this
  have HPB : Hid (∀ j x, c.body[j]? = some x → ∀ X : World, Below w.heap.size w X → Calls Tryz.prog 121 #[x.1.v x.2, vl, .int .i64 ((aj c j : Nat) : Int)] X fun e w' => ∃ v', e = .returned (.tuple #[(mapA f x.1).v v', .int .i64 ((aj c (j + 1) : Nat) : Int)]) ∧ OwnT w' X.heap.size v' (mapA f x.1).args ∧ Below X.heap.size X w') := fun j x hx X hX => by
    obtain ⟨pre, post, hp, e⟩ := terms_at hx f
    have hxm := List.mem_of_getElem? hx
    have hs : ∃ a cap, x.2 = .slice a x.1.args.length cap := by obtain ⟨_, _, _, _, _, ht⟩ := h.b; obtain ⟨a, cap, e, -⟩ := ht x hxm; exact ⟨a, cap, e⟩
    have := putAtom_any f x.1 x.2 pre post vl X hs (hl4 x hxm) (by rw [← e]; exact hl.later hX)
    rw [hp, aj_next hx] at this
    exact this
  have HTE : Hid (∀ j t, c.tests[j]? = some t → (c.terms.map f)[aj c c.body.length + j * 2]? = some (f t.l) ∧ (c.terms.map f)[aj c c.body.length + j * 2 + 1]? = some (f t.r)) := fun j t ht => terms_test ht f
  have hB := h.b
  have hT := h.t
  have HKEY : Hid (∀ d : Cm, d.head.1 = mapA f c.head.1 → fsts d.body = (fsts c.body).map (mapA f) → d.tests = c.tests.map (mapE f) → d.key = mapC f c.key) := fun d e1 e2 e3 => by unfold Cm.key mapC; rw [e1, e2, e3]
  generalize hAJ : aj c = AJ at HP0 HPB HTE
  clear hAJ
  generalize c.terms.map f = LL at hl HTE
  obtain ⟨⟨⟨⟨k, m, s⟩, nm, ls⟩, hx⟩, body, bv, tests, tv⟩ := c
  simp only at h1 h2 h3 hbl htl hl1 hl2 hl3 hl4 HP0 HPB HTE hB hT HKEY
  subst h1 h2 h3
  obtain ⟨_, _, he, -, hm, hts⟩ := hB
  simp only [Value.slice.injEq, true_and] at he
  obtain ⟨rfl, rfl⟩ := he
  obtain ⟨_, _, he, -, hmt⟩ := hT
  simp only [Value.slice.injEq, true_and] at he
  obtain ⟨rfl, rfl⟩ := he
  obtain ⟨al, capl, rfl, hLl, hml⟩ := hl
  have HML : Hid (LL = [] ∨ ∃ b o, al = some ⟨b, o, none⟩ ∧ TRow w b o LL) := hml
  have HU0 : Hid (U0 w _ (Cm.cs ⟨(⟨⟨k, m, s⟩, nm, ls⟩, .slice a hn cap), body, .slice a' body.length cap', tests, .slice a'' tests.length cap''⟩)) := U0.start w (Cm.cs ⟨(⟨⟨k, m, s⟩, nm, ls⟩, .slice a hn cap), body, .slice a' body.length cap', tests, .slice a'' tests.length cap''⟩)
  obtain ⟨⟨⟨hk, hq, hz⟩, hnm, hla⟩, hH⟩ : ∃ z, mapA f ⟨⟨k, m, s⟩, nm, ls⟩ = z := ⟨_, rfl⟩
  rw [hH] at HP0 HKEY
  clear h hts hml hH
  go_enter Tryz.func82, Tryz.ntmps82
  go_upto_region 4 with (go_at_call 121; refine (HP0.out _ HU0.out.bw).mono ?_; clear HP0; rintro e w1 ⟨y, rfl, hy, hb⟩; obtain ⟨ya, yn, yc, rfl⟩ := ownT_form4 hy; have HU1 : Hid (U0 w w1 (Cm.cs ⟨(⟨⟨k, m, s⟩, nm, ls⟩, .slice a hn cap), body, .slice a' body.length cap', tests, .slice a'' tests.length cap''⟩)) := HU0.out.later hb; have HY : Hid (OwnT w1 (w.heap.size + 3) (.slice ya yn yc) hla) := hy.mono HU0.out.sz; clear hb hy HU0; obtain ⟨d0, d1, d2, d3, d4, d5, d6⟩ := cseven HU1.out.bo; have f0 : w1.frozen? ⟨w.heap.size + 1 + 1, 0, none⟩ = false := HU1.out.bo.froz; have f1 : w1.frozen? ⟨w.heap.size + 1 + 1, 1, none⟩ = false := HU1.out.bo.froz; have f2 : w1.frozen? ⟨w.heap.size + 1 + 1, 2, none⟩ = false := HU1.out.bo.froz; have f3 : w1.frozen? ⟨w.heap.size + 1 + 1, 3, none⟩ = false := HU1.out.bo.froz; have f4 : w1.frozen? ⟨w.heap.size + 1 + 1, 4, none⟩ = false := HU1.out.bo.froz)
  have HUS0 : Hid (US w (((((w1.setCell ⟨w.heap.size + 1 + 1, 0, none⟩ (.int .i64 hk)).setCell ⟨w.heap.size + 1 + 1, 1, none⟩ (.int .i64 hq)).setCell ⟨w.heap.size + 1 + 1, 2, none⟩ (.string hz)).setCell ⟨w.heap.size + 1 + 1, 3, none⟩ (.string hnm)).setCell ⟨w.heap.size + 1 + 1, 4, none⟩ (.slice ya yn yc)) (Cm.cs ⟨(⟨⟨k, m, s⟩, nm, ls⟩, .slice a hn cap), body, .slice a' body.length cap', tests, .slice a'' tests.length cap''⟩) (⟨⟨hk, hq, hz⟩, hnm, hla⟩, .slice ya yn yc) (.slice none 0 0) [] (.slice none 0 0) []) := HU1.out.head (⟨⟨hk, hq, hz⟩, hnm, hla⟩, .slice ya yn yc) HY.out
  clear d0 d1 d2 d3 d4 d5 d6 f0 f1 f2 f3 f4 HU1 HY
  revert HUS0
  generalize (((((w1.setCell ⟨w.heap.size + 1 + 1, 0, none⟩ (.int .i64 hk)).setCell ⟨w.heap.size + 1 + 1, 1, none⟩ (.int .i64 hq)).setCell ⟨w.heap.size + 1 + 1, 2, none⟩ (.string hz)).setCell ⟨w.heap.size + 1 + 1, 3, none⟩ (.string hnm)).setCell ⟨w.heap.size + 1 + 1, 4, none⟩ (.slice ya yn yc)) = W1
  intro HUS0
  go_wp2_with fail
  go_loopg [5, 7] body.length (fun g a5 i wr => ∃ (j : Nat) (bu : Value) (LB : List (At × Value)), j + g = body.length ∧ a5 = .int .i64 ((AJ j : Nat) : Int) ∧ i = .int .i64 j ∧ fsts LB = (fsts (body.take j)).map (mapA f) ∧ US w wr (Cm.cs ⟨(⟨⟨k, m, s⟩, nm, ls⟩, .slice a hn cap), body, .slice a' body.length cap', tests, .slice a'' tests.length cap''⟩) (⟨⟨hk, hq, hz⟩, hnm, hla⟩, .slice ya yn yc) bu LB (.slice none 0 0) [])
  case atStart => exact ⟨0, .slice none 0 0, [], by omega, rfl, rfl, by simp [fsts], HUS0.out⟩
  case round =>
    obtain ⟨j, bu, LB, hj, rfl, rfl, hLB, hus⟩ := hrel
    have HUS : Hid (US w wr (Cm.cs ⟨(⟨⟨k, m, s⟩, nm, ls⟩, .slice a hn cap), body, .slice a' body.length cap', tests, .slice a'' tests.length cap''⟩) (⟨⟨hk, hq, hz⟩, hnm, hla⟩, .slice ya yn yc) bu LB (.slice none 0 0) []) := hus
    have HLB : Hid (fsts LB = (fsts (body.take j)).map (mapA f)) := hLB
    clear hus hLB HUS0
    obtain ⟨c0, c1, c2, c3, c4, c5, c6⟩ := cseven HUS.out.bc
    cases gk with
    | succ g =>
      have hlt : (j : Int) < (body.length : Int) := by omega
      have j0 : (0 : Int) ≤ (j : Int) := by omega
      obtain ⟨x, hx⟩ : ∃ x, body[j]? = some x := ⟨_, List.getElem?_eq_getElem (by omega)⟩
      rcases hm with hm | ⟨b2, o2, rfl, hb2, hm⟩
      · subst hm; simp at hj
      obtain ⟨p0, p1, p2, p3, p4⟩ := hm j x hx
      have HPX : Hid _ := HPB.out j x hx
      have HLN : Hid ((fsts (body.take j)).map (mapA f) ++ [mapA f x.1] = (fsts (body.take (j + 1))).map (mapA f)) := by show _ = _; rw [List.take_add_one, hx]; simp [fsts]
      have hLL : LB.length = j := by have := congrArg List.length HLB.out; simp only [fsts, List.length_map, List.length_take] at this; omega
      obtain ⟨⟨⟨mk, mn, ms⟩, mm, ma⟩, hma⟩ : ∃ z, mapA f x.1 = z := ⟨_, rfl⟩
      rw [hma] at HPX HLN
      have e0 := cell_step HUS.out.bw hb2 p0
      have e1 := cell_step HUS.out.bw hb2 p1
      have e2 := cell_step HUS.out.bw hb2 p2
      have e3 := cell_step HUS.out.bw hb2 p3
      have e4 := cell_step HUS.out.bw hb2 p4
      have hb2' := lt_step HUS.out.bw hb2
      clear hm hx p0 p1 p2 p3 p4 hma
      obtain ⟨⟨⟨xk, xn, xs⟩, xm, xa⟩, xv⟩ := x
      simp only at e0 e1 e2 e3 e4 HPX
      have HGY : Hid (CBlk (wr.alloc (.cells #[.int .i64 0, .int .i64 0, .string ⟨#[]⟩, .string ⟨#[]⟩, .slice none 0 0] 26)) wr.heap.size #[.int .i64 0, .int .i64 0, .string ⟨#[]⟩, .string ⟨#[]⟩, .slice none 0 0] 26) := CBlk.new _ _ _
      have HUY : Hid (US w (wr.alloc (.cells #[.int .i64 0, .int .i64 0, .string ⟨#[]⟩, .string ⟨#[]⟩, .slice none 0 0] 26)) (Cm.cs ⟨(⟨⟨k, m, s⟩, nm, ls⟩, .slice a hn cap), body, .slice (some ⟨b2, o2, none⟩) body.length cap', tests, .slice a'' tests.length cap''⟩) (⟨⟨hk, hq, hz⟩, hnm, hla⟩, .slice ya yn yc) bu LB (.slice none 0 0) []) := HUS.out.later (below1 _ _)
      have q0 := cell_step (below1 wr (.cells #[.int .i64 0, .int .i64 0, .string ⟨#[]⟩, .string ⟨#[]⟩, .slice none 0 0] 26)) hb2' e0
      have q1 := cell_step (below1 wr (.cells #[.int .i64 0, .int .i64 0, .string ⟨#[]⟩, .string ⟨#[]⟩, .slice none 0 0] 26)) hb2' e1
      have q2 := cell_step (below1 wr (.cells #[.int .i64 0, .int .i64 0, .string ⟨#[]⟩, .string ⟨#[]⟩, .slice none 0 0] 26)) hb2' e2
      have q3 := cell_step (below1 wr (.cells #[.int .i64 0, .int .i64 0, .string ⟨#[]⟩, .string ⟨#[]⟩, .slice none 0 0] 26)) hb2' e3
      have q4 := cell_step (below1 wr (.cells #[.int .i64 0, .int .i64 0, .string ⟨#[]⟩, .string ⟨#[]⟩, .slice none 0 0] 26)) hb2' e4
      have HFR : Hid (FrU (⟨⟨hk, hq, hz⟩, hnm, hla⟩, .slice ya yn yc) bu LB (.slice none 0 0) wr.heap.size) := HUS.out.fresh (Nat.le_refl _)
      have hszB := HUS.out.sz
      have HBU : Hid (∀ k, bu.ownBlock = some k → k < wr.heap.size) := fun k hk => (HUS.out.ba.lt k hk).2
      go_upto_region 8 with fail
      clear c0 c1 c2 c3 c4 c5 c6 e0 e1 e2 e3 e4
      revert HGY HUY q0 q1 q2 q3 q4
      generalize wr.alloc (.cells #[.int .i64 0, .int .i64 0, .string ⟨#[]⟩, .string ⟨#[]⟩, .slice none 0 0] 26) = Y
      intro HGY HUY q0 q1 q2 q3 q4
      generalize wr.heap.size = B at HGY HFR hszB HBU ⊢
      obtain ⟨c0, c1, c2, c3, c4, c5, c6⟩ := cseven HUY.out.bc
      go_upto_region 9 with (go_at_call 121; refine (HPX.out _ HUY.out.bw).mono ?_; clear HPX; rintro e w2 ⟨z, rfl, hz2, hb⟩; obtain ⟨za, zn, zc, rfl⟩ := ownT_form4 hz2; have HU2 : Hid (US w w2 (Cm.cs ⟨(⟨⟨k, m, s⟩, nm, ls⟩, .slice a hn cap), body, .slice (some ⟨b2, o2, none⟩) body.length cap', tests, .slice a'' tests.length cap''⟩) (⟨⟨hk, hq, hz⟩, hnm, hla⟩, .slice ya yn yc) bu LB (.slice none 0 0) []) := HUY.out.later hb; have HG2 : Hid (CBlk w2 B #[.int .i64 0, .int .i64 0, .string ⟨#[]⟩, .string ⟨#[]⟩, .slice none 0 0] 26) := HGY.out.later hb; have HZ : Hid (OwnT w2 (w.heap.size + 3) (.slice za zn zc) ma ∧ ∀ k, Value.ownBlock (.slice za zn zc) = some k → B + 1 ≤ k) := ⟨hz2.mono HUY.out.sz, fun k hk => Nat.le_trans HGY.out.lt (hz2.lt k hk).1⟩; clear hb hz2 HUY HGY c0 c1 c2 c3 c4 c5 c6 q0 q1 q2 q3 q4; obtain ⟨d0, d1, d2, d3, d4⟩ := cfive HG2.out; have f0 : w2.frozen? ⟨B, 0, none⟩ = false := HG2.out.froz; have f1 : w2.frozen? ⟨B, 1, none⟩ = false := HG2.out.froz; have f2 : w2.frozen? ⟨B, 2, none⟩ = false := HG2.out.froz; have f3 : w2.frozen? ⟨B, 3, none⟩ = false := HG2.out.froz; have f4 : w2.frozen? ⟨B, 4, none⟩ = false := HG2.out.froz)
      have HU3 : Hid (US w (((((w2.setCell ⟨B, 0, none⟩ (.int .i64 mk)).setCell ⟨B, 1, none⟩ (.int .i64 mn)).setCell ⟨B, 2, none⟩ (.string ms)).setCell ⟨B, 3, none⟩ (.string mm)).setCell ⟨B, 4, none⟩ (.slice za zn zc)) (Cm.cs ⟨(⟨⟨k, m, s⟩, nm, ls⟩, .slice a hn cap), body, .slice (some ⟨b2, o2, none⟩) body.length cap', tests, .slice a'' tests.length cap''⟩) (⟨⟨hk, hq, hz⟩, hnm, hla⟩, .slice ya yn yc) bu LB (.slice none 0 0) []) := ((((HU2.out.far hszB HFR.out _).far hszB HFR.out _).far hszB HFR.out _).far hszB HFR.out _).far hszB HFR.out _
      have HG3 : Hid (CBlk (((((w2.setCell ⟨B, 0, none⟩ (.int .i64 mk)).setCell ⟨B, 1, none⟩ (.int .i64 mn)).setCell ⟨B, 2, none⟩ (.string ms)).setCell ⟨B, 3, none⟩ (.string mm)).setCell ⟨B, 4, none⟩ (.slice za zn zc)) B #[.int .i64 mk, .int .i64 mn, .string ms, .string mm, .slice za zn zc] 26) := HG2.out.put5
      have hzo : ∀ k, Value.ownBlock (.slice za zn zc) = some k → k ≠ B := fun k hk => by have := HZ.out.2 k hk; omega
      have HZ3 : Hid (OwnT (((((w2.setCell ⟨B, 0, none⟩ (.int .i64 mk)).setCell ⟨B, 1, none⟩ (.int .i64 mn)).setCell ⟨B, 2, none⟩ (.string ms)).setCell ⟨B, 3, none⟩ (.string mm)).setCell ⟨B, 4, none⟩ (.slice za zn zc)) (w.heap.size + 3) (.slice za zn zc) ma) := ((((HZ.out.1.off hzo).off hzo).off hzo).off hzo).off hzo
      have HZN : Hid (∀ k, bu.ownBlock = some k → Value.ownBlock (.slice za zn zc) ≠ some k) := fun k hk e => by have h1 := HZ.out.2 k e; have h2 := HBU.out k hk; omega
      clear d0 d1 d2 d3 d4 f0 f1 f2 f3 f4 HU2 HG2 HZ hzo
      revert HU3 HG3 HZ3
      generalize (((((w2.setCell ⟨B, 0, none⟩ (.int .i64 mk)).setCell ⟨B, 1, none⟩ (.int .i64 mn)).setCell ⟨B, 2, none⟩ (.string ms)).setCell ⟨B, 3, none⟩ (.string mm)).setCell ⟨B, 4, none⟩ (.slice za zn zc)) = Z
      intro HU3 HG3 HZ3
      obtain ⟨c0, c1, c2, c3, c4, c5, c6⟩ := cseven HU3.out.bo
      obtain ⟨d0, d1, d2, d3, d4⟩ := cfive HG3.out
      simp only at c0 c1 c2 c3 c4 c5 c6
      have HNB : Hid (CBlk (Z.alloc (.cells #[.int .i64 mk, .int .i64 mn, .string ms, .string mm, .slice za zn zc] 26)) Z.heap.size #[.int .i64 mk, .int .i64 mn, .string ms, .string mm, .slice za zn zc] 26) := CBlk.new _ _ _
      have HU4 : Hid (US w (Z.alloc (.cells #[.int .i64 mk, .int .i64 mn, .string ms, .string mm, .slice za zn zc] 26)) (Cm.cs ⟨(⟨⟨k, m, s⟩, nm, ls⟩, .slice a hn cap), body, .slice (some ⟨b2, o2, none⟩) body.length cap', tests, .slice a'' tests.length cap''⟩) (⟨⟨hk, hq, hz⟩, hnm, hla⟩, .slice ya yn yc) bu LB (.slice none 0 0) []) := HU3.out.later (below1 _ _)
      have HZ4 : Hid (OwnT (Z.alloc (.cells #[.int .i64 mk, .int .i64 mn, .string ms, .string mm, .slice za zn zc] 26)) (w.heap.size + 3) (.slice za zn zc) ma) := HZ3.out.later (below1 _ _)
      clear HU3 HZ3 HG3
      go_wp2_with (at_builtin; refine aapp_one rfl _ _ rfl (w.heap.size + 3) bu LB (by rfl) HU4.out.ba Z.heap.size (⟨⟨mk, mn, ms⟩, mm, ma⟩, .slice za zn zc) (by rfl) HNB.out (acell_one _ _ _ _) (by omega) HU4.out.sz ?_; intro v' w3 hown hb3 hg3 ha3; obtain ⟨va, vc, rfl⟩ := OwnA.form hown; generalize (LB ++ [((⟨⟨mk, mn, ms⟩, mm, ma⟩, .slice za zn zc) : At × Value)]).length = VN at hown ha3 ⊢; have HU5 : Hid (US w (w3.setCell ⟨w.heap.size + 1 + 1, 5, none⟩ (.slice va VN vc)) (Cm.cs ⟨(⟨⟨k, m, s⟩, nm, ls⟩, .slice a hn cap), body, .slice (some ⟨b2, o2, none⟩) body.length cap', tests, .slice a'' tests.length cap''⟩) (⟨⟨hk, hq, hz⟩, hnm, hla⟩, .slice ya yn yc) (.slice va VN vc) (LB ++ [(⟨⟨mk, mn, ms⟩, mm, ma⟩, .slice za zn zc)]) (.slice none 0 0) []) := HU4.out.grow_b (x := (⟨⟨mk, mn, ms⟩, mm, ma⟩, .slice za zn zc)) HZ4.out HZN.out (fun k hk => by simp [Value.ownBlock] at hk) hown hb3 hg3 ha3; have hD : CBlk w3 (w.heap.size + 1 + 1) _ 30 := (hb3.block _ (by omega)).trans HU4.out.bo; clear c0 c1 c2 c3 c4 c5 c6 d0 d1 d2 d3 d4; obtain ⟨c0, c1, c2, c3, c4, c5, c6⟩ := cseven hD; have f5 : w3.frozen? ⟨w.heap.size + 1 + 1, 5, none⟩ = false := hD.froz; clear hD hown hb3 hg3 ha3 HU4 HZ4 HNB)
      go_roundg g
      case measure => omega
      case rel => exact ⟨j + 1, _, _, by omega, rfl, by go_num, by rw [← HLN.out, ← HLB.out]; simp [fsts], HU5.out⟩
    | zero =>
      obtain rfl : j = body.length := by omega
      have hzz : ¬ ((body.length : Int) < (body.length : Int)) := by omega
      rw [List.take_length] at HLB
      clear hm HPB
      go_wp2_with fail
      clear c0 c1 c2 c3 c4 c5 c6
      have HQ0 : Hid (AJ body.length = AJ body.length + 0 * 2) := by show _ = _; omega
      go_loopg [5, 9] tests.length (fun g a5 i wr => ∃ (j : Nat) (tu : Value), j + g = tests.length ∧ a5 = .int .i64 ((AJ body.length + j * 2 : Nat) : Int) ∧ i = .int .i64 j ∧ US w wr (Cm.cs ⟨(⟨⟨k, m, s⟩, nm, ls⟩, .slice a hn cap), body, .slice a' body.length cap', tests, .slice a'' tests.length cap''⟩) (⟨⟨hk, hq, hz⟩, hnm, hla⟩, .slice ya yn yc) bu LB tu ((tests.take j).map (mapE f)))
      case atStart => exact ⟨0, .slice none 0 0, by omega, by simp, rfl, HUS.out⟩
      case round =>
        obtain ⟨j, tu, hj, hQ, rfl, hus⟩ := hrel
        have HUT : Hid (US w wr (Cm.cs ⟨(⟨⟨k, m, s⟩, nm, ls⟩, .slice a hn cap), body, .slice a' body.length cap', tests, .slice a'' tests.length cap''⟩) (⟨⟨hk, hq, hz⟩, hnm, hla⟩, .slice ya yn yc) bu LB tu ((tests.take j).map (mapE f))) := hus
        clear hus HUS HQ0
        obtain ⟨c0, c1, c2, c3, c4, c5, c6⟩ := cseven HUT.out.bc
        obtain ⟨QQ, hQQ⟩ : ∃ Q, AJ body.length + j * 2 = Q := ⟨_, rfl⟩
        rw [hQQ] at hQ
        subst hQ
        have hQ2 : Hid (QQ = AJ body.length + j * 2) := hQQ.symm
        cases gk with
        | succ g2 =>
          have hlt : (j : Int) < (tests.length : Int) := by omega
          have j0 : (0 : Int) ≤ (j : Int) := by omega
          obtain ⟨t, ht⟩ : ∃ t, tests[j]? = some t := ⟨_, List.getElem?_eq_getElem (by omega)⟩
          rcases hmt with hmt | ⟨b3, o3, rfl, hb3, hmt⟩
          · subst hmt; simp at hj
          obtain ⟨r0, -⟩ := hmt j t ht
          obtain ⟨t1, t2⟩ := HTE.out j t ht
          rw [hQQ] at t1 t2
          have hQl := (List.getElem?_eq_some_iff.1 t2).1
          rcases HML.out with hml | ⟨b1, o1, rfl, hb1, hml⟩
          · subst hml; simp at t1
          obtain ⟨p0, p1, p2⟩ := hml QQ _ t1
          obtain ⟨q0, q1, q2⟩ := hml (QQ + 1) _ t2
          have HTJ : Hid ((tests.take j).map (mapE f) ++ [⟨t.op, f t.l, f t.r⟩] = (tests.take (j + 1)).map (mapE f)) := by show _ = _; rw [List.take_add_one, ht]; simp [mapE]
          have HLT : Hid (((tests.take j).map (mapE f)).length ≤ 1800000000000) := by show _ ≤ _; rw [List.length_map, List.length_take]; omega
          obtain ⟨Q1, hQ1'⟩ : ∃ Q1 : Nat, Q1 = QQ + 1 := ⟨_, rfl⟩
          have hQ1 : Hid ((Q1 : Int) = (QQ : Int) + 1) := by show _ = _; omega
          rw [← hQ1'] at q0 q1 q2 hQl
          have k0 : (0 : Int) ≤ (QQ : Int) := by omega
          have k1 : (QQ : Int) < (LL.length : Int) := by omega
          have k2 : (0 : Int) ≤ (Q1 : Int) := by omega
          have k3 : (Q1 : Int) < (LL.length : Int) := by omega
          generalize (tests.take j).map (mapE f) = LTJ at HUT HTJ HLT
          generalize f t.l = fl at p0 p1 p2 HTJ
          generalize f t.r = fr at q0 q1 q2 HTJ
          generalize t.op = op at r0 HTJ
          clear hmt ht t1 t2 hml hQQ hQ1' HTE
          obtain ⟨lk, ln, lz⟩ := fl
          obtain ⟨rk, rn, rz⟩ := fr
          simp only at p0 p1 p2 q0 q1 q2
          have HUS := HUT
          clear HUT
          go_wp2_with fail
          clear c0 c1 c2 c3 c4 c5 c6
          have hV0 : US w wr.drew (Cm.cs ⟨(⟨⟨k, m, s⟩, nm, ls⟩, .slice a hn cap), body, .slice a' body.length cap', tests, .slice (some ⟨b3, o3, none⟩) tests.length cap''⟩) (⟨⟨hk, hq, hz⟩, hnm, hla⟩, .slice ya yn yc) bu LB tu LTJ := HUS.out.later (Below.refl _ _).drew
          refine wp_region_held_drew (S := fun w' => UB w w' (Cm.cs ⟨(⟨⟨k, m, s⟩, nm, ls⟩, .slice a hn cap), body, .slice a' body.length cap', tests, .slice (some ⟨b3, o3, none⟩) tests.length cap''⟩)) (by kernel_rfl) hV0.ub (fun hH => ?_)
          revert hH hV0
          generalize wr.drew = V0
          intro hV0 hH
          have HV0 : Hid (US w V0 (Cm.cs ⟨(⟨⟨k, m, s⟩, nm, ls⟩, .slice a hn cap), body, .slice a' body.length cap', tests, .slice (some ⟨b3, o3, none⟩) tests.length cap''⟩) (⟨⟨hk, hq, hz⟩, hnm, hla⟩, .slice ya yn yc) bu LB tu LTJ) := hV0
          clear hV0 HUS
          refine wpAnyH_take (i := 0) (oi := ⟨_, _, _, _, _, _⟩) (v := .pointer (some ⟨w.heap.size + 1 + 1, 6, none⟩)) rfl (by kernel_rfl) (by kernel_rfl) (by kernel_rfl) (fun _ _ _ h => h) (Or.inl ⟨by rfl, fun w' h => by clear h; go_simp⟩) hH ?_
          simp only [Act.put, List.setIfInBounds_toArray, List.set_cons_zero, List.set_cons_succ]
          refine wpAnyH_take (i := 2) (oi := ⟨_, _, _, _, _, _⟩) (v := .pointer (some ⟨w.heap.size, 6, none⟩)) rfl (by kernel_rfl) (by kernel_rfl) (by kernel_rfl) (fun _ _ _ h => h) (Or.inl ⟨by rfl, fun w' h => by clear h; go_simp⟩) hH ?_
          simp only [Act.put, List.setIfInBounds_toArray, List.set_cons_zero, List.set_cons_succ]
          refine wpAnyH_take (i := 3) (oi := ⟨_, _, _, _, _, _⟩) (v := .slice (some ⟨b3, o3, none⟩) tests.length cap'') rfl (by kernel_rfl) (by kernel_rfl) (by kernel_rfl) (fun _ _ _ h => h) (Or.inl ⟨by rfl, fun w' h => by obtain ⟨c0, c1, c2, c3, c4, c5, c6⟩ := cseven h.bc; clear h; go_simp⟩) hH ?_
          simp only [Act.put, List.setIfInBounds_toArray, List.set_cons_zero, List.set_cons_succ]
          refine wpAnyH_take (i := 4) (oi := ⟨_, _, _, _, _, _⟩) (v := .int .i64 (j : Int)) rfl (by kernel_rfl) (by kernel_rfl) (by kernel_rfl) (fun _ _ _ h => h) (Or.inl ⟨by rfl, fun w' h => by clear h; go_simp⟩) hH ?_
          simp only [Act.put, List.setIfInBounds_toArray, List.set_cons_zero, List.set_cons_succ]
          refine wpAnyH_take (i := 5) (oi := ⟨_, _, _, _, _, _⟩) (v := .pointer (some ⟨b3, o3 + j * 7, none⟩)) rfl (by kernel_rfl) (by kernel_rfl) (by kernel_rfl) (fun _ _ _ h => h) (Or.inl ⟨by rfl, fun w' h => by clear h; go_simp⟩) hH ?_
          simp only [Act.put, List.setIfInBounds_toArray, List.set_cons_zero, List.set_cons_succ]
          refine wpAnyH_take (i := 6) (oi := ⟨_, _, _, _, _, _⟩) (v := .pointer (some ⟨b3, o3 + j * 7, none⟩)) rfl (by kernel_rfl) (by kernel_rfl) (by kernel_rfl) (fun _ _ _ h => h) (Or.inl ⟨by rfl, fun w' h => by clear h; go_simp⟩) hH ?_
          simp only [Act.put, List.setIfInBounds_toArray, List.set_cons_zero, List.set_cons_succ]
          refine wpAnyH_take (i := 7) (oi := ⟨_, _, _, _, _, _⟩) (v := .int .i64 op) rfl (by kernel_rfl) (by kernel_rfl) (by kernel_rfl) (fun _ _ _ h => h) (Or.inl ⟨by rfl, fun w' h => by have z0 := cell_step h.bw hb3 r0; clear h; go_simp⟩) hH ?_
          simp only [Act.put, List.setIfInBounds_toArray, List.set_cons_zero, List.set_cons_succ]
          refine wpAnyH_take (i := 8) (oi := ⟨_, _, _, _, _, _⟩) (v := .slice (some ⟨b1, o1, none⟩) LL.length capl) rfl (by kernel_rfl) (by kernel_rfl) (by kernel_rfl) (fun _ _ _ h => h) (Or.inl ⟨by rfl, fun w' h => by clear h; go_simp⟩) hH ?_
          simp only [Act.put, List.setIfInBounds_toArray, List.set_cons_zero, List.set_cons_succ]
          refine wpAnyH_take (i := 9) (oi := ⟨_, _, _, _, _, _⟩) (v := .int .i64 (QQ : Int)) rfl (by kernel_rfl) (by kernel_rfl) (by kernel_rfl) (fun _ _ _ h => h) (Or.inl ⟨by rfl, fun w' h => by clear h; go_simp⟩) hH ?_
          simp only [Act.put, List.setIfInBounds_toArray, List.set_cons_zero, List.set_cons_succ]
          refine wpAnyH_take (i := 10) (oi := ⟨_, _, _, _, _, _⟩) (v := .pointer (some ⟨b1, o1 + QQ * 3, none⟩)) rfl (by kernel_rfl) (by kernel_rfl) (by kernel_rfl) (fun _ _ _ h => h) (Or.inl ⟨by rfl, fun w' h => by clear h; go_simp⟩) hH ?_
          simp only [Act.put, List.setIfInBounds_toArray, List.set_cons_zero, List.set_cons_succ]
          refine wpAnyH_take (i := 11) (oi := ⟨_, _, _, _, _, _⟩) (v := Tm.v ⟨lk, ln, lz⟩) rfl (by kernel_rfl) (by kernel_rfl) (by kernel_rfl) (fun _ _ _ h => h) (Or.inl ⟨by rfl, fun w' h => by have z0 := cell_step h.bw hb1 p0; have z1 := cell_step h.bw hb1 p1; have z2 := cell_step h.bw hb1 p2; clear h; go_simp⟩) hH ?_
          simp only [Act.put, List.setIfInBounds_toArray, List.set_cons_zero, List.set_cons_succ]
          refine wpAnyH_take (i := 12) (oi := ⟨_, _, _, _, _, _⟩) (v := .slice (some ⟨b1, o1, none⟩) LL.length capl) rfl (by kernel_rfl) (by kernel_rfl) (by kernel_rfl) (fun _ _ _ h => h) (Or.inl ⟨by rfl, fun w' h => by clear h; go_simp⟩) hH ?_
          simp only [Act.put, List.setIfInBounds_toArray, List.set_cons_zero, List.set_cons_succ]
          refine wpAnyH_take (i := 13) (oi := ⟨_, _, _, _, _, _⟩) (v := .int .i64 (QQ : Int)) rfl (by kernel_rfl) (by kernel_rfl) (by kernel_rfl) (fun _ _ _ h => h) (Or.inl ⟨by rfl, fun w' h => by clear h; go_simp⟩) hH ?_
          simp only [Act.put, List.setIfInBounds_toArray, List.set_cons_zero, List.set_cons_succ]
          refine wpAnyH_take (i := 14) (oi := ⟨_, _, _, _, _, _⟩) (v := .int .i64 (Q1 : Int)) rfl (by kernel_rfl) (by kernel_rfl) (by kernel_rfl) (fun _ _ _ h => h) (Or.inl ⟨by rfl, fun w' h => by clear h; go_simp; rw [hQ1.out]; exact wrapS (by omega)⟩) hH ?_
          simp only [Act.put, List.setIfInBounds_toArray, List.set_cons_zero, List.set_cons_succ]
          refine wpAnyH_take (i := 15) (oi := ⟨_, _, _, _, _, _⟩) (v := .pointer (some ⟨b1, o1 + Q1 * 3, none⟩)) rfl (by kernel_rfl) (by kernel_rfl) (by kernel_rfl) (fun _ _ _ h => h) (Or.inl ⟨by rfl, fun w' h => by clear h; go_simp⟩) hH ?_
          simp only [Act.put, List.setIfInBounds_toArray, List.set_cons_zero, List.set_cons_succ]
          refine wpAnyH_take (i := 16) (oi := ⟨_, _, _, _, _, _⟩) (v := Tm.v ⟨rk, rn, rz⟩) rfl (by kernel_rfl) (by kernel_rfl) (by kernel_rfl) (fun _ _ _ h => h) (Or.inl ⟨by rfl, fun w' h => by have z0 := cell_step h.bw hb1 q0; have z1 := cell_step h.bw hb1 q1; have z2 := cell_step h.bw hb1 q2; clear h; go_simp⟩) hH ?_
          simp only [Act.put, List.setIfInBounds_toArray, List.set_cons_zero, List.set_cons_succ]
          refine wpAnyH_take (i := 17) (oi := ⟨_, _, _, _, _, _⟩) (v := .agg #[.int .i64 op, .int .i64 lk, .int .i64 ln, .string lz, .int .i64 rk, .int .i64 rn, .string rz]) rfl (by kernel_rfl) (by kernel_rfl) (by kernel_rfl) (fun _ _ _ h => h) (Or.inl ⟨by rfl, fun w' h => by clear h; go_simp⟩) hH ?_
          simp only [Act.put, List.setIfInBounds_toArray, List.set_cons_zero, List.set_cons_succ]
          refine wpAnyH_ready (rs := [1, 18]) (by kernel_rfl) (by simp) ?_
          refine (AllReadyH.cons (o := ⟨_, _, _, _, _, _⟩) rfl (fun K hK => ?_) (AllReadyH.cons (o := ⟨_, _, _, _, _, _⟩) rfl (fun K hK => ?_) AllReadyH.nil))
          · have c6 := (cseven HV0.out.bo).2.2.2.2.2.2
            go_simp
            clear c6
            refine hK.out _ _ hH (fun hH => ?_)
            clear hK K
            refine wpAnyH_ready (rs := [18]) (by kernel_rfl) (by simp) ?_
            refine (AllReadyH.cons (o := ⟨_, _, _, _, _, _⟩) rfl (fun K hK => ?_) AllReadyH.nil)
            go_simp
            have HV1 : Hid (US w (V0.alloc (.cells #[.int .i64 op, .int .i64 lk, .int .i64 ln, .string lz, .int .i64 rk, .int .i64 rn, .string rz] 45)) (Cm.cs ⟨(⟨⟨k, m, s⟩, nm, ls⟩, .slice a hn cap), body, .slice a' body.length cap', tests, .slice (some ⟨b3, o3, none⟩) tests.length cap''⟩) (⟨⟨hk, hq, hz⟩, hnm, hla⟩, .slice ya yn yc) bu LB tu LTJ) := HV0.out.later (below1 _ _)
            have HG : Hid (CBlk (V0.alloc (.cells #[.int .i64 op, .int .i64 lk, .int .i64 ln, .string lz, .int .i64 rk, .int .i64 rn, .string rz] 45)) V0.heap.size #[.int .i64 op, .int .i64 lk, .int .i64 ln, .string lz, .int .i64 rk, .int .i64 rn, .string rz] 45) := CBlk.new _ _ _
            clear hH HV0
            refine hK.out _ _ HV1.out.ub (fun hH => ?_)
            clear hK K
            revert hH HV1 HG
            generalize V0.alloc (.cells #[.int .i64 op, .int .i64 lk, .int .i64 ln, .string lz, .int .i64 rk, .int .i64 rn, .string rz] 45) = V1
            generalize V0.heap.size = GG
            intro HV1 HG hH
            refine wpAnyH_ready (rs := [19]) (by kernel_rfl) (by simp) ?_
            refine (AllReadyH.cons (o := ⟨_, _, _, _, _, _⟩) rfl (fun K hK => ?_) AllReadyH.nil)
            refine estep_one rfl _ _ rfl (w.heap.size + 3) tu LTJ (by rfl) HV1.out.et GG ⟨op, ⟨lk, ln, lz⟩, ⟨rk, rn, rz⟩⟩ (by rfl) HG.out (ecell_one _) (by have := HLT.out; omega) HV1.out.sz ?_
            intro v' w3 hown hb3 hg3 ha3
            obtain ⟨va, vc, rfl⟩ := OwnE.form hown
            generalize (LTJ ++ [(⟨op, ⟨lk, ln, lz⟩, ⟨rk, rn, rz⟩⟩ : Te)]).length = VN at hown ha3 ⊢
            have HW3 : Hid (US w (w3.setCell ⟨w.heap.size + 1 + 1, 6, none⟩ (.slice va VN vc)) (Cm.cs ⟨(⟨⟨k, m, s⟩, nm, ls⟩, .slice a hn cap), body, .slice a' body.length cap', tests, .slice (some ⟨b3, o3, none⟩) tests.length cap''⟩) (⟨⟨hk, hq, hz⟩, hnm, hla⟩, .slice ya yn yc) bu LB (.slice va VN vc) (LTJ ++ [⟨op, ⟨lk, ln, lz⟩, ⟨rk, rn, rz⟩⟩])) := HV1.out.grow_t hown hb3 hg3 ha3
            have HP3 : Hid (UB w w3 (Cm.cs ⟨(⟨⟨k, m, s⟩, nm, ls⟩, .slice a hn cap), body, .slice a' body.length cap', tests, .slice (some ⟨b3, o3, none⟩) tests.length cap''⟩)) := HV1.out.ub.laterB hb3 (by omega)
            have hD : CBlk w3 (w.heap.size + 1 + 1) _ 30 := (hb3.block _ (by omega)).trans HV1.out.bo
            obtain ⟨d0, d1, d2, d3, d4, d5, d6⟩ := cseven hD
            have f6 : w3.frozen? ⟨w.heap.size + 1 + 1, 6, none⟩ = false := hD.froz
            clear hD hown hb3 hg3 ha3 HV1 HG hH
            refine hK.out _ _ HP3.out (fun hH => ?_)
            clear hK K
            simp only [Act.put, List.setIfInBounds_toArray, List.set_cons_zero, List.set_cons_succ]
            refine wpAnyH_take (i := 20) (oi := ⟨_, _, _, _, _, _⟩) (v := .pointer (some ⟨w.heap.size + 1 + 1, 6, none⟩)) rfl (by kernel_rfl) (by kernel_rfl) (by kernel_rfl) (fun _ _ _ h => h) (Or.inl ⟨by rfl, fun w' h => by clear h; go_simp⟩) hH ?_
            simp only [Act.put, List.setIfInBounds_toArray, List.set_cons_zero, List.set_cons_succ]
            refine wpAnyH_ready (rs := [21]) (by kernel_rfl) (by simp) ?_
            refine (AllReadyH.cons (o := ⟨_, _, _, _, _, _⟩) rfl (fun K hK => ?_) AllReadyH.nil)
            go_simp
            clear d0 d1 d2 d3 d4 d5 d6 f6
            refine hK.out _ _ HW3.out.ub (fun hH => ?_)
            clear hK K hH HP3
            refine wpAnyH_done (by kernel_rfl) ?_ _
            go_wp2_with fail
            go_roundg g2
            case measure => omega
            case rel => exact ⟨j + 1, _, by omega, by rw [hQ2.out]; go_num, by go_num, by rw [← HTJ.out]; exact HW3.out⟩
          · go_simp
            have HV1 : Hid (US w (V0.alloc (.cells #[.int .i64 op, .int .i64 lk, .int .i64 ln, .string lz, .int .i64 rk, .int .i64 rn, .string rz] 45)) (Cm.cs ⟨(⟨⟨k, m, s⟩, nm, ls⟩, .slice a hn cap), body, .slice a' body.length cap', tests, .slice (some ⟨b3, o3, none⟩) tests.length cap''⟩) (⟨⟨hk, hq, hz⟩, hnm, hla⟩, .slice ya yn yc) bu LB tu LTJ) := HV0.out.later (below1 _ _)
            have HG : Hid (CBlk (V0.alloc (.cells #[.int .i64 op, .int .i64 lk, .int .i64 ln, .string lz, .int .i64 rk, .int .i64 rn, .string rz] 45)) V0.heap.size #[.int .i64 op, .int .i64 lk, .int .i64 ln, .string lz, .int .i64 rk, .int .i64 rn, .string rz] 45) := CBlk.new _ _ _
            clear hH HV0
            refine hK.out _ _ HV1.out.ub (fun hH => ?_)
            clear hK K
            revert hH HV1 HG
            generalize V0.alloc (.cells #[.int .i64 op, .int .i64 lk, .int .i64 ln, .string lz, .int .i64 rk, .int .i64 rn, .string rz] 45) = V1
            generalize V0.heap.size = GG
            intro HV1 HG hH
            refine wpAnyH_ready (rs := [1]) (by kernel_rfl) (by simp) ?_
            refine (AllReadyH.cons (o := ⟨_, _, _, _, _, _⟩) rfl (fun K hK => ?_) AllReadyH.nil)
            have c6 := (cseven HV1.out.bo).2.2.2.2.2.2
            go_simp
            clear c6
            refine hK.out _ _ hH (fun hH => ?_)
            clear hK K
            refine wpAnyH_ready (rs := [19]) (by kernel_rfl) (by simp) ?_
            refine (AllReadyH.cons (o := ⟨_, _, _, _, _, _⟩) rfl (fun K hK => ?_) AllReadyH.nil)
            refine estep_one rfl _ _ rfl (w.heap.size + 3) tu LTJ (by rfl) HV1.out.et GG ⟨op, ⟨lk, ln, lz⟩, ⟨rk, rn, rz⟩⟩ (by rfl) HG.out (ecell_one _) (by have := HLT.out; omega) HV1.out.sz ?_
            intro v' w3 hown hb3 hg3 ha3
            obtain ⟨va, vc, rfl⟩ := OwnE.form hown
            generalize (LTJ ++ [(⟨op, ⟨lk, ln, lz⟩, ⟨rk, rn, rz⟩⟩ : Te)]).length = VN at hown ha3 ⊢
            have HW3 : Hid (US w (w3.setCell ⟨w.heap.size + 1 + 1, 6, none⟩ (.slice va VN vc)) (Cm.cs ⟨(⟨⟨k, m, s⟩, nm, ls⟩, .slice a hn cap), body, .slice a' body.length cap', tests, .slice (some ⟨b3, o3, none⟩) tests.length cap''⟩) (⟨⟨hk, hq, hz⟩, hnm, hla⟩, .slice ya yn yc) bu LB (.slice va VN vc) (LTJ ++ [⟨op, ⟨lk, ln, lz⟩, ⟨rk, rn, rz⟩⟩])) := HV1.out.grow_t hown hb3 hg3 ha3
            have HP3 : Hid (UB w w3 (Cm.cs ⟨(⟨⟨k, m, s⟩, nm, ls⟩, .slice a hn cap), body, .slice a' body.length cap', tests, .slice (some ⟨b3, o3, none⟩) tests.length cap''⟩)) := HV1.out.ub.laterB hb3 (by omega)
            have hD : CBlk w3 (w.heap.size + 1 + 1) _ 30 := (hb3.block _ (by omega)).trans HV1.out.bo
            obtain ⟨d0, d1, d2, d3, d4, d5, d6⟩ := cseven hD
            have f6 : w3.frozen? ⟨w.heap.size + 1 + 1, 6, none⟩ = false := hD.froz
            clear hD hown hb3 hg3 ha3 HV1 HG hH
            refine hK.out _ _ HP3.out (fun hH => ?_)
            clear hK K
            simp only [Act.put, List.setIfInBounds_toArray, List.set_cons_zero, List.set_cons_succ]
            refine wpAnyH_take (i := 20) (oi := ⟨_, _, _, _, _, _⟩) (v := .pointer (some ⟨w.heap.size + 1 + 1, 6, none⟩)) rfl (by kernel_rfl) (by kernel_rfl) (by kernel_rfl) (fun _ _ _ h => h) (Or.inl ⟨by rfl, fun w' h => by clear h; go_simp⟩) hH ?_
            simp only [Act.put, List.setIfInBounds_toArray, List.set_cons_zero, List.set_cons_succ]
            refine wpAnyH_ready (rs := [21]) (by kernel_rfl) (by simp) ?_
            refine (AllReadyH.cons (o := ⟨_, _, _, _, _, _⟩) rfl (fun K hK => ?_) AllReadyH.nil)
            go_simp
            clear d0 d1 d2 d3 d4 d5 d6 f6
            refine hK.out _ _ HW3.out.ub (fun hH => ?_)
            clear hK K hH HP3
            refine wpAnyH_done (by kernel_rfl) ?_ _
            go_wp2_with fail
            go_roundg g2
            case measure => omega
            case rel => exact ⟨j + 1, _, by omega, by rw [hQ2.out]; go_num, by go_num, by rw [← HTJ.out]; exact HW3.out⟩
        | zero =>
          obtain rfl : j = tests.length := by omega
          have hzt : ¬ ((tests.length : Int) < (tests.length : Int)) := by omega
          rw [List.take_length] at HUT
          obtain ⟨ba, bc, rfl⟩ := OwnA.form HUT.out.ba
          obtain ⟨ta, tc, rfl⟩ := OwnE.form HUT.out.et
          generalize LB.length = BN at HUT
          generalize (tests.map (mapE f)).length = TN at HUT
          obtain ⟨d0, d1, d2, d3, d4, d5, d6⟩ := cseven HUT.out.bo
          obtain ⟨r0, r1, r2, r3, r4, r5, r6⟩ := cseven HUT.out.br
          have f0 : wr.frozen? ⟨w.heap.size + 1, 0, none⟩ = false := HUT.out.br.froz
          have f1 : wr.frozen? ⟨w.heap.size + 1, 1, none⟩ = false := HUT.out.br.froz
          have f2 : wr.frozen? ⟨w.heap.size + 1, 2, none⟩ = false := HUT.out.br.froz
          have f3 : wr.frozen? ⟨w.heap.size + 1, 3, none⟩ = false := HUT.out.br.froz
          have f4 : wr.frozen? ⟨w.heap.size + 1, 4, none⟩ = false := HUT.out.br.froz
          have f5 : wr.frozen? ⟨w.heap.size + 1, 5, none⟩ = false := HUT.out.br.froz
          have f6 : wr.frozen? ⟨w.heap.size + 1, 6, none⟩ = false := HUT.out.br.froz
          have n3 : w.heap.size + 1 < w.heap.size + 3 := by omega
          have n4 : w.heap.size ≤ w.heap.size + 1 := by omega
          simp only at d0 d1 d2 d3 d4 d5 d6
          clear hQQ hmt HTE
          go_wp2
          refine bodyPost_ret (v := Cm.v ⟨(⟨⟨hk, hq, hz⟩, hnm, hla⟩, .slice ya yn yc), LB, .slice ba BN bc, tests.map (mapE f), .slice ta TN tc⟩) (by simp [results, Tryz.results82, go_sem, r0, r1, r2, r3, r4, r5, r6]) rfl ⟨⟨(⟨⟨hk, hq, hz⟩, hnm, hla⟩, .slice ya yn yc), LB, .slice ba BN bc, tests.map (mapE f), .slice ta TN tc⟩, rfl, HKEY.out _ rfl HLB.out rfl, ?_, ?_⟩
          · exact (((((((HUT.out.mc.set n3 _).set n3 _).set n3 _).set n3 _).set n3 _).set n3 _).set n3 _).mono (by omega)
          · exact ((((((HUT.out.bw.setCell n4 _).setCell n4 _).setCell n4 _).setCell n4 _).setCell n4 _).setCell n4 _).setCell n4 _
end Go.Proofs.YtllgffmhbddigaaGreat
