import Derived.Test.YtcejljehjhlonaaGreatDoorCL28
import Derived.Test.YtcejljehjhlonaaGreatDoorOQ1
import Derived.Deep.CutRange
import Derived.Test.YtcejljehjhlonaaGreatDoorO2
namespace Go.Proofs.YtcejljehjhlonaaGreatDoor
open Go.RowKit
attribute [local go_sem ↓] Go.wp_at_zero Go.wp_at_succ

theorem ins_yes {vs : List Tm} {t u : Tm} (h : t.var = true) (hu : vs[t.n.toNat]? = some u) : ins vs t = u := by unfold ins; rw [if_pos h, hu]; rfl
theorem ins_far {vs : List Tm} {t : Tm} (h : (vs.length : Int) <= t.n) : ins vs t = t := by
 unfold ins
 by_cases hv : t.var = true
 ·rw [if_pos hv, List.getElem?_eq_none (by omega)]; rfl
 ·rw [if_neg hv]
set_option maxRecDepth 20000 in
set_option maxHeartbeats 4000000 in
theorem rinst_any (c : Cm) (vs : List Tm) (vv : Value) (w : World) (h : c.ok w) (hv : Ts w vv vs) (hh : TsP w c.head.2 c.head.1.args) (hp : ∀ x ∈ c.body, TsP w x.2 x.1.args) (hs : (Ck.terms c.key).length <= 4000000) :
  Calls Tryz.prog 42 #[c.v, vv] w fun e w' => ∃ d : Cm, e = .returned d.v /\ d.key = mapC (ins vs) c.key /\ MCl w.heap.size w' d /\ Below w.heap.size w w' := by
 obtain ⟨⟨a, hn, cap, h1⟩, ⟨a', cap', h2⟩, ⟨a'', cap'', h3⟩, hbl, htl⟩ := h.shape
 obtain ⟨s1, s2, s3, s4⟩ := cm_sizes hs
 have hl : c.terms.length <= 1800000000000 := by rw [key_terms]; omega
 have HTM : Hid (∀ X : World, Below w.heap.size w X -> Calls Tryz.prog 69 #[c.v] X fun e w' => ∃ v', e = .returned v' /\ OwnT w' X.heap.size v' c.terms /\ Below X.heap.size X w') := fun X hX => terms3_any c X (h.later hX) (hh.later hX) (fun x hx => (hp x hx).later hX) (by omega)
 have HPU : Hid (∀ (X : World) (y : Value), Below w.heap.size w X -> OwnT X 0 y (c.terms.map (ins vs)) -> Calls Tryz.prog 72 #[c.v, y] X fun e w' => ∃ d : Cm, e = .returned d.v /\ d.key = mapC (ins vs) c.key /\ MCl X.heap.size w' d /\ Below X.heap.size X w') := fun X y hX hy => put3_any (ins vs) c y X (h.later hX) (hy.tsP.ts (by rw [List.length_map]; omega)) (by omega) (by omega) (by omega) (fun x hx => by have := s4 x hx; omega)
 have HVV : Hid (Ts w vv vs) := hv
 have HC0 : Hid (C2 w _ c.cs) := C2.start w c.cs
 generalize mapC (ins vs) c.key = KEY at HPU
 generalize c.terms = TT at HTM HPU hl
 clear h hh hp s1 s2 s3 s4 hs
 obtain ⟨⟨⟨⟨k, m, s⟩, nm, ls⟩, hx⟩, body, bv, tests, tv⟩ := c
 simp only at h1 h2 h3 hbl htl
 subst h1 h2 h3
 obtain ⟨va, vc, rfl, hvl, hvr⟩ := hv
 go_enter Tryz.func42, Tryz.ntmps42
 go_upto_region 2 with (go_at_call 69; refine (HTM.out _ HC0.out.bw).mono ?_; clear HTM; rintro e w2 ⟨y1, rfl, hy, hb⟩; have HC2 : Hid (C2 w w2 (Cm.cs ⟨(⟨⟨k, m, s⟩, nm, ls⟩, .slice a hn cap), body, .slice a' body.length cap', tests, .slice a'' tests.length cap''⟩)) := HC0.out.later hb; have HY3 : Hid (OwnT w2 0 y1 TT) := hy.mono (Nat.zero_le _); clear hb hy HC0)
 have hyt := HY3.out.tsP.ts (show TT.length < 1000000000000000000 by omega)
 obtain ⟨ad, cap1, rfl, -, hm⟩ := hyt
 go_wp2_with fail
 go_loopg [6, 7] TT.length (fun g u i wr => ∃ j : Nat, j + g = TT.length /\ i = .int .i64 j /\ LS w2 wr u ((TT.take j).map (ins vs)))
 case atStart => exact ⟨0, by omega, rfl, ownT_nil _ _, Below.refl _ _⟩
 case round =>
  obtain ⟨j, hj, rfl, hls⟩ := hrel
  have HLS : Hid (LS w2 wr u6 ((TT.take j).map (ins vs))) := hls
  clear hls
  cases gk with
  | succ g =>
   have hlt2 : (j : Int) < (TT.length : Int) := by omega
   have j0 : (0 : Int) <= (j : Int) := by omega
   obtain ⟨t, ht⟩ : ∃ t, TT[j]? = some t := ⟨_, List.getElem?_eq_getElem (by omega)⟩
   rcases hm with hm | ⟨b1, o1, rfl, hb1, hm⟩
   ·subst hm; simp at hj
   obtain ⟨p0, p1, p2⟩ := hm j t ht
   have q0 := cell_step HLS.out.bw hb1 p0
   have q1 := cell_step HLS.out.bw hb1 p1
   have q2 := cell_step HLS.out.bw hb1 p2
   have HTJ : Hid ((TT.take j).map (ins vs) ++ [ins vs t] = (TT.take (j + 1)).map (ins vs)) := by show _ = _; rw [List.take_add_one, ht]; simp
   have HLJ : Hid (((TT.take j).map (ins vs)).length <= 1800000000000) := by show _ <= _; rw [List.length_map, List.length_take]; omega
   have HVA : Hid (∀ X : World, Calls Tryz.prog 71 #[t.v] X fun e w' => e = .returned (.bool t.var) /\ Below X.heap.size X w') := fun X => rvar_any t X
   obtain ⟨⟨fk, fn, fs⟩, hf⟩ : ∃ x, ins vs t = x := ⟨_, rfl⟩
   have HNON : Hid (t.var = false -> ins vs t = t) := ins_non
   have HYES : Hid (t.var = true -> ∀ u, vs[t.n.toNat]? = some u -> ins vs t = u) := fun e u hu => ins_yes e hu
   have HFAR : Hid ((vs.length : Int) <= t.n -> ins vs t = t) := ins_far
   have HNN : Hid (t.var = true -> 0 <= t.n) := fun e => by simp only [Tm.var, decide_eq_true_eq] at e; exact e.2.1
   rw [hf] at HTJ HYES HNON HFAR
   have HG0 : Hid (CBlk (wr.alloc (.cells #[.int .i64 t.k, .int .i64 t.n, .string t.s] 36)) wr.heap.size #[.int .i64 t.k, .int .i64 t.n, .string t.s] 36) := CBlk.new _ _ _
   have HL0 : Hid (LS w2 (wr.alloc (.cells #[.int .i64 t.k, .int .i64 t.n, .string t.s] 36)) u6 ((TT.take j).map (ins vs))) := HLS.out.later (below1 _ _)
   have HUB : Hid (∀ k, u6.ownBlock = some k -> k < wr.heap.size) := fun k hk => (HLS.out.ow.lt k hk).2
   have hsB := HLS.out.bw.size
   generalize hVT : t.var = VT at HVA HYES HNON HNN
   clear hm ht p0 p1 p2 hf hVT
   obtain ⟨tk, tn, ts⟩ := t
   simp only at q0 q1 q2 HG0 HL0 HYES HFAR HNN HNON
   generalize (TT.take j).map (ins vs) = LJ at HLS HTJ HLJ HL0
   go_upto_region 7 with fail
   clear q0 q1 q2 HLS
   revert HG0 HL0
   generalize wr.alloc (.cells #[.int .i64 tk, .int .i64 tn, .string ts] 36) = w3
   intro HG0 HL0
   generalize wr.heap.size = B at HG0 HUB hsB ⊢
   obtain ⟨CN, hCN⟩ : ∃ b, (VT && decide (tn < (vs.length : Int))) = b := ⟨_, rfl⟩
   have HCF : Hid (CN = false -> (⟨fk, fn, fs⟩ : Tm) = ⟨tk, tn, ts⟩) := fun e => by
    rw [e] at hCN
    cases VT with
    | false => exact HNON.out rfl
    | true => exact HFAR.out (by simp at hCN; exact hCN)
   have HCT : Hid (CN = true -> VT = true /\ tn < (vs.length : Int) /\ 0 <= tn) := fun e => by
    rw [e] at hCN
    simp only [Bool.and_eq_true, decide_eq_true_eq] at hCN
    exact ⟨hCN.1, hCN.2, HNN.out hCN.1⟩
   have HCN : Hid ((VT && decide (tn < (vs.length : Int))) = CN) := hCN
   clear hCN
   go_cut [29] from 21 to 34 (fun s29 wx => s29 = .bool CN /\ LS w2 wx u6 LJ /\ CBlk wx B #[.int .i64 tk, .int .i64 tn, .string ts] 36)
   case first =>
    obtain ⟨c0, c1, c2⟩ := cthree HG0.out
    cases VT with
    | false =>
     have e : CN = false := by rw [<- HCN.out]; rfl
     subst e
     go_wp2_with (go_at_call 71; refine (HVA.out _).mono ?_; clear HVA; rintro e w4 ⟨rfl, hb⟩; have HL1 : Hid (LS w2 w4 u6 LJ) := HL0.out.later hb; have HG1 : Hid (CBlk w4 B _ 36) := HG0.out.later hb; clear hb c0 c1 c2)
     go_meet
     case rel => exact ⟨rfl, HL1.out, HG1.out⟩
    | true =>
     have e : CN = decide (tn < (vs.length : Int)) := by rw [<- HCN.out]; rfl
     subst e
     go_wp2_with (go_at_call 71; refine (HVA.out _).mono ?_; clear HVA; rintro e w4 ⟨rfl, hb⟩; have HL1 : Hid (LS w2 w4 u6 LJ) := HL0.out.later hb; have HG1 : Hid (CBlk w4 B _ 36) := HG0.out.later hb; clear c0 c1 c2; obtain ⟨c0, c1, c2⟩ := cthree HG1.out; clear hb)
     go_meet
     case rel => exact ⟨rfl, HL1.out, HG1.out⟩
   case rest =>
   obtain ⟨rfl, hl1, hg1⟩ := hcut
   rename World => w4
   have HL1 : Hid (LS w2 w4 u6 LJ) := hl1
   have HG1 : Hid (CBlk w4 B #[.int .i64 tk, .int .i64 tn, .string ts] 36) := hg1
   clear hl1 hg1 HL0 HG0 HVA HCN
   go_upto_if 29 with fail
   go_cut [] from 29 to 34 (fun wx => LS w2 wx u6 LJ /\ CBlk wx B #[.int .i64 fk, .int .i64 fn, .string fs] 36)
   case first =>
    obtain ⟨c0, c1, c2⟩ := cthree HG1.out
    cases CN with
    | false =>
     have e := HCF.out rfl
     simp only [Tm.mk.injEq] at e
     obtain ⟨rfl, rfl, rfl⟩ := e
     go_wp2
     go_meet
     case rel => exact ⟨HL1.out, HG1.out⟩
    | true =>
     obtain ⟨hvt, hin, hn0⟩ := HCT.out rfl
     obtain ⟨u, hu⟩ : ∃ u, vs[tn.toNat]? = some u := ⟨_, List.getElem?_eq_getElem (by omega)⟩
     have e := HYES.out hvt u hu
     rcases hvr with hvr | ⟨b2, o2, rfl, hb2, hvr⟩
     ·subst hvr; simp at hu
     obtain ⟨v0, v1, v2⟩ := hvr tn.toNat u hu
     obtain ⟨nn, hnn⟩ : ∃ n : Nat, tn = (n : Int) := ⟨tn.toNat, by omega⟩
     subst hnn
     rw [Int.toNat_natCast] at v0 v1 v2 hu
     subst e
     simp only at v0 v1 v2
     have hbw : Below w.heap.size w w4 := HC2.out.bw.trans (HL1.out.bw.mono HC2.out.bw.size)
     have x0 := cell_step hbw hb2 v0
     have x1 := cell_step hbw hb2 v1
     have x2 := cell_step hbw hb2 v2
     have f0 : w4.frozen? ⟨B, 0, none⟩ = false := HG1.out.froz
     have f1 : w4.frozen? ⟨B, 1, none⟩ = false := HG1.out.froz
     have f2 : w4.frozen? ⟨B, 2, none⟩ = false := HG1.out.froz
     clear hu hvr v0 v1 v2 hbw hvt
     go_wp2
     go_meet
     case rel =>
      refine ⟨((HL1.out.far hsB HUB.out _).far hsB HUB.out _).far hsB HUB.out _, ?_⟩
      have := ((HG1.out.set 0 (.int .i64 fk)).set 1 (.int .i64 fn)).set 2 (.string fs)
      simpa using this
   case rest =>
    obtain ⟨hl2, hg2⟩ := hcut
    obtain ⟨c0, c1, c2⟩ := cthree hg2
    have HG3 : Hid (CBlk (wc.alloc (.cells #[.int .i64 fk, .int .i64 fn, .string fs] 36)) wc.heap.size #[.int .i64 fk, .int .i64 fn, .string fs] 36) := CBlk.new _ _ _
    have HL3 : Hid (LS w2 (wc.alloc (.cells #[.int .i64 fk, .int .i64 fn, .string fs] 36)) u6 LJ) := hl2.later (below1 _ _)
    clear hl2 hg2 HL1 HG1 HYES HNON HFAR HNN HCF HCT hvr
    go_wp2_with (at_builtin; refine app_terms rfl _ _ rfl w2.heap.size u6 LJ (by rfl) HL3.out.ow (.slice (some ⟨wc.heap.size, 0, none⟩) 1 1) [⟨fk, fn, fs⟩] (by rfl) (TsP.one HG3.out) (by have := HLJ.out; simp only [List.length_cons, List.length_nil]; omega) HL3.out.bw.size ?_; intro v' w4 hown hb3 hg3; have HL4 : Hid (LS w2 w4 v' (LJ ++ [⟨fk, fn, fs⟩])) := ⟨hown, HL3.out.bw.trans hb3⟩; clear hown hb3 hg3 HL3 HG3 c0 c1 c2)
    go_roundg g
    case measure => omega
    case rel => exact ⟨j + 1, by omega, by go_num, by rw [<- HTJ.out]; exact HL4.out⟩
  | zero =>
   obtain rfl : j = TT.length := by omega
   have hz : ¬ ((TT.length : Int) < (TT.length : Int)) := by omega
   rw [List.take_length] at HLS
   have HC3 : Hid (C2 w wr (Cm.cs ⟨(⟨⟨k, m, s⟩, nm, ls⟩, .slice a hn cap), body, .slice a' body.length cap', tests, .slice a'' tests.length cap''⟩)) := HC2.out.later HLS.out.bw
   obtain ⟨c0, c1, c2, c3, c4, c5, c6⟩ := cseven HC3.out.bc
   have n4 : w.heap.size <= w.heap.size + 1 := by omega
   clear hm HC2 hvr
   go_wp2_with (go_at_call 72; refine (HPU.out _ _ HC3.out.bw (HLS.out.ow.mono (Nat.zero_le _))).mono ?_; clear HPU; rintro e w5 ⟨d, rfl, hk, hmc, hb⟩; obtain ⟨x1, x2, x3, x4, x5, x6, x7, x8, x9, e1, e2, e3⟩ := Cm.form hmc; obtain ⟨⟨⟨⟨dk, dn, ds⟩, dm, da⟩, dv⟩, db, dbv, dt, dtv⟩ := d; simp only at e1 e2 e3; subst e1 e2 e3; have HMC : Hid (MCl (w.heap.size + 1 + 1) w5 ⟨(⟨⟨dk, dn, ds⟩, dm, da⟩, .slice x1 x2 x3), db, .slice x4 x5 x6, dt, .slice x7 x8 x9⟩) := hmc.mono HC3.out.sz; have HK : Hid (Cm.key ⟨(⟨⟨dk, dn, ds⟩, dm, da⟩, .slice x1 x2 x3), db, .slice x4 x5 x6, dt, .slice x7 x8 x9⟩ = KEY) := hk; have HC4 : Hid (C2 w w5 (Cm.cs ⟨(⟨⟨k, m, s⟩, nm, ls⟩, .slice a hn cap), body, .slice a' body.length cap', tests, .slice a'' tests.length cap''⟩)) := HC3.out.later hb; clear hb hmc hk c0 c1 c2 c3 c4 c5 c6 HC3; obtain ⟨r0, r1, r2, r3, r4, r5, r6⟩ := cseven HC4.out.br; have f0 : w5.frozen? ⟨w.heap.size + 1, 0, none⟩ = false := HC4.out.br.froz; have f1 : w5.frozen? ⟨w.heap.size + 1, 1, none⟩ = false := HC4.out.br.froz; have f2 : w5.frozen? ⟨w.heap.size + 1, 2, none⟩ = false := HC4.out.br.froz; have f3 : w5.frozen? ⟨w.heap.size + 1, 3, none⟩ = false := HC4.out.br.froz; have f4 : w5.frozen? ⟨w.heap.size + 1, 4, none⟩ = false := HC4.out.br.froz; have f5 : w5.frozen? ⟨w.heap.size + 1, 5, none⟩ = false := HC4.out.br.froz; have f6 : w5.frozen? ⟨w.heap.size + 1, 6, none⟩ = false := HC4.out.br.froz)
   have n3 : w.heap.size + 1 < w.heap.size + 1 + 1 := by omega
   refine bodyPost_ret (v := Cm.v ⟨(⟨⟨dk, dn, ds⟩, dm, da⟩, .slice x1 x2 x3), db, .slice x4 x5 x6, dt, .slice x7 x8 x9⟩) (by simp [results, Tryz.results42, go_sem, r0, r1, r2, r3, r4, r5, r6]) rfl ⟨_, rfl, HK.out, ?_, ?_⟩
   ·exact (((((((HMC.out.set n3 _).set n3 _).set n3 _).set n3 _).set n3 _).set n3 _).set n3 _).mono (by omega)
   ·exact ((((((HC4.out.bw.setCell n4 _).setCell n4 _).setCell n4 _).setCell n4 _).setCell n4 _).setCell n4 _).setCell n4 _
end Go.Proofs.YtcejljehjhlonaaGreatDoor
namespace Go.Proofs.YtcejljehjhlonaaGreatDoor
open Go.RowKit

def vS (l : List Int) (t : Tm) : List Int := if t.var then (if l.any (fun n => decide (n = t.n)) then l else l ++ [t.n]) else l
def vs (pl : List Tm) : List Int := pl.foldl vS []
end Go.Proofs.YtcejljehjhlonaaGreatDoor
