import Derived.Test.YtllgffmhbddigaaGreatMD11
/-
  ref's Normal. (Written by MD12.py.)
-/
namespace Go.Proofs.YtllgffmhbddigaaGreat
open Go.RowKit
attribute [local go_sem ↓] Go.wp_at_zero Go.wp_at_succ

/-- A clause's box and the answer's. -/
structure C2 (w X : World) (o : Array Value) : Prop where
  bc : CBlk X w.heap.size o 30
  br : CBlk X (w.heap.size + 1) zcs 30
  bw : Below w.heap.size w X
  sz : w.heap.size + 1 + 1 ≤ X.heap.size
theorem C2.later {w X X' : World} {o : Array Value} (H : C2 w X o) (hb : Below X.heap.size X X') : C2 w X' o := ⟨H.bc.later hb, H.br.later hb, below_step H.bw hb, Nat.le_trans H.sz hb.size⟩
theorem C2.start (w : World) (o : Array Value) : C2 w ((w.alloc (.cells o 30)).alloc (.cells zcs 30)) o := by
  have x2 := CBlk.new (w.alloc (.cells o 30)) zcs 30
  rw [show (w.alloc (.cells o 30)).heap.size = w.heap.size + 1 by simp] at x2
  exact ⟨(CBlk.new w o 30).later (below1 _ _), x2, below2 _ _ _, by simp⟩
theorem Cm.form {B : Nat} {X : World} {d : Cm} (h : MCl B X d) : ∃ a n cap a' n' cap' a'' n'' cap'', d.head.2 = .slice a n cap ∧ d.bv = .slice a' n' cap' ∧ d.tv = .slice a'' n'' cap'' := by
  obtain ⟨a, n, cap, e1⟩ := ownT_form4 h.h
  obtain ⟨a', cap', e2⟩ := h.b.form
  obtain ⟨a'', cap'', e3⟩ := h.t.form
  exact ⟨a, n, cap, a', _, cap', a'', _, cap'', e1, e2, e3⟩
/-- The list so far, since W. -/
structure LS (W X : World) (u : Value) (L : List Tm) : Prop where
  ow : OwnT X W.heap.size u L
  bw : Below W.heap.size W X
theorem LS.later {W X X' : World} {u : Value} {L : List Tm} (h : LS W X u L) (hb : Below X.heap.size X X') : LS W X' u L := ⟨h.ow.later hb, below_step h.bw hb⟩
theorem LS.far {W X : World} {u : Value} {L : List Tm} {B i : Nat} (h : LS W X u L) (hB : W.heap.size ≤ B) (hu : ∀ k, u.ownBlock = some k → k < B) (c : Value) : LS W (X.setCell ⟨B, i, none⟩ c) u L :=
  ⟨h.ow.off (fun k hk => Nat.ne_of_lt (hu k hk)), h.bw.setCell (show W.heap.size ≤ B from hB) _⟩
theorem nmT_plc_yes {V : List Tm} {t : Tm} (h : 0 ≤ plc V t) : nmT V t = ⟨3, plc V t, ⟨#[]⟩⟩ := by
  unfold plc at h ⊢; unfold nmT
  by_cases hm : t ∈ V
  · rw [if_pos hm, if_pos hm]
  · rw [if_neg hm] at h; omega
theorem nmT_plc_no {V : List Tm} {t : Tm} (h : ¬ 0 ≤ plc V t) : nmT V t = t := by
  unfold plc at h; unfold nmT
  by_cases hm : t ∈ V
  · rw [if_pos hm] at h; omega
  · rw [if_neg hm]
set_option maxRecDepth 20000 in
set_option maxHeartbeats 4000000 in
theorem normal3_any (c : Cm) (w : World) (h : c.ok w) (hh : TsP w c.head.2 c.head.1.args) (hp : ∀ x ∈ c.body, TsP w x.2 x.1.args) (hl : c.terms.length ≤ 1800000000000) (hlb : c.body.length ≤ 1800000000000) (hlt : c.tests.length ≤ 1800000000000) :
    Calls Tryz.prog 39 #[c.v] w fun e w' => ∃ d : Cm, e = .returned d.v ∧ d.key = normC c.key ∧ MCl w.heap.size w' d ∧ Below w.heap.size w w' := by
  obtain ⟨⟨a, hn, cap, h1⟩, ⟨a', cap', h2⟩, ⟨a'', cap'', h3⟩, hbl, htl⟩ := h.shape
  have hl1 : c.head.1.args.length ≤ 3900000000000 := by rw [Cm.terms_eq] at hl; simp [At.pl] at hl; omega
  have hl4 : ∀ x ∈ c.body, x.1.args.length ≤ 3900000000000 := fun x hx => by
    have : x.1.pl.length ≤ (flt c.body).length := by
      obtain ⟨i, hi, rfl⟩ := List.getElem_of_mem hx
      have e := flt_next (List.getElem?_eq_getElem hi)
      have e2 := flt_take c.body (i + 1)
      rw [← e, List.length_append] at e2; omega
    rw [Cm.terms_eq] at hl
    simp only [List.length_append, At.pl, List.length_cons] at hl this
    omega
  have HTM : Hid (∀ X : World, Below w.heap.size w X → Calls Tryz.prog 79 #[c.v] X fun e w' => ∃ v', e = .returned v' ∧ OwnT w' X.heap.size v' c.terms ∧ Below X.heap.size X w') := fun X hX => terms3_any c X (h.later hX) (hh.later hX) (fun x hx => (hp x hx).later hX) (by omega)
  have HVR : Hid (∀ (X : World) (y : Value), OwnT X 0 y c.terms → Calls Tryz.prog 80 #[y] X fun e w' => ∃ v', e = .returned v' ∧ OwnT w' X.heap.size v' (disT c.terms) ∧ Below X.heap.size X w') := fun X y hy => variables3_any _ y X (hy.tsP.ts (by omega)) (by omega)
  have HPL : Hid (∀ (X : World) (y : Value) (t : Tm), OwnT X 0 y (disT c.terms) → Calls Tryz.prog 81 #[y, t.v] X fun e w' => e = .returned (.int .i64 (plc (disT c.terms) t)) ∧ Below X.heap.size X w') := fun X y t hy => place3_any _ y t X (hy.tsP.ts (by have := disT_len c.terms; omega))
  have HPU : Hid (∀ (X : World) (y : Value), Below w.heap.size w X → OwnT X 0 y (c.terms.map (nmT (disT c.terms))) → Calls Tryz.prog 82 #[c.v, y] X fun e w' => ∃ d : Cm, e = .returned d.v ∧ d.key = normC c.key ∧ MCl X.heap.size w' d ∧ Below X.heap.size X w') := fun X y hX hy => by
    have := put3_any (nmT (disT c.terms)) c y X (h.later hX) (hy.tsP.ts (by rw [List.length_map]; omega)) hl1 hlb hlt hl4
    have e : mapC (nmT (disT c.terms)) c.key = normC c.key := by unfold normC; rw [← key_terms]
    rw [e] at this
    exact this
  have HC0 : Hid (C2 w _ c.cs) := C2.start w c.cs
  generalize normC c.key = KEY at HPU
  generalize c.terms = TT at HTM HVR HPL HPU hl
  obtain ⟨V, hV⟩ : ∃ V, disT TT = V := ⟨_, rfl⟩
  rw [hV] at HVR HPL HPU
  clear hV h hh hp hl1 hl4
  obtain ⟨⟨⟨⟨k, m, s⟩, nm, ls⟩, hx⟩, body, bv, tests, tv⟩ := c
  simp only at h1 h2 h3 hbl htl
  subst h1 h2 h3
  go_enter Tryz.func39, Tryz.ntmps39
  go_upto_region 3 with (first
    | (go_at_call 79; refine (HTM.out _ HC0.out.bw).mono ?_; clear HTM; rintro e w1 ⟨y1, rfl, hy, hb⟩; have HC1 : Hid (C2 w w1 (Cm.cs ⟨(⟨⟨k, m, s⟩, nm, ls⟩, .slice a hn cap), body, .slice a' body.length cap', tests, .slice a'' tests.length cap''⟩)) := HC0.out.later hb; have HY1 : Hid (OwnT w1 0 y1 TT) := hy.mono (Nat.zero_le _); clear hb hy HC0)
    | (go_at_call 80; refine (HVR.out _ _ HY1.out).mono ?_; clear HVR; rintro e w2 ⟨y2, rfl, hy, hb⟩; have HC2 : Hid (C2 w w2 (Cm.cs ⟨(⟨⟨k, m, s⟩, nm, ls⟩, .slice a hn cap), body, .slice a' body.length cap', tests, .slice a'' tests.length cap''⟩)) := HC1.out.later hb; have HY2 : Hid (OwnT w2 0 y2 V) := hy.mono (Nat.zero_le _); have HY3 : Hid (OwnT w2 0 y1 TT) := HY1.out.later hb; clear hb hy HC1 HY1))
  have hyt := HY3.out.tsP.ts (show TT.length < 1000000000000000000 by omega)
  obtain ⟨ad, cap1, rfl, -, hm⟩ := hyt
  go_wp2_with fail
  go_loopg [5, 6] TT.length (fun g u i wr => ∃ j : Nat, j + g = TT.length ∧ i = .int .i64 j ∧ LS w2 wr u ((TT.take j).map (nmT V)))
  case atStart => exact ⟨0, by omega, rfl, ownT_nil _ _, Below.refl _ _⟩
  case round =>
    obtain ⟨j, hj, rfl, hls⟩ := hrel
    have HLS : Hid (LS w2 wr u5 ((TT.take j).map (nmT V))) := hls
    clear hls
    cases gk with
    | succ g =>
      have hlt2 : (j : Int) < (TT.length : Int) := by omega
      have j0 : (0 : Int) ≤ (j : Int) := by omega
      obtain ⟨t, ht⟩ : ∃ t, TT[j]? = some t := ⟨_, List.getElem?_eq_getElem (by omega)⟩
      rcases hm with hm | ⟨b1, o1, rfl, hb1, hm⟩
      · subst hm; simp at hj
      obtain ⟨p0, p1, p2⟩ := hm j t ht
      have q0 := cell_step HLS.out.bw hb1 p0
      have q1 := cell_step HLS.out.bw hb1 p1
      have q2 := cell_step HLS.out.bw hb1 p2
      have HTJ : Hid ((TT.take j).map (nmT V) ++ [nmT V t] = (TT.take (j + 1)).map (nmT V)) := by show _ = _; rw [List.take_add_one, ht]; simp
      have HLJ : Hid (((TT.take j).map (nmT V)).length ≤ 1800000000000) := by show _ ≤ _; rw [List.length_map, List.length_take]; omega
      have HPX : Hid (∀ X : World, Below w2.heap.size w2 X → Calls Tryz.prog 81 #[y2, t.v] X fun e w' => e = .returned (.int .i64 (plc V t)) ∧ Below X.heap.size X w') := fun X hX => HPL.out X y2 t (HY2.out.later hX)
      obtain ⟨⟨fk, fn, fs⟩, hf⟩ : ∃ x, nmT V t = x := ⟨_, rfl⟩
      have HYES : Hid (0 ≤ plc V t → nmT V t = ⟨3, plc V t, ⟨#[]⟩⟩) := nmT_plc_yes
      have HNO : Hid (¬ 0 ≤ plc V t → nmT V t = t) := nmT_plc_no
      rw [hf] at HTJ HYES HNO
      obtain ⟨pp, hpp⟩ : ∃ p, plc V t = p := ⟨_, rfl⟩
      rw [hpp] at HPX HYES HNO
      have HG0 : Hid (CBlk (wr.alloc (.cells #[.int .i64 t.k, .int .i64 t.n, .string t.s] 23)) wr.heap.size #[.int .i64 t.k, .int .i64 t.n, .string t.s] 23) := CBlk.new _ _ _
      have HUB : Hid (∀ k, u5.ownBlock = some k → k < wr.heap.size) := fun k hk => (HLS.out.ow.lt k hk).2
      have hsB := HLS.out.bw.size
      clear hm ht p0 p1 p2 hf hpp HPL
      obtain ⟨tk, tn, ts⟩ := t
      simp only at q0 q1 q2 HG0
      generalize (TT.take j).map (nmT V) = LJ at HLS HTJ HLJ
      go_upto_if 27 with (go_at_call 81; refine (HPX.out _ (below_step HLS.out.bw (below1 _ _))).mono ?_; clear HPX; rintro e w3 ⟨rfl, hb⟩; have HL1 : Hid (LS w2 w3 u5 LJ) := (HLS.out.later (below1 _ _)).later hb; have HG1 : Hid (CBlk w3 wr.heap.size #[.int .i64 tk, .int .i64 tn, .string ts] 23) := HG0.out.later hb; clear hb)
      clear q0 q1 q2 HLS HG0
      generalize wr.heap.size = B at HG1 HUB hsB ⊢
      go_cut [] from 27 to 33 (fun wx => LS w2 wx u5 LJ ∧ CBlk wx B #[.int .i64 fk, .int .i64 fn, .string fs] 23)
      case first =>
        by_cases hpp : 0 ≤ pp
        · have e := HYES.out hpp
          simp only [Tm.mk.injEq] at e
          obtain ⟨rfl, rfl, rfl⟩ := e
          obtain ⟨c0, c1, c2⟩ := cthree HG1.out
          have f0 : w3.frozen? ⟨B, 0, none⟩ = false := HG1.out.froz
          have f1 : w3.frozen? ⟨B, 1, none⟩ = false := HG1.out.froz
          have f2 : w3.frozen? ⟨B, 2, none⟩ = false := HG1.out.froz
          go_wp2
          go_meet
          case rel =>
            refine ⟨((HL1.out.far hsB HUB.out _).far hsB HUB.out _).far hsB HUB.out _, ?_⟩
            have := ((HG1.out.set 0 (.int .i64 3)).set 1 (.int .i64 fn)).set 2 (.string ⟨#[]⟩)
            simpa using this
        · have e := HNO.out (by omega)
          simp only [Tm.mk.injEq] at e
          obtain ⟨rfl, rfl, rfl⟩ := e
          go_wp2
          go_meet
          case rel => exact ⟨HL1.out, HG1.out⟩
      case rest =>
        obtain ⟨hl2, hg2⟩ := hcut
        have HL2 : Hid (LS w2 wc u5 LJ) := hl2
        obtain ⟨c0, c1, c2⟩ := cthree hg2
        have HG3 : Hid (CBlk (wc.alloc (.cells #[.int .i64 fk, .int .i64 fn, .string fs] 23)) wc.heap.size #[.int .i64 fk, .int .i64 fn, .string fs] 23) := CBlk.new _ _ _
        have HL3 : Hid (LS w2 (wc.alloc (.cells #[.int .i64 fk, .int .i64 fn, .string fs] 23)) u5 LJ) := hl2.later (below1 _ _)
        clear hl2 hg2 HL1 HG1 HYES HNO
        go_wp2_with (at_builtin; refine app_terms rfl _ _ rfl w2.heap.size u5 LJ (by rfl) HL3.out.ow (.slice (some ⟨wc.heap.size, 0, none⟩) 1 1) [⟨fk, fn, fs⟩] (by rfl) (TsP.one HG3.out) (by have := HLJ.out; simp only [List.length_cons, List.length_nil]; omega) HL3.out.bw.size ?_; intro v' w4 hown hb3 hg3; have HL4 : Hid (LS w2 w4 v' (LJ ++ [⟨fk, fn, fs⟩])) := ⟨hown, HL3.out.bw.trans hb3⟩; clear hown hb3 hg3 HL3 HG3 HL2 c0 c1 c2)
        go_roundg g
        case measure => omega
        case rel => exact ⟨j + 1, by omega, by go_num, by rw [← HTJ.out]; exact HL4.out⟩
    | zero =>
      obtain rfl : j = TT.length := by omega
      have hz : ¬ ((TT.length : Int) < (TT.length : Int)) := by omega
      rw [List.take_length] at HLS
      have HC3 : Hid (C2 w wr (Cm.cs ⟨(⟨⟨k, m, s⟩, nm, ls⟩, .slice a hn cap), body, .slice a' body.length cap', tests, .slice a'' tests.length cap''⟩)) := HC2.out.later HLS.out.bw
      obtain ⟨c0, c1, c2, c3, c4, c5, c6⟩ := cseven HC3.out.bc
      have n4 : w.heap.size ≤ w.heap.size + 1 := by omega
      clear hm HPL HC2
      go_wp2_with (go_at_call 82; refine (HPU.out _ _ HC3.out.bw (HLS.out.ow.mono (Nat.zero_le _))).mono ?_; clear HPU; rintro e w5 ⟨d, rfl, hk, hmc, hb⟩; obtain ⟨x1, x2, x3, x4, x5, x6, x7, x8, x9, e1, e2, e3⟩ := Cm.form hmc; obtain ⟨⟨⟨⟨dk, dn, ds⟩, dm, da⟩, dv⟩, db, dbv, dt, dtv⟩ := d; simp only at e1 e2 e3; subst e1 e2 e3; have HMC : Hid (MCl (w.heap.size + 1 + 1) w5 ⟨(⟨⟨dk, dn, ds⟩, dm, da⟩, .slice x1 x2 x3), db, .slice x4 x5 x6, dt, .slice x7 x8 x9⟩) := hmc.mono HC3.out.sz; have HK : Hid (Cm.key ⟨(⟨⟨dk, dn, ds⟩, dm, da⟩, .slice x1 x2 x3), db, .slice x4 x5 x6, dt, .slice x7 x8 x9⟩ = KEY) := hk; have HC4 : Hid (C2 w w5 (Cm.cs ⟨(⟨⟨k, m, s⟩, nm, ls⟩, .slice a hn cap), body, .slice a' body.length cap', tests, .slice a'' tests.length cap''⟩)) := HC3.out.later hb; clear hb hmc hk c0 c1 c2 c3 c4 c5 c6 HC3; obtain ⟨r0, r1, r2, r3, r4, r5, r6⟩ := cseven HC4.out.br; have f0 : w5.frozen? ⟨w.heap.size + 1, 0, none⟩ = false := HC4.out.br.froz; have f1 : w5.frozen? ⟨w.heap.size + 1, 1, none⟩ = false := HC4.out.br.froz; have f2 : w5.frozen? ⟨w.heap.size + 1, 2, none⟩ = false := HC4.out.br.froz; have f3 : w5.frozen? ⟨w.heap.size + 1, 3, none⟩ = false := HC4.out.br.froz; have f4 : w5.frozen? ⟨w.heap.size + 1, 4, none⟩ = false := HC4.out.br.froz; have f5 : w5.frozen? ⟨w.heap.size + 1, 5, none⟩ = false := HC4.out.br.froz; have f6 : w5.frozen? ⟨w.heap.size + 1, 6, none⟩ = false := HC4.out.br.froz)
      have n3 : w.heap.size + 1 < w.heap.size + 1 + 1 := by omega
      refine bodyPost_ret (v := Cm.v ⟨(⟨⟨dk, dn, ds⟩, dm, da⟩, .slice x1 x2 x3), db, .slice x4 x5 x6, dt, .slice x7 x8 x9⟩) (by simp [results, Tryz.results39, go_sem, r0, r1, r2, r3, r4, r5, r6]) rfl ⟨_, rfl, HK.out, ?_, ?_⟩
      · exact (((((((HMC.out.set n3 _).set n3 _).set n3 _).set n3 _).set n3 _).set n3 _).set n3 _).mono (by omega)
      · exact ((((((HC4.out.bw.setCell n4 _).setCell n4 _).setCell n4 _).setCell n4 _).setCell n4 _).setCell n4 _).setCell n4 _
end Go.Proofs.YtllgffmhbddigaaGreat
/-
  Made: what it does to its clause.
-/
namespace Go.Proofs.YtllgffmhbddigaaGreat
open Go.RowKit

theorem tcs_set : ∀ (l : List Tm) (j : Nat) (t : Tm), j < l.length → tcs (l.set j t) = (((tcs l).set (j * 3) (.int .i64 t.k)).set (j * 3 + 1) (.int .i64 t.n)).set (j * 3 + 2) (.string t.s)
  | a :: l, 0, t, _ => by simp [tcs, Tm.cs]
  | a :: l, j + 1, t, h => by
    have ih := tcs_set l j t (by simpa using h)
    have e : ∀ m : List Tm, tcs (a :: m) = a.cs ++ tcs m := fun m => by simp [tcs]
    have hc : a.cs.length = 3 := rfl
    rw [List.set_cons_succ, e, e, ih, List.set_append_right _ _ (by omega), List.set_append_right _ _ (by omega), List.set_append_right _ _ (by omega), hc]
    rw [show (j + 1) * 3 - 3 = j * 3 by omega, show (j + 1) * 3 + 1 - 3 = j * 3 + 1 by omega, show (j + 1) * 3 + 2 - 3 = j * 3 + 2 by omega]
abbrev Tput (X : World) (g j : Nat) (t : Tm) : World := ((X.setCell ⟨g, j * 3, none⟩ (.int .i64 t.k)).setCell ⟨g, j * 3 + 1, none⟩ (.int .i64 t.n)).setCell ⟨g, j * 3 + 2, none⟩ (.string t.s)
theorem OwnT.put {X : World} {base g n cap j : Nat} {L : List Tm} (h : OwnT X base (.slice (some ⟨g, 0, none⟩) n cap) L) (hj : j < L.length) (t : Tm) : OwnT (Tput X g j t) base (.slice (some ⟨g, 0, none⟩) n cap) (L.set j t) := by
  have hlen := h.1
  rcases h.2 with ⟨h, _⟩ | ⟨g', cap', cur, hv, hb, hg, hn, hc, hs, ht⟩
  · cases h
  · simp only [Value.slice.injEq, Option.some.injEq, Addr.mk.injEq] at hv
    obtain ⟨⟨rfl, -⟩, rfl, rfl⟩ := hv
    have k1 := heap_setCell_same _ _ (j * 3) _ _ (.int .i64 t.k) hg
    have k2 := heap_setCell_same _ _ (j * 3 + 1) _ _ (.int .i64 t.n) k1
    have k3 := heap_setCell_same _ _ (j * 3 + 2) _ _ (.string t.s) k2
    refine ⟨by rw [tcs_len, List.length_set], Or.inr ⟨g, cap, _, by rw [List.length_set], hb, k3, by rw [List.length_set]; exact hn, hc, by simpa using hs, ?_⟩⟩
    rw [List.length_set, tcs_set L j t hj, ← ht]
    simp [List.take_set]
theorem OwnT.some {X : World} {base : Nat} {v : Value} {L : List Tm} (h : OwnT X base v L) (hL : 0 < L.length) : ∃ g cap, v = .slice (some ⟨g, 0, none⟩) L.length cap := by
  rcases h.2 with ⟨_, hn⟩ | ⟨g', cap', cur, hv, -⟩
  · omega
  · exact ⟨g', cap', hv⟩
abbrev zH : At × Value := (⟨zt, ⟨#[]⟩, []⟩, .slice none 0 0)
theorem U0.us {w X : World} {o : Array Value} (H : U0 w X o) : US w X o zH (.slice none 0 0) [] (.slice none 0 0) [] :=
  ⟨H.bc, H.br, H.bo, ownT_nil _ _, OwnA.nil _ _, fun x hx => by simp at hx, OwnE.nil _ _, fun k hk => by simp [Value.ownBlock] at hk, fun k hk => by simp [Value.ownBlock] at hk, H.bw, H.sz⟩
/-- Another head. -/
theorem US.head {w X : World} {o : Array Value} {h0 : At × Value} {bu : Value} {LB : List (At × Value)} {tu : Value} {LT : List Te} (H : US w X o h0 bu LB tu LT) (h : At × Value) (hh : OwnT X (w.heap.size + 3) h.2 h.1.args)
    (n1 : ∀ k, bu.ownBlock = some k → h.2.ownBlock ≠ some k) (n2 : ∀ k, tu.ownBlock = some k → h.2.ownBlock ≠ some k) : US w (Hput X (w.heap.size + 1 + 1) h) o h bu LB tu LT := by
  have m1 : w.heap.size ≠ w.heap.size + 1 + 1 := by omega
  have m2 : w.heap.size + 1 ≠ w.heap.size + 1 + 1 := by omega
  have n3 : w.heap.size + 1 + 1 < w.heap.size + 3 := by omega
  have n4 : w.heap.size ≤ w.heap.size + 1 + 1 := by omega
  refine ⟨((((H.bc.off m1).off m1).off m1).off m1).off m1, ((((H.br.off m2).off m2).off m2).off m2).off m2, ?_, ((((hh.set n3).set n3).set n3).set n3).set n3, ((((H.ba.set n3).set n3).set n3).set n3).set n3, fun x hx => (((((H.bt x hx).set n3).set n3).set n3).set n3).set n3, ((((H.et.set n3).set n3).set n3).set n3).set n3,
    fun k hk => ⟨n1 k hk, (H.s1 k hk).2⟩, fun k hk => ⟨n2 k hk, (H.s2 k hk).2⟩, ((((H.bw.setCell n4 _).setCell n4 _).setCell n4 _).setCell n4 _).setCell n4 _, by simpa [World.setCell] using H.sz⟩
  have := ((((H.bo.set 0 (.int .i64 h.1.by_.k)).set 1 (.int .i64 h.1.by_.n)).set 2 (.string h.1.by_.s)).set 3 (.string h.1.name)).set 4 h.2
  simpa using this
/-- The head without its qualifier. -/
theorem US.by0 {w X : World} {o : Array Value} {h : At × Value} {bu : Value} {LB : List (At × Value)} {tu : Value} {LT : List Te} (H : US w X o h bu LB tu LT) :
    US w (((X.setCell ⟨w.heap.size + 1 + 1, 0, none⟩ (.int .i64 0)).setCell ⟨w.heap.size + 1 + 1, 1, none⟩ (.int .i64 0)).setCell ⟨w.heap.size + 1 + 1, 2, none⟩ (.string ⟨#[]⟩)) o (⟨zt, h.1.name, h.1.args⟩, h.2) bu LB tu LT := by
  have m1 : w.heap.size ≠ w.heap.size + 1 + 1 := by omega
  have m2 : w.heap.size + 1 ≠ w.heap.size + 1 + 1 := by omega
  have n3 : w.heap.size + 1 + 1 < w.heap.size + 3 := by omega
  have n4 : w.heap.size ≤ w.heap.size + 1 + 1 := by omega
  refine ⟨((H.bc.off m1).off m1).off m1, ((H.br.off m2).off m2).off m2, ?_, ((H.hw.set n3).set n3).set n3, ((H.ba.set n3).set n3).set n3, fun x hx => (((H.bt x hx).set n3).set n3).set n3, ((H.et.set n3).set n3).set n3, H.s1, H.s2, ((H.bw.setCell n4 _).setCell n4 _).setCell n4 _, by simpa [World.setCell] using H.sz⟩
  have := ((H.bo.set 0 (.int .i64 0)).set 1 (.int .i64 0)).set 2 (.string ⟨#[]⟩)
  simpa [zt] using this
/-- One argument of the head. -/
theorem US.arg {w X : World} {o : Array Value} {b : Tm} {nm : ByteArray} {L : List Tm} {g n cap : Nat} {bu : Value} {LB : List (At × Value)} {tu : Value} {LT : List Te} (H : US w X o (⟨b, nm, L⟩, .slice (some ⟨g, 0, none⟩) n cap) bu LB tu LT)
    (hsep : ∀ x ∈ LB, x.2.ownBlock ≠ some g) {j : Nat} (hj : j < L.length) (t : Tm) : US w (Tput X g j t) o (⟨b, nm, L.set j t⟩, .slice (some ⟨g, 0, none⟩) n cap) bu LB tu LT := by
  have hg := (H.hw.lt g rfl).1
  have n1 : ∀ k, bu.ownBlock = some k → k ≠ g := fun k hk e => (H.s1 k hk).1 (by rw [e]; rfl)
  have n2 : ∀ k, tu.ownBlock = some k → k ≠ g := fun k hk e => (H.s2 k hk).1 (by rw [e]; rfl)
  have n3 : ∀ x ∈ LB, ∀ k, x.2.ownBlock = some k → k ≠ g := fun x hx k hk e => hsep x hx (by rw [hk, e])
  refine ⟨((H.bc.off (by omega)).off (by omega)).off (by omega), ((H.br.off (by omega)).off (by omega)).off (by omega), ((H.bo.off (by omega)).off (by omega)).off (by omega), H.hw.put hj t, ((H.ba.off n1).off n1).off n1, fun x hx => (((H.bt x hx).off (n3 x hx)).off (n3 x hx)).off (n3 x hx), ((H.et.off n2).off n2).off n2, H.s1, H.s2,
    ((H.bw.setCell (show w.heap.size ≤ g by omega) _).setCell (show w.heap.size ≤ g by omega) _).setCell (show w.heap.size ≤ g by omega) _, by simpa [World.setCell] using H.sz⟩
theorem mix_step {L : List Tm} {g : Tm → Tm} {j : Nat} {t : Tm} (h : L[j]? = some t) : ((L.take j).map g ++ L.drop j).set j (g t) = (L.take (j + 1)).map g ++ L.drop (j + 1) ∧ ((L.take j).map g ++ L.drop j)[j]? = some t := by
  obtain ⟨hj, e⟩ := List.getElem?_eq_some_iff.1 h
  have e0 := List.drop_eq_getElem_cons hj
  rw [e] at e0
  have hl : ((L.take j).map g).length = j := by rw [List.length_map, List.length_take]; omega
  rw [e0]
  constructor
  · rw [List.set_append_right _ _ (by omega), hl, Nat.sub_self, List.set_cons_zero, List.take_add_one, h]; simp
  · rw [List.getElem?_append_right (by omega), hl, Nat.sub_self]; rfl
end Go.Proofs.YtllgffmhbddigaaGreat
