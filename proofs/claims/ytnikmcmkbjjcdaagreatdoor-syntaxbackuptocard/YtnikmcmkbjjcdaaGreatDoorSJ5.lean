import Derived.Test.YtnikmcmkbjjcdaaGreatDoorSV6
import Derived.Test.YtnikmcmkbjjcdaaGreatDoorSY27
import Derived.Test.YtnikmcmkbjjcdaaGreatDoorCL17
/-
  syntax: Clause of a text that says one.
-/
namespace Go.Proofs.YtnikmcmkbjjcdaaGreatDoor
open Go.RowKit
attribute [local go_sem ↓] Go.wp_at_zero Go.wp_at_succ

theorem store7a {w : World} {g : Nat} {t : TypeId} {z0 z1 z2 z3 z4 z5 z6 a b c d e f k : Value} (h : Bk w g #[z0, z1, z2, z3, z4, z5, z6] t) : Bk (((((((w.setCell ⟨g, 0, none⟩ a).setCell ⟨g, 1, none⟩ b).setCell ⟨g, 2, none⟩ c).setCell ⟨g, 3, none⟩ d).setCell ⟨g, 4, none⟩ e).setCell ⟨g, 5, none⟩ f).setCell ⟨g, 6, none⟩ k) g #[a, b, c, d, e, f, k] t := store7y h
set_option maxRecDepth 20000 in
set_option maxHeartbeats 4000000 in
theorem clause5_any (s : ByteArray) (x : Ck) (hs : s.size ≤ 9000000) (w : World) (hE : EnvOk w) (hO : OpsOk w) (hx : pg5 s 32768 = .ok [x]) :
    Calls Tryz.prog 15 #[.string s] w fun e w' => ∃ d : Cm, e = .returned (.tuple #[d.v, .agg #[.int .i64 0, .int .i64 0]]) ∧ d.key = x ∧ d.ok w' ∧ Below w.heap.size w w' := by
  obtain ⟨t1, t2, t3⟩ := two5 w #[.int .i64 0, .int .i64 0, .string ⟨#[]⟩, .string ⟨#[]⟩, .slice none 0 0, .slice none 0 0, .slice none 0 0] #[.int .i64 0, .int .i64 0] 37 26
  have HB0 := hm7 t3
  have HR0 := hm7 t1
  have HA0 := hm7 t2
  have HRD := hm7 (readC_any s 32768 hs (by decide) _ (hE.later HB0.out) (hO.fr (P := fun _ => False) (Fr.of HB0.out) fun h => h))
  rw [hx] at HRD
  clear hE hO hx t1 t2 t3
  obtain ⟨Y0, hY0⟩ : ∃ Y0, (w.alloc (.cells #[.int .i64 0, .int .i64 0, .string ⟨#[]⟩, .string ⟨#[]⟩, .slice none 0 0, .slice none 0 0, .slice none 0 0] 37)).alloc (.cells #[.int .i64 0, .int .i64 0] 26) = Y0 := ⟨_, rfl⟩
  rw [hY0] at HB0 HR0 HA0 HRD
  have HY0 := hm7 hY0
  obtain ⟨p, hp⟩ : ∃ p, w.heap.size = p := ⟨_, rfl⟩
  obtain ⟨q, hq⟩ : ∃ q, p + 1 = q := ⟨_, rfl⟩
  rw [hp] at HA0 HR0
  rw [hq] at HR0
  have HP := hm7 hp
  have HQ := hm7 hq
  have hpq : p ≠ q := by omega
  have hqp : q ≠ p := by omega
  have HPW : Hid (w.heap.size ≤ p) := by show _ ≤ _; omega
  have HQW : Hid (w.heap.size ≤ q) := by show _ ≤ _; omega
  clear hY0 hp hq
  go_enter Tryz.func15, Tryz.ntmps15
  go_upto_region 1 with fail
  rw [HY0.out, HP.out, HQ.out]
  clear HY0
  go_upto_region 2 with (go_at_call 28; refine HRD.out.mono ?_; rintro e W1 ⟨hb, v, c, a, rfl, rfl, rfl, l, hk, hrl⟩; have hl1 : l.length = 1 := (by have := congrArg List.length hk; simpa using this); obtain ⟨vg, vc, hvf⟩ := row5_pos hrl.o (by omega); rw [hl1] at hvf; subst hvf; have HK := hm7 hk; have HL1 := hm7 hl1; have HRL := hm7 (hrl.below (below1 W1 (.cells #[.int .i64 0, .int .i64 0] 26))); have HR1 := hm7 ((HR0.out.below hb).below (below1 W1 (.cells #[.int .i64 0, .int .i64 0] 26))); have HA1 := hm7 ((HA0.out.below hb).below (below1 W1 (.cells #[.int .i64 0, .int .i64 0] 26))); have HF1 := hm7 (Bk.new W1 #[.int .i64 0, .int .i64 0] 26); have HB1 := hm7 ((HB0.out.trans (hb.mono HB0.out.size)).trans ((below1 W1 (.cells #[.int .i64 0, .int .i64 0] 26)).mono (Nat.le_trans HB0.out.size hb.size))); clear hb hk hrl hl1)
  revert HRL HR1 HA1 HF1 HB1
  generalize W1.alloc (.cells #[.int .i64 0, .int .i64 0] 26) = W2
  generalize W1.heap.size = fb at *
  intro HRL HR1 HA1 HF1 HB1
  obtain ⟨d, hd⟩ : ∃ d, l = [d] := by
    match l, HL1.out with
    | [d], _ => exact ⟨d, rfl⟩
  subst hd
  have hkd : d.key = x := by
    have := HK.out
    simp only [List.map_cons, List.map_nil, List.cons.injEq, and_true] at this
    exact this
  have HKD := hm7 hkd
  have HKF := hm7 (HRL.out.k d (by simp))
  have HRO : Hid (W2.ownsRow 0 37 7 (.slice (some ⟨vg, 0, none⟩) 1 vc) 1 ([d].flatMap cc5)) := HRL.out.o
  obtain ⟨⟨eh, ehn, ehc, eeh⟩, ⟨eb, ebc, eeb⟩, ⟨et, etc', eet⟩, -, -⟩ := HKF.out.ok.shape
  have p0 := row5_cell HRO.out (cc5_get (l := [d]) (j := 0) rfl 0 _ rfl (by omega))
  have p1 := row5_cell HRO.out (cc5_get (l := [d]) (j := 0) rfl 1 _ rfl (by omega))
  have p2 := row5_cell HRO.out (cc5_get (l := [d]) (j := 0) rfl 2 _ rfl (by omega))
  have p3 := row5_cell HRO.out (cc5_get (l := [d]) (j := 0) rfl 3 _ rfl (by omega))
  have p4 := row5_cell HRO.out (cc5_get (l := [d]) (j := 0) rfl 4 _ rfl (by omega))
  have p5 := row5_cell HRO.out (cc5_get (l := [d]) (j := 0) rfl 5 _ rfl (by omega))
  have p6 := row5_cell HRO.out (cc5_get (l := [d]) (j := 0) rfl 6 _ rfl (by omega))
  obtain ⟨⟨⟨⟨hk1, hn1, hs1⟩, hm1, ha1⟩, hv1⟩, body1, bv1, tests1, tv1⟩ := d
  dsimp only at eeh eeb eet p0 p1 p2 p3 p4 p5 p6
  generalize hbl : body1.length = bl1 at eeb
  generalize htl : tests1.length = tl1 at eet
  subst eeh
  subst eeb
  subst eet
  have HBL := hm7 hbl
  have HTL := hm7 htl
  simp only [Nat.zero_mul, Nat.zero_add, Nat.add_zero] at p0 p1 p2 p3 p4 p5 p6
  have hvg := (World.ownsRow.lt HRO.out vg rfl).2
  have HVG : Hid (Y0.heap.size ≤ vg) := HRL.out.b vg rfl
  have HPY : Hid (p < Y0.heap.size) := HA0.out.lt
  have HQY : Hid (q < Y0.heap.size) := HR0.out.lt
  clear hkd hbl htl HK HRL HL1
  have x0 := HF1.out.cell (i := 0) rfl
  have x1 := HF1.out.cell (i := 1) rfl
  have hfl := HF1.out.lt
  have r0 := HR1.out.cell (i := 0) rfl
  have r1 := HR1.out.cell (i := 1) rfl
  have f0 := HR1.out.froz 0
  have f1 := HR1.out.froz 1
  have hrl := HR1.out.lt
  have a0 := HA1.out.cell (i := 0) rfl
  have a1 := HA1.out.cell (i := 1) rfl
  have a2 := HA1.out.cell (i := 2) rfl
  have a3 := HA1.out.cell (i := 3) rfl
  have a4 := HA1.out.cell (i := 4) rfl
  have a5 := HA1.out.cell (i := 5) rfl
  have a6 := HA1.out.cell (i := 6) rfl
  have k0 := HA1.out.froz 0
  have k1 := HA1.out.froz 1
  have k2 := HA1.out.froz 2
  have k3 := HA1.out.froz 3
  have k4 := HA1.out.froz 4
  have k5 := HA1.out.froz 5
  have k6 := HA1.out.froz 6
  have hal := HA1.out.lt
  go_wp2
  clear x0 x1 hfl r0 r1 f0 f1 hrl a0 a1 a2 a3 a4 a5 a6 k0 k1 k2 k3 k4 k5 k6 hal p0 p1 p2 p3 p4 p5 p6
  have HA5 := hm7 (store7a (a := .int .i64 hk1) (b := .int .i64 hn1) (c := .string hs1) (d := .string hm1) (e := .slice eh ehn ehc) (f := .slice eb bl1 ebc) (k := .slice et tl1 etc') HA1.out)
  have HFP : Hid (Fr (fun b => b = p) W2 (((((((W2.setCell ⟨p, 0, none⟩ (.int .i64 hk1)).setCell ⟨p, 1, none⟩ (.int .i64 hn1)).setCell ⟨p, 2, none⟩ (.string hs1)).setCell ⟨p, 3, none⟩ (.string hm1)).setCell ⟨p, 4, none⟩ (.slice eh ehn ehc)).setCell ⟨p, 5, none⟩ (.slice eb bl1 ebc)).setCell ⟨p, 6, none⟩ (.slice et tl1 etc'))) := (((((((Fr.refl (fun b => b = p) _).set (Or.inl rfl)).set (Or.inl rfl)).set (Or.inl rfl)).set (Or.inl rfl)).set (Or.inl rfl)).set (Or.inl rfl)).set (Or.inl rfl)
  have HB5 : Hid (Below w.heap.size w (((((((W2.setCell ⟨p, 0, none⟩ (.int .i64 hk1)).setCell ⟨p, 1, none⟩ (.int .i64 hn1)).setCell ⟨p, 2, none⟩ (.string hs1)).setCell ⟨p, 3, none⟩ (.string hm1)).setCell ⟨p, 4, none⟩ (.slice eh ehn ehc)).setCell ⟨p, 5, none⟩ (.slice eb bl1 ebc)).setCell ⟨p, 6, none⟩ (.slice et tl1 etc'))) := ((((((HB1.out.setCell (p := ⟨p, 0, none⟩) HPW.out _).setCell (p := ⟨p, 1, none⟩) HPW.out _).setCell (p := ⟨p, 2, none⟩) HPW.out _).setCell (p := ⟨p, 3, none⟩) HPW.out _).setCell (p := ⟨p, 4, none⟩) HPW.out _).setCell (p := ⟨p, 5, none⟩) HPW.out _).setCell (p := ⟨p, 6, none⟩) HPW.out _
  have HR5 := hm7 (HR1.out.fr HFP.out fun e => hqp e)
  have HK5 := hm7 (HKF.out.fr HFP.out fun b hb e => by have := hb.1; have := HPY.out; omega)
  revert HA5 HFP HB5 HR5 HK5
  generalize ((((((W2.setCell ⟨p, 0, none⟩ (.int .i64 hk1)).setCell ⟨p, 1, none⟩ (.int .i64 hn1)).setCell ⟨p, 2, none⟩ (.string hs1)).setCell ⟨p, 3, none⟩ (.string hm1)).setCell ⟨p, 4, none⟩ (.slice eh ehn ehc)).setCell ⟨p, 5, none⟩ (.slice eb bl1 ebc)).setCell ⟨p, 6, none⟩ (.slice et tl1 etc') = W5'
  intro HA5 HFP HB5 HR5 HK5
  have HFQ6 : Hid (Fr (fun b => b = q) W5' ((W5'.setCell ⟨q, 0, none⟩ (.int .i64 0)).setCell ⟨q, 1, none⟩ (.int .i64 0))) := ((Fr.refl (fun b => b = q) _).set (Or.inl rfl)).set (Or.inl rfl)
  have HR6 := hm7 (pair_put (a := .int .i64 0) (b := .int .i64 0) HR5.out)
  have HA6 := hm7 (HA5.out.fr HFQ6.out hpq)
  have HK6 := hm7 (HK5.out.fr HFQ6.out fun b hb e => by have := hb.1; have := HQY.out; omega)
  have HB6 : Hid (Below w.heap.size w ((W5'.setCell ⟨q, 0, none⟩ (.int .i64 0)).setCell ⟨q, 1, none⟩ (.int .i64 0))) := (HB5.out.setCell (p := ⟨q, 0, none⟩) HQW.out _).setCell (p := ⟨q, 1, none⟩) HQW.out _
  have z0 := HR6.out.cell (i := 0) rfl
  have z1 := HR6.out.cell (i := 1) rfl
  have y0 := HA6.out.cell (i := 0) rfl
  have y1 := HA6.out.cell (i := 1) rfl
  have y2 := HA6.out.cell (i := 2) rfl
  have y3 := HA6.out.cell (i := 3) rfl
  have y4 := HA6.out.cell (i := 4) rfl
  have y5 := HA6.out.cell (i := 5) rfl
  have y6 := HA6.out.cell (i := 6) rfl
  refine bodyPost_ret (v := .tuple #[Cm.v ⟨(⟨⟨hk1, hn1, hs1⟩, hm1, ha1⟩, .slice eh ehn ehc), body1, .slice eb bl1 ebc, tests1, .slice et tl1 etc'⟩, .agg #[.int .i64 0, .int .i64 0]]) (by simp [results, Tryz.results15, go_sem, z0, z1, y0, y1, y2, y3, y4, y5, y6]) rfl ?_
  exact ⟨_, rfl, HKD.out, HK6.out.ok, HB6.out⟩
end Go.Proofs.YtnikmcmkbjjcdaaGreatDoor
/-
  law 5: terms, atoms: the same?
-/
namespace Go.Proofs.YtnikmcmkbjjcdaaGreatDoor
open Go.RowKit
attribute [local go_sem ↓] Go.wp_at_zero Go.wp_at_succ

theorem terms5_any (a b : List Tm) (x y : Value) (w : World) (h : Ts w x a) (h' : Ts w y b) :
    Calls Tryz.prog 37 #[x, y] w fun e w' => e = .returned (.bool (decide (a = b))) ∧ Below w.heap.size w w' := by
  obtain ⟨ad, cap, rfl, hl, h⟩ := h
  obtain ⟨ad', cap', rfl, hl', h'⟩ := h'
  by_cases e2 : a.length = b.length
  · have hq2 : ((a.length : Int) == (b.length : Int)) = true := by simp; omega
    have E2 : Hid (a.length = b.length) := e2
    clear e2
    go_enter Tryz.func37, Tryz.ntmps37
    go_wp2
    go_loopg [5] a.length (fun g i wr => ∃ j : Nat, j + g = a.length ∧ i = .int .i64 j ∧ (a = b ↔ a.drop j = b.drop j) ∧ Below w.heap.size w wr)
    case atStart => exact ⟨0, by omega, rfl, by simp, Below.refl _ _⟩
    case round =>
      obtain ⟨j, hj, rfl, hgo, hb⟩ := hrel
      have HG : Hid (a = b ↔ a.drop j = b.drop j) := hgo
      clear hgo
      cases gk with
      | succ g =>
        have hlt : (j : Int) < (a.length : Int) := by omega
        have hlt' : (j : Int) < (b.length : Int) := by have := E2.out; omega
        have j0 : (0 : Int) ≤ (j : Int) := by omega
        obtain ⟨t, ht⟩ : ∃ t, a[j]? = some t := ⟨_, List.getElem?_eq_getElem (by omega)⟩
        obtain ⟨u, hu⟩ : ∃ u, b[j]? = some u := ⟨_, List.getElem?_eq_getElem (by omega)⟩
        have HS : Hid ((a = b) ↔ (t = u ∧ a.drop (j + 1) = b.drop (j + 1))) := HG.out.trans (drop_eq_step a b j t u ht hu)
        rcases h with h | ⟨b1, o1, rfl, hb1, h⟩
        · subst h; simp at hj
        rcases h' with h' | ⟨b2, o2, rfl, hb2, h'⟩
        · subst h'; simp at hu
        obtain ⟨p0, p1, p2⟩ := h j t ht
        obtain ⟨q0, q1, q2⟩ := h' j u hu
        rw [← hb.cell (p := ⟨b1, _, none⟩) hb1] at p0 p1 p2
        rw [← hb.cell (p := ⟨b2, _, none⟩) hb2] at q0 q1 q2
        have he := run_neq_tm t u
        clear h h' ht hu
        obtain ⟨tk, tn, ts⟩ := t
        obtain ⟨uk, un, us⟩ := u
        simp only at p0 p1 p2 q0 q1 q2
        by_cases htu : Tm.mk tk tn ts = ⟨uk, un, us⟩
        · have HS2 : Hid (a = b ↔ a.drop (j + 1) = b.drop (j + 1)) := by
            have := HS.out; show a = b ↔ _; simpa [htu] using this
          rw [decide_eq_true htu] at he
          clear htu
          go_wp2
          go_quiet (fail)
          go_wp2
          go_roundg g
          case measure => omega
          case rel => exact ⟨j + 1, by omega, by go_num, HS2.out, below_drewN hb _⟩
        · have HS2 : Hid (decide (a = b) = false) := decide_eq_false fun e => htu (HS.out.1 e).1
          rw [decide_eq_false htu] at he
          clear htu
          go_wp2
          go_quiet (fail)
          go_wp2
          go_ret
          exact ⟨ret_b HS2.out.symm, below_drewN hb _⟩
      | zero =>
        have hlt : ¬ (j : Int) < (a.length : Int) := by omega
        have HS2 : Hid (decide (a = b) = true) := decide_eq_true (HG.out.2 (by rw [List.drop_eq_nil_of_le (by omega), List.drop_eq_nil_of_le (by have := E2.out; omega)]))
        clear hj h h'
        go_wp2
        go_ret
        exact ⟨ret_b HS2.out.symm, hb⟩
  · have hq2 : ((a.length : Int) == (b.length : Int)) = false := by simp; omega
    have HS2 : Hid (decide (a = b) = false) := decide_eq_false fun e => e2 (by rw [e])
    clear e2 h h'
    go_enter Tryz.func37, Tryz.ntmps37
    go_wp2
    go_ret
    exact ⟨ret_b HS2.out.symm, Below.refl _ _⟩
set_option maxHeartbeats 1000000 in
theorem atoms5_any (a b : At) (x y : Value) (w : World) (h : Ts w x a.args) (h' : Ts w y b.args) :
    Calls Tryz.prog 20 #[a.v x, b.v y] w fun e w' => e = .returned (.bool (decide (a = b))) ∧ Below w.heap.size w w' := by
  obtain ⟨⟨k, n, s⟩, nm, l⟩ := a
  obtain ⟨⟨k', n', s'⟩, nm', l'⟩ := b
  have HX : Hid (Ts w x l) := h
  have HY : Hid (Ts w y l') := h'
  obtain ⟨r, hr⟩ : ∃ r, decide (At.mk ⟨k, n, s⟩ nm l = At.mk ⟨k', n', s'⟩ nm' l') = r := ⟨_, rfl⟩
  rw [hr]
  have HR : Hid ((decide (nm.toList = nm'.toList) && (decide (Tm.mk k n s = ⟨k', n', s'⟩) && decide (l = l'))) = r) := by
    show _ = r
    rw [← hr, Bool.eq_iff_iff]
    simp only [Bool.and_eq_true, decide_eq_true_eq, At.mk.injEq]
    exact ⟨fun ⟨p, q, r⟩ => ⟨q, toList_inj p, r⟩, fun ⟨p, q, r⟩ => ⟨by rw [q], p, r⟩⟩
  clear h h' hr
  have he := run_eql_tm ⟨k, n, s⟩ ⟨k', n', s'⟩
  by_cases e1 : nm.toList = nm'.toList
  · have hq1 : (nm.toList == nm'.toList) = true := by simpa using e1
    by_cases e2 : Tm.mk k n s = ⟨k', n', s'⟩
    · have HR2 : Hid (decide (l = l') = r) := by show _ = r; rw [← HR.out]; simp [e1, e2]
      rw [decide_eq_true e2] at he
      clear e1 e2 HR
      go_enter Tryz.func20, Tryz.ntmps20
      go_wp2_with (go_at_call 37; refine (terms5_any l l' x y _ (HX.out.later (below2 _ _ _)) (HY.out.later (below2 _ _ _))).mono ?_; rw [HR2.out]; rintro e w1 ⟨rfl, hb1⟩)
      go_ret
      exact ⟨rfl, below_step (below2 _ _ _) hb1⟩
    · have HR2 : Hid (false = r) := by show false = r; rw [← HR.out]; simp [e2]
      rw [decide_eq_false e2] at he
      clear e1 e2 HR
      go_enter Tryz.func20, Tryz.ntmps20
      go_wp2
      go_ret
      exact ⟨ret_b HR2.out, below2 _ _ _⟩
  · have HR2 : Hid (false = r) := by show false = r; rw [← HR.out]; simp [e1]
    have hq1 : (nm.toList == nm'.toList) = false := by simpa using e1
    clear e1 HR he
    go_enter Tryz.func20, Tryz.ntmps20
    go_wp2
    go_ret
    exact ⟨ret_b HR2.out, below2 _ _ _⟩
theorem As.get5 {w : World} {a : Option Addr} {n cap j : Nat} {l : List (At × Value)} (h : As w (.slice a n cap) l) (hj : j < n) :
    ∃ (b o : Nat) (t : At × Value), a = some ⟨b, o, none⟩ ∧ l[j]? = some t ∧ b < w.heap.size ∧ (w.cell? ⟨b, o + j * 5, none⟩ = some (.int .i64 t.1.by_.k) ∧ w.cell? ⟨b, o + j * 5 + 1, none⟩ = some (.int .i64 t.1.by_.n) ∧ w.cell? ⟨b, o + j * 5 + 2, none⟩ = some (.string t.1.by_.s) ∧ w.cell? ⟨b, o + j * 5 + 3, none⟩ = some (.string t.1.name) ∧ w.cell? ⟨b, o + j * 5 + 4, none⟩ = some t.2) ∧ Ts w t.2 t.1.args := by
  obtain ⟨a', cap', e, hl, hm, ht⟩ := h
  simp only [Value.slice.injEq] at e
  obtain ⟨rfl, rfl, rfl⟩ := e
  obtain ⟨t, htj⟩ : ∃ t, l[j]? = some t := ⟨_, List.getElem?_eq_getElem hj⟩
  rcases hm with rfl | ⟨b, o, rfl, hr⟩
  · simp at hj
  · exact ⟨b, o, t, rfl, htj, hr.1, hr.2 j t htj, ht t (List.mem_of_getElem? htj)⟩
theorem Es.get5 {w : World} {a : Option Addr} {n cap j : Nat} {l : List Te} (h : Es w (.slice a n cap) l) (hj : j < n) :
    ∃ (b o : Nat) (t : Te), a = some ⟨b, o, none⟩ ∧ l[j]? = some t ∧ b < w.heap.size ∧ w.cell? ⟨b, o + j * 7, none⟩ = some (.int .i64 t.op) ∧ w.cell? ⟨b, o + j * 7 + 1, none⟩ = some (.int .i64 t.l.k) ∧ w.cell? ⟨b, o + j * 7 + 2, none⟩ = some (.int .i64 t.l.n) ∧ w.cell? ⟨b, o + j * 7 + 3, none⟩ = some (.string t.l.s) ∧ w.cell? ⟨b, o + j * 7 + 4, none⟩ = some (.int .i64 t.r.k) ∧ w.cell? ⟨b, o + j * 7 + 5, none⟩ = some (.int .i64 t.r.n) ∧ w.cell? ⟨b, o + j * 7 + 6, none⟩ = some (.string t.r.s) := by
  obtain ⟨a', cap', e, hl, hm⟩ := h
  simp only [Value.slice.injEq] at e
  obtain ⟨rfl, rfl, rfl⟩ := e
  obtain ⟨t, htj⟩ : ∃ t, l[j]? = some t := ⟨_, List.getElem?_eq_getElem hj⟩
  rcases hm with rfl | ⟨b, o, rfl, hr⟩
  · simp at hj
  · exact ⟨b, o, t, rfl, htj, hr.1, hr.2 j t htj⟩
end Go.Proofs.YtnikmcmkbjjcdaaGreatDoor
