import Derived.Test.YtjnipcakjoiplaaGreatDoorCG1
import Derived.Test.YtjnipcakjoiplaaGreatDoorCD5
import Derived.Test.YtjnipcakjoiplaaGreatDoorRC2
import Derived.Test.YtjnipcakjoiplaaGreatDoorCH4
/-
  The reference writes: clause, Clause. (Written by CH1.py.)
-/
namespace Go.Proofs.YtjnipcakjoiplaaGreatDoor
open Go.RowKit

set_option maxRecDepth 20000 in
set_option maxHeartbeats 8000000 in
theorem rclauseB_any (c : Cm) (hc : (∀ a ∈ c.key.1 :: c.key.2.1, Fit a) ∧ (∀ e ∈ c.key.2.2, FitE e) ∧ c.key.2.1.length ≤ 8 ∧ c.key.2.2.length ≤ 8) (w : World) (hk : c.ok w) :
    Calls Tryz.prog 19 #[c.v] w fun e w' => ∃ v', e = .returned v' ∧ OwnB w' w.heap.size v' (cB c.key) ∧ Below w.heap.size w w' := by
  obtain ⟨⟨hd, hv⟩, hb, bv, ts, tv⟩ := c
  obtain ⟨g1, g2, g3, g4⟩ := hc
  simp only [Cm.key, fsts_len8] at g1 g2 g3 g4
  have hTs : ∀ X, Below w.heap.size w X → (∀ x ∈ hb, Ts X x.2 x.1.args) := fun X hX => by obtain ⟨_, _, _, _, _, h⟩ := hk.b.later hX; exact h
  have HA1 : Hid (∀ X, Below w.heap.size w X → Calls Tryz.prog 44 #[hd.v hv] X fun e w' => ∃ v', e = .returned v' ∧ OwnB w' X.heap.size v' (aB hd) ∧ Below X.heap.size X w') := fun X hX => ratomB_any hd (g1 hd (by simp)) hv X (hk.h.later hX)
  have HAS : Hid (∀ x ∈ hb, ∀ X, Below w.heap.size w X → Calls Tryz.prog 44 #[x.1.v x.2] X fun e w' => ∃ v', e = .returned v' ∧ OwnB w' X.heap.size v' (aB x.1) ∧ Below X.heap.size X w') := fun x hx X hX => ratomB_any x.1 (g1 x.1 (List.mem_cons_of_mem _ (List.mem_map_of_mem hx))) x.2 X (hTs X hX x hx)
  have HFA : Hid (∀ x ∈ hb, Fit x.1) := fun x hx => g1 x.1 (List.mem_cons_of_mem _ (List.mem_map_of_mem hx))
  have HFE : Hid (∀ x ∈ ts, FitE x) := g2
  have l1 := aB_len8 (g1 hd (by simp))
  have HYB : Hid (∀ X, Below w.heap.size w X → As X bv hb) := fun X hX => hk.b.later hX
  have HYE : Hid (∀ X, Below w.heap.size w X → Es X tv ts) := fun X hX => hk.t.later hX
  have hm1 : (hb.length : Int) % 256 = (hb.length : Int) := by omega
  have hm2 : (ts.length : Int) % 256 = (ts.length : Int) := by omega
  have HE : Hid (cB (Cm.key ⟨(hd, hv), hb, bv, ts, tv⟩) = aB hd ++ [(hb.length : Int)] ++ (hb.take hb.length).flatMap (fun x => aB x.1) ++ [(ts.length : Int)] ++ (ts.take ts.length).flatMap eB) := by show _ = _; simp [cB, Cm.key, fsts_len8, fsts_flat8, List.take_length]
  obtain ⟨⟨a1, n1, cap1, x1⟩, ⟨a2, cap2, x2⟩, ⟨a3, cap3, x3⟩, -, -⟩ := hk.shape
  simp only at x1 x2 x3
  subst x1 x2 x3
  clear hk g1 g2 hTs
  obtain ⟨HDB, hHDB⟩ : ∃ T, aB hd = T := ⟨_, rfl⟩
  rw [hHDB] at HA1 HE l1
  clear hHDB
  obtain ⟨⟨k, n, s⟩, nm, ls⟩ := hd
  go_enter Tryz.func19, Tryz.ntmps19
  go_upto_region 3 with (first
    | (go_at_call 44; refine (HA1.out _ (below1 _ _)).mono ?_; rintro e w1 ⟨v1, rfl, ho1, hb1⟩; have HO1 : Hid (OwnB w1 w.heap.size v1 HDB) := ho1.mono (by simp); have HB1 : Hid (Below w.heap.size w w1) := below_step (below1 _ _) hb1; have HK1 : Hid (Blk w1 w.heap.size _ _) := (Blk.new w #[.int .i64 k, .int .i64 n, .string s, .string nm, .slice a1 n1 cap1, .slice a2 hb.length cap2, .slice a3 ts.length cap3] 30).later hb1; obtain ⟨p0, p1, p2, p3, p4, p5, p6⟩ := cseven HK1.out; have hz1 := HB1.out.size; clear ho1 hb1)
    | (at_builtin; refine app8 rfl _ _ rfl w.heap.size v1 HDB rfl (HO1.out.later (below1 _ _)) w1.heap.size [(hb.length : Int)] rfl (heap_alloc_new w1 _) (by simp) (by simp only [List.length_cons, List.length_nil]; omega) (by simp; omega) ?_; intro v2 w2 ho2; have HO2 : Hid (Wr w1 w.heap.size (HDB ++ [(hb.length : Int)]) v2 w2) := Wr.ahead (below1 _ _) hz1 ho2; clear ho2 p0 p1 p2 p3 p4 p5 p6))
  go_wp2
  go_loopg [3, 4] hb.length (fun g u i wr => ∃ j : Nat, j + g = hb.length ∧ i = .int .i64 j ∧ Wr w1 w.heap.size (HDB ++ [(hb.length : Int)] ++ (hb.take j).flatMap (fun x => aB x.1)) u wr)
  case atStart => exact ⟨0, by omega, rfl, by rw [List.take_zero, List.flatMap_nil, List.append_nil]; exact HO2.out⟩
  case round =>
    obtain ⟨j, hj, rfl, hw⟩ := hrel
    have HWr : Hid (Wr w1 w.heap.size (HDB ++ [(hb.length : Int)] ++ (hb.take j).flatMap (fun x => aB x.1)) u3 wr) := hw
    have hsz := hw.low.size
    have hbw : Below w.heap.size w wr := HB1.out.trans hw.low
    obtain ⟨p0, p1, p2, p3, p4, p5, p6⟩ := cseven (HK1.out.k8 hw.k8 (by decide))
    have hlenA : ((hb.take j).flatMap (fun x => aB x.1)).length ≤ 8000 := by
      have h1 := flat_len (f := fun x : At × Value => aB x.1) (l := hb.take j) (fun x hx => aB_len8 (HFA.out x (List.mem_of_mem_take hx)))
      rw [List.length_take] at h1
      omega
    clear hw
    cases gk with
    | succ g =>
      have hlt : j < hb.length := by omega
      obtain ⟨t, ht⟩ : ∃ t, hb[j]? = some t := ⟨_, List.getElem?_eq_getElem hlt⟩
      have htm := List.mem_of_getElem? ht
      obtain ⟨ad', cap', hx, -, hxx, hts⟩ := HYB.out _ hbw
      simp only [Value.slice.injEq] at hx
      obtain ⟨rfl, -, rfl⟩ := hx
      rcases hxx with hxx | ⟨b, o, rfl, hbs, hxx⟩
      · subst hxx; simp at hlt
      · obtain ⟨c0, c1, c2, c3, c4⟩ := hxx j _ ht
        have hl8 : 0 < (aB t.1).length ∧ (aB t.1).length ≤ 1000 := ⟨by unfold aB; have := (tB_len t.1.by_).1; simp only [List.length_append]; omega, aB_len8 (HFA.out t htm)⟩
        have HS : Hid ((hb.take (j + 1)).flatMap (fun x => aB x.1) = (hb.take j).flatMap (fun x => aB x.1) ++ aB t.1) := flat_succ ht
        have HPT : Hid (Calls Tryz.prog 44 #[t.1.v t.2] wr fun e w' => ∃ v', e = .returned v' ∧ OwnB w' wr.heap.size v' (aB t.1) ∧ Below wr.heap.size wr w') := HAS.out t htm wr hbw
        obtain ⟨xa, xcap, hxv⟩ : ∃ a cap, t.2 = .slice a t.1.args.length cap := by obtain ⟨a, cap, e, -⟩ := hts t htm; exact ⟨a, cap, e⟩
        obtain ⟨U, hU⟩ : ∃ U, aB t.1 = U := ⟨_, rfl⟩
        rw [hU] at HPT hl8 HS
        clear hU
        obtain ⟨⟨⟨tk, tn, tt⟩, tm, tl⟩, xv⟩ := t
        simp only at c0 c1 c2 c3 c4 hxv
        subst hxv
        clear hxx ht htm hts hbw
        have i1 : (0 : Int) ≤ (j : Int) := by omega
        have i2 : (j : Int) < (hb.length : Int) := by omega
        go_wp2_with (first
          | (go_at_call 44; refine HPT.out.mono ?_; rintro e w5 ⟨v5, rfl, ho5, hb5⟩; have HO5 : Hid (OwnB w5 _ v5 U) := ho5; have HB5 : Hid (Below wr.heap.size wr w5) := hb5; have hz5 := hb5.size; clear ho5 hb5)
          | (at_builtin; refine app8w rfl _ _ rfl w.heap.size u3 _ rfl (HWr.out.own.later HB5.out) v5 _ U rfl HO5.out hl8.1 (by simp only [List.length_append, List.length_cons, List.length_nil]; omega) (by omega) ?_; intro v6 w6 ho6))
        go_roundg g
        case measure => omega
        case rel =>
          refine ⟨j + 1, by omega, by go_num, ?_⟩
          rw [HS.out, ← List.append_assoc]
          exact HWr.out.step (Wr.ahead HB5.out (by omega) ho6)
    | zero =>
      obtain rfl : j = hb.length := by omega
      have hz : ¬ ((hb.length : Int) < (hb.length : Int)) := by omega
      generalize HF : (HDB ++ [(hb.length : Int)] ++ (hb.take hb.length).flatMap (fun x => aB x.1)) = F at HWr HE
      have hFl : F.length ≤ 10000 := by rw [← HF]; simp only [List.length_append, List.length_cons, List.length_nil]; omega
      clear HF hlenA hbw
      go_upto_region 8 with (at_builtin; refine app8 rfl _ _ rfl w.heap.size u3 F rfl (HWr.out.own.later (below1 _ _)) wr.heap.size [(ts.length : Int)] rfl (heap_alloc_new wr _) (by simp) (by simp only [List.length_cons, List.length_nil]; omega) (by simp; omega) ?_; intro v7 w7 ho7; have HO7 : Hid (Wr w1 w.heap.size (F ++ [(ts.length : Int)]) v7 w7) := HWr.out.step (Wr.ahead (below1 _ _) (by omega) ho7); clear ho7 p0 p1 p2 p3 p4 p5 p6)
      go_wp2
      go_loopg [3, 5] ts.length (fun g u i wz => ∃ j : Nat, j + g = ts.length ∧ i = .int .i64 j ∧ Wr w1 w.heap.size (F ++ [(ts.length : Int)] ++ (ts.take j).flatMap eB) u wz)
      case atStart => exact ⟨0, by omega, rfl, by rw [List.take_zero, List.flatMap_nil, List.append_nil]; exact HO7.out⟩
      case round =>
        obtain ⟨j, hj, rfl, hw⟩ := hrel
        have HWz : Hid (Wr w1 w.heap.size (F ++ [(ts.length : Int)] ++ (ts.take j).flatMap eB) u3 wr) := hw
        have hszz := hw.low.size
        have hbw : Below w.heap.size w wr := HB1.out.trans hw.low
        have HBz : Hid (Below w.heap.size w wr) := hbw
        have HKz : Hid (Blk wr w.heap.size _ _) := HK1.out.k8 hw.k8 (by decide)
        obtain ⟨p0, p1, p2, p3, p4, p5, p6⟩ := cseven HKz.out
        have hlenE : ((ts.take j).flatMap eB).length ≤ 8000 := by
          have h1 := flat_len (f := eB) (l := ts.take j) (fun x hx => eB_len (HFE.out x (List.mem_of_mem_take hx)))
          rw [List.length_take] at h1
          omega
        clear hw
        cases gk with
        | succ g =>
          have hlt : j < ts.length := by omega
          obtain ⟨t, ht⟩ : ∃ t, ts[j]? = some t := ⟨_, List.getElem?_eq_getElem hlt⟩
          have htm := List.mem_of_getElem? ht
          have HCS : Hid (∀ X, Below w.heap.size w X → ∃ b o, a3 = some ⟨b, o, none⟩ ∧ X.cell? ⟨b, o + j * 7, none⟩ = some (.int .i64 t.op) ∧ X.cell? ⟨b, o + j * 7 + 1, none⟩ = some (.int .i64 t.l.k) ∧ X.cell? ⟨b, o + j * 7 + 2, none⟩ = some (.int .i64 t.l.n) ∧ X.cell? ⟨b, o + j * 7 + 3, none⟩ = some (.string t.l.s) ∧ X.cell? ⟨b, o + j * 7 + 4, none⟩ = some (.int .i64 t.r.k) ∧ X.cell? ⟨b, o + j * 7 + 5, none⟩ = some (.int .i64 t.r.n) ∧ X.cell? ⟨b, o + j * 7 + 6, none⟩ = some (.string t.r.s)) := fun X hX => by
            obtain ⟨ad', cap', hx, -, hxx⟩ := HYE.out X hX
            simp only [Value.slice.injEq] at hx
            obtain ⟨rfl, -, -⟩ := hx
            rcases hxx with hxx | ⟨b, o, e, hbs, hxx⟩
            · subst hxx; simp at hlt
            · exact ⟨b, o, e, hxx j _ ht⟩
          have hfe := HFE.out t htm
          have hm3 : t.op % 256 = t.op := by have := hfe.op; omega
          have hll := tB_len t.l
          have hlr := tB_len t.r
          have hls := hfe.l.2
          have hrs := hfe.r.2
          have HPL : Hid (∀ X : World, Calls Tryz.prog 45 #[t.l.v] X fun e w' => ∃ v', e = .returned v' ∧ OwnB w' X.heap.size v' (tB t.l) ∧ Below X.heap.size X w') := fun X => rterm_any t.l hfe.l X
          have HPR : Hid (∀ X : World, Calls Tryz.prog 45 #[t.r.v] X fun e w' => ∃ v', e = .returned v' ∧ OwnB w' X.heap.size v' (tB t.r) ∧ Below X.heap.size X w') := fun X => rterm_any t.r hfe.r X
          have HS : Hid ((ts.take (j + 1)).flatMap eB = (ts.take j).flatMap eB ++ ([t.op] ++ tB t.l ++ tB t.r)) := by have := flat_succ (f := eB) ht; show _ = _; rw [this]; simp [eB]
          obtain ⟨UL, hUL⟩ : ∃ U, tB t.l = U := ⟨_, rfl⟩
          obtain ⟨UR, hUR⟩ : ∃ U, tB t.r = U := ⟨_, rfl⟩
          rw [hUL] at HPL hll HS
          rw [hUR] at HPR hlr HS
          obtain ⟨G, hG⟩ : ∃ G, F ++ [(ts.length : Int)] ++ (ts.take j).flatMap eB = G := ⟨_, rfl⟩
          have hGl : G.length ≤ 30000 := by rw [← hG]; simp only [List.length_append, List.length_cons, List.length_nil]; omega
          have HGE : Hid (F ++ [(ts.length : Int)] ++ (ts.take (j + 1)).flatMap eB = G ++ [t.op] ++ UL ++ UR) := by show _ = _; rw [HS.out, ← hG]; simp
          rw [hG] at HWz
          clear hUL hUR hG HS hlenE hfe htm ht
          obtain ⟨op, ⟨xk, xn, xs⟩, ⟨yk, yn, ys⟩⟩ := t
          simp only at *
          obtain ⟨b, o, rfl, c0, c1, c2, c3, c4, c5, c6⟩ := HCS.out _ hbw
          clear hbw
          have i1 : (0 : Int) ≤ (j : Int) := by omega
          have i2 : (j : Int) < (ts.length : Int) := by omega
          go_wp2_with (first
            | (at_builtin; refine app8 rfl _ _ rfl w.heap.size u3 G rfl (HWz.out.own.later (below1 _ _)) wr.heap.size [op] rfl (heap_alloc_new wr _) (by simp) (by simp only [List.length_cons, List.length_nil]; omega) (by simp; omega) ?_; intro v8 w8 ho8; have HW8 : Hid (Wr wr w.heap.size (G ++ [op]) v8 w8) := Wr.ahead (below1 _ _) (by omega) ho8; have hz8 := HW8.out.low.size; have HB8 : Hid (Below w.heap.size w w8) := HBz.out.trans HW8.out.low; have HK8 : Hid (Blk w8 _ _ _) := HKz.out.k8 HW8.out.k8 (by decide); clear p0 p1 p2 p3 p4 p5 p6 c0 c1 c2 c3 c4 c5 c6 ho8; obtain ⟨p0, p1, p2, p3, p4, p5, p6⟩ := cseven HK8.out; obtain ⟨b', o', e', c0, c1, c2, c3, c4, c5, c6⟩ := HCS.out _ HB8.out; cases e')
            | (go_at_call 45; refine (HPL.out _).mono ?_; rintro e w9 ⟨v9, rfl, ho9, hb9⟩; have HO9 : Hid (OwnB w9 _ v9 UL) := ho9; have HB9 : Hid (Below w8.heap.size w8 w9) := hb9; have hz9 := hb9.size; have HK9 : Hid (Blk w9 _ _ _) := HK8.out.later hb9; clear ho9 hb9 HPL)
            | (at_builtin; refine app8w rfl _ _ rfl w.heap.size v8 (G ++ [op]) rfl (HW8.out.own.later HB9.out) v9 _ UL rfl HO9.out hll.1 (by simp only [List.length_append, List.length_cons, List.length_nil]; omega) (by omega) ?_; intro v10 w10 ho10; have HW10 : Hid (Wr wr w.heap.size (G ++ [op] ++ UL) v10 w10) := HW8.out.step (Wr.ahead HB9.out (by omega) ho10); have hz10 := HW10.out.low.size; have HB10 : Hid (Below w.heap.size w w10) := HBz.out.trans HW10.out.low; have HK10 : Hid (Blk w10 _ _ _) := HK9.out.k8 ho10.k8 (by decide); clear p0 p1 p2 p3 p4 p5 p6 c0 c1 c2 c3 c4 c5 c6 ho10 HO9; obtain ⟨p0, p1, p2, p3, p4, p5, p6⟩ := cseven HK10.out; obtain ⟨b', o', e', c0, c1, c2, c3, c4, c5, c6⟩ := HCS.out _ HB10.out; cases e')
            | (go_at_call 45; refine (HPR.out _).mono ?_; rintro e w11 ⟨v11, rfl, ho11, hb11⟩; have HO11 : Hid (OwnB w11 _ v11 UR) := ho11; have HB11 : Hid (Below w10.heap.size w10 w11) := hb11; have hz11 := hb11.size; clear ho11 hb11)
            | (at_builtin; refine app8w rfl _ _ rfl w.heap.size v10 (G ++ [op] ++ UL) rfl (HW10.out.own.later HB11.out) v11 _ UR rfl HO11.out hlr.1 (by simp only [List.length_append, List.length_cons, List.length_nil]; omega) (by omega) ?_; intro v12 w12 ho12; have HW12 : Hid (Wr wr w.heap.size (G ++ [op] ++ UL ++ UR) v12 w12) := HW10.out.step (Wr.ahead HB11.out (by omega) ho12); clear ho12))
          go_roundg g
          case measure => omega
          case rel =>
            refine ⟨j + 1, by omega, by go_num, ?_⟩
            rw [HGE.out]
            exact HWz.out.step HW12.out
        | zero =>
          obtain rfl : j = ts.length := by omega
          have hz2 : ¬ ((ts.length : Int) < (ts.length : Int)) := by omega
          clear hbw
          go_wp2
          go_ret
          exact ⟨_, rfl, by rw [HE.out]; exact HWz.out.own, HBz.out⟩
set_option maxRecDepth 20000 in
set_option maxHeartbeats 2000000 in
theorem rclauseW_any (c : Cm) (w : World) (h : c.ok w) (hh : TsP w c.head.2 c.head.1.args) (hp : ∀ x ∈ c.body, TsP w x.2 x.1.args) (hbp : AsP w c.bv c.body) :
    Calls Tryz.prog 6 #[c.v] w fun e w' => ∃ v, e = .returned (.tuple #[v, .int .i64 c.chk]) ∧ Bn w' v (bCl c) ∧ Below w.heap.size w w' := by
  have HC : Hid (∀ X, Below w.heap.size w X → Calls Tryz.prog 18 #[c.v] X fun e w' => e = .returned (.int .i64 c.chk) ∧ Below X.heap.size X w') := fun X hX => rcheckC_any c X (h.later hX) (hh.later hX) (fun x hx => (hp x hx).later hX) (hbp.later hX)
  have hP : c.chk = 0 → ∀ X : World, Below w.heap.size w X → Calls Tryz.prog 19 #[c.v] X fun e w' => ∃ v', e = .returned v' ∧ OwnB w' X.heap.size v' (cB c.key) ∧ Below X.heap.size X w' := fun he X hX => rclauseB_any c (chk_fit he) X (h.later hX)
  have hL : c.chk = 0 → (cB c.key).length ≤ 20000 := fun he => cB_len he
  unfold bCl
  obtain ⟨⟨a1, n1, cap1, x1⟩, ⟨a2, cap2, x2⟩, ⟨a3, cap3, x3⟩, -, -⟩ := h.shape
  clear h hh hp hbp
  generalize c.chk = r at *
  generalize cB c.key = S at *
  obtain ⟨⟨⟨⟨k, n, s⟩, nm, ls⟩, hv⟩, hb, bv, ts, tv⟩ := c
  simp only at x1 x2 x3
  subst x1 x2 x3
  by_cases he : r = 0
  · subst he
    rw [if_pos rfl]
    have HP : Hid _ := hP rfl
    have HLL : Hid (S.length ≤ 20000) := hL rfl
    clear hP hL
    go_enter Tryz.func6, Tryz.ntmps6
    go_wp2_with (first
      | (go_at_call 18; refine (HC.out _ (below1 _ _)).mono ?_; rintro e w1 ⟨rfl, hb1⟩; obtain ⟨c0, c1, c2, c3, c4, c5, c6⟩ := cseven ((CBlk.new w #[.int .i64 k, .int .i64 n, .string s, .string nm, .slice a1 n1 cap1, .slice a2 hb.length cap2, .slice a3 ts.length cap3] 30).later hb1); have HB1 : Hid (Below w.heap.size w w1) := below_step (below1 _ _) hb1; clear hb1)
      | (go_at_call 19; refine (HP.out _ HB1.out).mono ?_; rintro e w2 ⟨v2, rfl, hw2, hb2⟩))
    exact bodyPost_ret (v := .tuple #[v2, .int .i64 0]) (by simp [results, Tryz.results6, go_sem]) rfl ⟨v2, rfl, hw2.bn (by have := HLL.out; omega), below_step HB1.out hb2⟩
  · rw [if_neg he]
    have hne : (r != 0) = true := by simpa using he
    clear hP hL he
    go_enter Tryz.func6, Tryz.ntmps6
    go_wp2_with (go_at_call 18; refine (HC.out _ (below1 _ _)).mono ?_; rintro e w1 ⟨rfl, hb1⟩)
    exact bodyPost_ret (v := .tuple #[.slice none 0 0, .int .i64 r]) (by simp [results, Tryz.results6, go_sem]) rfl ⟨_, rfl, bn_nil8 _, below_step (below1 _ _) hb1⟩
end Go.Proofs.YtjnipcakjoiplaaGreatDoor
/-
  Bytes lent and looked at; the call whose answer the document fixes.
-/
namespace Go.Proofs.YtjnipcakjoiplaaGreatDoor
open Go.RowKit

/-- append of bytes that were handed in. -/
theorem app8r {ops : Array Oper} {rest : List Oper} {o : Oper} {a : Act} {Q : Exit → Act → World → Prop} {w : World} (hgd : o.guard = none) (s x : Operand)
    (ho : o.op = .call { callee := .builtin .append, args := #[s, x], argTypes := #[31, 31] }) (base : Nat) (v : Value) (l : List Int) (hs : a.eval s = v) (hown : OwnB w base v l)
    (y : Value) (B : List Int) (hx : a.eval x = y) (hy : Br w y B) (hlen : l.length + B.length ≤ 100000000) (hbase : base ≤ w.heap.size)
    (h : ∀ v' w', Wr w base (l ++ B) v' w' → wpList Tryz.prog ops Q rest (a.put o.dst v') w') : wpList Tryz.prog ops Q (o :: rest) a w := by
  obtain ⟨i, z, hi, hz0, hz1, hz2, hz3⟩ := infoU8_parts
  obtain ⟨hb, ad, cap, rfl, h0, h1, hn, hc⟩ := hy
  cases ad with
  | none =>
    have hcap := hn rfl
    subst hcap
    have hB : B = [] := List.eq_nil_of_length_eq_zero (by omega)
    subst hB
    refine wpList_append_own_none hgd s x 31 ho base 5 i 1 Tryz.underlying31 hi v l.length (ibs l) hs hown hx ?_
    exact h v w ⟨by rw [List.append_nil]; exact hown, Below.refl _ _, K8.refl _⟩
  | some ad =>
    refine wpList_append_own _ hgd s x 31 ho base 5 i z 1 1 Tryz.underlying31 hi hz0 hz1 hz2 hz3 (by omega) v l.length (ibs l) hs hown ad B.length cap (ibs B) hx (by simp [ibs]) ?_ (by simp [ibs, Value.oneCell']) (by unfold maxLen; omega) (by omega) hbase ?_
    · intro j u hj
      rcases hc with rfl | ⟨b, o', e, -, hc⟩
      · simp [ibs] at hj
      · cases e
        simp only [ibs, List.getElem?_map, Option.map_eq_some_iff] at hj
        obtain ⟨x, hx, rfl⟩ := hj
        rw [Addr.add_mid]; exact hc j x hx
    · intro v' w' h1 h2 _
      refine h v' w' ⟨?_, grown_below h2 (fun k hk => (World.ownsRow.lt hown k hk).1) hbase, hown.k8 h2⟩
      unfold OwnB
      rw [List.length_append, show ibs (l ++ B) = ibs l ++ ibs B by simp [ibs]]
      exact h1
/-- Bytes lent, with three more behind them. -/
def LentB (X : World) (base : Nat) (v : Value) (B : List Int) : Prop := ∃ g cap, v = .slice (some ⟨g, 0, none⟩) B.length cap ∧ B.length + 3 ≤ cap ∧ OwnB X base (.slice (some ⟨g, 0, none⟩) (B.length + 3) cap) (B ++ [91, 92, 93])
theorem LentB.later {X X' : World} {base : Nat} {v : Value} {B : List Int} (h : LentB X base v B) (hb : Below X.heap.size X X') : LentB X' base v B := by
  obtain ⟨g, cap, rfl, h1, h2⟩ := h
  exact ⟨g, cap, rfl, h1, h2.later hb⟩
theorem LentB.cells {X : World} {base g cap : Nat} {B : List Int} (h : OwnB X base (.slice (some ⟨g, 0, none⟩) (B.length + 3) cap) (B ++ [91, 92, 93])) : g < X.heap.size ∧ ∀ (i : Nat) (x : Int), (B ++ [91, 92, 93])[i]? = some x → X.cell? ⟨g, i, none⟩ = some (.int .u8 x) := by
  refine ⟨(World.ownsRow.lt h g rfl).2, fun i x hx => ?_⟩
  have := World.ownsRow.cells h (g := g) rfl i (.int .u8 x) (by simp only [ibs, List.getElem?_map, hx, Option.map_some])
  rw [Addr.add_mid, Nat.zero_add] at this
  exact this
theorem LentB.bh {X : World} {base : Nat} {v : Value} {B : List Int} (h : LentB X base v B) (hy : byt B) (hl : B.length < 1000000000000000000) : Bh X v B := by
  obtain ⟨g, cap, rfl, h1, h2⟩ := h
  obtain ⟨h3, h4⟩ := LentB.cells h2
  refine ⟨hy, g, 0, cap, rfl, by omega, hl, h3, fun i x hx => ?_⟩
  rw [Nat.zero_add]
  exact h4 i x (by rw [List.getElem?_append_left (List.getElem?_eq_some_iff.1 hx).1]; exact hx)
theorem Bh.bn {w : World} {v : Value} {l : List Int} (h : Bh w v l) : Bn w v l := by
  obtain ⟨h1, b, o, cap, rfl, h2, h3, h4, h5⟩ := h
  exact ⟨_, cap, rfl, by omega, h3, Or.inr ⟨b, o, rfl, h4, h5⟩⟩
theorem ownB_some {w : World} {base : Nat} {v : Value} {l : List Int} (h : OwnB w base v l) (hl : 0 < l.length) : ∃ g cap, v = .slice (some ⟨g, 0, none⟩) l.length cap ∧ l.length ≤ cap := by
  rcases h.2 with ⟨-, hn⟩ | ⟨g, cap, cur, hv, -, -, hn, -⟩
  · omega
  · exact ⟨g, cap, hv, hn⟩
theorem ownB_form {w : World} {base : Nat} {v : Value} {l : List Int} (h : OwnB w base v l) : ∃ a n cap, v = .slice a n cap := by
  rcases h.2 with ⟨hv, -⟩ | ⟨g, cap, cur, hv, -⟩
  · exact ⟨_, _, _, hv⟩
  · exact ⟨_, _, _, hv⟩
set_option maxRecDepth 20000 in
set_option maxHeartbeats 2000000 in
theorem lendB_any (v : Value) (B : List Int) (w : World) (h : Br w v B) (hl : B.length ≤ 2000000) :
    Calls Tryz.prog 8 #[v] w fun e w' => ∃ u, e = .returned u ∧ LentB w' w.heap.size u B ∧ Below w.heap.size w w' := by
  have HB : Hid (Br w v B) := h
  obtain ⟨a, cap, rfl⟩ : ∃ a cap, v = .slice a B.length cap := by obtain ⟨-, a, cap, e, -⟩ := h; exact ⟨a, cap, e⟩
  have z0 : (0 : Int) ≤ (B.length : Int) := by omega
  clear h
  go_enter Tryz.func8, Tryz.ntmps8
  go_wp2_with (first
    | (at_builtin; refine app8r rfl _ _ rfl w.heap.size (.slice none 0 0) [] (by rfl) (ownB_nil _ _) _ B (by rfl) HB.out (by simp; omega) (Nat.le_refl _) ?_; intro v1 w1 hw1; rw [List.nil_append] at hw1; have HW1 : Hid (Wr w w.heap.size B v1 w1) := hw1; have hz1 := hw1.low.size; obtain ⟨a1, n1, c1, rfl⟩ := ownB_form hw1.own; clear hw1)
    | (at_builtin; refine app8 rfl _ _ rfl w.heap.size _ B rfl (HW1.out.own.later (below1 _ _)) w1.heap.size [91, 92, 93] rfl (heap_alloc_new w1 _) (by simp) (by simp only [List.length_cons, List.length_nil]; omega) (by simp; omega) ?_; intro v2 w2 hw2; have HW2 : Hid (Wr w w.heap.size (B ++ [91, 92, 93]) v2 w2) := HW1.out.step (Wr.ahead (below1 _ _) hz1 hw2); obtain ⟨g2, c2, rfl, hc2⟩ := ownB_some hw2.own (by simp); rw [show (B ++ [(91 : Int), 92, 93]).length = B.length + 3 by simp] at HW2 hc2 ⊢; have hc3 : (B.length : Int) ≤ (c2 : Int) := (by omega); clear hw2))
  go_ret
  exact ⟨_, rfl, ⟨g2, c2, rfl, hc2, HW2.out.own⟩, HW2.out.low⟩
set_option maxRecDepth 20000 in
set_option maxHeartbeats 2000000 in
theorem keptB_any (v y : Value) (B : List Int) (base : Nat) (w : World) (h : LentB w base v B) (hy : Br w y B) (hl : B.length ≤ 2000000) :
    Calls Tryz.prog 12 #[v, y] w fun e w' => e = .returned (.bool true) ∧ Below w.heap.size w w' := by
  have hc1 := conv_bn (w := w) (LentB.bh h hy.1 (by omega)).bn hy.1
  have hc2 := conv_bn (w := w) hy.bn hy.1
  obtain ⟨g, cap, rfl, hcap, ho⟩ := h
  obtain ⟨a, cap', rfl⟩ : ∃ a cap, y = .slice a B.length cap := by obtain ⟨-, a, cap, e, -⟩ := hy; exact ⟨a, cap, e⟩
  obtain ⟨hg, hc⟩ := LentB.cells ho
  have d0 := hc B.length 91 (by simp)
  have d1 := hc (B.length + 1) 92 (by rw [List.getElem?_append_right (by omega)]; simp)
  have d2 := hc (B.length + 2) 93 (by rw [List.getElem?_append_right (by omega)]; simp)
  have i0 : (0 : Int) ≤ (B.length : Int) := by omega
  have i1 : (B.length : Int) + 3 ≤ (cap : Int) := by omega
  have i2 : (B.length : Int) ≤ 2000000 := by omega
  clear ho hc hy
  go_enter Tryz.func12, Tryz.ntmps12
  go_wp2
  go_ret
  exact ⟨rfl, Below.refl _ _⟩
def okN : ByteArray := ⟨#[111, 107]⟩
theorem ok_err : At.err ⟨zt, okN, []⟩ = 0 := by decide +kernel
theorem ok_bytes : ofL (aB ⟨zt, okN, []⟩) = ⟨#[0, 2, 111, 107, 0]⟩ := by decide +kernel
theorem ok_byt : byt (aB ⟨zt, okN, []⟩) := by
  have : aB ⟨zt, okN, []⟩ = [0, 2, 111, 107, 0] := by decide +kernel
  rw [this]
  intro x hx
  simp at hx
  omega
set_option maxRecDepth 20000 in
set_option maxHeartbeats 2000000 in
theorem first6_any (w : World) : Calls Tryz.prog 13 #[] w fun e w' => e = .returned (.bool true) ∧ Below w.heap.size w w' := by
  have hA := atomW_ok ⟨zt, okN, []⟩ (.slice none 0 0) w (ts_nil w) ok_err
  have HA : Hid (Calls Tryz.prog 29 #[.agg #[.int .i64 0, .int .i64 0, .string ⟨#[]⟩, .string ⟨#[111, 107]⟩, .slice none 0 0]] w fun e w' => ∃ v, e = .returned (.tuple #[v, .int .i64 0]) ∧ (convert 31 9 v).run Tryz.prog w' = .ok (.string ⟨#[0, 2, 111, 107, 0]⟩) w' ∧ Below w.heap.size w w') := hA.mono fun e w' ⟨v, h1, h2, h3⟩ => ⟨v, h1, by have := conv_bn (h2.bn (by decide +kernel)) ok_byt; rwa [ok_bytes] at this, h3⟩
  clear hA
  go_enter Tryz.func13, Tryz.ntmps13
  go_wp2_with (go_at_call 29; refine HA.out.mono ?_; rintro e w1 ⟨v1, rfl, hcv, hb⟩)
  go_ret
  exact ⟨rfl, hb⟩
end Go.Proofs.YtjnipcakjoiplaaGreatDoor
