/-
  wire: law 23: WireBack.
-/
import Derived.Test.YtboomeeipnfbmaaWSD
import Derived.Test.YtboomeeipnfbmaaWSE
import Derived.BigQuiet
namespace Go.Proofs.Ytboomeeipnfbmaa
open Go.RowKit
attribute [local go_sem ↓] Go.wp_at_zero Go.wp_at_succ

theorem l5_byt : bytW [1, 2, 3, 4, 5] := by intro x hx; simp at hx; omega
theorem and3W (k : Int) : 0 ≤ bits BinOp.and IntKind.i64 k 3 ∧ bits BinOp.and IntKind.i64 k 3 ≤ 3 := by
  have h1 : (BitVec.ofInt 64 k &&& BitVec.ofInt 64 3).toNat = (k % 4).toNat := by
    rw [BitVec.toNat_and, show (BitVec.ofInt 64 3).toNat = 2 ^ 2 - 1 by decide, Nat.and_two_pow_sub_one_eq_mod, BitVec.toNat_ofInt]
    omega
  have h2 : bits BinOp.and IntKind.i64 k 3 = IntKind.i64.wrap (((k % 4).toNat : Nat) : Int) := by
    unfold bits
    simp only
    show IntKind.i64.wrap (((BitVec.ofInt 64 k &&& BitVec.ofInt 64 3).toNat : Nat) : Int) = _
    rw [h1]
  rw [h2]
  simp [IntKind.wrap, IntKind.bits, IntKind.signed]
  omega
/-- The last message of a row that was read. -/
theorem LmW.last {F : Nat → Prop} {w : World} {a : Option Addr} {n cap : Nat} {l : List MsW} {m : MsW} (h : LmW F w (.slice a n cap) (l ++ [m])) : n = l.length + 1 ∧ ∃ (b o : Nat) (u : Value), a = some ⟨b, o, none⟩ ∧ w.cell? ⟨b, o + l.length * 2 + 1, none⟩ = some u ∧ LbW F w u m.b := by
  obtain ⟨a', c', e, h1, h2, h3⟩ := h
  simp only [Value.slice.injEq, List.length_append, List.length_singleton] at e
  obtain ⟨rfl, rfl, rfl⟩ := e
  refine ⟨rfl, ?_⟩
  rcases h3 with ⟨h3, -⟩ | ⟨b, o, rfl, -, -, h4⟩
  · simp at h3
  · obtain ⟨-, u, c2, c3⟩ := h4 l.length m (by simp)
    exact ⟨b, o, u, rfl, c2, c3⟩
/-- The first message's number. -/
theorem LmW.first {F : Nat → Prop} {w : World} {a : Option Addr} {n cap : Nat} {l : List MsW} {m : MsW} (h : LmW F w (.slice a n cap) l) (hm : l[0]? = some m) : 0 < n ∧ ∃ (b o : Nat), a = some ⟨b, o, none⟩ ∧ w.cell? ⟨b, o, none⟩ = some (.int .i64 (m.n : Int)) := by
  obtain ⟨a', c', e, h1, h2, h3⟩ := h
  simp only [Value.slice.injEq] at e
  obtain ⟨rfl, rfl, rfl⟩ := e
  have hl := (List.getElem?_eq_some_iff.1 hm).1
  refine ⟨hl, ?_⟩
  rcases h3 with ⟨h3, -⟩ | ⟨b, o, rfl, -, -, h4⟩
  · rw [h3] at hl; simp at hl
  · obtain ⟨c1, -⟩ := h4 0 m hm
    exact ⟨b, o, rfl, by simpa using c1⟩
theorem StW.lmO {T T' : Nat → Prop} {Y Y' : World} {v : Value} {l : List MsW} (h : StW T T' Y Y') (hl : LmW (OutW T Y) Y v l) : LmW (OutW T' Y') Y' v l := (h.lm hl fun _ hx => hx.2).mono fun _ _ hx => h.out hx
/-- A row that was read lies outside of the wire. -/
theorem OmW.out {B : Nat} {T : Nat → Prop} {v u : Value} {s : WrW} {Y Y' : World} {Z : List (MsW × Value)} (h : OmW Y.heap.size Y' u Z) (hw : WzW B T v s Y) : LmW (OutW T Y') Y' u (Z.map Prod.fst) := h.lm.mono fun x hx hF => ⟨hx, fun ht => by have := hw.lt x ht; omega⟩
set_option maxRecDepth 20000 in
set_option maxHeartbeats 16000000 in
theorem wireBackW_any {sv : Value} {L : List (OvW × Value)} {Y : World} (n m at_ bits_ : Int) (h : ScW (fun x => x < Y.heap.size) Y sv L) :
    Calls Try.prog 7 #[.agg #[sv, .int .i64 n, .int .i64 m, .int .i64 at_, .int .i64 bits_]] Y fun e Y' => e = .returned (.bool true) ∧ Below Y.heap.size Y Y' := by
  obtain ⟨sa, sn, sc, rfl⟩ : ∃ a n c, sv = .slice a n c := by obtain ⟨⟨a, c, e, -⟩, -⟩ := h; exact ⟨_, _, _, e⟩
  obtain ⟨Y1, hY1⟩ : ∃ Y1, Y.alloc (.cells #[.slice sa sn sc, .int .i64 n, .int .i64 m, .int .i64 at_, .int .i64 bits_] 53) = Y1 := ⟨_, rfl⟩
  have hb1 : Below Y.heap.size Y Y1 := by rw [← hY1]; exact below1 _ _
  have hk1 : Bk Y1 Y.heap.size #[.slice sa sn sc, .int .i64 n, .int .i64 m, .int .i64 at_, .int .i64 bits_] 53 := by rw [← hY1]; exact Bk.new _ _ _
  have c0 : Y1.cell? ⟨Y.heap.size, 0, none⟩ = some (.slice sa sn sc) := hk1.cell rfl
  have c1 : Y1.cell? ⟨Y.heap.size, 1, none⟩ = some (.int .i64 n) := hk1.cell rfl
  have c2 : Y1.cell? ⟨Y.heap.size, 2, none⟩ = some (.int .i64 m) := hk1.cell rfl
  have c3 : Y1.cell? ⟨Y.heap.size, 3, none⟩ = some (.int .i64 at_) := hk1.cell rfl
  have c4 : Y1.cell? ⟨Y.heap.size, 4, none⟩ = some (.int .i64 bits_) := hk1.cell rfl
  have HBG := hm7 (fun (k : Nat) => begunW_any (Y := Y1.drewN k) ((h.same (Nat.le_trans hb1.size (Nat.le_refl _)) fun b hb _ => hb1.block b hb : ScW (fun x => x < Y.heap.size) (Y1.drewN k) (.slice sa sn sc) L).mono fun b hF => Nat.lt_of_lt_of_le hF hb1.size))
  have HB1 := hm7 hb1
  have ha3 := and3W at_
  obtain ⟨av, hav⟩ : ∃ a, bits BinOp.and IntKind.i64 at_ 3 = a := ⟨_, rfl⟩
  rw [hav] at ha3
  clear h hk1 hb1
  go_enter Try.func7, Try.ntmps7
  go_wp2
  go_quiet (fail)
  go_upto_region 5 with (go_at_call 23; (with_reducible refine (HBG.out _).mono ?_); rintro e Y2 ⟨T, v, s, rfl, hw, hso, hsg, hb, hts⟩; obtain ⟨g, rfl⟩ := hw.ptr; have HW2 := hm7 hw; have HB2 := hm7 hb; clear hw hb)
  obtain ⟨j, rfl⟩ : ∃ j : Nat, av = (j : Int) := ⟨av.toNat, by omega⟩
  have hj : j ≤ 3 := by omega
  obtain ⟨rl, hrl⟩ : ∃ rl, s.row.length = rl := ⟨_, rfl⟩
  have r1 : (putW s [1, 2, 3, 4, 5]).row.length = rl + 1 := by unfold putW; simp [hrl]
  have R1 := hm7 r1
  have hrb : rl ≤ 4096 := by have h1 := HW2.out.ok.r; rw [r1] at h1; have h2 : (putW s [1, 2, 3, 4, 5]).gv = s.gv + 1 := rfl; omega
  obtain ⟨f1, f2⟩ := put_flp HW2.out.ok (a := (j : Int)) bits_ (by omega) (by simp; omega)
  have hfl : (flpL [1, 2, 3, 4, 5] (j : Int) bits_).length = 5 := by rw [flpL_len]; rfl
  obtain ⟨fb, hfb⟩ : ∃ fb, flpL [1, 2, 3, 4, 5] (j : Int) bits_ = fb := ⟨_, rfl⟩
  have hfx : fb[j]? = some (bits BinOp.xor IntKind.u8 ((j : Int) + 1) (bits_ % 256)) := by
    rw [← hfb]
    unfold flpL
    rw [Int.toNat_natCast]
    match j, hj with
    | 0, _ => rfl
    | 1, _ => rfl
    | 2, _ => rfl
    | 3, _ => rfl
  have hft : flpL fb (j : Int) bits_ = [1, 2, 3, 4, 5] := by rw [← hfb]; exact flpL_twice l5_byt bits_ (by simp; omega)
  rw [hfb] at f2 hfl
  obtain ⟨xv, hxv⟩ : ∃ xv, bits BinOp.xor IntKind.u8 ((j : Int) + 1) (bits_ % 256) = xv := ⟨_, rfl⟩
  rw [hxv] at hfx
  have r2 : (putW s fb).row.length = rl + 1 := by unfold putW; simp [hrl]
  have R2 := hm7 r2
  have hand := and255W bits_
  have hw256 := wrap256W bits_
  have hwu : IntKind.u8.wrap ((j : Int) + 1) = (j : Int) + 1 := by simp [IntKind.wrap, IntKind.bits, IntKind.signed]; omega
  have hwi : IntKind.i64.wrap ((j : Int) + 1) = (j : Int) + 1 := by simp [IntKind.wrap, IntKind.bits, IntKind.signed]; omega
  have FX := hm7 hfx
  have FT := hm7 hft
  have HFL := hm7 hfl
  have HF2 := hm7 f2
  have HF1 := hm7 f1
  have HSG := hm7 hsg
  have HRL := hm7 hrl
  clear f1 f2 hfl hft hfx hfb r1 r2 hsg hts hso hrl
  go_upto_region 6 with (go_at_call 22; with_reducible refine (wwaitW_any HW2.out).mono ?_; rintro e Y3 ⟨u, Z, rfl, hz, ho, hb⟩; have hlm := ho.out HW2.out; rw [hz] at hlm; obtain ⟨x1, y1, rfl, -⟩ := hlm.form; rw [R1.out] at hlm ⊢; have HL1 := hm7 hlm; have HW3 := hm7 (HW2.out.below hb); have HB3 := hm7 (HB2.out.trans (hb.mono HB2.out.size)); have hbw := hb; clear hlm ho hz hb)
  clear hbw
  go_upto_region 8 with (go_at_call 17; with_reducible refine (wflpW_any HW3.out ((s.gv : Int) + 1) (j : Int) bits_).mono ?_; rintro e Y4 ⟨hret, hq⟩; rw [HF1.out] at hret; rw [HF2.out] at hq; obtain ⟨T4, hw, hs⟩ := hq.st; subst hret; have HW4 := hm7 hw; have HB4 := hm7 (HW3.out.go hs HB3.out HB3.out.size); have HL4 := hm7 (hs.lmO HL1.out); clear hq hw hs)
  go_upto_region 9 with (go_at_call 22; with_reducible refine (wwaitW_any HW4.out).mono ?_; rintro e Y5 ⟨u, Z, rfl, hz, ho, hb⟩; have hlm := ho.out HW4.out; rw [hz] at hlm; obtain ⟨x2, y2, rfl, -⟩ := hlm.form; rw [R2.out] at hlm ⊢; have HL2 := hm7 hlm; have HW5 := hm7 (HW4.out.below hb); have HB5 := hm7 (HB4.out.trans (hb.mono HB4.out.size)); have hbw := hb; clear hlm ho hz hb)
  have HL5 := hm7 ((StW.of (T := T4) hbw).lmO HL4.out)
  clear hbw
  obtain ⟨p1, p2⟩ := put_flp HW5.out.ok (a := (j : Int)) bits_ (by omega) (by rw [HFL.out]; omega)
  rw [FT.out] at p2
  have P1 := hm7 p1
  have P2 := hm7 p2
  clear p1 p2
  go_upto_region 10 with (go_at_call 17; with_reducible refine (wflpW_any HW5.out ((s.gv : Int) + 1) (j : Int) bits_).mono ?_; rintro e Y6 ⟨hret, hq⟩; rw [P1.out] at hret; rw [P2.out] at hq; obtain ⟨T6, hw, hs⟩ := hq.st; subst hret; have HW6 := hm7 hw; have HB6 := hm7 (HW5.out.go hs HB5.out HB5.out.size); have HL6 := hm7 (hs.lmO HL5.out); have hl2 := hs.lmO HL2.out; clear hq hw hs)
  have hl2' : LmW (OutW T6 Y6) Y6 (.slice x2 (rl + 1) y2) (s.row ++ [⟨s.gv + 1, fb⟩]) := hl2
  obtain ⟨-, ob, oo, ou, rfl, o1, o2⟩ := hl2'.last
  rw [HRL.out] at o1
  obtain ⟨oa, oc, hou, -⟩ := o2.form
  simp only at hou
  rw [HFL.out] at hou
  subst hou
  obtain ⟨oub, ouo, rfl, o3⟩ : ∃ b o, oa = some ⟨b, o, none⟩ ∧ Y6.cell? ⟨b, o + j, none⟩ = some (.int .u8 xv) := by
    obtain ⟨a', c', e, -, -, -, h4⟩ := o2
    simp only [Value.slice.injEq] at e
    obtain ⟨rfl, -, -⟩ := e
    rcases h4 with ⟨h4, -⟩ | ⟨b, o, rfl, -, -, h5⟩
    · have h4' : fb = [] := h4
      have := FX.out; rw [h4'] at this; simp at this
    · exact ⟨b, o, rfl, h5 j xv FX.out⟩
  have j0 : (0 : Int) ≤ (j : Int) := by omega
  have j5 : (j : Int) < 5 := by omega
  have hb0 : (((rl : Int) + 1) == 0) = false := by simp; omega
  have hs1 : (rl : Int) + 1 - 1 = (rl : Int) := by omega
  have E0 := hm7 (swp_back HW6.out.ok n m)
  clear hl2 hl2' o2
  go_upto_region 13 with (go_at_call 16; with_reducible refine (wswpW_any HW6.out n m).mono ?_; rintro e Y7 ⟨rfl, hq⟩; obtain ⟨T7, hw, hs⟩ := hq.st; have HW7 := hm7 hw; have HB7 := hm7 (HW6.out.go hs HB6.out HB6.out.size); have HL7 := hm7 (hs.lmO HL6.out); clear hq hw hs)
  go_upto_region 16 with (go_at_call 16; with_reducible refine (wswpW_any HW7.out n m).mono ?_; rintro e Y8 ⟨hret, hq⟩; rw [E0.out.2.2.1] at hret; rw [E0.out.1] at hq; subst hret; obtain ⟨T8, hw, hs⟩ := hq.st; have HW8 := hm7 hw; have HB8 := hm7 (HW7.out.go hs HB7.out HB7.out.size); have HL8 := hm7 (hs.lmO HL7.out); clear hq hw hs)
  obtain ⟨m0, hm0⟩ : ∃ m0, (putW s [1, 2, 3, 4, 5]).row[0]? = some m0 := ⟨_, List.getElem?_eq_getElem (by rw [R1.out]; omega)⟩
  have G0 := swp_back HW8.out.ok (m0.n : Int) ((s.gv : Int) + 1)
  have g3 : swpE (putW s [1, 2, 3, 4, 5]) (m0.n : Int) ((s.gv : Int) + 1) = 0 := swpE_two (plW_at HW8.out.ok hm0) (put_pl HW8.out.ok)
  obtain ⟨-, xb, xo, rfl, y0⟩ := HL8.out.first hm0
  have G0' := hm7 G0
  have G3 := hm7 g3
  obtain ⟨mn, hmn⟩ : ∃ z : Int, (m0.n : Int) = z := ⟨_, rfl⟩
  rw [hmn] at y0 G0' G3
  have HM0 := hm7 hm0
  have HMN := hm7 hmn
  clear G0 g3 hm0 hmn
  go_upto_region 17 with (go_at_call 16; with_reducible refine (wswpW_any HW8.out mn ((s.gv : Int) + 1)).mono ?_; rintro e Y9 ⟨hret, hq⟩; rw [G3.out] at hret; subst hret; obtain ⟨T9, hw, hs⟩ := hq.st; have HW9 := hm7 hw; have HB9 := hm7 (HW8.out.go hs HB8.out HB8.out.size); have HL9 := hm7 (hs.lmO HL8.out); clear hq hw hs)
  obtain ⟨-, xb', xo', ex, y9⟩ := HL9.out.first HM0.out
  simp only [Option.some.injEq, Addr.mk.injEq, and_true] at ex
  obtain ⟨rfl, rfl⟩ := ex
  rw [HMN.out] at y9
  go_upto_region 18 with (go_at_call 16; with_reducible refine (wswpW_any HW9.out ((s.gv : Int) + 1) mn).mono ?_; rintro e Y10 ⟨hret, hq⟩; rw [G0'.out.2.2.2, G3.out] at hret; rw [G0'.out.2.1] at hq; subst hret; obtain ⟨T10, hw, hs⟩ := hq.st; have HW10 := hm7 hw; have HB10 := hm7 (HW9.out.go hs HB9.out HB9.out.size); have HL10 := hm7 (hs.lmO HL9.out); clear hq hw hs)
  have C0 := hm7 (put_cpy HW10.out.ok (by have := HSG.out; omega))
  have eg : ((putW s [1, 2, 3, 4, 5]).gv : Int) + 1 = (s.gv : Int) + 1 + 1 := by unfold putW; simp
  have EG := hm7 eg
  clear eg
  go_upto_region 19 with (go_at_call 13; with_reducible refine (wcpyW_any HW10.out ((s.gv : Int) + 1)).mono ?_; rintro e Y11 ⟨hret, hq⟩; rw [C0.out.1, C0.out.2.1] at hret; rw [C0.out.2.2] at hq; subst hret; obtain ⟨T11, hw, hs⟩ := hq.st; have HW11 := hm7 hw; have HB11 := hm7 (HW10.out.go hs HB10.out HB10.out.size); have HL11 := hm7 (hs.lmO HL10.out); clear hq hw hs)
  have D0 := put_lok HW11.out.ok
  have D1 := put_tak HW11.out.ok
  rw [EG.out] at D0 D1
  have HD0 := hm7 D0
  have HD1 := hm7 D1
  clear D0 D1
  go_upto_region 20 with (go_at_call 14; with_reducible refine (wdropW_any HW11.out ((s.gv : Int) + 1 + 1)).mono ?_; rintro e Y12 ⟨hret, hq⟩; rw [HD0.out] at hret; rw [HD1.out] at hq; subst hret; obtain ⟨T12, hw, hs⟩ := hq.st; have HW12 := hm7 hw; have HB12 := hm7 (HW11.out.go hs HB11.out HB11.out.size); have HL12 := hm7 (hs.lmO HL11.out); clear hq hw hs)
  go_upto_region 21 with (go_at_call 22; with_reducible refine (wwaitW_any HW12.out).mono ?_; rintro e Y13 ⟨u, Z, rfl, hz, ho, hb⟩; have hlm := ho.out HW12.out; rw [hz] at hlm; obtain ⟨x3, y3, rfl, -⟩ := hlm.form; rw [R1.out] at hlm ⊢; have HL3 := hm7 hlm; have HW13 := hm7 (HW12.out.below hb); have HB13 := hm7 (HB12.out.trans (hb.mono HB12.out.size)); have hbw := hb; clear hlm ho hz hb)
  have HL13 := hm7 ((StW.of (T := T12) hbw).lmO HL12.out)
  clear hbw
  have HSR := hm7 (srowsW_any _ _ (putW s [1, 2, 3, 4, 5]).row _ _ Y13 HL13.out HL3.out)
  have ho10 := HW10.out.ok
  have q1 : plW ⟨(putW s [1, 2, 3, 4, 5]).row, (putW s [1, 2, 3, 4, 5]).gv + 1⟩ ((s.gv : Int) + 1) = some s.row.length := put_pl ho10
  have q2 : byW ⟨(putW s [1, 2, 3, 4, 5]).row, (putW s [1, 2, 3, 4, 5]).gv + 1⟩ ((s.gv : Int) + 1) = [1, 2, 3, 4, 5] := put_by ho10
  have q3 : cutE ⟨(putW s [1, 2, 3, 4, 5]).row, (putW s [1, 2, 3, 4, 5]).gv + 1⟩ ((s.gv : Int) + 1) (j : Int) = 0 := by unfold cutE; rw [q1]; simp only; rw [q2, if_neg (by simp; omega)]
  have q4 : cutS ⟨(putW s [1, 2, 3, 4, 5]).row, (putW s [1, 2, 3, 4, 5]).gv + 1⟩ ((s.gv : Int) + 1) (j : Int) = newB ⟨(putW s [1, 2, 3, 4, 5]).row, (putW s [1, 2, 3, 4, 5]).gv + 1⟩ ((s.gv : Int) + 1) ([1, 2, 3, 4, 5].take j) := by unfold cutS; rw [if_pos q3, q2, Int.toNat_natCast]
  have hty : bytW ([1, 2, 3, 4, 5].take j) := fun x hx => l5_byt x (List.mem_of_mem_take hx)
  have htl : ([1, 2, 3, 4, 5].take j : List Int).length = j := by rw [List.length_take]; simp; omega
  obtain ⟨q5, q6⟩ := newB_by HW13.out.ok q1 hty (by omega)
  have Q3 := hm7 q3
  have Q4 := hm7 q4
  have Q5 := hm7 q5
  have Q6 := hm7 q6
  have HTL := hm7 htl
  clear ho10 q1 q2 q3 q4 q5 q6 hty htl
  have hsg2 : (s.gv : Int) ≤ 4000 := by have := HSG.out; omega
  have hsg0 : (0 : Int) ≤ (s.gv : Int) := by omega
  have hgw : IntKind.i64.wrap ((s.gv : Int) + 1 + 1) = (s.gv : Int) + 1 + 1 := by simp [IntKind.wrap, IntKind.bits, IntKind.signed]; omega
  clear y0 y9 o1 o3 hs1 hb0 hand hw256 hwu hwi hxv hav c0 c1 c2 c3 c4
  go_upto_region 23 with (go_at_call 24; with_reducible refine HSR.out.mono ?_; rintro e Y14 ⟨rfl, m14, rfl⟩)
  have HW14 := hm7 (HW13.out.below (⟨rfl, rfl, rfl, Nat.le_refl _, fun _ _ => rfl⟩ : Below Y13.heap.size Y13 (Y13.drewN m14)))
  have HB14 := hm7 (HB13.out.trans (⟨rfl, rfl, rfl, Nat.le_refl _, fun _ _ => rfl⟩ : Below _ Y13 (Y13.drewN m14)))
  go_upto_region 24 with (go_at_call 18; with_reducible refine (wcutW_any HW14.out ((s.gv : Int) + 1) (j : Int)).mono ?_; rintro e Y15 ⟨hret, hq⟩; rw [Q3.out] at hret; rw [Q4.out] at hq; subst hret; obtain ⟨T15, hw, hs⟩ := hq.st; have HW15 := hm7 hw; have HB15 := hm7 (HW14.out.go hs HB14.out HB14.out.size); clear hq hw hs)
  go_upto_region 25 with (go_at_call 15; with_reducible refine (wlookW_any HW15.out ((s.gv : Int) + 1)).mono ?_; rintro e Y16 ⟨u, hret, hu, hb⟩; rw [Q5.out] at hret; rw [Q6.out] at hu; subst hret; have hlb := hu.lb; obtain ⟨wa, wc, rfl, -⟩ := hlb.form; rw [HTL.out] at hlb ⊢; have HU16 := hm7 hlb; have HB16 := hm7 (HB15.out.trans (hb.mono HB15.out.size)); clear hu hb hlb)
  have hb9 := below1 Y16 (.cells #[.int .u8 1, .int .u8 2, .int .u8 3, .int .u8 4, .int .u8 5] 5)
  have HM := hm7 (sameW_any _ _ ([1, 2, 3, 4, 5].take j) ([1, 2, 3, 4, 5].take j) _ _ _ (HU16.out.below hb9) ((lit5W Y16 (fun _ => True) trivial).take (k := j) (by omega)))
  rw [decide_eq_true rfl] at HM
  have HB17 := hm7 (HB16.out.trans (hb9.mono HB16.out.size))
  have j55 : (j : Int) ≤ 5 := by omega
  clear hb9
  go_wp2_with (go_at_call 12; with_reducible refine HM.out.mono ?_; rintro e Y18 ⟨rfl, m18, rfl⟩)
  go_ret
  refine ⟨rfl, HB1.out.trans (Below.mono ?_ HB1.out.size)⟩
  exact (⟨rfl, rfl, rfl, Nat.le_refl _, fun _ _ => rfl⟩ : Below _ Y1 (Y1.drewN _)).trans (HB17.out.trans ⟨rfl, rfl, rfl, Nat.le_refl _, fun _ _ => rfl⟩)
end Go.Proofs.Ytboomeeipnfbmaa
