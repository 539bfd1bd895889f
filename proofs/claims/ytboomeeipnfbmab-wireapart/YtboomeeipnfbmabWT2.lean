/-
  wire: law 23: WireApart.
-/
import Derived.Test.YtboomeeipnfbmabWT1
namespace Go.Proofs.Ytboomeeipnfbmab
open Go.RowKit
attribute [local go_sem ↓] Go.wp_at_zero Go.wp_at_succ

theorem l5_bytX : bytW [1, 2, 3, 4, 5] := by intro x hx; simp at hx; omega
theorem and3X (k : Int) : 0 ≤ bits BinOp.and IntKind.i64 k 3 ∧ bits BinOp.and IntKind.i64 k 3 ≤ 3 := by
  have h1 : (BitVec.ofInt 64 k &&& BitVec.ofInt 64 3).toNat = (k % 4).toNat := by
    rw [BitVec.toNat_and, show (BitVec.ofInt 64 3).toNat = 2 ^ 2 - 1 by decide, Nat.and_two_pow_sub_one_eq_mod, BitVec.toNat_ofInt]
    omega
  have h2 : bits BinOp.and IntKind.i64 k 3 = k % 4 := by
    unfold bits
    simp only
    show IntKind.i64.wrap (((BitVec.ofInt 64 k &&& BitVec.ofInt 64 3).toNat : Nat) : Int) = _
    rw [h1]
    simp [IntKind.wrap, IntKind.bits, IntKind.signed]
    omega
  omega
set_option maxRecDepth 20000 in
set_option maxHeartbeats 16000000 in
theorem wireApartW_any {sv : Value} {L : List (OvW × Value)} {Y : World} (at_ bits_ : Int) (h : ScW (fun x => x < Y.heap.size) Y sv L) :
    Calls Try.prog 3 #[sv, .int .i64 at_, .int .i64 bits_] Y fun e Y' => e = .returned (.bool true) ∧ Below Y.heap.size Y Y' := by
  have HBG := hm7 (begunW_any h)
  have HB0 : Hid (∀ w : World, Calls Try.prog 9 #[.slice none 0 0] w fun e Y' => ∃ (T : Nat → Prop) (g : Nat) (s : WrW), e = .returned (.tuple #[.pointer (some ⟨g, 0, none⟩), .int .i64 1]) ∧ WzW w.heap.size T (.pointer (some ⟨g, 0, none⟩)) s Y' ∧ s.row = [⟨1, [1, 2, 3, 4, 5]⟩] ∧ Below w.heap.size w Y') := fun w => by
    have hs : ScW (fun x => x < w.heap.size) w (.slice none 0 0) [] := ⟨⟨none, 0, rfl, by simp, Or.inl rfl⟩, by simp⟩
    refine (begunL_any hs).mono ?_
    rintro e Y' ⟨T, v, s, rfl, hw, ho, -, hb, -, hl⟩
    obtain ⟨g, rfl⟩ := hw.ptr
    have hg : s.gv = 0 := by simpa using hl
    have hr : s.row = [] := List.eq_nil_of_length_eq_zero (by have := ho.r; omega)
    refine ⟨T, g, _, by rw [hg]; rfl, hw, ?_, hb⟩
    unfold putW
    rw [hr, hg]
    rfl
  obtain ⟨sa, sn, sc, rfl⟩ : ∃ a n c, sv = .slice a n c := by obtain ⟨⟨a, c, e, -⟩, -⟩ := h; exact ⟨_, _, _, e⟩
  have ha3 := and3X at_
  obtain ⟨av, hav⟩ : ∃ a, bits BinOp.and IntKind.i64 at_ 3 = a := ⟨_, rfl⟩
  rw [hav] at ha3
  obtain ⟨j, rfl⟩ : ∃ j : Nat, av = (j : Int) := ⟨av.toNat, by omega⟩
  have hj : j ≤ 3 := by omega
  obtain ⟨kb, hkb⟩ : ∃ a, bits BinOp.or IntKind.i64 bits_ 1 = a := ⟨_, rfl⟩
  clear h
  go_enter Try.func3, Try.ntmps3
  go_upto_region 2 with (go_at_call 9; (with_reducible refine HBG.out.mono ?_); rintro e Y1 ⟨T1, v, s, rfl, hw, hso, hsg, hb, hts⟩; obtain ⟨g, rfl⟩ := hw.ptr; have HW1 := hm7 hw; have HB1 := hm7 hb; have HSG := hm7 hsg; clear hw hb hso hsg hts)
  go_upto_region 3 with (go_at_call 9; (with_reducible refine (HB0.out Y1).mono ?_); rintro e Y2 ⟨T2, gv, sv2, rfl, hv, hsr, hb⟩; have HV2 := hm7 hv; have HSR := hm7 hsr; have HB2 := hm7 (HB1.out.trans (hb.mono HB1.out.size)); have HW2 := hm7 (HW1.out.below hb); have HZ12 := hm7 hb.size; clear hv hsr hb)
  have HSEP1 : Hid (∀ b, T2 b → ¬ T1 b) := hm7 fun b h2 h1 => by have := (HV2.out.t b h2).1; have := HW1.out.lt b h1; omega
  have C0 := hm7 (put_cpy HW2.out.ok (by have := HSG.out; omega))
  go_upto_region 7 with (go_at_call 10; with_reducible refine (wcpyW_any HW2.out ((s.gv : Int) + 1)).mono ?_; rintro e Y3 ⟨hret, hq⟩; rw [C0.out.1, C0.out.2.1] at hret; rw [C0.out.2.2] at hq; subst hret; obtain ⟨T3, hw, hs⟩ := hq.st; have HW3 := hm7 hw; have HB3 := hm7 (HW2.out.go hs HB2.out HB2.out.size); have HV3 := hm7 (HV2.out.fr hs.f fun b hb1 hb2 => HSEP1.out b hb2); have HSEP3 := hm7 (fun b (h2 : T2 b) (ht : T3 b) => (hs.s b ht).elim (HSEP1.out b h2) fun h => by {have := HV2.out.lt b h2; omega}); clear hq hw hs)
  obtain ⟨F1, fb, F2, F3⟩ := apart_row HW3.out.ok (a := (j : Int)) kb (by omega) (by simp; omega)
  have HF1 := hm7 F1
  have HF2 := hm7 F2
  have HF3 := hm7 F3
  clear F1 F2 F3
  go_upto_region 8 with (go_at_call 11; with_reducible refine (wflpW_any HW3.out ((s.gv : Int) + 1) (j : Int) kb).mono ?_; rintro e Y4 ⟨hret, hq⟩; rw [HF1.out] at hret; rw [HF3.out] at hq; subst hret; obtain ⟨T4, hw, hs⟩ := hq.st; have HW4 := hm7 hw; have HB4 := hm7 (HW3.out.go hs HB3.out HB3.out.size); have HV4 := hm7 (HV3.out.fr hs.f fun b hb1 hb2 => HSEP3.out b hb2); have HSEP4 := hm7 (fun b (h2 : T2 b) (ht : T4 b) => (hs.s b ht).elim (HSEP3.out b h2) fun h => by {have := HV3.out.lt b h2; omega}); clear hq hw hs)
  have A0 := hm7 (apart_one HW4.out.ok)
  obtain ⟨S4, hS4⟩ : ∃ S4, WrW.mk (s.row ++ [⟨s.gv + 1, fb⟩, ⟨s.gv + 2, [1, 2, 3, 4, 5]⟩]) (s.gv + 2) = S4 := ⟨_, rfl⟩
  rw [hS4] at HW4 A0
  have hlook : Calls Try.prog 12 #[.pointer (some ⟨g, 0, none⟩), .int .i64 ((s.gv : Int) + 1 + 1)] Y4 fun e Y' => ∃ x cap, e = .returned (.tuple #[.slice (some ⟨x, 0, none⟩) 5 cap, .int .i64 0]) ∧ OwW Y' Y4.heap.size (.slice (some ⟨x, 0, none⟩) 5 cap) [1, 2, 3, 4, 5] ∧ Y4.heap.size ≤ x ∧ Below Y4.heap.size Y4 Y' := by
    refine (ylook_any (show WyW _ _ _ _ _ from HW4.out) ((s.gv : Int) + 1 + 1)).mono ?_
    rintro e Y' ⟨u, e1, e2, e3⟩
    rw [A0.out.2.2.2] at e2
    rw [A0.out.2.2.1] at e1
    rcases e2 with e2 | ⟨e2, -⟩
    · obtain ⟨x, cap, rfl, hx, -⟩ := OwW.form e2 (by simp)
      exact ⟨x, cap, e1, e2, hx, e3⟩
    · simp at e2
  have HLK := hm7 hlook
  clear hlook hS4
  go_upto_region 9 with (go_at_call 12; with_reducible refine HLK.out.mono ?_; rintro e Y5 ⟨xb, xc, rfl, hu, hx, hb⟩; have HU5 := hm7 hu; have HX5 := hm7 hx; have HW5 := hm7 (HW4.out.below hb); have HV5 := hm7 (HV4.out.below hb); have HB5 := hm7 (HB4.out.trans (hb.mono HB4.out.size)); have HZ5 := hm7 hb.size; clear hu hx hb)
  obtain ⟨Y5a, hY5a⟩ : ∃ Y5a, Y5.alloc (.cells #[.int .u8 1, .int .u8 2, .int .u8 3, .int .u8 4, .int .u8 5] 5) = Y5a := ⟨_, rfl⟩
  have hb5 : Below Y5.heap.size Y5 Y5a := by rw [← hY5a]; exact below1 _ _
  have hl5 := lit5W Y5 (fun _ => True) trivial
  rw [hY5a] at hl5
  have HSB := hm7 (sameW_any _ _ _ _ _ _ Y5a ((HU5.out.lb l5_bytX).below hb5) hl5)
  rw [decide_eq_true rfl] at HSB
  have HB5a := hm7 hb5
  clear hl5 hb5
  go_upto_region 11 with (go_at_call 13; with_reducible refine HSB.out.mono ?_; rintro e Y6 ⟨rfl, m6, rfl⟩)
  obtain ⟨Y6, hY6⟩ : ∃ Y6, Y5a.drewN m6 = Y6 := ⟨_, rfl⟩
  have hb6 : Below Y5a.heap.size Y5a Y6 := by rw [← hY6]; exact ⟨rfl, rfl, rfl, Nat.le_refl _, fun _ _ => rfl⟩
  rw [hY6]
  have hb56 := bel_step HB5a.out hb6
  have HW6 := hm7 (HW5.out.below hb56)
  have HV6 := hm7 (HV5.out.below hb56)
  have HB6 := hm7 (HB5.out.trans (hb56.mono HB5.out.size))
  have HU6 : Hid (OwW Y6 Y4.heap.size (.slice (some ⟨xb, 0, none⟩) 5 xc) [1, 2, 3, 4, 5]) := hm7 (row7_below HU5.out hb56)
  have HZ6 := hm7 hb56.size
  clear hY5a hY6 hb6 hb56
  obtain ⟨M, hM⟩ : ∃ M, S4.row.length = M := ⟨_, rfl⟩
  have HWT := hm7 (ywait_any (show WyW _ _ _ _ _ from HW6.out))
  rw [hM] at HWT
  have HM := hm7 hM
  have hM4 : M ≤ 4096 := by rw [← hM]; have h1 := HW6.out.ok.r; have h2 := HW6.out.ok.g; omega
  clear hM
  go_upto_region 12 with (go_at_call 14; with_reducible refine HWT.out.mono ?_; rintro e Y7 ⟨Gr, Q, rfl, hx7⟩; have HX7 := hm7 hx7; clear hx7)
  obtain ⟨hQ, ho, hb⟩ := HX7.out
  have HQ7 := hm7 hQ
  have HO7 := hm7 ho
  have HW7 := hm7 (HW6.out.below hb)
  have HV7 := hm7 (HV6.out.below hb)
  have HB7 := hm7 (HB6.out.trans (hb.mono HB6.out.size))
  have HU7 : Hid (OwW Y7 Y4.heap.size (.slice (some ⟨xb, 0, none⟩) 5 xc) [1, 2, 3, 4, 5]) := hm7 (row7_below HU6.out hb)
  have HZ7 := hm7 hb.size
  clear hQ ho hb HX7
  go_upto_region 13 with (go_at_call 14; with_reducible refine (wwaitW_any HW7.out).mono ?_; rintro e Y8 ⟨u, Z, rfl, hz, ho, hb⟩; have hlm := ho.lm; rw [hz] at hlm; obtain ⟨ka, kc, rfl, -⟩ := hlm.form; rw [HM.out] at hlm ⊢; have HX8 := hm7 (And.intro hlm hb); clear hlm ho hz hb)
  obtain ⟨hlm, hb⟩ := HX8.out
  have HK8 := hm7 hlm
  have HW8 := hm7 (HW7.out.below hb)
  have HV8 := hm7 (HV7.out.below hb)
  have HB8 := hm7 (HB7.out.trans (hb.mono HB7.out.size))
  have HU8 : Hid (OwW Y8 Y4.heap.size (.slice (some ⟨xb, 0, none⟩) 5 xc) [1, 2, 3, 4, 5]) := hm7 (row7_below HU7.out hb)
  have HO8 := hm7 (HO7.out.below hb)
  have HZ8 := hm7 hb.size
  clear hlm hb HX8
  have HA8 : Hid (AyW Y6.heap.size Y7.heap.size Y8.heap.size Gr M 1048576 Y8 Q) := hm7 ⟨HO8.out, by rw [← HM.out, ← HQ7.out, List.length_map], by obtain ⟨R, hR, -⟩ := HO7.out.b; exact hR.lt, fun q hq x hx => Or.inl (World.ownsRow.lt (HO7.out.u q hq).1 x hx).2, fun q hq => HW8.out.ok.l q.1 (by rw [← HQ7.out]; exact List.mem_map_of_mem hq)⟩
  clear HO7 HO8 HWT HBG HB0
  have z46 : Y4.heap.size ≤ Y6.heap.size := by have := HZ5.out; have := HZ6.out; omega
  have hxb : xb < Y6.heap.size := (World.ownsRow.lt HU6.out xb rfl).2
  have z68 : Y6.heap.size ≤ Y8.heap.size := by have := HZ7.out; have := HZ8.out; omega
  have z78 := HZ8.out
  go_upto_region 14 with (fail)
  go_loopg [18, 19] M (fun gg i _ wr => ∃ (k : Nat) (Q' : List (MsW × Value)), k + gg = M ∧ i = .int .i64 k ∧ AyW Y6.heap.size Y7.heap.size Y8.heap.size Gr M 1048576 wr Q' ∧ Fr (fun x => Y6.heap.size ≤ x ∧ x < Y7.heap.size) Y8 wr)
  case atStart => exact ⟨0, Q, by omega, rfl, HA8.out, Fr.refl _ _⟩
  case round =>
    obtain ⟨k, Q1, hk, rfl, hay, hf⟩ := hrel
    have HAY := hm7 hay
    have HFR := hm7 hf
    clear hay hf
    cases gk with
    | succ gg =>
      have hlt : (k : Int) < (M : Int) := by omega
      have k0 : (0 : Int) ≤ (k : Int) := by omega
      obtain ⟨q, hq⟩ : ∃ q, Q1[k]? = some q := ⟨_, List.getElem?_eq_getElem (by have := HAY.out.l; omega)⟩
      obtain ⟨qa, qc, hqv, -⟩ := row7_form (HAY.out.q.u q (List.mem_of_getElem? hq)).1
      obtain ⟨N, hN⟩ : ∃ N, q.1.b.length = N := ⟨_, rfl⟩
      rw [hN] at hqv
      have hNb : N ≤ 1048576 := by rw [← hN]; exact HAY.out.n q (List.mem_of_getElem? hq)
      have HQ1 := hm7 hq
      have HQV := hm7 hqv
      have HN := hm7 hN
      have hw100 : IntKind.i64.wrap ((k : Int) + 100) = (k : Int) + 100 := by simp [IntKind.wrap, IntKind.bits, IntKind.signed]; omega
      obtain ⟨z, hz⟩ : ∃ z, IntKind.u8.wrap ((k : Int) + 100) = z := ⟨_, rfl⟩
      clear hq hqv hN
      obtain ⟨W5, hW5⟩ : ∃ W5, W5 = wr := ⟨_, rfl⟩
      rw [← hW5] at HAY HFR ⊢
      clear hW5
      go_upto_region 17 with (fail)
      go_loopg [19] N (fun gg2 i2 wr => ∃ (m : Nat) (Q2 : List (MsW × Value)) (q2 : MsW × Value), m + gg2 = N ∧ i2 = .int .i64 m ∧ Q2[k]? = some q2 ∧ q2.2 = .slice qa N qc ∧ q2.1.b.length = N ∧ AyW Y6.heap.size Y7.heap.size Y8.heap.size Gr M 1048576 wr Q2 ∧ Fr (fun x => Y6.heap.size ≤ x ∧ x < Y7.heap.size) Y8 wr)
      case atStart => exact ⟨0, Q1, q, by omega, rfl, HQ1.out, HQV.out, HN.out, HAY.out, HFR.out⟩
      case round =>
        obtain ⟨m, Q2, q2, hm, rfl, hq2, hv2, hn2, hay2, hf2⟩ := hrel
        obtain ⟨-, p1, -⟩ := hay2.q.at_ hq2
        rw [hv2] at p1
        have HAY2 := hm7 hay2
        have HFR2 := hm7 hf2
        have HQ2 := hm7 hq2
        have HV2' := hm7 hv2
        have HN2 := hm7 hn2
        cases gk with
        | succ gg2 =>
          have hlt2 : (m : Int) < (N : Int) := by omega
          have m0 : (0 : Int) ≤ (m : Int) := by omega
          have hne : q2.1.b ≠ [] := fun e => by rw [e] at hn2; simp at hn2; omega
          have ho2 := (hay2.q.u q2 (List.mem_of_getElem? hq2)).1
          rw [hv2] at ho2
          obtain ⟨x, cap, e, hx1, hx2, hcs, hfz⟩ := OwW.form ho2 hne
          simp only [Value.slice.injEq] at e
          obtain ⟨rfl, -, rfl⟩ := e
          obtain ⟨y, hy⟩ : ∃ y, q2.1.b[m]? = some y := ⟨_, List.getElem?_eq_getElem (by omega)⟩
          have c1 := hcs m y hy
          have f1 := hfz m
          have hxs := hay2.s q2 (List.mem_of_getElem? hq2) x (by rw [hv2]; rfl)
          have HXS := hm7 hxs
          have hkl : k < Q2.length := by have := (List.getElem?_eq_some_iff.1 hq2).1; exact this
          clear hay2 hf2 hq2 hv2 hn2 hne ho2 hcs hfz hy hxs
          go_wp2
          go_roundg gg2
          case measure => omega
          case rel =>
            refine ⟨m + 1, Q2.set k (⟨q2.1.n, q2.1.b.set m z⟩, q2.2), (⟨q2.1.n, q2.1.b.set m z⟩, q2.2), by omega, by go_num, List.getElem?_set_self hkl, HV2'.out, by simp only [List.length_set]; exact HN2.out, HAY2.out.flip HQ2.out HV2'.out HN2.out z, HFR2.out.set ?_⟩
            rcases HXS.out with h1 | h1
            · exact Or.inl ⟨hx1, h1⟩
            · exact Or.inr h1
        | zero =>
          have hlt2 : ¬ (m : Int) < (N : Int) := by omega
          clear hay2 hf2 hq2 hv2 hn2
          go_wp2
          go_roundg gg
          case measure => omega
          case rel => exact ⟨k + 1, Q2, by omega, by go_num, HAY2.out, HFR2.out⟩
    | zero =>
      have hlt : ¬ (k : Int) < (M : Int) := by omega
      obtain ⟨W5, hW5⟩ : ∃ W5, W5 = wr := ⟨_, rfl⟩
      rw [← hW5] at HAY HFR ⊢
      clear hW5
      go_upto_region 21 with (fail)
      clear hlt
      go_loopg [20] M (fun gg i wr => ∃ (k : Nat) (Q' : List (MsW × Value)), k + gg = M ∧ i = .int .i64 k ∧ AyW Y6.heap.size Y7.heap.size Y8.heap.size Gr M (1048576 + 8 * k) wr Q' ∧ Fr (fun x => Y6.heap.size ≤ x ∧ x < Y7.heap.size) Y8 wr)
      case atStart => exact ⟨0, Q1, by omega, rfl, HAY.out, HFR.out⟩
      case round =>
        obtain ⟨k, Q3, hk3, rfl, hay, hf⟩ := hrel
        have HAY3 := hm7 hay
        have HFR3 := hm7 hf
        clear hay hf
        cases gk with
        | succ gg =>
          have hlt : (k : Int) < (M : Int) := by omega
          have k0 : (0 : Int) ≤ (k : Int) := by omega
          obtain ⟨q, hq⟩ : ∃ q, Q3[k]? = some q := ⟨_, List.getElem?_eq_getElem (by have := HAY3.out.l; omega)⟩
          have hqo := (HAY3.out.q.u q (List.mem_of_getElem? hq)).1
          obtain ⟨qa, qc, hqv, -⟩ := row7_form hqo
          obtain ⟨N, hN⟩ : ∃ N, q.1.b.length = N := ⟨_, rfl⟩
          rw [hN] at hqv
          have hNb : N ≤ 1048576 + 8 * k := by rw [← hN]; exact HAY3.out.n q (List.mem_of_getElem? hq)
          obtain ⟨Ya, hYa⟩ : ∃ Ya, wr.alloc (.cells #[.int .u8 201, .int .u8 202, .int .u8 203, .int .u8 204, .int .u8 205, .int .u8 206, .int .u8 207, .int .u8 208] 5) = Ya := ⟨_, rfl⟩
          have hba : Below wr.heap.size wr Ya := by rw [← hYa]; exact below1 _ _
          have hkb8 : Bk Ya wr.heap.size #[.int .u8 201, .int .u8 202, .int .u8 203, .int .u8 204, .int .u8 205, .int .u8 206, .int .u8 207, .int .u8 208] 5 := by rw [← hYa]; exact Bk.new _ _ _
          have HAYa := hm7 (HAY3.out.below hba)
          obtain ⟨hGl, p1, pf⟩ := HAYa.out.q.at_ hq
          obtain ⟨-, p1r, -⟩ := HAY3.out.q.at_ hq
          have hqoa : Ya.ownsRow Y6.heap.size 5 1 q.2 N (ubW q.1.b) := by have := row7_below hqo hba; rw [hN] at this; exact this
          have hqG := (HAYa.out.q.u q (List.mem_of_getElem? hq)).2
          rw [hqv] at p1 p1r hqoa hqG
          have HQO := hm7 hqoa
          have HQG := hm7 hqG
          have HQ3 := hm7 hq
          have HQV := hm7 hqv
          have HN := hm7 hN
          have HBA := hm7 hba
          have HSRC : Hid ((Value.slice (some ⟨wr.heap.size, 0, none⟩) 8 8 = .slice none 0 0 ∧ 8 = 0 ∧ ubW [201, 202, 203, 204, 205, 206, 207, 208] = []) ∨ ∃ (ad : Addr) (c : Nat), Value.slice (some ⟨wr.heap.size, 0, none⟩) 8 8 = .slice (some ad) 8 c ∧ (ubW [201, 202, 203, 204, 205, 206, 207, 208]).length = 8 * 1 ∧ ∀ (j : Nat) u, (ubW [201, 202, 203, 204, 205, 206, 207, 208])[j]? = some u → Ya.cell? (ad.add j) = some u) := hm7 (Or.inr ⟨⟨wr.heap.size, 0, none⟩, 8, rfl, rfl, fun j u hj => by
            have := World.news_of_block (cs := #[.int .u8 201, .int .u8 202, .int .u8 203, .int .u8 204, .int .u8 205, .int .u8 206, .int .u8 207, .int .u8 208]) (t := 5) (fr := (0, 0)) hkb8 j u (by simpa [ubW] using hj)
            exact this⟩)
          have HGL := hm7 hGl
          have HYA := hm7 hYa
          have HZA : Hid (Y6.heap.size ≤ Ya.heap.size) := hm7 (by have := HFR3.out.size; have := hba.size; omega)
          clear hq hqo hqv hN hba hkb8 hqoa hqG hGl
          go_wp2_with (at_builtin; refine gappW Try.underlying30 Try.infoU8W rfl (by omega) rfl _ _ rfl Y6.heap.size (.slice qa N qc) N (ubW q.1.b) rfl HQO.out (.slice (some ⟨wr.heap.size, 0, none⟩) 8 8) 8 (ubW [201, 202, 203, 204, 205, 206, 207, 208]) rfl HSRC.out (ubW_one _) (by omega) (by omega) HZA.out ?_; intro v6 w6 ho6 hg6 hv6; obtain ⟨a6, c6, rfl, -⟩ := row7_form ho6; obtain ⟨e1, ef⟩ := HAYa.out.q.grown HQ3.out (by rw [HQV.out]; exact hg6); have HX6 := hm7 (And.intro ho6 (And.intro hg6 hv6)); clear ho6 hg6 hv6)
          go_roundg gg
          case measure => omega
          case rel =>
            obtain ⟨ho6, hg6, hv6⟩ := HX6.out
            have hg6' : Ya.grownBy w6 q.2.ownBlock := by rw [HQV.out]; exact hg6
            have ho6' : OwW w6 Y6.heap.size (.slice a6 (N + 8) c6) (q.1.b ++ [201, 202, 203, 204, 205, 206, 207, 208]) := by
              unfold OwW
              rw [List.length_append, HN.out, ubW_app]
              exact ho6
            have hap := HAYa.out.app HQ3.out (bn' := 1048576 + 8 * (k + 1)) hg6' ho6' (by rw [HQV.out]; exact hv6) (by omega) (by rw [List.length_append, HN.out]; simp; omega) (by have := HFR3.out.size; have := HBA.out.size; omega)
            refine ⟨k + 1, Q3.set k (⟨q.1.n, q.1.b ++ [201, 202, 203, 204, 205, 206, 207, 208]⟩, .slice a6 (N + 8) c6), by omega, by go_num, hap, ?_⟩
            refine ((HFR3.out.then HBA.out).trans (Fr.own hg6') fun x hx e => ?_).set (Or.inl ⟨HAYa.out.q.g, HAYa.out.g⟩)
            have h1 := (World.ownsRow.lt (HAYa.out.q.u q (List.mem_of_getElem? HQ3.out)).1 x e).1
            rcases HAYa.out.s q (List.mem_of_getElem? HQ3.out) x e with h2 | h2
            · exact ⟨h1, h2⟩
            · omega
        | zero =>
          have hlt : ¬ (k : Int) < (M : Int) := by omega
          have HF9 : Hid (Fr (fun x => Y4.heap.size ≤ x ∧ x < Y7.heap.size) Y8 wr) := hm7 (HFR3.out.mono fun x _ hx => ⟨by omega, hx.2⟩)
          have HU9 : Hid (OwW wr Y4.heap.size (.slice (some ⟨xb, 0, none⟩) 5 xc) [1, 2, 3, 4, 5]) := hm7 (row7_fr HU8.out HFR3.out fun x hx e => by
            simp only [Value.ownBlock, Option.some.injEq] at hx
            omega)
          obtain ⟨W5, hW5⟩ : ∃ W5, W5 = wr := ⟨_, rfl⟩
          rw [← hW5] at HF9 HU9 ⊢
          clear hW5
          go_upto_region 25 with (fail)
          go_loopg [21] 5 (fun gg i wr => ∃ (m : Nat) (l : List Int), m + gg = 5 ∧ i = .int .i64 m ∧ l.length = 5 ∧ OwW wr Y4.heap.size (.slice (some ⟨xb, 0, none⟩) 5 xc) l ∧ Fr (fun x => Y4.heap.size ≤ x ∧ x < Y7.heap.size) Y8 wr)
          case atStart => exact ⟨0, _, by omega, rfl, rfl, HU9.out, HF9.out⟩
          case round =>
            obtain ⟨m, l, hm, rfl, hl, hu, hf⟩ := hrel
            have HL4 := hm7 hl
            have HU4 := hm7 hu
            have HF4 := hm7 hf
            cases gk with
            | succ gg =>
              have hlt2 : (m : Int) < 5 := by omega
              have m0 : (0 : Int) ≤ (m : Int) := by omega
              obtain ⟨x, cap, e, hx1, hx2, hcs, hfz⟩ := OwW.form hu (fun e => by rw [e] at hl; simp at hl)
              simp only [Value.slice.injEq, Option.some.injEq, Addr.mk.injEq, and_true] at e
              obtain ⟨rfl, -, rfl⟩ := e
              obtain ⟨y, hy⟩ : ∃ y, l[m]? = some y := ⟨_, List.getElem?_eq_getElem (by omega)⟩
              have c1 := hcs m y hy
              have f1 := hfz m
              clear hl hu hf hcs hfz hy
              go_wp2
              go_roundg gg
              case measure => omega
              case rel => exact ⟨m + 1, l.set m 99, by omega, by go_num, by rw [List.length_set]; exact HL4.out, HU4.out.put HL4.out, HF4.out.set (Or.inl ⟨hx1, by have := HZ7.out; omega⟩)⟩
            | zero =>
              have hlt2 : ¬ (m : Int) < 5 := by omega
              have hW9 := HW8.out.fr hf fun b hb1 hb2 hP => by have := HW4.out.lt b hb2; omega
              have hV9 := HV8.out.fr hf fun b hb1 hb2 hP => by have := HV4.out.lt b hb2; omega
              have hK9 := HK8.out.same hf.size fun b hb1 hb2 => hf.block b hb1 fun hP => by omega
              have hB9 : Below Y.heap.size Y wr := HB8.out.trans ⟨hf.os, hf.tape, hf.output, hf.size, fun b hb1 => hf.block b (by have := HB8.out.size; omega) fun hP => by have := HB4.out.size; omega⟩
              have HW9 := hm7 hW9
              have HV9 := hm7 hV9
              have HK9 := hm7 hK9
              have HB9 := hm7 hB9
              have HZ9 := hm7 hf.size
              clear hl hu hf hW9 hV9 hK9 hB9
              obtain ⟨Y9, hY9⟩ : ∃ Y9, Y9 = wr := ⟨_, rfl⟩
              rw [← hY9] at HW9 HV9 HK9 HB9 HZ9 HF4 ⊢
              clear hY9 HU4
              clear HFR3 HAY3 HAY HFR
              go_upto_region 29 with (go_at_call 14; with_reducible refine (wwaitW_any HW9.out).mono ?_; rintro e Y10 ⟨u, Z10, rfl, hz, ho, hb⟩; have hlm := ho.lm; rw [hz] at hlm; obtain ⟨na, nc, rfl, -⟩ := hlm.form; rw [HM.out] at hlm ⊢; have HX10 := hm7 (And.intro hlm hb); clear hlm ho hz hb)
              obtain ⟨hlm, hb⟩ := HX10.out
              have HN10 := hm7 hlm
              have HW10 := hm7 (HW9.out.below hb)
              have HV10 := hm7 (HV9.out.below hb)
              have HB10 := hm7 (HB9.out.trans (hb.mono HB9.out.size))
              have HK10 := hm7 (HK9.out.same hb.size fun b h1 _ => hb.block b h1)
              have HZ10 := hm7 hb.size
              clear hlm hb HX10
              have HOT := hm7 (ywait_any (show WyW _ _ _ _ _ from HV10.out))
              rw [show sv2.row.length = 1 by rw [HSR.out]; rfl] at HOT
              go_upto_region 30 with (go_at_call 14; with_reducible refine HOT.out.mono ?_; rintro e Y11 ⟨Go, Qo, rfl, hx⟩; have HX11 := hm7 hx; clear hx)
              obtain ⟨hQo, ho, hb⟩ := HX11.out
              rw [HSR.out] at hQo
              obtain ⟨qo, rfl⟩ : ∃ qo, Qo = [qo] := List.length_eq_one_iff.1 (by have := congrArg List.length hQo; rw [List.length_map] at this; exact this)
              simp only [List.map_cons, List.map_nil, List.cons.injEq, and_true] at hQo
              obtain ⟨-, o1, -⟩ := ho.at_ (k := 0) rfl
              obtain ⟨ho1, ho2⟩ := ho.u qo (by simp)
              rw [hQo] at ho1
              obtain ⟨xo, co, eo, hxo, -⟩ := OwW.form ho1 (by simp)
              rw [eo] at o1 ho1
              have hoG := (World.ownsRow.lt ho1 xo rfl)
              have hGo : Y10.heap.size ≤ Go := ho.g
              have hGol : Go < Y11.heap.size := by obtain ⟨R, hR, -⟩ := ho.b; exact hR.lt
              have HO1 : Hid (OwW Y11 Y10.heap.size (.slice (some ⟨xo, 0, none⟩) 5 co) [1, 2, 3, 4, 5]) := hm7 ho1
              have HC1 : Hid (Y11.cell? ⟨Go, 1, none⟩ = some (.slice (some ⟨xo, 0, none⟩) 5 co)) := hm7 (by simpa using o1)
              have HW11 := hm7 (HW10.out.below hb)
              have HB11 := hm7 (HB10.out.trans (hb.mono HB10.out.size))
              have HK11 := hm7 (HK10.out.same hb.size fun b h1 _ => hb.block b h1)
              have HN11 := hm7 (HN10.out.same hb.size fun b h1 _ => hb.block b h1)
              have HZ11 := hm7 hb.size
              have hfl : fb.length = 5 := HF2.out
              have HFL := hm7 hfl
              clear hQo ho hb HX11 o1 ho1 ho2 eo HOT hfl
              go_upto_region 31 with (go_at_call 15; with_reducible refine (wtakeW_any HW11.out ((s.gv : Int) + 1)).mono ?_; rintro e Y12 ⟨u, T12, hret, hw, h1, h2, h3⟩; rw [A0.out.1] at hret; rw [A0.out.2.1] at h3; subst hret; obtain ⟨ba, bc, rfl, -⟩ := h3.form; rw [HFL.out]; have HX12 := hm7 (And.intro hw (And.intro h1 h2)); clear hw h1 h2 h3)
              obtain ⟨hw, h1, hf⟩ := HX12.out
              have hlt4 : ∀ x, T4 x → x < Y4.heap.size := HW4.out.lt
              have z47 : Y4.heap.size ≤ Y7.heap.size := by have := HZ7.out; omega
              have z49 : Y4.heap.size ≤ Y9.heap.size := by have := HZ9.out; omega
              have z410 : Y4.heap.size ≤ Y10.heap.size := by have := HZ10.out; omega
              have hc12 : Y12.cell? ⟨Go, 1, none⟩ = some (.slice (some ⟨xo, 0, none⟩) 5 co) := hf.cell hGol (fun ht => by have := hlt4 _ ht; omega) HC1.out
              have ho12 : OwW Y12 Y10.heap.size (.slice (some ⟨xo, 0, none⟩) 5 co) [1, 2, 3, 4, 5] := row7_fr HO1.out hf fun x hx ht => by
                simp only [Value.ownBlock, Option.some.injEq] at hx
                have := hlt4 _ ht
                omega
              have hk12 := HK11.out.same hf.size fun b hb1 hb2 => hf.block b hb1 fun ht => by have := hlt4 _ ht; omega
              have hn12 := HN11.out.same hf.size fun b hb1 hb2 => hf.block b hb1 fun ht => by have := hlt4 _ ht; omega
              have HB12 : Hid (Below Y.heap.size Y Y12) := hm7 (HW11.out.go ⟨hf, h1⟩ HB11.out HB11.out.size)
              have HSW := hm7 (srowsW_any _ _ _ _ _ Y12 hn12 hk12)
              have HO12 := hm7 ho12
              clear hw h1 hf ho12 hk12 hn12 HX12
              go_upto_region 33 with (go_at_call 16; with_reducible refine HSW.out.mono ?_; rintro e Y13 ⟨rfl, m13, rfl⟩)
              obtain ⟨Y13, hY13⟩ : ∃ Y13, Y12.drewN m13 = Y13 := ⟨_, rfl⟩
              have hb13 : Below Y12.heap.size Y12 Y13 := by rw [← hY13]; exact ⟨rfl, rfl, rfl, Nat.le_refl _, fun _ _ => rfl⟩
              have hc13 : Y13.cell? ⟨Go, 1, none⟩ = some (.slice (some ⟨xo, 0, none⟩) 5 co) := by rw [← hY13]; exact hc12
              rw [hY13]
              have ho13 : OwW Y13 Y10.heap.size (.slice (some ⟨xo, 0, none⟩) 5 co) [1, 2, 3, 4, 5] := row7_below HO12.out hb13
              obtain ⟨Y14, hY14⟩ : ∃ Y14, Y13.alloc (.cells #[.int .u8 1, .int .u8 2, .int .u8 3, .int .u8 4, .int .u8 5] 5) = Y14 := ⟨_, rfl⟩
              have hb14 : Below Y13.heap.size Y13 Y14 := by rw [← hY14]; exact below1 _ _
              have hl14 := lit5W Y13 (fun _ => True) trivial
              rw [hY14] at hl14
              have HSB2 := hm7 (sameW_any _ _ _ _ _ _ Y14 ((ho13.lb l5_bytX).below hb14) hl14)
              rw [decide_eq_true rfl] at HSB2
              have HB14 : Hid (Below Y.heap.size Y Y14) := hm7 ((HB12.out.trans (hb13.mono HB12.out.size)).trans (hb14.mono (Nat.le_trans HB12.out.size hb13.size)))
              clear hc12 hY13 hb13 ho13 hb14 hl14
              go_wp2_with (go_at_call 13; with_reducible refine HSB2.out.mono ?_; rintro e Y15 ⟨rfl, m15, rfl⟩)
              go_ret
              exact ⟨rfl, HB14.out.trans ⟨rfl, rfl, rfl, Nat.le_refl _, fun _ _ => rfl⟩⟩
end Go.Proofs.Ytboomeeipnfbmab
