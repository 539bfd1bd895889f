/-
  hearsaylaw25: ScriptRefuses' walk.
-/
import Derived.Test.YtdfdnjkeiddfjaaDoorSLA
namespace Go.Proofs.YtdfdnjkeiddfjaaDoor
open Go.RowKit
attribute [local go_sem ↓] Go.wp_at_zero Go.wp_at_succ

set_option maxRecDepth 20000 in
set_option maxHeartbeats 8000000 in
theorem srefuses_any (d : SdO) (b : ByteArray) (x1 x2 : Int) (a : Option Addr) (c : Nat) (w : World) (hb : LbW (fun _ => True) w (.slice a b.size c) (blK b)) (hE : EnS w) (hn : N64S d.n) (hm : N64S d.m) (hq : N64S d.q) : Calls Tryd.prog 5 #[d.v a b.size c, .agg #[.int .i64 x1, .int .i64 x2]] w fun e w' => e = .returned (.bool true) ∧ Below w.heap.size w w' := by
  have HE := hm7 hE
  have HMD : Hid (∀ X, LbW (fun _ => True) X (.slice a b.size c) (blK b) → Calls Tryd.prog 13 #[d.v a b.size c] X (MdQ X (mkD d) (mkB d b))) := fun X h => madeL_any d b a c X h
  obtain ⟨S, T, n, hsp⟩ := spL_of d b hn hm hq
  obtain ⟨D, hD⟩ : ∃ D, mkD d = D := ⟨_, rfl⟩
  obtain ⟨B, hB⟩ : ∃ B, mkB d b = B := ⟨_, rfl⟩
  rw [hD, hB] at hsp HMD
  have HPR : Hid (∀ (X : World) a c, EnS X → LbW (fun _ => True) X (.slice a B.size c) (blK B) → Calls Tryd.prog 10 #[D.v a B.size c] X fun e w' => e = .returned (.tuple #[.string S, .bool true]) ∧ Below X.heap.size X w') := fun X a c h hl => by
    have := aSPrint_any D B a c hsp.ok X h hl
    rw [hsp.pr] at this
    exact this
  obtain ⟨A1, hA1⟩ : ∃ A, S ++ (⟨#[32, 120]⟩ : ByteArray) = A := ⟨_, rfl⟩
  obtain ⟨A2, hA2⟩ : ∃ A, (⟨#[88]⟩ : ByteArray) ++ S = A := ⟨_, rfl⟩
  have hz := hsp.sz
  have l1 : A1.size = S.size + 2 := by rw [← hA1, ByteArray.size_append]; rfl
  have l2 : A2.size = 1 + S.size := by rw [← hA2, ByteArray.size_append]; rfl
  have HR1 : Hid (∀ X, EnS X → Calls Tryd.prog 9 #[.string A1] X (RdQ X (noS 253 (S.size + 1)))) := fun X h => by rw [← hsp.more, hA1]; exact aSRead_any A1 (by omega) X h
  have HR2 : Hid (∀ X, EnS X → Calls Tryd.prog 9 #[.string A2] X (RdQ X (noS 252 0))) := fun X h => by rw [← hsp.first, hA2]; exact aSRead_any A2 (by omega) X h
  have HKC : Hid (∀ X, EnS X → Calls Tryd.prog 14 #[.string S, .int .i64 (S.size : Int)] X (KPost X (T, 0, 0))) := fun X h => by rw [← hsp.cut]; exact cut_any S _ (by omega) X h.env
  have HF : Hid (∀ X, EnS X → Calls Tryd.prog 12 #[] X fun e w' => e = .returned (.bool true) ∧ Below X.heap.size X w') := fun X h => first_any X h
  have HSP := hm7 hsp
  have g1 : ¬ 9223372036854775807 < S.size + 2 := by omega
  have g2 : ¬ 9223372036854775807 < 1 + S.size := by omega
  clear hsp hD hB hz l1 l2 hn hm hq hE
  obtain ⟨W1, hW1⟩ : ∃ W, w.alloc (.cells (d.cs (.slice a b.size c)) 24) = W := ⟨_, rfl⟩
  obtain ⟨W2, hW2⟩ : ∃ W, W1.alloc (.cells #[.int .i64 x1, .int .i64 x2] 37) = W := ⟨_, rfl⟩
  have hb1 : Below w.heap.size w W1 := by rw [← hW1]; exact below1K w _
  have hb2 : Below W1.heap.size W1 W2 := by rw [← hW2]; exact below1K W1 _
  have hB1 : BxS W1 w.heap.size d (.slice a b.size c) b := ⟨by rw [← hW1]; exact BlkK.new w _ _, hb.below hb1⟩
  have hX2 : BlkK W2 W1.heap.size #[.int .i64 x1, .int .i64 x2] 37 := by rw [← hW2]; exact BlkK.new W1 _ _
  have hB2 := hB1.later hb2
  obtain ⟨c0, c1, c2, c3, c4, c5, c6, c7⟩ := hB2.cells
  have HMD1 := hm7 (HMD.out W2 hB2.lb)
  have HB1 := hm7 (below_stepK hb1 hb2)
  have HX2 := hm7 hX2
  simp only [SdO.cs] at hW1
  clear hb1 hb2 hB1 hB2 hX2 hb HMD
  go_enter Tryd.func5, Tryd.ntmps5
  go_upto_region 2 with (go_at_call 13; refine HMD1.out.mono ?_; rintro e w2 ⟨a2, n2, rfl, hl2, hb2⟩)
  have hb3 := below1K w2 (.cells (D.cs (.slice a2 B.size n2)) 24)
  have hB5 : BxS (w2.alloc (.cells (D.cs (.slice a2 B.size n2)) 24)) w2.heap.size D (.slice a2 B.size n2) B := ⟨BlkK.new _ _ _, hl2.below hb3⟩
  have hX3 := (HX2.out.later hb2).later hb3
  simp only [SdO.cs] at hb3 hB5 hX3
  revert hb3 hB5 hX3
  generalize w2.alloc _ = W3
  intro hb3 hB5 hX3
  have HB3 := hm7 (below_stepK (below_stepK HB1.out hb2) hb3)
  have HE3 := hm7 (HE.out.later HB3.out)
  have HPR3 := hm7 (HPR.out W3 a2 n2 HE3.out hB5.lb)
  have HX3 := hm7 hX3
  clear c0 c1 c2 c3 c4 c5 c6 c7
  obtain ⟨c0, c1, c2, c3, c4, c5, c6, c7⟩ := hB5.cells
  clear hb3 hB5 hl2 hb2 hX3 HPR HMD1 HX2
  go_upto_region 5 with (go_at_call 10; refine HPR3.out.mono ?_; rintro e w3 ⟨rfl, hb3⟩)
  have HB4 := hm7 (below_stepK HB3.out hb3)
  have HE4 := hm7 (HE3.out.later hb3)
  have HX4 := hm7 (HX3.out.later hb3)
  clear c0 c1 c2 c3 c4 c5 c6 c7 hb3 HPR3 HX3
  go_upto_region 6 with (go_at_call 9; refine (HR1.out _ HE4.out).mono ?_; rintro e w5 ⟨a5, n5, rfl, ho, hb5⟩; simp only [RsS.v])
  obtain ⟨-, hF, -, hb⟩ := boxR hb5 ho
  have hX5 := HX4.out.later hb
  have hG : w3.heap.size ≤ w5.heap.size := hb5.size
  simp only [SdO.cs, noS, show (⟨#[]⟩ : ByteArray).size = 0 from rfl] at hF hb hX5 ⊢
  revert hF hb hX5
  generalize (w5.alloc _).alloc _ = W5
  intro hF hb hX5
  have HB5 := hm7 (below_stepK HB4.out hb)
  have HE5 := hm7 (HE4.out.later hb)
  have HX5 := hm7 hX5
  have HF5 := hm7 hF
  have HG5 : Hid (w.heap.size ≤ w5.heap.size + 1 ∧ W1.heap.size < w5.heap.size + 1) := ⟨by have := HB4.out.size; omega, by have := HX4.out.lt; omega⟩
  obtain ⟨f0, f1⟩ := ft_cells hF
  clear hF hb hX5 hG ho hb5 HX4
  go_upto_region 8 with (fail)
  clear f0 f1
  go_upto_region 9 with (go_at_call 9; refine (HR2.out _ HE5.out).mono ?_; rintro e w8 ⟨a8, n8, rfl, ho8, hb8⟩; have hf := HF5.out.later hb8; have HE8' := hm7 (HE5.out.later hb8); have HB8' := hm7 (below_stepK HB5.out hb8); have HX8' := hm7 (HX5.out.later hb8); have HF8' := hm7 hf; have ff := froz8 hf; obtain ⟨f0, f1⟩ := ft_cells hf; have HS8 := hm7 hb8.size; clear ho8 hb8 hf; simp only [RsS.v, noS])
  have hF := ftW (e := 252) (p := 0) HF8'.out
  have hB : Below w.heap.size w ((w8.setCell ⟨w5.heap.size + 1, 0, none⟩ (.int .i64 252)).setCell ⟨w5.heap.size + 1, 1, none⟩ (.int .i64 0)) := ftB HB8'.out HG5.out.1
  have hX : BlkK ((w8.setCell ⟨w5.heap.size + 1, 0, none⟩ (.int .i64 252)).setCell ⟨w5.heap.size + 1, 1, none⟩ (.int .i64 0)) W1.heap.size #[.int .i64 x1, .int .i64 x2] 37 := (HX8'.out.other (by have := HG5.out.2; omega)).other (by have := HG5.out.2; omega)
  have hE := HE.out.later hB
  clear f0 f1 ff
  revert hF hB hX hE
  generalize World.setCell _ _ _ = W8
  intro hF hB hX hE
  have HF8 := hm7 hF
  have HB8 := hm7 hB
  have HX8 := hm7 hX
  have HE8 := hm7 hE
  obtain ⟨f0, f1⟩ := ft_cells hF
  clear hF hB hX hE HE8' HB8' HX8' HF8'
  go_upto_region 11 with (fail)
  clear f0 f1
  go_upto_region 12 with (go_at_call 14; refine (HKC.out _ HE8.out).mono ?_; rintro e wk ⟨v, rfl, hok, hbk⟩)
  have hbx := below1K wk (.cells #[.int .i64 0, .int .i64 0] 27)
  have hfk := BlkK.new wk #[.int .i64 0, .int .i64 0] 27
  have hks := (hok.later hbx).ks
  have hb := below_stepK hbk hbx
  revert hbx hfk hks hb
  generalize wk.alloc _ = W9
  intro hbx hfk hks hb
  have HB9 := hm7 (below_stepK HB8.out hb)
  have HE9 := hm7 (HE8.out.later hb)
  have HF9 := hm7 (HF8.out.later hb)
  have HX9 := hm7 (HX8.out.later hb)
  have HT9 := hm7 hks
  obtain ⟨va, vc, rfl, -⟩ := hks
  have hTl := HSP.out.len
  rw [hTl]
  rw [hTl] at HT9
  obtain ⟨f0, f1⟩ := ft_cells hfk
  have n0 : ((n : Int) + 1 == 0) = false := by rw [beq_eq_false_iff_ne]; omega
  have nn : ¬ ((n : Int) + 1 = 0) := by omega
  clear hbx hfk hb hok hbk hTl
  go_upto_region 14 with (fail)
  clear f0 f1 n0 nn
  cases n with
  | zero =>
    go_wp2_with (go_at_call 12; refine (HF.out _ HE9.out).mono ?_; rintro e wz ⟨rfl, hbz⟩; have HBZ := hm7 hbz; clear hbz)
    go_ret
    exact ⟨rfl, below_stepK HB9.out HBZ.out⟩
  | succ n =>
    have m0 : ((n : Int) + 1 + 1 == 1) = false := by rw [beq_eq_false_iff_ne]; omega
    have m1 : ¬ ((n : Int) + 1 + 1 = 1) := by omega
    have n3 := HSP.out.n3
    have m3 : (n : Int) + 1 ≤ 3 := by omega
    have m4 : (0 : Int) ≤ (n : Int) := by omega
    have m5 : ¬ ((n : Int) + 1 = 0) := by omega
    have m6 : ((n : Int) + 1 == 0) = false := by rw [beq_eq_false_iff_ne]; omega
    obtain ⟨y0, y1⟩ : W9.cell? ⟨W1.heap.size, 0, none⟩ = some (.int .i64 x1) ∧ W9.cell? ⟨W1.heap.size, 1, none⟩ = some (.int .i64 x2) := ⟨cell8 HX9.out 0 _ rfl, cell8 HX9.out 1 _ rfl⟩
    obtain ⟨K, hK⟩ : ∃ K, wrap64 (1 + x2.tmod ((n : Int) + 1)) = K := ⟨_, rfl⟩
    obtain ⟨j, hj, hc⟩ : ∃ j : Nat, j < n + 1 ∧ ((K < 1 ∧ j = 0) ∨ (¬ K < 1 ∧ K = (j : Int) + 1)) := by
      have h2 := Int.tmod_lt_of_pos x2 (show (0 : Int) < (n : Int) + 1 by omega)
      have h3 := Int.lt_tmod_of_pos x2 (show (0 : Int) < (n : Int) + 1 by omega)
      have hw : wrap64 (1 + x2.tmod ((n : Int) + 1)) = 1 + x2.tmod ((n : Int) + 1) := by unfold wrap64; omega
      rw [hw] at hK
      by_cases h1 : K < 1
      · exact ⟨0, by omega, Or.inl ⟨h1, rfl⟩⟩
      · exact ⟨(K - 1).toNat, by omega, Or.inr ⟨h1, by omega⟩⟩
    obtain ⟨t, A, G, ht, hta, hsg, hza, hra, hro⟩ := HSP.out.at_ j hj
    obtain ⟨ga, cap, hgv, hgm⟩ := HT9.out
    simp only [Value.slice.injEq] at hgv
    obtain ⟨rfl, -, -⟩ := hgv
    have hT0 : T ≠ [] := fun e => by rw [e] at ht; simp at ht
    obtain ⟨gb, go, rfl, -, hcells⟩ := hgm.resolve_left hT0
    obtain ⟨-, -, -, e3, -⟩ := hcells (j + 1) t ht
    rw [hta] at e3
    obtain ⟨x1', x2'⟩ := ext_front hsg
    have hsz2 : S.size = A.size + G.size := by rw [hsg, ByteArray.size_append]
    have hszs := HSP.out.sz
    obtain ⟨A4, hA4⟩ : ∃ X, A ++ (⟨#[44, 32]⟩ : ByteArray) = X := ⟨_, rfl⟩
    rw [hA4] at hro
    obtain ⟨A5, hA5⟩ : ∃ X, A4 ++ G = X := ⟨_, rfl⟩
    rw [hA5] at hro
    have l4 : A4.size = A.size + 2 := by rw [← hA4, ByteArray.size_append]; rfl
    have l5 : A5.size = A4.size + G.size := by rw [← hA5, ByteArray.size_append]
    have HR3 : Hid (∀ X, EnS X → Calls Tryd.prog 9 #[.string A] X (RdQ X (noS 253 A.size))) := fun X h => by rw [← hra]; exact aSRead_any A (by omega) X h
    have HR4 : Hid (∀ X, EnS X → Calls Tryd.prog 9 #[.string A5] X (RdQ X (noS 253 A.size))) := fun X h => by rw [← hro]; exact aSRead_any A5 (by omega) X h
    obtain ⟨M, hM⟩ : ∃ M, A.size = M := ⟨_, rfl⟩
    have g3 : ¬ 9223372036854775807 < M + 2 := by omega
    have g4 : ¬ 9223372036854775807 < A4.size + G.size := by omega
    have b1 : (0 : Int) ≤ (M : Int) := by omega
    have b2 : (M : Int) ≤ (S.size : Int) := by omega
    have b3 : ¬ (M : Int) < 0 := by omega
    have b4 : ¬ (M : Int) > (S.size : Int) := by omega
    have b5 : ((j : Int) + 1) < (n : Int) + 1 + 1 := by omega
    have b6 : (0 : Int) ≤ (j : Int) + 1 := by omega
    rw [hM] at e3 x1' x2' HR3 HR4 l4 hsz2
    have b7 := hM
    clear ht hta hsg hza hra hro hgm hT0 hcells hsz2 hszs l4 l5 hj
    have HA5 : Hid (A4 ++ G = A5) := by assumption
    have e3' : ∀ q : Nat, q = (j + 1) * 5 → W9.cell? ⟨gb, go + q + 3, none⟩ = some (.int .i64 (M : Int)) := fun q hq => by rw [hq]; exact e3
    have e5 := e3' _ rfl
    clear e3
    rcases hc with ⟨k1, k2⟩ | ⟨k1, k2⟩ <;>
    · subst k2
      have e6 := e3' 5
      go_upto_region 22 with (fail)
      clear y0 y1 m0 m1
      go_upto_region 23 with (go_at_call 9; refine (HR3.out _ HE9.out).mono ?_; rintro e w10 ⟨a10, n10, rfl, ho10, hb10⟩; have hf := HF9.out.later hb10; have HB10' := hm7 (below_stepK HB9.out hb10); have HF10' := hm7 hf; have ff := froz8 hf; obtain ⟨f0, f1⟩ := ft_cells hf; clear ho10 hb10 hf; simp only [RsS.v, noS])
      have hF := ftW (e := 253) (p := (M : Int)) HF10'.out
      have hB : Below w.heap.size w ((w10.setCell ⟨w5.heap.size + 1, 0, none⟩ (.int .i64 253)).setCell ⟨w5.heap.size + 1, 1, none⟩ (.int .i64 (M : Int))) := ftB HB10'.out HG5.out.1
      have hE := HE.out.later hB
      clear f0 f1 ff
      revert hF hB hE
      generalize World.setCell _ _ _ = W10
      intro hF hB hE
      have HF10 := hm7 hF
      have HB10 := hm7 hB
      have HE10 := hm7 hE
      obtain ⟨f0, f1⟩ := ft_cells hF
      clear hF hB hE HB10' HF10'
      go_upto_region 25 with (fail)
      clear f0 f1 e5 e6 e3'
      have HC4 := hm7 (HR4.out W10.drew (HE10.out.later (bdrew1S W10)))
      have HB11 := hm7 (below_stepK HB10.out (bdrew1S W10))
      have HF11 := hm7 (HF10.out.later (bdrew1S W10))
      go_region_with ((go_at_call 9; refine HC4.out.mono ?_; rintro e w12 ⟨a12, n12, rfl, ho12, hb12⟩; have hf := HF11.out.later hb12; have HB12' := hm7 (below_stepK HB11.out hb12); have HF12' := hm7 hf; have ff := froz8 hf; obtain ⟨f0, f1⟩ := ft_cells hf; clear ho12 hb12 hf; simp only [RsS.v, noS]))
      all_goals
        have hF := ftW (e := 253) (p := (M : Int)) HF12'.out
        have hB := hm7 (ftB (u := .int .i64 253) (v := .int .i64 (M : Int)) HB12'.out HG5.out.1)
        clear f0 f1 ff
        revert hF hB
        generalize World.setCell _ _ _ = W12
        intro hF hB
        obtain ⟨f0, f1⟩ := ft_cells hF
        clear hF
        go_wp2
        go_ret
        exact ⟨rfl, hB.out⟩
end Go.Proofs.YtdfdnjkeiddfjaaDoor
