/-
  hearsaylaw25: ScriptLong's walk.
-/
import Derived.Test.YtdfdnjkeiddfjaaDoorSX8
import Derived.Test.YtdfdnjkeiddfjaaDoorSM1
import Derived.Test.YtdfdnjkeiddfjaaDoorK9
import Derived.BigQuiet
import Derived.Test.YtdfdnjkeiddfjaaDoorK30
import Derived.Lib.AtoiAllCases
import Derived.Laws.AppendOwnNone
import Derived.Laws.AppendOwn
import Derived.Test.YtdfdnjkeiddfjaaDoorSC6
import Derived.Test.YtdfdnjkeiddfjaaDoorSMX
import Derived.Test.YtdfdnjkeiddfjaaDoorSML
import Derived.Test.YtdfdnjkeiddfjaaDoorSMQ
import Derived.Test.YtdfdnjkeiddfjaaDoorSC7
namespace Go.Proofs.YtdfdnjkeiddfjaaDoor
open Go.RowKit
attribute [local go_sem ↓] Go.wp_at_zero Go.wp_at_succ

set_option maxRecDepth 20000 in
set_option maxHeartbeats 8000000 in
theorem slong_any (n more : Int) (w : World) (hE : EnS w) : Calls Tryd.prog 3 #[.int .i64 n, .int .i64 more] w fun e w' => e = .returned (.bool true) ∧ Below w.heap.size w w' := by
  have HE := hm7 hE
  obtain ⟨N, hN⟩ : ∃ N : Nat, N = 65528 := ⟨_, rfl⟩
  have hN1 : Hid ((65528 : Int) = (N : Int)) := by show _ = _; omega
  have HN := hm7 hN
  have hN2 : N ≤ 281474976710656 := by omega
  obtain ⟨W4, hmk, ho1, hb1⟩ := mkL_run N hN2 w
  rw [← hN1.out] at hmk
  have HO1 := hm7 ho1
  have HB1 := hm7 hb1
  obtain ⟨r, hr⟩ : ∃ r, Int.tmod n 5 = r := ⟨_, rfl⟩
  obtain ⟨R, hR0, hR1, hRR⟩ : ∃ R : Int, 0 ≤ R ∧ R ≤ 4 ∧ ((r < 0 ∧ -r = R) ∨ (¬ r < 0 ∧ r = R)) := by
    have h2 := Int.tmod_lt_of_pos n (show (0 : Int) < 5 by decide)
    have h3 := Int.lt_tmod_of_pos n (show (0 : Int) < 5 by decide)
    rw [hr] at h2 h3
    by_cases h : r < 0
    · exact ⟨-r, by omega, by omega, Or.inl ⟨h, rfl⟩⟩
    · exact ⟨r, by omega, by omega, Or.inr ⟨h, rfl⟩⟩
  clear hN hN2 ho1 hb1 hE
  rcases hRR with ⟨r0, r1⟩ | ⟨r0, r1⟩ <;>
  · go_enter Tryd.func3, Tryd.ntmps3
    go_upto_region 6 with (fail)
    clear hmk r0
    go_loopg [6] N (fun gg i wr => ∃ (j : Nat) (l : List Int), j + gg = N ∧ i = .int .i64 j ∧ l.length = N ∧ bytW l ∧ (∀ q x, q < j → l[q]? = some x → 97 ≤ x ∧ x ≤ 99) ∧ OwW wr w.heap.size (.slice (some ⟨w.heap.size, 0, none⟩) N N) l ∧ Below w.heap.size w wr)
    case atStart => exact ⟨0, List.replicate N 0, by omega, rfl, List.length_replicate, (fun x hx => by rw [List.mem_replicate] at hx; omega), fun q x hq => by omega, HO1.out, HB1.out⟩
    case round =>
      obtain ⟨j, l, hj, rfl, hl, hy, hab, ho, hb⟩ := hrel
      have HO := hm7 ho
      have HB := hm7 hb
      have HL := hm7 hl
      have HY := hm7 hy
      have HAB := hm7 hab
      have hsz := hb.size
      cases gk with
      | succ gg =>
        have hlt : (j : Int) < (N : Int) := by omega
        have j0 : (0 : Int) ≤ (j : Int) := by omega
        have j1 : (j : Int) ≤ 65528 := by have := HN.out; omega
        obtain ⟨x, hx⟩ : ∃ x, l[j]? = some x := ⟨_, List.getElem?_eq_getElem (by omega)⟩
        have ho2 := ho
        unfold OwW at ho2
        rw [hl] at ho2
        obtain ⟨_, e9, -, -, q0, q1⟩ := row7_at ho2 (i := j) (u := .int .u8 x) (by simp [ubW, hx])
        cases e9
        have k2 := Int.tmod_lt_of_pos ((j : Int) + R) (show (0 : Int) < 3 by decide)
        have k3 := Int.tmod_nonneg (a := (j : Int) + R) 3 (by omega)
        obtain ⟨u, hu⟩ : ∃ u, Int.tmod ((j : Int) + R) 3 = u := ⟨_, rfl⟩
        rw [hu] at k2 k3
        have hu8 : IntKind.u8.wrap (97 + u) = 97 + u := by simp [IntKind.wrap, IntKind.bits, IntKind.signed]; omega
        have HU := hm7 (And.intro k2 k3)
        clear ho hb hl hy hab ho2 hx
        go_wp2
        go_roundg gg
        case measure => omega
        case rel =>
          refine ⟨j + 1, l.set j (97 + u), by omega, by go_num, by rw [List.length_set]; exact HL.out, ?_, ?_, HO.out.putL HL.out, HB.out.setCell (p := ⟨w.heap.size, j, none⟩) (Nat.le_refl _) _⟩
          · intro y hy
            rcases List.mem_or_eq_of_mem_set hy with hy | rfl
            · exact HY.out y hy
            · have := HU.out; omega
          · intro q y hq hy
            by_cases e : q = j
            · subst e
              rw [List.getElem?_set_self (by rw [HL.out]; omega)] at hy
              cases hy
              have := HU.out; omega
            · rw [List.getElem?_set_ne (fun h => e h.symm)] at hy
              exact HAB.out q y (by omega) hy
      | zero =>
        have hlt : ¬ (j : Int) < (N : Int) := by omega
        obtain ⟨t, ht⟩ : ∃ t, ofL l = t := ⟨_, rfl⟩
        have hbt : blK t = l := by rw [← ht]; exact bl_ofL hy
        have hzt : t.size = 65528 := by rw [← bl_len, hbt, hl, HN.out]
        have hat : AbS (blK t) := fun x hx => by
          rw [hbt] at hx
          obtain ⟨q, hq, rfl⟩ := List.mem_iff_getElem.1 hx
          exact hab q _ (by omega) (List.getElem?_eq_getElem hq)
        have hcv := conv_lb (ho.lb hy)
        rw [ht] at hcv
        have hrd := fg_rd hat (by omega)
        have hpr := fg_pr hat (by omega)
        obtain ⟨A1, hA1⟩ : ∃ A, (⟨#[102, 111, 114, 103, 101, 32, 34]⟩ : ByteArray) ++ t = A := ⟨_, rfl⟩
        obtain ⟨S, hS⟩ : ∃ A, A1 ++ (⟨#[34]⟩ : ByteArray) = A := ⟨_, rfl⟩
        have hfg : fgL t = S := by rw [← hS, ← hA1]; rfl
        have hzS : S.size = 65536 := by rw [← hfg, fgL_size, hzt]
        obtain ⟨S2, hS2⟩ : ∃ A, S ++ (⟨#[32]⟩ : ByteArray) = A := ⟨_, rfl⟩
        have hz2 : S2.size = 65537 := by rw [← hS2, ByteArray.size_append, hzS]; rfl
        have hzA : A1.size = 65535 := by rw [← hA1, ByteArray.size_append, hzt]; rfl
        rw [hfg] at hrd hpr
        have hr2 := rd_long (s := S2) (by omega)
        have HRD : Hid (∀ X, EnS X → Calls Tryd.prog 9 #[.string S] X (RdQ X ⟨fgD, t, 0, 0⟩)) := fun X h => by rw [← hrd]; exact aSRead_any S (by omega) X h
        have HR2 : Hid (∀ X, EnS X → Calls Tryd.prog 9 #[.string S2] X (RdQ X (noS 251 0))) := fun X h => by rw [← hr2]; exact aSRead_any S2 (by omega) X h
        have HPR : Hid (∀ (X : World) a c, EnS X → LbW (fun _ => True) X (.slice a t.size c) (blK t) → Calls Tryd.prog 10 #[fgD.v a t.size c] X fun e w' => e = .returned (.tuple #[.string S, .bool true]) ∧ Below X.heap.size X w') := fun X a c h hl => by
          have := aSPrint_any fgD t a c (fg_ok (by omega)) X h hl
          rw [hpr] at this
          exact this
        have HP2 : Hid (∀ (y : Int) (X : World) a c, 0 ≤ y → y ≤ 255 → EnS X → LbW (fun _ => True) X (.slice a (t.size + 1) c) (blK t ++ [y]) → Calls Tryd.prog 10 #[fgD.v a (t.size + 1) c] X fun e w' => e = .returned (.tuple #[.string ⟨#[]⟩, .bool false]) ∧ Below X.heap.size X w') := fun y X a c h0 h1 h hl => by
          have hb' : blK (ofL (blK t ++ [y])) = blK t ++ [y] := bl_ofL fun x hx => by
            rcases List.mem_append.1 hx with hx | hx
            · exact bl_byt t x hx
            · rw [List.mem_singleton.1 hx]; exact ⟨h0, h1⟩
          have hz' : (ofL (blK t ++ [y])).size = t.size + 1 := by rw [← bl_len, hb', List.length_append, bl_len]; rfl
          have := aSPrint_any fgD (ofL (blK t ++ [y])) a c (fg_ok (by omega)) X h (by rw [hb', hz']; exact hl)
          rw [fg_long (t := ofL (blK t ++ [y])) (by omega), hz'] at this
          exact this
        have g1 : ¬ 9223372036854775807 < 7 + t.size := by omega
        have g2 : ¬ 9223372036854775807 < A1.size + 1 := by omega
        have g3 : ¬ 9223372036854775807 < S.size + 1 := by omega
        have HER := hm7 (HE.out.later hb)
        have HZT := hm7 hzt
        have HZS := hm7 hzS
        clear ho hb hl hy hab hbt hat hrd hpr hfg hr2 ht hj HO HAB HY HL hzt hzS hz2 hzA
        go_upto_region 11 with (go_at_call 9; refine (HRD.out _ HER.out).mono ?_; rintro e w5 ⟨a5, n5, rfl, ho, hb5⟩; simp only [RsS.v])
        obtain ⟨hB, hF, hY, hb⟩ := boxR hb5 ho
        have hlt5 : ∀ k, (Value.slice a5 t.size n5).ownBlock = some k → wr.heap.size ≤ k ∧ k < w5.heap.size := fun k hk => ho.lt hk
        simp only [SdO.cs] at hB hF hY hb ⊢
        revert hB hF hY hb
        generalize (w5.alloc _).alloc _ = W5
        intro hB hF hY hb
        have HB5 := hm7 (below_stepK HB.out hb)
        have HE5 := hm7 (HER.out.later hb)
        have HX5 := hm7 hB
        have HF5 := hm7 hF
        have HY5 := hm7 hY
        have HL5 := hm7 hlt5
        have HWR := hm7 hb5.size
        have HG5 : Hid (w.heap.size ≤ w5.heap.size) := Nat.le_trans HB.out.size hb5.size
        have HPR5 := hm7 (HPR.out W5 a5 n5 HE5.out hB.lb)
        have hcv5 := convL hB.lb
        obtain ⟨c0, c1, c2, c3, c4, c5, c6, c7⟩ := hB.cells
        obtain ⟨f0, f1⟩ := ft_cells hF
        clear hB hF hY hb hlt5 ho hb5
        go_upto_region 14 with (go_at_call 10; refine HPR5.out.mono ?_; rintro e w6 ⟨rfl, hb6⟩)
        have HB6 := hm7 (below_stepK HB5.out hb6)
        have HE6 := hm7 (HE5.out.later hb6)
        have HX6 := hm7 (HX5.out.later hb6)
        have HF6 := hm7 (HF5.out.later hb6)
        have HY6 := hm7 (HY5.out.later hb6)
        have zS := HZS.out
        clear c0 c1 c2 c3 c4 c5 c6 c7 f0 f1 hb6 hcv5 hcv
        go_upto_region 16 with (fail)
        clear zS
        go_upto_region 17 with (go_at_call 9; refine (HR2.out _ HE6.out).mono ?_; rintro e w8 ⟨a8, n8, rfl, ho8, hb8⟩; have hf := HF6.out.later hb8; have HF8' := hm7 hf; have HX8' := hm7 (HX6.out.later hb8); have HY8' := hm7 (HY6.out.later hb8); have HB8' := hm7 (below_stepK HB6.out hb8); have ff := froz8 hf; obtain ⟨f0, f1⟩ := ft_cells hf; clear ho8 hb8 hf; simp only [RsS.v, noS])
        have hF := ftW (e := 251) (p := 0) HF8'.out
        have hB : Below w.heap.size w ((w8.setCell ⟨w5.heap.size + 1, 0, none⟩ (.int .i64 251)).setCell ⟨w5.heap.size + 1, 1, none⟩ (.int .i64 0)) := ftB HB8'.out (by have := HG5.out; omega)
        have hX : BlkK ((w8.setCell ⟨w5.heap.size + 1, 0, none⟩ (.int .i64 251)).setCell ⟨w5.heap.size + 1, 1, none⟩ (.int .i64 0)) w5.heap.size (fgD.cs (.slice a5 t.size n5)) 24 := (HX8'.out.blk.other (by omega)).other (by omega)
        have hk5 : ∀ k, (Value.slice a5 t.size n5).ownBlock = some k → k ≠ w5.heap.size + 1 := fun k hk => by have := (HL5.out k hk).2; omega
        have hY : OwY ((w8.setCell ⟨w5.heap.size + 1, 0, none⟩ (.int .i64 251)).setCell ⟨w5.heap.size + 1, 1, none⟩ (.int .i64 0)) wr.heap.size (.slice a5 t.size n5) (blK t) := (HY8'.out.setk hk5).setk hk5
        clear f0 f1 ff hk5
        revert hF hB hX hY
        generalize World.setCell _ _ _ = W8
        intro hF hB hX hY
        have HB8 := hm7 hB
        have HX8 := hm7 hX
        have HY8 := hm7 hY
        obtain ⟨f0, f1⟩ := ft_cells hF
        clear hF hB hX hY
        go_upto_region 19 with (fail)
        clear f0 f1
        have c4 := cell8 HX8.out 4 _ rfl
        obtain ⟨y, hy⟩ : ∃ y, IntKind.u8.wrap more = y := ⟨_, rfl⟩
        have hy2 : 0 ≤ y ∧ y ≤ 255 := by rw [← hy]; simp [IntKind.wrap, IntKind.bits, IntKind.signed]; omega
        have HYY := hm7 hy2
        have hal : BlkK (W8.alloc (.cells #[.int .u8 y] 5)) w5.heap.size (fgD.cs (.slice a5 t.size n5)) 24 := HX8.out.later (below1K _ _)
        have HAL := hm7 hal
        have HYA := hm7 (HY8.out.later (below1K W8 (.cells #[.int .u8 y] 5)))
        have HGW : Hid (wr.heap.size ≤ W8.heap.size ∧ w5.heap.size < W8.heap.size ∧ w.heap.size ≤ wr.heap.size) := by
          refine ⟨?_, HX8.out.lt, hsz⟩
          have := HX8.out.lt
          have hz9 : wr.heap.size ≤ w5.heap.size := HWR.out
          omega
        clear hal hy2
        have HSZ : Hid ((blK t ++ [y]).length = t.size + 1) := by show _ = _; rw [List.length_append, bl_len]; rfl
        have HPP : Hid (∀ a9 n9 w9, OwY w9 wr.heap.size (.slice a9 (blK t ++ [y]).length n9) (blK t ++ [y]) → Fr (fun k => (Value.slice a5 t.size n5).ownBlock = some k) (W8.alloc (.cells #[.int .u8 y] 5)) w9 → ((Value.slice a9 (blK t ++ [y]).length n9).ownBlock = (Value.slice a5 t.size n5).ownBlock ∨ OwY w9 (W8.alloc (.cells #[.int .u8 y] 5)).heap.size (.slice a9 (blK t ++ [y]).length n9) (blK t ++ [y])) →
            Below w.heap.size w (w9.setCell ⟨w5.heap.size, 4, none⟩ (.slice a9 (t.size + 1) n9)) ∧ Calls Tryd.prog 10 #[fgD.v a9 (t.size + 1) n9] (w9.setCell ⟨w5.heap.size, 4, none⟩ (.slice a9 (t.size + 1) n9)) fun e w' => e = .returned (.tuple #[.string ⟨#[]⟩, .bool false]) ∧ Below (w9.setCell ⟨w5.heap.size, 4, none⟩ (.slice a9 (t.size + 1) n9)).heap.size (w9.setCell ⟨w5.heap.size, 4, none⟩ (.slice a9 (t.size + 1) n9)) w') := fun a9 n9 w9 ho9 hf9 hv9 => by
          rw [HSZ.out] at ho9 hv9
          have h1 := HGW.out
          have hz8 : (W8.alloc (.cells #[.int .u8 y] 5)).heap.size = W8.heap.size + 1 := by simp
          have hb9 : Below w.heap.size w w9 := (below_stepK HB8.out (below1K W8 (.cells #[.int .u8 y] 5))).trans (hf9.belowL (fun k hk => by have := (HL5.out k hk).1; omega) (by omega))
          have hbc := hb9.setCell (p := ⟨w5.heap.size, 4, none⟩) HG5.out (.slice a9 (t.size + 1) n9)
          refine ⟨hbc, HP2.out y _ a9 n9 HYY.out.1 HYY.out.2 (HE.out.later hbc) (((ho9.setk fun k hk => ?_).lb fun x hx => ?_).mono fun _ _ _ => trivial)⟩
          · rcases hv9 with hv9 | hv9
            · rw [hv9] at hk
              have := (HL5.out k hk).2
              omega
            · have := (hv9.lt hk).1
              omega
          · rcases List.mem_append.1 hx with hx | hx
            · exact bl_byt t x hx
            · rw [List.mem_singleton.1 hx]; exact HYY.out
        go_wp2_with (first | (at_builtin; refine gappY rfl _ _ rfl wr.heap.size (.slice a5 t.size n5) (blK t) rfl HYA.out W8.heap.size y rfl (BlkK.new W8 _ _) (by rw [bl_len, HZT.out]; omega) (by simp; have := HGW.out; omega) ?_; intro v9 w9 ho9 hf9 hv9; obtain ⟨a9, n9, rfl⟩ := ho9.fm; have HC9 := hm7 (HPP.out a9 n9 w9 ho9 hf9 hv9); rw [HSZ.out]; have hx9 := HAL.out.frL hf9 (fun h => by have := (HL5.out _ h).2; omega); have HX9 := hm7 hx9; have d0 := cell8 hx9 0 _ rfl; have d1 := cell8 hx9 1 _ rfl; have d2 := cell8 hx9 2 _ rfl; have d3 := cell8 hx9 3 _ rfl; have d4 := cell8 hx9 4 _ rfl; have d5 := cell8 hx9 5 _ rfl; have d6 := cell8 hx9 6 _ rfl; have d7 := cell8 hx9 7 _ rfl; have e4 := froz8 hx9 4; clear ho9 hf9 hv9 hx9) | (go_at_call 10; refine HC9.out.2.mono ?_; rintro e wz ⟨rfl, hbz⟩; have HBZ := hm7 hbz; clear hbz))
        go_ret
        exact ⟨rfl, below_stepK HC9.out.1 HBZ.out⟩
end Go.Proofs.YtdfdnjkeiddfjaaDoor
