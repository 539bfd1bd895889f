/-
  script (stage 25): the document's Print.
-/
import Derived.Test.YtdfdnjkeiddfjabDoorSRA
namespace Go.Proofs.YtdfdnjkeiddfjabDoor
open Go.RowKit
attribute [local go_sem ↓] Go.wp_at_zero Go.wp_at_succ

set_option maxRecDepth 20000 in
set_option maxHeartbeats 8000000 in
theorem bSPrint_any (d : SdO) (b : ByteArray) (a : Option Addr) (c : Nat) (ho : OkS d b) (w : World) (hE : EnvOk w) (hb : LbW (fun _ => True) w (.slice a b.size c) (blK b)) : Calls Tryd.prog 7 #[d.v a b.size c] w fun e w' => e = .returned (.tuple #[.string ((prS d b).getD ⟨#[]⟩), .bool (prS d b).isSome]) ∧ Below w.heap.size w w' := by
  have HE := hm7 hE
  obtain ⟨pr, hpr⟩ : ∃ pr, prS d b = pr := ⟨_, rfl⟩
  have HPR := hm7 hpr
  rw [hpr]
  clear hpr
  have HO := hm7 ho
  have HRW : Hid (∀ X, Calls Tryd.prog 17 #[] X fun e w' => e = .returned (.slice (some ⟨X.heap.size, 0, none⟩) 24 24) ∧ BlkK w' X.heap.size (rwS.flatMap RwS.c).toArray 52 ∧ Below X.heap.size X w') := fun X => rowsS_any X
  have HCL : Hid (∀ (nm ps : ByteArray) (rk : Int), ps.size ≤ 9000000 → ∀ X, Calls Tryd.prog 18 #[.agg #[.string nm, .int .i64 rk, .string ps], d.v a b.size c] X fun e w' => e = .returned (.bool (clS ps d b.size)) ∧ Below X.heap.size X w') := fun nm ps rk hp X => cleanS_any nm ps rk hp d a b.size c X
  have HSH : Hid (∀ (p : Int), ltS p → ∀ X, EnvOk X → LbW (fun _ => True) X (.slice a b.size c) (blK b) → Calls Tryd.prog 19 #[d.v a b.size c, .int .u8 p] X fun e w' => e = .returned (.string (shS d b p)) ∧ Below X.heap.size X w') := fun p hp X h hl => shownP_any a c ho hp X h hl
  obtain ⟨W1, hW1⟩ : ∃ W, w.alloc (.cells (d.cs (.slice a b.size c)) 24) = W := ⟨_, rfl⟩
  have hb1 : Below w.heap.size w W1 := by rw [← hW1]; exact below1K w _
  have HB1 : Hid (BxS W1 w.heap.size d (.slice a b.size c) b) := ⟨by rw [← hW1]; exact BlkK.new w _ _, hb.below hb1⟩
  have HW1 := hm7 hb1
  simp only [SdO.cs] at hW1
  clear hb1 hb hE ho
  go_enter Tryd.func7, Tryd.ntmps7
  go_upto_region 3 with (go_at_call 17; refine (HRW.out _).mono ?_; rintro e w2 ⟨rfl, hr2, hb2⟩)
  have HB2 := hm7 (HB1.out.later hb2)
  have HR2 := hm7 hr2
  have HW2 := hm7 (below_stepK HW1.out hb2)
  clear hr2 hb2
  go_loopg [5] 24 (fun gg i wr => ∃ j : Nat, j + gg = 24 ∧ i = .int .i64 j ∧ (∀ q, q < j → (rwS.getD q zrS).k ≠ d.k) ∧ Below w2.heap.size w2 wr)
  case atStart => exact ⟨0, by omega, rfl, fun q hq => by omega, Below.refl _ _⟩
  case round =>
    obtain ⟨j, hj, rfl, hne, hb⟩ := hrel
    have HNE := hm7 hne
    have HB := hm7 hb
    have hBx := HB2.out.later hb
    have hRr := HR2.out.later hb
    have HWR := hm7 (below_stepK HW2.out hb)
    clear hne hb
    cases gk with
    | succ gg =>
      have hlt : (j : Int) < 24 := by omega
      have h0 : (0 : Int) ≤ (j : Int) := by omega
      obtain ⟨r0, r1, r2⟩ := rc_at (i := j) (by omega)
      have c0 := cell8 hRr _ _ r0
      have c1 := cell8 hRr _ _ r1
      have c2 := cell8 hRr _ _ r2
      obtain ⟨d0, d1, d2, d3, d4, d5, d6, d7⟩ := hBx.cells
      obtain ⟨X, hX⟩ : ∃ X, (rwS.getD j zrS).x = X := ⟨_, rfl⟩
      obtain ⟨P, hP⟩ : ∃ P, (rwS.getD j zrS).p = P := ⟨_, rfl⟩
      have HXX := hm7 hX
      have HPP := hm7 hP
      rw [hX] at c0
      rw [hP] at c2
      have HBx := hm7 hBx
      have HRr := hm7 hRr
      have HJ := hm7 hj
      clear hX hP r0 r1 r2 hBx hRr hj
      by_cases hk : (j : Int) + 1 = d.k
      · have hk1 : ((j : Int) + 1 != d.k) = false := by simpa using hk
        go_upto_region 5 with (fail)
        go_quiet (fail)
        have HK := hm7 hk
        clear hk hk1
        obtain ⟨W5, hW5⟩ : ∃ W, wr.drewN nq = W := ⟨_, rfl⟩
        have hd5 : Below wr.heap.size wr W5 := by rw [← hW5]; exact bdrewS _ _
        rw [hW5]
        have hBx := HBx.out.later hd5
        have hRr := HRr.out.later hd5
        have HW5 := hm7 (below_stepK HWR.out hd5)
        clear hd5 hW5 c0 c1 c2 d0 d1 d2 d3 d4 d5 d6 d7
        obtain ⟨r0, r1, r2⟩ := rc_at (i := j) (by have := HJ.out; omega)
        rw [HXX.out] at r0
        rw [HPP.out] at r2
        have c0 := cell8 hRr _ _ r0
        have c1 := cell8 hRr _ _ r1
        have c2 := cell8 hRr _ _ r2
        obtain ⟨d0, d1, d2, d3, d4, d5, d6, d7⟩ := hBx.cells
        obtain ⟨cl, hcl⟩ : ∃ cl, clS P d b.size = cl := ⟨_, rfl⟩
        have hps : P.size ≤ 3 := by rw [← HPP.out]; exact (rw_le j).2
        have HC6 := hm7 (HCL.out X P ((j : Int) + 1) (by omega) W5.drew)
        rw [hcl] at HC6
        have HCLL := hm7 hcl
        have HBx5 := hm7 hBx
        have HRr5 := hm7 hRr
        have HR3 := hm7 (And.intro r0 (And.intro r1 r2))
        clear hcl hBx hRr r0 r1 r2
        go_upto_region 6 with (fail)
        go_cut [29] from 9 to 60 (fun s29 wx => s29 = .bool (!cl) ∧ Below W5.heap.size W5 wx)
        case first =>
          go_region_with (go_at_call 18; refine HC6.out.mono ?_; rintro e w6 ⟨rfl, hb6⟩; have HB6 := hm7 (below_stepK (bdrew1S W5) hb6); clear hb6)
          all_goals
            go_wp2
            go_meet
            case rel => exact ⟨rfl, HB6.out⟩
        case rest =>
          obtain ⟨rfl, hb6⟩ := hcut
          have hpr : pr = if cl = true then (if (joS d b (blK P) X).size ≤ 65536 then some (joS d b (blK P) X) else none) else none := by
            rw [← HPR.out]
            unfold prS
            rw [← HK.out, roK_at (by have := HJ.out; omega)]
            simp only
            rw [HXX.out, HPP.out, HCLL.out]
          have HP9 := hm7 hpr
          have HW6 := hm7 (below_stepK HW5.out hb6)
          have hBx := HBx5.out.later hb6
          have hRr := HRr5.out.later hb6
          clear hpr
          cases cl with
          | false =>
            have hn : pr = none := by rw [HP9.out]; rfl
            have HN := hm7 hn
            clear hn hBx hRr hb6 c0 c1 c2 d0 d1 d2 d3 d4 d5 d6 d7
            go_wp2
            go_ret2
            exact ⟨by rw [HN.out]; exact ret_2 rfl rfl, HW6.out⟩
          | true =>
            clear c0 c1 c2 d0 d1 d2 d3 d4 d5 d6 d7
            have c0 := cell8 hRr _ _ HR3.out.1
            have c1 := cell8 hRr _ _ HR3.out.2.1
            have c2 := cell8 hRr _ _ HR3.out.2.2
            have HBx6 := hm7 hBx
            have HRr6 := hm7 hRr
            have HE6 := hm7 (HE.out.later HW6.out)
            obtain ⟨N, hN⟩ : ∃ N, P.size = N := ⟨_, rfl⟩
            have HN := hm7 hN
            have HNN : Hid (∀ k, k ≤ N → (joS d b ((blK P).take k) X).size ≤ 100000000) := fun k hk => by
              have h1 := jo_big HO.out ((blK P).take k) X
              have h2 := (rw_le j).1
              have h3 := (rw_le j).2
              rw [HXX.out] at h2
              rw [HPP.out] at h3
              have h4 : ((blK P).take k).length ≤ 3 := by rw [List.length_take, bl_len]; omega
              omega
            clear hBx hRr hb6 hN
            go_upto_region 10 with (fail)
            go_loopg [6, 7] N (fun gg s i wr => ∃ k : Nat, k + gg = N ∧ i = .int .i64 k ∧ s = .string (joS d b ((blK P).take k) X) ∧ Below wc.heap.size wc wr)
            case atStart => exact ⟨0, by omega, rfl, rfl, Below.refl _ _⟩
            case round =>
              obtain ⟨k, hk, rfl, rfl, hb7⟩ := hrel
              have HB7 := hm7 hb7
              have hBx := HBx6.out.later hb7
              have hRr := HRr6.out.later hb7
              have HW7 := hm7 (below_stepK HW6.out hb7)
              have HE7 := hm7 (HE6.out.later hb7)
              clear c0 c1 c2
              have c0 := cell8 hRr _ _ HR3.out.1
              have c1 := cell8 hRr _ _ HR3.out.2.1
              have c2 := cell8 hRr _ _ HR3.out.2.2
              obtain ⟨d0, d1, d2, d3, d4, d5, d6, d7⟩ := hBx.cells
              have HL7 := hm7 hBx.lb
              have HBx7 := hm7 hBx
              clear hb7 hBx hRr
              cases gk with
              | succ gg2 =>
                have hlt : (k : Int) < (P.size : Int) := by have := HN.out; omega
                have k0 : (0 : Int) ≤ (k : Int) := by omega
                have hkP : k < P.size := by have := HN.out; omega
                have hix := fun w' k' => run_index_atK P k hkP (k : Int) rfl w' k'
                have hst := jo_step d b P X hkP
                have hlt7 : ltS (atK_ P k) := by
                  have h1 := (rw_ps (i := j) (by have := HJ.out; omega)).2.1
                  rw [HPP.out] at h1
                  exact h1 _ (List.mem_of_getElem? (at_bl2 hkP))
                have hc7 := HSH.out _ hlt7 wr.drew (HE7.out.later (bdrew1S wr)) (HL7.out.below (bdrew1S wr))
                have hn1 := HNN.out k (by have := HN.out; omega)
                have hn2 := HNN.out (k + 1) (by have := HN.out; omega)
                obtain ⟨q, hq⟩ : ∃ q, atK_ P k = q := ⟨_, rfl⟩
                simp only [hq] at hix hc7 hst
                obtain ⟨sh, hsh⟩ : ∃ sh, shS d b q = sh := ⟨_, rfl⟩
                rw [hsh] at hc7 hst
                obtain ⟨A0, hA0⟩ : ∃ A, joS d b ((blK P).take k) X = A := ⟨_, rfl⟩
                rw [hA0] at hst hn1 ⊢
                obtain ⟨A1, hA1⟩ : ∃ A, A0 ++ (⟨#[32]⟩ : ByteArray) = A := ⟨_, rfl⟩
                rw [hA1] at hst
                obtain ⟨A2, hA2⟩ : ∃ A, A1 ++ sh = A := ⟨_, rfl⟩
                rw [hA2] at hst
                rw [hst] at hn2
                have l1 : A1.size = A0.size + 1 := by rw [← hA1, ByteArray.size_append]; rfl
                have l2 : A2.size = A1.size + sh.size := by rw [← hA2, ByteArray.size_append]
                have g1 : ¬ 9223372036854775807 < A0.size + 1 := by omega
                have g2 : ¬ 9223372036854775807 < A1.size + sh.size := by omega
                have HC7 := hm7 hc7
                have HST := hm7 hst
                have HK7 := hm7 hk
                clear hc7 hst hn1 hn2 l1 l2 hq hsh hA0 hlt7 hkP hk
                go_upto_region 12 with (fail)
                go_region_with (go_at_call 19; refine HC7.out.mono ?_; rintro e w8 ⟨rfl, hb8⟩; have HB8 := hm7 (below_stepK (bdrew1S wr) hb8); clear hb8)
                all_goals
                  go_wp2
                  go_roundg gg2
                  case measure => omega
                  case rel => exact ⟨k + 1, by have := HK7.out; omega, by go_num, by rw [HST.out], below_stepK HB7.out HB8.out⟩
              | zero =>
                have hlt : ¬ (k : Int) < (P.size : Int) := by have := HN.out; omega
                have htk : (blK P).take k = blK P := List.take_of_length_le (by rw [bl_len]; have := HN.out; omega)
                rw [htk]
                obtain ⟨S, hS⟩ : ∃ S, joS d b (blK P) X = S := ⟨_, rfl⟩
                have hp9 := HP9.out
                rw [hS] at hp9 ⊢
                rw [if_pos trivial] at hp9
                by_cases hz : S.size ≤ 65536
                · rw [if_pos hz] at hp9
                  have HN9 := hm7 hp9
                  have hz2 : ¬ (S.size : Int) > 65536 := by omega
                  clear hp9 hS htk hz
                  go_wp2
                  go_ret2
                  exact ⟨by rw [HN9.out]; exact ret_2 rfl rfl, HW7.out⟩
                · rw [if_neg hz] at hp9
                  have HN9 := hm7 hp9
                  have hz2 : (S.size : Int) > 65536 := by omega
                  clear hp9 hS htk hz
                  go_wp2
                  go_ret2
                  exact ⟨by rw [HN9.out]; exact ret_2 rfl rfl, HW7.out⟩
      · have hk1 : ((j : Int) + 1 != d.k) = true := by simpa using hk
        go_wp2
        go_quiet (fail)
        go_wp2
        go_roundg gg
        case measure => omega
        case rel =>
          refine ⟨j + 1, by have := HJ.out; omega, by go_num, fun q hq => ?_, below_stepK HB.out (bdrewS _ _)⟩
          by_cases e : q = j
          · subst e; rw [rw_k (by have := HJ.out; omega)]; exact hk
          · exact HNE.out q (by omega)
    | zero =>
      have hlt : ¬ (j : Int) < 24 := by omega
      have hn : pr = none := by
        rw [← HPR.out]
        unfold prS
        rcases roK_any d.k with ⟨e, -⟩ | ⟨i, hi, hk, -⟩
        · rw [e]
        · exact absurd (by rw [rw_k hi, hk]) (HNE.out i (by omega))
      have HN := hm7 hn
      clear hn
      go_wp2
      go_ret2
      exact ⟨by rw [HN.out]; exact ret_2 rfl rfl, HWR.out⟩
end Go.Proofs.YtdfdnjkeiddfjabDoor
