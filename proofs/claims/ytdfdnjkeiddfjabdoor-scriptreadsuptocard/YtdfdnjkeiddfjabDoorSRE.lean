/-
  script (stage 25): the document's Read: its walk.
-/
import Derived.Test.YtdfdnjkeiddfjabDoorSRD
namespace Go.Proofs.YtdfdnjkeiddfjabDoor
open Go.RowKit
attribute [local go_sem ↓] Go.wp_at_zero Go.wp_at_succ

set_option maxRecDepth 20000 in
set_option maxHeartbeats 8000000 in
theorem bread_main (s : ByteArray) (w : World) (hz : s.size ≤ 65536) (hQ : QOk w) (t : Tk) (T : List Tk) (hc : cutL (blK s) (s.size : Int) = (t :: T, 0, 0)) (hf : CutF s (t :: T)) : Calls Tryd.prog 10 #[.string s] w (RdQ w (rlS s.size (t :: T))) := by
  have hz2 : ¬ (s.size : Int) > 65536 := by omega
  have HZ := hm7 hz
  have HQ := hm7 hQ
  have HCF := hm7 hf
  have HC : Hid (∀ X, QOk X → Calls Tryd.prog 22 #[.string s, .int .i64 (s.size : Int)] X (KPost X (t :: T, 0, 0))) := fun X h => by rw [← hc]; exact qcut_any s _ (by omega) X h
  have HRW : Hid (∀ X, Calls Tryd.prog 17 #[] X fun e w' => e = .returned (.slice (some ⟨X.heap.size, 0, none⟩) 24 24) ∧ BlkK w' X.heap.size (rwS.flatMap RwS.c).toArray 52 ∧ Below X.heap.size X w') := fun X => rowsS_any X
  obtain ⟨L, hL⟩ : ∃ L, t :: T = L := ⟨_, rfl⟩
  have HLL := hm7 hL
  rw [hL] at HC HCF
  obtain ⟨RR, hRR⟩ : ∃ R, rlS (s.size : Int) (t :: T) = R := ⟨_, rfl⟩
  have HRR := hm7 hRR
  rw [hRR]
  clear hc hQ hf hL hRR hz
  go_enter Tryd.func10, Tryd.ntmps10
  go_upto_region 3 with (fail)
  have hr0 : RtS w ((w.alloc (.cells z8S 24)).alloc (.cells #[.int .i64 0, .int .i64 0] 32)) := ⟨BlkK.old w _ _ _, BlkK.new2 w _ _ _, below2K w _ _⟩
  simp only [z8S] at hr0
  revert hr0
  generalize (w.alloc _).alloc _ = W0
  intro hr0
  have HR0 := hm7 hr0
  have HQ0 := hm7 (HC.out W0 (HQ.out.later hr0.b))
  clear hr0
  go_upto_region 4 with (go_at_call 22; refine HQ0.out.mono ?_; rintro e' w1 ⟨v, rfl, hok, hbk⟩; have hr1 := HR0.out.later hbk; have HR1 := hm7 hr1; have HK1 := hm7 hok; clear hbk hok hr1)
  have hbx := below1K w1 (.cells #[.int .i64 0, .int .i64 0] 32)
  have hfx := BlkK.new w1 #[.int .i64 0, .int .i64 0] 32
  have hr := HR1.out.later hbx
  have hks := (HK1.out.later hbx).ks
  revert hbx hfx hr hks
  generalize w1.alloc _ = W1
  intro hbx hfx hr hks
  have HR2 := hm7 hr
  obtain ⟨va, vc, rfl, hgm⟩ := hks
  have hlen : L.length = T.length + 1 := by rw [← HLL.out]; rfl
  obtain ⟨n, hn⟩ : ∃ n, T.length = n := ⟨_, rfl⟩
  rw [hn] at hlen
  have hT0 : L ≠ [] := fun e => by rw [e] at hlen; simp at hlen
  obtain ⟨gb, go, rfl, hlt1, hcells⟩ := hgm.resolve_left hT0
  have HGW := hm7 (show w.heap.size + 2 ≤ gb by have := (World.ownsRow.lt HK1.out gb rfl).1; have := HR0.out.f.lt; omega)
  have HCS := hm7 hcells
  have HLT := hm7 hlt1
  have HN := hm7 hn
  rw [hlen]
  obtain ⟨f0, f1⟩ := ft_cells hfx
  have m0 : ((n : Int) + 1 == 0) = false := by rw [beq_eq_false_iff_ne]; omega
  have m1 : ¬ ((n : Int) + 1 = 0) := by omega
  clear hbx hfx hr hgm hT0 hcells hlt1 hn hlen
  go_upto_region 9 with (fail)
  have hb6 := below1K W1 (.cells #[.string ⟨#[]⟩, .int .i64 0, .string ⟨#[]⟩] 52)
  have hr6 := BlkK.new W1 #[.string ⟨#[]⟩, .int .i64 0, .string ⟨#[]⟩] 52
  revert hb6 hr6
  generalize W1.alloc _ = W6
  intro hb6 hr6
  have HB6 := hm7 hb6
  have HR6 := hm7 hr6
  clear hb6 hr6 f0 f1 m0 m1
  go_upto_region 11 with (go_at_call 17; refine (HRW.out _).mono ?_; rintro e w9 ⟨rfl, hr9, hb9⟩; have HR9 := hm7 hr9; have HG9 := hm7 (HR6.out.later hb9); have HB9 := hm7 (below_stepK HB6.out hb9); have HS9 := hm7 HR6.out.lt; have HS1 := hm7 hb9.size; clear hr9 hb9)
  go_loopg [8] 24 (fun gg i wr => ∃ j : Nat, j + gg = 24 ∧ i = .int .i64 j ∧ BlkK wr W1.heap.size (rwI t j).cs 52 ∧ Fr (fun b => b = W1.heap.size) w9 wr)
  case atStart => exact ⟨0, by omega, rfl, by rw [rwI_zero]; exact HG9.out, Fr.refl _ _⟩
  case round =>
    obtain ⟨j, hj, rfl, hg, hfr⟩ := hrel
    have HG := hm7 hg
    have HFR := hm7 hfr
    have HJ := hm7 hj
    have hbw : Below W1.heap.size W1 wr := HB9.out.trans (hfr.belowL (fun k hk => by omega) HB9.out.size)
    have HBW := hm7 hbw
    have hrr := HR9.out.frL hfr (by have := HS9.out; omega)
    clear hg hfr hj hbw
    cases gk with
    | succ gg =>
      have hlt : (j : Int) < 24 := by have := HJ.out; omega
      have h0 : (0 : Int) ≤ (j : Int) := by omega
      obtain ⟨r0, r1, r2⟩ := rc_at (i := j) (by have := HJ.out; omega)
      have c0 := cell8 hrr _ _ r0
      have c1 := cell8 hrr _ _ r1
      have c2 := cell8 hrr _ _ r2
      obtain ⟨t0, t1, t2, t3, t4⟩ := HCS.out 0 t (by rw [← HLL.out]; rfl)
      have tk : ∀ o u, W1.cell? ⟨gb, o, none⟩ = some u → wr.cell? ⟨gb, o, none⟩ = some u := fun o u h => by rw [World.cell?_of_block (w := W1) (a := ⟨gb, o, none⟩) (HBW.out.block gb HLT.out)]; exact h
      have u0 := tk _ _ t0
      have u1 := tk _ _ t1
      simp only [Nat.zero_mul, Nat.add_zero] at u0 u1
      have n1 : (0 : Int) < (n : Int) + 1 := by omega
      have HRR9 := hm7 hrr
      clear hrr t0 t1 t2 t3 t4 tk r0 r1 r2
      by_cases hk : t.k = 1
      · have hk3 : (t.k == 1) = true := by simpa using hk
        obtain ⟨X, hX⟩ : ∃ X, (rwS.getD j zrS).x = X := ⟨_, rfl⟩
        obtain ⟨P, hP⟩ : ∃ P, (rwS.getD j zrS).p = P := ⟨_, rfl⟩
        have HXX := hm7 hX
        have HPP := hm7 hP
        rw [hX] at c0
        rw [hP] at c2
        clear hX hP
        by_cases hx : X = t.x
        · have hx2 : X.toList = t.x.toList := by rw [hx]
          have hrow : (rwI t (j + 1)).cs = #[.string X, .int .i64 ((j : Int) + 1), .string P] := by
            rw [rwI_same hk (by rw [HXX.out, hx])]
            unfold RwS.cs
            rw [HXX.out, HPP.out, rw_k (by have := HJ.out; omega)]
          have HROW := hm7 hrow
          clear hx hrow
          go_upto_region 13 with (fail)
          go_quiet (fail)
          obtain ⟨W5, hW5⟩ : ∃ W, wr.drewN nq = W := ⟨_, rfl⟩
          have hd5 : Below wr.heap.size wr W5 := by rw [← hW5]; exact bdrewS _ _
          rw [hW5]
          have hrr := HRR9.out.later hd5
          have hg5 := HG.out.later hd5
          have HF5 := hm7 (HFR.out.then hd5)
          clear hd5 hW5 c0 c1 c2 u0 u1 hx2
          obtain ⟨r0, r1, r2⟩ := rc_at (i := j) (by have := HJ.out; omega)
          rw [HXX.out] at r0
          rw [HPP.out] at r2
          have c0 := cell8 hrr _ _ r0
          have c1 := cell8 hrr _ _ r1
          have c2 := cell8 hrr _ _ r2
          have e0 : W5.cell? ⟨W1.heap.size, 0, none⟩ = some (.string (rwI t j).x) := cell8 hg5 0 _ rfl
          have e1 : W5.cell? ⟨W1.heap.size, 1, none⟩ = some (.int .i64 (rwI t j).k) := cell8 hg5 1 _ rfl
          have e2 : W5.cell? ⟨W1.heap.size, 2, none⟩ = some (.string (rwI t j).p) := cell8 hg5 2 _ rfl
          have ef := froz8 hg5
          have HG5 := hm7 hg5
          clear hrr hg5 r0 r1 r2
          go_wp2
          go_roundg gg
          case measure => omega
          case rel => exact ⟨j + 1, by have := HJ.out; omega, by go_num, by rw [HROW.out]; exact store3S HG5.out, ((HF5.out.set (Or.inl rfl)).set (Or.inl rfl)).set (Or.inl rfl)⟩
        · have hx2 : ¬ X.toList = t.x.toList := fun e => hx (toList_injK e)
          have hx3 : (X.toList == t.x.toList) = false := by rw [beq_eq_false_iff_ne]; exact hx2
          have hno := rwI_other hk (show (rwS.getD j zrS).x ≠ t.x by rw [HXX.out]; exact hx)
          have HNO := hm7 hno
          clear hno hx
          go_wp2
          go_quiet (fail)
          go_wp2
          go_roundg gg
          case measure => omega
          case rel => exact ⟨j + 1, by have := HJ.out; omega, by go_num, by rw [HNO.out]; exact HG.out.later (bdrewS wr nq), HFR.out.then (bdrewS wr nq)⟩
      · have hk2 : (t.k == 1) = false := by simpa using hk
        go_wp2
        go_quiet (fail)
        go_wp2
        go_roundg gg
        case measure => omega
        case rel => exact ⟨j + 1, by have := HJ.out; omega, by go_num, by rw [rwI_no hk]; exact HG.out.later (bdrewS wr nq), HFR.out.then (bdrewS wr nq)⟩
    | zero =>
      have hlt : ¬ (j : Int) < 24 := by have := HJ.out; omega
      have hj24 : j = 24 := by have := HJ.out; omega
      have hg := HG.out
      rw [hj24, rwI_all] at hg
      obtain ⟨R, hR⟩ : ∃ R, rwT t = R := ⟨_, rfl⟩
      have HRT := hm7 hR
      rw [hR] at hg
      have k0 : wr.cell? ⟨W1.heap.size, 0, none⟩ = some (.string R.x) := cell8 hg 0 _ rfl
      have k1 : wr.cell? ⟨W1.heap.size, 1, none⟩ = some (.int .i64 R.k) := cell8 hg 1 _ rfl
      have k2 : wr.cell? ⟨W1.heap.size, 2, none⟩ = some (.string R.p) := cell8 hg 2 _ rfl
      have hrt := HR2.out.later HBW.out
      have HRTS := hm7 hrt
      have HG6 := hm7 hg
      have tk : ∀ o u, W1.cell? ⟨gb, o, none⟩ = some u → wr.cell? ⟨gb, o, none⟩ = some u := fun o u h => by rw [World.cell?_of_block (w := W1) (a := ⟨gb, o, none⟩) (HBW.out.block gb HLT.out)]; exact h
      have HTK := hm7 tk
      have hrl : RR = if R.k = 0 then noS 252 t.a else goS s.size (blK R.p) T { zdS with k := R.k } ⟨#[]⟩ := by
        rw [← HRR.out, ← HRT.out]
        rfl
      have HRL := hm7 hrl
      clear hj24 hg hR hrr tk hrl
      by_cases hk : R.k = 0
      · have hk2 : (R.k == 0) = true := by simpa using hk
        have hrr2 : RR = noS 252 t.a := by rw [HRL.out, if_pos hk]
        obtain ⟨t0, t1, t2, t3, t4⟩ := HCS.out 0 t (by rw [← HLL.out]; rfl)
        have u3 := HTK.out _ _ t3
        simp only [Nat.zero_mul, Nat.add_zero] at u3
        obtain ⟨⟨c0, c1, c2, c3, c4, c5, c6, c7⟩, cf, d0, d1, df⟩ := hrt.cells
        have n1 : (0 : Int) < (n : Int) + 1 := by omega
        have x1 : gb ≠ w.heap.size := by have := HGW.out; omega
        have x2 : gb ≠ w.heap.size + 1 := by have := HGW.out; omega
        have HRR2 := hm7 hrr2
        clear t0 t1 t2 t3 t4 hrt hrr2
        go_upto_region 16 with (fail)
        go_region
        all_goals
          go_wp2
          rw [HRR2.out]
          obtain ⟨h1, h2, h3⟩ := rtE HRTS.out 252 t.a
          exact endE rfl rfl rfl rfl (bkD h1) (bkD h2) (blD h3)
      · obtain ⟨Wp, hWp⟩ : ∃ W, W = wr := ⟨_, rfl⟩
        subst hWp
        have hk2 : (R.k == 0) = false := by simpa using hk
        obtain ⟨P, hP⟩ : ∃ P, R.p = P := ⟨_, rfl⟩
        have hgo : RR = goS s.size (blK P) T { zdS with k := R.k } ⟨#[]⟩ := by rw [HRL.out, if_neg hk, hP]
        have hps : (∀ p ∈ blK P, ltS p) ∧ P.size ≤ 3 := by
          rcases rwT_any t with h | ⟨j, hj, h, -⟩
          · exact absurd (by rw [← HRT.out, h]; rfl) hk
          · rw [← hP, ← HRT.out, h]
            exact ⟨(rw_ps hj).2.1, (rw_le j).2⟩
        have HPS := hm7 hps
        have HGO := hm7 hgo
        rw [hP] at k2
        have HPP := hm7 hP
        have HK1 := hm7 (show Wp.heap.size > gb by have := HLT.out; have := HBW.out.size; omega)
        have HW1 := hm7 (show W1.heap.size < Wp.heap.size from HG6.out.lt)
        clear hgo hps hk hrt hP
        go_upto_region 19 with (fail)
        have hbx := below1K Wp (.cells #[.int .i64 R.k, .string ⟨#[]⟩, .string ⟨#[]⟩, .string ⟨#[]⟩, .slice none 0 0, .int .i64 0, .int .i64 0, .int .i64 0] 24)
        have hbl := BlkK.new Wp #[.int .i64 R.k, .string ⟨#[]⟩, .string ⟨#[]⟩, .string ⟨#[]⟩, .slice none 0 0, .int .i64 0, .int .i64 0, .int .i64 0] 24
        revert hbx hbl
        generalize Wp.alloc _ = W7
        intro hbx hbl
        have HB7 := hm7 hbx
        have HD7 := hm7 hbl
        clear hbx hbl k0 k1 k2
        obtain ⟨N, hN⟩ : ∃ N, P.size = N := ⟨_, rfl⟩
        have HNP := hm7 hN
        clear hN
        go_loopg [10] N (fun gg i wr => ∃ (j : Nat) (d : SdO) (b : ByteArray) (a : Option Addr) (c : Nat), j + gg = N ∧ j ≤ n ∧ i = .int .i64 j ∧ BlkK wr Wp.heap.size (d.cs (.slice a b.size c)) 24 ∧ OwY wr (Wp.heap.size + 1) (.slice a b.size c) (blK b) ∧ goS s.size ((blK P).drop j) (T.drop j) d b = RR ∧ Fr (fun x => x = Wp.heap.size) W7 wr)
        case atStart => exact ⟨0, { zdS with k := R.k }, ⟨#[]⟩, none, 0, by omega, by omega, rfl, HD7.out, Or.inl ⟨rfl, rfl⟩, HGO.out.symm, Fr.refl _ _⟩
        case round =>
          obtain ⟨j, d, b, a, c, hj, hjn, rfl, hbl, hoy, hgo, hfr⟩ := hrel
          have hbw := HB7.out.trans (hfr.belowL (fun k hk => by omega) HB7.out.size)
          have hrt := HRTS.out.later hbw
          have hrow := HG6.out.later hbw
          have HRT7 := hm7 hrt
          have HROW := hm7 hrow
          have c0 : wr.cell? ⟨W1.heap.size, 2, none⟩ = some (.string P) := by rw [← HPP.out]; exact cell8 hrow 2 _ rfl
          have tk : ∀ o u, W1.cell? ⟨gb, o, none⟩ = some u → wr.cell? ⟨gb, o, none⟩ = some u := fun o u h => by rw [World.cell?_of_block (w := Wp) (a := ⟨gb, o, none⟩) (hbw.block gb HK1.out)]; exact HTK.out o u h
          have HTK7 := hm7 tk
          have HBW7 := hm7 hbw
          have HBL := hm7 hbl
          have HOY := hm7 hoy
          have HGO7 := hm7 hgo
          have HFR7 := hm7 hfr
          have HJ := hm7 hj
          clear hbw hrt hrow tk hbl hoy hgo hfr hj
          cases gk with
          | succ gg =>
            have hlt : (j : Int) < (P.size : Int) := by have := HJ.out; have := HNP.out; omega
            have k0 : (0 : Int) ≤ (j : Int) := by omega
            have hkP : j < P.size := by have := HJ.out; have := HNP.out; omega
            have hdr : (blK P).drop j = atK_ P j :: (blK P).drop (j + 1) := bl_drop hkP
            have hlt7 := HPS.out.1 _ (List.mem_of_getElem? (at_bl2 hkP))
            have hj3 : j < 3 := by have := HPS.out.2; omega
            by_cases hje : j = n
            · have hT : T.drop j = [] := List.drop_eq_nil_of_le (by have := HN.out; omega)
              have hrr : RR = noS 253 s.size := by rw [← HGO7.out, hdr, hT, go_lessS]
              have HRR2 := hm7 hrr
              have g1 : (j : Int) + 1 ≥ (n : Int) + 1 := by omega
              obtain ⟨⟨b0, b1, b2, b3, b4, b5, b6, b7⟩, bf, d0, d1, df⟩ := HRT7.out.cells
              clear hT hrr hdr hlt7 hkP hje
              go_wp2
              rw [HRR2.out]
              obtain ⟨h1, h2, h3⟩ := rtE HRT7.out 253 s.size
              exact endE rfl rfl rfl rfl h1 h2 h3
            · have hjT : j < T.length := by have := HN.out; omega
              have hT : T.drop j = T[j] :: T.drop (j + 1) := List.drop_eq_getElem_cons hjT
              have hmem : T[j] ∈ L := by rw [← HLL.out]; exact List.mem_cons_of_mem _ (List.getElem_mem hjT)
              have hg : L[j + 1]? = some T[j] := by rw [← HLL.out, List.getElem?_cons_succ, List.getElem?_eq_getElem hjT]
              obtain ⟨u, hu⟩ : ∃ u, T[j] = u := ⟨_, rfl⟩
              rw [hu] at hT hmem hg
              obtain ⟨q, hq⟩ : ∃ q, atK_ P j = q := ⟨_, rfl⟩
              have hux : u.x.size ≤ 9000000 := by have := (HCF.out.sp u hmem).2.1; have := HZ.out; omega
              have hix := fun w' k' => run_index_atK P j hkP (j : Int) rfl w' k'
              simp only [hq] at hix hlt7 hdr
              obtain ⟨t0, t1, t2, t3, t4⟩ := HCS.out (j + 1) u hg
              have u0 := HTK7.out _ _ t0
              have u1 := HTK7.out _ _ t1
              have u2 := HTK7.out _ _ t2
              have u3 := HTK7.out _ _ t3
              have u4 := HTK7.out _ _ t4
              have g1 : ¬ (j : Int) + 1 ≥ (n : Int) + 1 := by omega
              have g2 : (j : Int) + 1 < (n : Int) + 1 := by omega
              have g3 : (0 : Int) ≤ (j : Int) + 1 := by omega
              have g4 : ((j : Int) + 1).toNat = j + 1 := by omega
              have g5 : (j : Int) < (n : Int) := by omega
              have g6 : j < n := by omega
              have g8 : IntKind.i64.wrap ((j : Int) + 1) = (j : Int) + 1 := by rw [IntKind.wrap_i64]; omega
              have HF := hm7 (fun X => fitsS_any q u X)
              obtain ⟨ft, hft⟩ : ∃ f, ftS q u.k = f := ⟨_, rfl⟩
              simp only [hft] at HF
              have HFT := hm7 hft
              have HT := hm7 hT
              have HDR := hm7 hdr
              have HUX := hm7 hux
              have HLQ := hm7 hlt7
              have HHC := hm7 (And.intro u0 (And.intro u1 (And.intro u2 (And.intro u3 u4))))
              clear t0 t1 t2 t3 t4 hT hmem hg hu hft hdr hux hlt7 hq hjT
              go_upto_region 23 with (fail)
              go_cut [101] from 75 to 120 (fun x wx => x = .bool (!ft) ∧ Below wr.heap.size wr wx)
              case first =>
                go_region_with (go_at_call 23; refine (HF.out _).mono ?_; rintro e w8 ⟨rfl, hb8⟩; have HB8 := hm7 (below_stepK (bdrew1S wr) hb8); clear hb8)
                all_goals
                  go_wp2
                  go_meet
                  case rel => exact ⟨rfl, HB8.out⟩
              case rest =>
                obtain ⟨rfl, hb8⟩ := hcut
                clear u0 u1 u2 u3 u4 c0
                have tk : ∀ o u, wr.cell? ⟨gb, o, none⟩ = some u → wc.cell? ⟨gb, o, none⟩ = some u := fun o u h => by rw [World.cell?_of_block (w := wr) (a := ⟨gb, o, none⟩) (hb8.block gb (by have := HK1.out; have := HBW7.out.size; omega))]; exact h
                have u0 := tk _ _ HHC.out.1
                have u1 := tk _ _ HHC.out.2.1
                have u2 := tk _ _ HHC.out.2.2.1
                have u3 := tk _ _ HHC.out.2.2.2.1
                have u4 := tk _ _ HHC.out.2.2.2.2
                have HRTC := hm7 (HRT7.out.later hb8)
                have c0 : wc.cell? ⟨W1.heap.size, 2, none⟩ = some (.string P) := by rw [← HPP.out]; exact cell8 (HROW.out.later hb8) 2 _ rfl
                have HBLC := hm7 (HBL.out.later hb8)
                have HOYC := hm7 (HOY.out.later hb8)
                have HB8C := hm7 hb8
                clear tk hb8
                cases ft with
                | false =>
                  have hrr : RR = noS 253 u.a := by rw [← HGO7.out, HDR.out, HT.out, go_nayS HFT.out]
                  have HRR2 := hm7 hrr
                  have x1 : gb ≠ w.heap.size := by have := HGW.out; omega
                  have x2 : gb ≠ w.heap.size + 1 := by have := HGW.out; omega
                  obtain ⟨⟨b0, b1, b2, b3, b4, b5, b6, b7⟩, bf, d0, d1, df⟩ := HRTC.out.cells
                  clear hrr
                  go_upto_region 24 with (fail)
                  go_region
                  all_goals
                    go_wp2
                    rw [HRR2.out]
                    obtain ⟨h1, h2, h3⟩ := rtE HRTC.out 253 u.a
                    exact endE rfl rfl rfl rfl (bkD h1) (bkD h2) (blD h3)
                | true =>
                  have hgo2 : goS s.size ((blK P).drop (j + 1)) (T.drop (j + 1)) (putS q d u) (putB q b u) = RR := by rw [← HGO7.out, HDR.out, HT.out, go_yesS HFT.out]
                  have HGO2 := hm7 hgo2
                  have HPUT : Hid (∀ X, Wp.heap.size + 1 ≤ X.heap.size → OwY X (Wp.heap.size + 1) (.slice a b.size c) (blK b) → Calls Tryd.prog 24 #[d.v a b.size c, .int .u8 q, u.v] X fun e w' => ∃ a' c', e = .returned ((putS q d u).v a' (putB q b u).size c') ∧ OwY w' (Wp.heap.size + 1) (.slice a' (putB q b u).size c') (blK (putB q b u)) ∧ Below X.heap.size X w') := fun X hX ho => putP_any d b a c u HUX.out HLQ.out _ X hX ho
                  have e0 : wc.cell? ⟨Wp.heap.size, 0, none⟩ = some (.int .i64 d.k) := cell8 HBLC.out 0 _ rfl
                  have e1 : wc.cell? ⟨Wp.heap.size, 1, none⟩ = some (.string d.who) := cell8 HBLC.out 1 _ rfl
                  have e2 : wc.cell? ⟨Wp.heap.size, 2, none⟩ = some (.string d.too) := cell8 HBLC.out 2 _ rfl
                  have e3 : wc.cell? ⟨Wp.heap.size, 3, none⟩ = some (.string d.tx) := cell8 HBLC.out 3 _ rfl
                  have e4 : wc.cell? ⟨Wp.heap.size, 4, none⟩ = some (.slice a b.size c) := cell8 HBLC.out 4 _ rfl
                  have e5 : wc.cell? ⟨Wp.heap.size, 5, none⟩ = some (.int .i64 d.n) := cell8 HBLC.out 5 _ rfl
                  have e6 : wc.cell? ⟨Wp.heap.size, 6, none⟩ = some (.int .i64 d.m) := cell8 HBLC.out 6 _ rfl
                  have e7 : wc.cell? ⟨Wp.heap.size, 7, none⟩ = some (.int .i64 d.q) := cell8 HBLC.out 7 _ rfl
                  have ef := froz8 HBLC.out
                  have HSZ := hm7 (show Wp.heap.size + 1 ≤ wc.drew.heap.size from HBLC.out.lt)
                  have HPC := hm7 (HPUT.out wc.drew HSZ.out (HOYC.out.later (bdrew1S wc)))
                  obtain ⟨d', hd'⟩ : ∃ d', putS q d u = d' := ⟨_, rfl⟩
                  obtain ⟨b', hb'⟩ : ∃ b', putB q b u = b' := ⟨_, rfl⟩
                  rw [hd', hb'] at HPC HGO2
                  clear hgo2 hd' hb'
                  go_upto_region 25 with (fail)
                  go_region_with (go_at_call 24; refine HPC.out.mono ?_; rintro e w9 ⟨a', c', rfl, ho9, hb9⟩; have hbl9 := (HBLC.out.later (bdrew1S wc)).later hb9; have HBL9 := hm7 hbl9; have HO9 := hm7 ho9; have HB9 := hm7 (below_stepK (below_stepK HB8C.out (bdrew1S wc)) hb9); have f0 := cell8 hbl9 0 _ rfl; have f1 := cell8 hbl9 1 _ rfl; have f2 := cell8 hbl9 2 _ rfl; have f3 := cell8 hbl9 3 _ rfl; have f4 := cell8 hbl9 4 _ rfl; have f5 := cell8 hbl9 5 _ rfl; have f6 := cell8 hbl9 6 _ rfl; have f7 := cell8 hbl9 7 _ rfl; have ff := froz8 hbl9; clear hbl9 ho9 hb9)
                  all_goals
                    go_wp2
                    go_roundg gg
                    case measure => omega
                    case rel =>
                      refine ⟨j + 1, d', b', a', c', by have := HJ.out; omega, by omega, by go_num, store8 HBL9.out, ?_, HGO2.out, ?_⟩
                      · exact (((((((HO9.out.set (Nat.lt_succ_self _)).set (Nat.lt_succ_self _)).set (Nat.lt_succ_self _)).set (Nat.lt_succ_self _)).set (Nat.lt_succ_self _)).set (Nat.lt_succ_self _)).set (Nat.lt_succ_self _)).set (Nat.lt_succ_self _)
                      · exact ((((((((HFR7.out.then HB9.out).set (Or.inl rfl)).set (Or.inl rfl)).set (Or.inl rfl)).set (Or.inl rfl)).set (Or.inl rfl)).set (Or.inl rfl)).set (Or.inl rfl)).set (Or.inl rfl)
          | zero =>
            have hlt : ¬ (j : Int) < (P.size : Int) := by have := HJ.out; have := HNP.out; omega
            have hjN : P.size = j := by have := HJ.out; have := HNP.out; omega
            have hj3 : j ≤ 3 := by have := HPS.out.2; omega
            have hdr : (blK P).drop j = [] := List.drop_eq_nil_of_le (by rw [bl_len]; omega)
            by_cases hje : j = n
            · have hT : T.drop j = [] := List.drop_eq_nil_of_le (by have := HN.out; omega)
              have hrr : RR = ⟨d, b, 0, 0⟩ := by rw [← HGO7.out, hdr, hT, go_nilS]
              have HRR2 := hm7 hrr
              have g1 : ¬ ((n : Int) + 1 > (P.size : Int) + 1) := by omega
              obtain ⟨⟨b0, b1, b2, b3, b4, b5, b6, b7⟩, bf, d0, d1, df⟩ := HRT7.out.cells
              have e0 : wr.cell? ⟨Wp.heap.size, 0, none⟩ = some (.int .i64 d.k) := cell8 HBL.out 0 _ rfl
              have e1 : wr.cell? ⟨Wp.heap.size, 1, none⟩ = some (.string d.who) := cell8 HBL.out 1 _ rfl
              have e2 : wr.cell? ⟨Wp.heap.size, 2, none⟩ = some (.string d.too) := cell8 HBL.out 2 _ rfl
              have e3 : wr.cell? ⟨Wp.heap.size, 3, none⟩ = some (.string d.tx) := cell8 HBL.out 3 _ rfl
              have e4 : wr.cell? ⟨Wp.heap.size, 4, none⟩ = some (.slice a b.size c) := cell8 HBL.out 4 _ rfl
              have e5 : wr.cell? ⟨Wp.heap.size, 5, none⟩ = some (.int .i64 d.n) := cell8 HBL.out 5 _ rfl
              have e6 : wr.cell? ⟨Wp.heap.size, 6, none⟩ = some (.int .i64 d.m) := cell8 HBL.out 6 _ rfl
              have e7 : wr.cell? ⟨Wp.heap.size, 7, none⟩ = some (.int .i64 d.q) := cell8 HBL.out 7 _ rfl
              have hWp : w.heap.size + 2 ≤ Wp.heap.size + 1 := by have := HGW.out; have := HK1.out; omega
              have HWP := hm7 hWp
              have x1 : Wp.heap.size ≠ w.heap.size := by omega
              have x2 : Wp.heap.size ≠ w.heap.size + 1 := by have := HGW.out; have := HK1.out; omega
              clear hT hrr hdr hje hWp hjN
              go_wp2
              rw [HRR2.out]
              obtain ⟨h1, h2, h3, h4⟩ := rtR HRT7.out HWP.out d HOY.out
              exact endR rfl rfl rfl rfl h1 h2 h3 (by have := HWP.out; omega) h4
            · have hjT : j < T.length := by have := HN.out; omega
              have hT : T.drop j = T[j] :: T.drop (j + 1) := List.drop_eq_getElem_cons hjT
              have hg : L[j + 1]? = some T[j] := by rw [← HLL.out, List.getElem?_cons_succ, List.getElem?_eq_getElem hjT]
              have hrr : RR = noS 253 T[j].a := by rw [← HGO7.out, hdr, hT, go_moreS]
              obtain ⟨u, hu⟩ : ∃ u, T[j] = u := ⟨_, rfl⟩
              rw [hu] at hg hrr
              obtain ⟨t0, t1, t2, t3, t4⟩ := HCS.out (j + 1) u hg
              have u3 := HTK7.out _ _ t3
              rw [← hjN] at u3
              have HRR2 := hm7 hrr
              have g1 : (n : Int) + 1 > (P.size : Int) + 1 := by omega
              have g2 : (P.size : Int) + 1 < (n : Int) + 1 := by omega
              have g3 : (0 : Int) ≤ (P.size : Int) + 1 := by omega
              have g4 : ((P.size : Int) + 1).toNat = P.size + 1 := by omega
              have g5 : P.size ≤ 3 := by omega
              have g6 : (P.size : Int) < (n : Int) := by omega
              have g7 : P.size < n := by omega
              have x1 : gb ≠ w.heap.size := by have := HGW.out; omega
              have x2 : gb ≠ w.heap.size + 1 := by have := HGW.out; omega
              have x3 : W1.heap.size ≠ w.heap.size := by have := HR2.out.d.lt; omega
              have x4 : W1.heap.size ≠ w.heap.size + 1 := by have := HR2.out.f.lt; omega
              obtain ⟨⟨b0, b1, b2, b3, b4, b5, b6, b7⟩, bf, d0, d1, df⟩ := HRT7.out.cells
              clear hT hrr hdr hje hjN t0 t1 t2 t3 t4 hg hu hjT
              go_upto_region 27 with (fail)
              go_region
              all_goals
                go_wp2
                rw [HRR2.out]
                obtain ⟨h1, h2, h3⟩ := rtE HRT7.out 253 u.a
                exact endE rfl rfl rfl rfl (bkD h1) (bkD h2) (blD h3)
end Go.Proofs.YtdfdnjkeiddfjabDoor
