import Derived.Test.YtelcoihmiglceaaGreatCS1
import Derived.Deep.RegionHeld3
namespace Go.Proofs.YtelcoihmiglceaaGreat
open Go.RowKit
attribute [local go_sem ↓] Go.wp_at_zero Go.wp_at_succ

theorem Bn.form9 {w : World} {v : Value} {l : List Int} (h : Bn w v l) : ∃ a n cap, v = .slice a n cap := by
 obtain ⟨a, cap, rfl, -⟩ := h
 exact ⟨_, _, _, rfl⟩
theorem PR8.laterB {B : Nat} {X X' : World} {x : Pk} {v : Value} (h : PR8 B X x v) (hb : Below X.heap.size X X') : PR8 B X' x v := h.hi ⟨hb.size, fun k _ hk => hb.block k hk⟩
set_option maxRecDepth 20000 in
set_option maxHeartbeats 3000000 in
theorem codecLists_any (R : List Cm) (S : List St) (rv sv v : Value) (B : List Int) (w : World) (hR : CsP w rv R) (hS : SsP w sv S) (hb : Br w v B) (hlR : R.length <= 2000000) (hwS : wk (S.map St.key) <= 2000000) (hlB : B.length <= 2000000) (hrR : ∀ c ∈ R, Rng c.key) (hrS : ∀ s ∈ S, Rs s.key) :
  Calls Tryz.prog 5 #[.agg #[rv, sv], v] w fun e w' => e = .returned (.bool true) /\ Below w.heap.size w w' := by
 have hlS : S.length <= 2000000 := by have := wk_len (S.map St.key); rw [List.length_map] at this; omega
 have hmS : ∀ s ∈ S, s.vals.length <= 2000000 /\ s.uses.length <= 2000000 := fun s hs => by
  have := wk_mem (List.mem_map_of_mem (f := St.key) hs)
  have e1 : (St.key s).2.1 = s.vals := rfl
  have e2 : (St.key s).2.2 = s.uses := rfl
  rw [e1, e2] at this; omega
 obtain ⟨av, acap, rfl⟩ : ∃ a cap, v = .slice a B.length cap := by obtain ⟨-, a, cap, e, -⟩ := hb; exact ⟨a, cap, e⟩
 have HBY : Hid (∀ X : World, Below w.heap.size w X -> Calls Tryz.prog 6 #[.slice none 0 0, .agg #[rv, sv], .slice av B.length acap] X fun e w' => YesNo e /\ Below X.heap.size X w') := fun X hX => beyond_any [] R S _ rv sv av B.length acap X ⟨Or.inl ⟨rfl, rfl⟩, fun c hc => by simp at hc⟩ (hR.later hX) (hS.later hX) (by simp) (by omega) (by omega)
 have HMP : Hid (∀ X : World, Below w.heap.size w X -> Calls Tryz.prog 14 #[.agg #[rv, sv]] X fun e w' => ∃ r1 r2 r3 s1 s2 s3 R' S', e = .returned (.agg #[.slice r1 r2 r3, .slice s1 s2 s3]) /\ LL X.heap.size w' (.slice r1 r2 r3) (.slice s1 s2 s3) R' S' /\ Below X.heap.size X w') := fun X hX => (madeProof_any R S rv sv X (hR.later hX) (hS.later hX) (by omega) (by omega) (fun s hs => by have := hmS s hs; omega) (fun s hs => ⟨(hrS s hs).n.1, fun n hn => ((hrS s hs).u n hn).1⟩)).mono fun e w' h => ll_made h hlR hwS hrR hrS
 have HV : Hid (Br w (.slice av B.length acap) B) := hb
 have HLBB : Hid (B.length <= 2000000) := hlB
 have HLB : Hid (∀ (X : World) (u : Value) (l : List Int), Br X u l -> l.length <= 400000000000 -> Calls Tryz.prog 19 #[u] X fun e w' => ∃ u', e = .returned u' /\ Bh w' u' l /\ Below X.heap.size X w') := fun X u l hu hl => ll_lend u l X hu hl
 have HLBB : Hid (B.length <= 400000000000) := by show _ <= _; omega
 obtain ⟨ra, rc, rfl⟩ := hR.form
 obtain ⟨sa, sc, rfl⟩ := hS.form
 have HP0 : Hid (CBlk (w.alloc (.cells #[.slice ra R.length rc, .slice sa S.length sc] 35)) w.heap.size #[.slice ra R.length rc, .slice sa S.length sc] 35) := CBlk.new _ _ _
 clear hR hS hrR hrS hmS hwS hb
 go_enter Tryz.func5, Tryz.ntmps5
 obtain ⟨p0, p1⟩ := ctwo HP0.out
 go_upto_if 16 with (go_at_call 6; refine (HBY.out _ (below1 _ _)).mono ?_; clear HBY; rintro e w1 ⟨⟨bb, rfl⟩, hb⟩; have HP1 : Hid (CBlk w1 w.heap.size _ 35) := HP0.out.later hb; have HW1 : Hid (Below w.heap.size w w1) := below_step (below1 _ _) hb; clear hb p0 p1)
 clear HP0
 cases bb
 case true =>
  go_wp2
  go_ret
  exact ⟨rfl, HW1.out⟩
 obtain ⟨p0, p1⟩ := ctwo HP1.out
 obtain ⟨mR, hmR⟩ : ∃ m, m = R.length := ⟨_, rfl⟩
 obtain ⟨mS, hmS⟩ : ∃ m, m = S.length := ⟨_, rfl⟩
 rw [<- hmR] at p0
 rw [<- hmS] at p1
 rw [<- hmR, <- hmS] at HMP
 clear hmR hmS
 go_upto_region 4 with (go_at_call 14; refine (HMP.out _ HW1.out).mono ?_; clear HMP; rintro e w2 ⟨r1, r2, r3, s1, s2, s3, R', S', rfl, hll, hb⟩; have HL3 : Hid (LL w1.heap.size (w2.alloc (.cells #[.slice r1 r2 r3, .slice s1 s2 s3] 35)) (.slice r1 r2 r3) (.slice s1 s2 s3) R' S') := hll.later (below1 _ _); have HP3 : Hid (CBlk (w2.alloc (.cells #[.slice r1 r2 r3, .slice s1 s2 s3] 35)) w2.heap.size #[.slice r1 r2 r3, .slice s1 s2 s3] 35) := CBlk.new _ _ _; have HW3 : Hid (Below w.heap.size w (w2.alloc (.cells #[.slice r1 r2 r3, .slice s1 s2 s3] 35))) := below_step (below_step HW1.out hb) (below1 _ _); clear hll hb p0 p1)
 clear HP1
 revert HL3 HP3 HW3
 generalize (w2.alloc (.cells #[.slice r1 r2 r3, .slice s1 s2 s3] 35)) = X3
 generalize w2.heap.size = G
 generalize w1.heap.size = B1
 intro HL3 HP3 HW3
 obtain ⟨c0, c1⟩ := ctwo HP3.out
 go_upto_region 6 with (first
  | (go_at_call 17; refine (ll_proof HL3.out).mono ?_; rintro e w4 ⟨v4, rfl, hn, hl4, hb⟩; have HN4 : Hid (Br w4 v4 (pK (R'.map Cm.key, S'.map St.key))) := hn; have HNL : Hid ((pK (R'.map Cm.key, S'.map St.key)).length <= 400000000000) := hl4; have HL4 : Hid (LL B1 w4 (.slice r1 r2 r3) (.slice s1 s2 s3) R' S') := HL3.out.later hb; have HP4 : Hid (CBlk w4 G #[.slice r1 r2 r3, .slice s1 s2 s3] 35) := HP3.out.later hb; have HW4 : Hid (Below w.heap.size w w4) := below_step HW3.out hb; clear hn hl4 hb c0 c1 HL3 HP3 HW3)
  | (go_at_call 19; refine (HLB.out _ _ _ HN4.out HNL.out).mono ?_; rintro e w5 ⟨u5, rfl, hu, hb⟩; have HU5 : Hid (Bh w5 u5 (pK (R'.map Cm.key, S'.map St.key))) := hu; have HL5 : Hid (LL B1 w5 (.slice r1 r2 r3) (.slice s1 s2 s3) R' S') := HL4.out.later hb; have HP5 : Hid (CBlk w5 G #[.slice r1 r2 r3, .slice s1 s2 s3] 35) := HP4.out.later hb; have HW5 : Hid (Below w.heap.size w w5) := below_step HW4.out hb; clear hu hb HL4 HP4 HW4 HN4 HNL)
  | (go_at_call 20; refine (ll_read HL5.out _ _ HU5.out).mono ?_; rintro e w6 ⟨q, rfl, hq, hb⟩; obtain ⟨a1, a2, a3, b1, b2, b3, rfl⟩ := hq.lists; have HQ6 : Hid (PR8 w5.heap.size (w6.alloc (.cells #[.slice a1 a2 a3, .slice b1 b2 b3] 35)) (R'.map Cm.key, S'.map St.key) (.agg #[.slice a1 a2 a3, .slice b1 b2 b3])) := hq.laterB (below1 _ _); have HQB6 : Hid (CBlk (w6.alloc (.cells #[.slice a1 a2 a3, .slice b1 b2 b3] 35)) w6.heap.size #[.slice a1 a2 a3, .slice b1 b2 b3] 35) := CBlk.new _ _ _; have HL6 : Hid (LL B1 (w6.alloc (.cells #[.slice a1 a2 a3, .slice b1 b2 b3] 35)) (.slice r1 r2 r3) (.slice s1 s2 s3) R' S') := (HL5.out.later hb).later (below1 _ _); have HP6 : Hid (CBlk (w6.alloc (.cells #[.slice a1 a2 a3, .slice b1 b2 b3] 35)) G #[.slice r1 r2 r3, .slice s1 s2 s3] 35) := (HP5.out.later hb).later (below1 _ _); have HG2 : Hid (w.heap.size <= w6.heap.size) := Nat.le_trans HW5.out.size hb.size; have HW6 : Hid (Below w.heap.size w (w6.alloc (.cells #[.slice a1 a2 a3, .slice b1 b2 b3] 35))) := below_step (below_step HW5.out hb) (below1 _ _); clear hq hb HL5 HP5 HW5 HU5))
 revert HQ6 HQB6 HL6 HP6 HG2 HW6
 generalize (w6.alloc (.cells #[.slice a1 a2 a3, .slice b1 b2 b3] 35)) = X6
 generalize w6.heap.size = G2
 generalize w5.heap.size = G5
 intro HQ6 HQB6 HL6 HP6 HG2 HW6
 obtain ⟨c0, c1⟩ := ctwo HP6.out
 obtain ⟨e0, e1⟩ := ctwo HQB6.out
 go_upto_region 8 with (go_at_call 21; refine (ll_same HL6.out HQ6.out).mono ?_; rintro e w7 ⟨rfl, hb⟩; have HL7 : Hid (LL B1 w7 (.slice r1 r2 r3) (.slice s1 s2 s3) R' S') := HL6.out.later hb; have HP7 : Hid (CBlk w7 G #[.slice r1 r2 r3, .slice s1 s2 s3] 35) := HP6.out.later hb; have HQB7 : Hid (CBlk w7 G2 #[.slice a1 a2 a3, .slice b1 b2 b3] 35) := HQB6.out.later hb; have HW7 : Hid (Below w.heap.size w w7) := below_step HW6.out hb; clear hb HL6 HP6 HQB6 HW6 HQ6 c0 c1 e0 e1)
 obtain ⟨c0, c1⟩ := ctwo HP7.out
 go_upto_region 10 with (first
  | (go_at_call 12; refine (ll_set HL7.out).mono ?_; rintro e w8 ⟨v8, K, rfl, hk, hkl, hn, hb⟩; have HK : Hid (SetK K R') := hk; have HKL : Hid (K.length <= 4000000 /\ (sBy K).length <= 400000000000) := hkl; have HN8 : Hid (Br w8 v8 (sBy K)) := hn; have HL8 : Hid (LL B1 w8 (.slice r1 r2 r3) (.slice s1 s2 s3) R' S') := HL7.out.later hb; have HP8 : Hid (CBlk w8 G #[.slice r1 r2 r3, .slice s1 s2 s3] 35) := HP7.out.later hb; have HQB8 : Hid (CBlk w8 G2 #[.slice a1 a2 a3, .slice b1 b2 b3] 35) := HQB7.out.later hb; have HW8 : Hid (Below w.heap.size w w8) := below_step HW7.out hb; clear hk hkl hn hb HL7 HP7 HQB7 HW7 c0 c1)
  | (go_at_call 19; refine (HLB.out _ _ _ HN8.out HKL.out.2).mono ?_; rintro e w9 ⟨u9, rfl, hu, hb⟩; have HU9 : Hid (Bh w9 u9 (sBy K)) := hu; have HL9 : Hid (LL B1 w9 (.slice r1 r2 r3) (.slice s1 s2 s3) R' S') := HL8.out.later hb; have HP9 : Hid (CBlk w9 G #[.slice r1 r2 r3, .slice s1 s2 s3] 35) := HP8.out.later hb; have HQB9 : Hid (CBlk w9 G2 #[.slice a1 a2 a3, .slice b1 b2 b3] 35) := HQB8.out.later hb; have HW9 : Hid (Below w.heap.size w w9) := below_step HW8.out hb; clear hu hb HL8 HP8 HQB8 HW8 HN8)
  | (go_at_call 22; refine (ll_rset HL9.out HK.out HKL.out _ _ HU9.out).mono ?_; rintro e w10 ⟨l1, l2, l3, L, rfl, hL, hc, hb⟩; have HLK : Hid (L.map Cm.key = K) := hL; have HC10 : Hid (CsP w10 (.slice l1 l2 l3) L) := hc; have HL10 : Hid (LL B1 w10 (.slice r1 r2 r3) (.slice s1 s2 s3) R' S') := HL9.out.later hb; have HP10 : Hid (CBlk w10 G #[.slice r1 r2 r3, .slice s1 s2 s3] 35) := HP9.out.later hb; have HQB10 : Hid (CBlk w10 G2 #[.slice a1 a2 a3, .slice b1 b2 b3] 35) := HQB9.out.later hb; have HW10 : Hid (Below w.heap.size w w10) := below_step HW9.out hb; clear hL hc hb HL9 HP9 HQB9 HW9 HU9))
 obtain ⟨c0, c1⟩ := ctwo HP10.out
 go_upto_region 12 with (first
  | (go_at_call 24; refine (ll_ref HL10.out).mono ?_; rintro e w11 ⟨o1, o2, o3, o, rfl, hc, hk, hb⟩; have HO11 : Hid (CsP w11 (.slice o1 o2 o3) o) := hc; have HOK : Hid (SetK (o.map Cm.key) R') := hk; have HC11 : Hid (CsP w11 (.slice l1 l2 l3) L) := HC10.out.later hb; have HQB11 : Hid (CBlk w11 G2 #[.slice a1 a2 a3, .slice b1 b2 b3] 35) := HQB10.out.later hb; have HW11 : Hid (Below w.heap.size w w11) := below_step HW10.out hb; clear hc hk hb HC10 HL10 HP10 HQB10 HW10 c0 c1)
  | (go_at_call 23; refine (ll_sameCs HC11.out HO11.out HLK.out HK.out HOK.out HKL.out.1).mono ?_; rintro e w12 ⟨rfl, hb⟩; have HQ12 : Hid (CBlk w12 G2 #[.slice a1 a2 a3, .slice b1 b2 b3] 35) := HQB11.out.later hb; have HW12 : Hid (Below w.heap.size w w12) := below_step HW11.out hb; clear hb HC11 HO11 HLK HK HOK HKL HQB11 HW11))
 rcases hpr : rWhole rProof B with k1 | X1
 ·have hne : (k1 == 0) = false := by simpa using nz_whole nz_proof9 hpr
  have HBR : Hid (∀ (X : World) (u : Value), Bh X u B -> Calls Tryz.prog 20 #[u] X fun e w' => ∃ a1 a2 a3 b1 b2 b3, e = .returned (.tuple #[.agg #[.slice a1 a2 a3, .slice b1 b2 b3], .int .i64 k1]) /\ Below X.heap.size X w') := fun X u hu => gb_no hpr u X hu
  clear hpr
  go_upto_region 13 with (first
   | (go_at_call 19; refine (HLB.out _ _ B (HV.out.later HW12.out) HLBB.out).mono ?_; rintro e w13 ⟨u13, rfl, hu, hb⟩; have HU13 : Hid (Bh w13 u13 B) := hu; have HQ13 : Hid (CBlk w13 G2 #[.slice a1 a2 a3, .slice b1 b2 b3] 35) := HQ12.out.later hb; have HLT : Hid (G2 < w13.heap.size) := HQ13.out.lt; have HW13 : Hid (Below w.heap.size w w13) := below_step HW12.out hb; clear hu hb)
   | (go_at_call 20; refine (HBR.out _ _ HU13.out).mono ?_; rintro e w14 ⟨g1, g2, g3, h1, h2, h3, rfl, hb⟩; have HQ14 : Hid (CBlk w14 G2 #[.slice a1 a2 a3, .slice b1 b2 b3] 35) := HQ13.out.later hb; have HW14 : Hid (Below w.heap.size w w14) := below_step HW13.out hb; obtain ⟨c0, c1⟩ := ctwo HQ14.out; have f0 : w14.frozen? ⟨G2, 0, none⟩ = false := HQ14.out.froz; have f1 : w14.frozen? ⟨G2, 1, none⟩ = false := HQ14.out.froz; clear hb))
  clear c0 c1 f0 f1
  have HQ15 : Hid (CBlk ((w14.setCell ⟨G2, 0, none⟩ (.slice g1 g2 g3)).setCell ⟨G2, 1, none⟩ (.slice h1 h2 h3)) G2 #[.slice g1 g2 g3, .slice h1 h2 h3] 35) := HQ14.out.put2g _ _
  have HW15 : Hid (Below w.heap.size w ((w14.setCell ⟨G2, 0, none⟩ (.slice g1 g2 g3)).setCell ⟨G2, 1, none⟩ (.slice h1 h2 h3))) := (HW14.out.setCell HG2.out _).setCell HG2.out _
  clear HU13 HQ13 HLT HW13 HQ14 HW14 HQ12 HW12
  revert HQ15 HW15
  generalize ((w14.setCell ⟨G2, 0, none⟩ (.slice g1 g2 g3)).setCell ⟨G2, 1, none⟩ (.slice h1 h2 h3)) = X15
  intro HQ15 HW15
  go_upto_region 17 with fail
  clear hne
  rcases hse : rWhole rSet B with k2 | K2
  ·have hne2 : (k2 == 0) = false := by simpa using nz_whole nz_set9 hse
   have HRS : Hid (∀ (X : World) (u : Value), Bh X u B -> Calls Tryz.prog 22 #[u] X fun e w' => ∃ a c, e = .returned (.tuple #[.slice a 0 c, .int .i64 k2]) /\ Below X.heap.size X w') := fun X u hu => gs_no hse u X hu
   clear hse
   go_wp2_with (first
    | (go_at_call 19; refine (HLB.out _ _ B (HV.out.later HW15.out) HLBB.out).mono ?_; rintro e w20 ⟨u20, rfl, hu, hb⟩; have HU20 : Hid (Bh w20 u20 B) := hu; have HW20 : Hid (Below w.heap.size w w20) := below_step HW15.out hb; clear hu hb)
    | (go_at_call 22; refine (HRS.out _ _ HU20.out).mono ?_; rintro e w21 ⟨t1, t3, rfl, hb⟩; have HW21 : Hid (Below w.heap.size w w21) := below_step HW20.out hb; clear hb))
   go_ret
   exact ⟨rfl, HW21.out⟩
  ·have HRS : Hid (∀ (X : World) (u : Value), Bh X u B -> Calls Tryz.prog 22 #[u] X fun e w' => ∃ a n c, e = .returned (.tuple #[.slice a n c, .int .i64 0]) /\ SR8 X.heap.size w' K2 (.slice a n c) /\ Below X.heap.size X w') := fun X u hu => gs_ok hse u X hu
   have HSW : Hid (∀ (b : Nat) (X : World) (q : Value), SR8 b X K2 q -> Calls Tryz.prog 12 #[q] X fun e w' => ∃ v', e = .returned (.tuple #[v', .int .i64 0]) /\ Bn w' v' B /\ Below X.heap.size X w') := fun b X q hq => gs_write HV.out.1 hlB hse q X hq
   clear hse
   go_upto_region 20 with (first
    | (go_at_call 19; refine (HLB.out _ _ B (HV.out.later HW15.out) HLBB.out).mono ?_; rintro e w20 ⟨u20, rfl, hu, hb⟩; have HU20 : Hid (Bh w20 u20 B) := hu; have HW20 : Hid (Below w.heap.size w w20) := below_step HW15.out hb; clear hu hb)
    | (go_at_call 22; refine (HRS.out _ _ HU20.out).mono ?_; rintro e w21 ⟨t1, t2, t3, rfl, hsr, hb⟩; have HSR : Hid (SR8 w20.heap.size w21 K2 (.slice t1 t2 t3)) := hsr; have HW21 : Hid (Below w.heap.size w w21) := below_step HW20.out hb; clear hsr hb)
    | (go_at_call 12; refine (HSW.out _ _ _ HSR.out).mono ?_; rintro e w22 ⟨v22, rfl, hn, hb⟩; obtain ⟨y1, y2, y3, rfl⟩ := hn.form9; have HW22 : Hid (Below w.heap.size w w22) := below_step HW21.out hb; have hcx := conv_bn hn HV.out.1; have hcb := conv_bn (HV.out.later HW22.out).bn HV.out.1; clear hn hb))
   generalize ofL B = SS at *
   go_wp2
   go_ret
   exact ⟨rfl, HW22.out⟩
 ·have HBR : Hid (∀ (X : World) (u : Value), Bh X u B -> Calls Tryz.prog 20 #[u] X fun e w' => ∃ a1 a2 a3 b1 b2 b3, e = .returned (.tuple #[.agg #[.slice a1 a2 a3, .slice b1 b2 b3], .int .i64 0]) /\ PR8 X.heap.size w' X1 (.agg #[.slice a1 a2 a3, .slice b1 b2 b3]) /\ Below X.heap.size X w') := fun X u hu => gb_ok hpr u X hu
  have HPW : Hid (∀ (b : Nat) (X : World) (q : Value), PR8 b X X1 q -> Calls Tryz.prog 17 #[q] X fun e w' => ∃ v', e = .returned (.tuple #[v', .int .i64 0]) /\ Bn w' v' B /\ Below X.heap.size X w') := fun b X q hq => gb_write HV.out.1 hlB hpr q X hq
  clear hpr
  go_upto_region 13 with (first
   | (go_at_call 19; refine (HLB.out _ _ B (HV.out.later HW12.out) HLBB.out).mono ?_; rintro e w13 ⟨u13, rfl, hu, hb⟩; have HU13 : Hid (Bh w13 u13 B) := hu; have HQ13 : Hid (CBlk w13 G2 #[.slice a1 a2 a3, .slice b1 b2 b3] 35) := HQ12.out.later hb; have HLT : Hid (G2 < w13.heap.size) := HQ13.out.lt; have HW13 : Hid (Below w.heap.size w w13) := below_step HW12.out hb; clear hu hb)
   | (go_at_call 20; refine (HBR.out _ _ HU13.out).mono ?_; rintro e w14 ⟨g1, g2, g3, h1, h2, h3, rfl, hpr, hb⟩; have HPR : Hid (PR8 w13.heap.size w14 X1 (.agg #[.slice g1 g2 g3, .slice h1 h2 h3])) := hpr; have HQ14 : Hid (CBlk w14 G2 #[.slice a1 a2 a3, .slice b1 b2 b3] 35) := HQ13.out.later hb; have HW14 : Hid (Below w.heap.size w w14) := below_step HW13.out hb; obtain ⟨c0, c1⟩ := ctwo HQ14.out; have f0 : w14.frozen? ⟨G2, 0, none⟩ = false := HQ14.out.froz; have f1 : w14.frozen? ⟨G2, 1, none⟩ = false := HQ14.out.froz; clear hpr hb))
  clear c0 c1 f0 f1
  have HQ15 : Hid (CBlk ((w14.setCell ⟨G2, 0, none⟩ (.slice g1 g2 g3)).setCell ⟨G2, 1, none⟩ (.slice h1 h2 h3)) G2 #[.slice g1 g2 g3, .slice h1 h2 h3] 35) := HQ14.out.put2g _ _
  have HW15 : Hid (Below w.heap.size w ((w14.setCell ⟨G2, 0, none⟩ (.slice g1 g2 g3)).setCell ⟨G2, 1, none⟩ (.slice h1 h2 h3))) := (HW14.out.setCell HG2.out _).setCell HG2.out _
  have HP15 : Hid (PR8 w13.heap.size ((w14.setCell ⟨G2, 0, none⟩ (.slice g1 g2 g3)).setCell ⟨G2, 1, none⟩ (.slice h1 h2 h3)) X1 (.agg #[.slice g1 g2 g3, .slice h1 h2 h3])) := HPR.out.hi (((Hi.refl _ _).set HLT.out).set HLT.out)
  clear HU13 HQ13 HLT HW13 HQ14 HW14 HQ12 HW12 HPR
  revert HQ15 HW15 HP15
  generalize ((w14.setCell ⟨G2, 0, none⟩ (.slice g1 g2 g3)).setCell ⟨G2, 1, none⟩ (.slice h1 h2 h3)) = X15
  generalize w13.heap.size = G3
  intro HQ15 HW15 HP15
  obtain ⟨c0, c1⟩ := ctwo HQ15.out
  go_upto_region 15 with (go_at_call 17; refine (HPW.out _ _ _ HP15.out).mono ?_; rintro e w16 ⟨v16, rfl, hn, hb⟩; obtain ⟨y1, y2, y3, rfl⟩ := hn.form9; have HW16 : Hid (Below w.heap.size w w16) := below_step HW15.out hb; have hcx := conv_bn hn HV.out.1; have hcb := conv_bn (HV.out.later HW16.out).bn HV.out.1; clear hn hb c0 c1)
  obtain ⟨SS, hSS⟩ : ∃ s, ofL B = s := ⟨_, rfl⟩
  rw [hSS] at hcx hcb
  go_upto_region 17 with fail
  clear hcx hcb hSS HP15 HQ15 HPW HBR
  rcases hse : rWhole rSet B with k2 | K2
  ·have hne2 : (k2 == 0) = false := by simpa using nz_whole nz_set9 hse
   have HRS : Hid (∀ (X : World) (u : Value), Bh X u B -> Calls Tryz.prog 22 #[u] X fun e w' => ∃ a c, e = .returned (.tuple #[.slice a 0 c, .int .i64 k2]) /\ Below X.heap.size X w') := fun X u hu => gs_no hse u X hu
   clear hse
   go_wp2_with (first
    | (go_at_call 19; refine (HLB.out _ _ B (HV.out.later HW16.out) HLBB.out).mono ?_; rintro e w20 ⟨u20, rfl, hu, hb⟩; have HU20 : Hid (Bh w20 u20 B) := hu; have HW20 : Hid (Below w.heap.size w w20) := below_step HW16.out hb; clear hu hb)
    | (go_at_call 22; refine (HRS.out _ _ HU20.out).mono ?_; rintro e w21 ⟨t1, t3, rfl, hb⟩; have HW21 : Hid (Below w.heap.size w w21) := below_step HW20.out hb; clear hb))
   go_ret
   exact ⟨rfl, HW21.out⟩
  ·have HRS : Hid (∀ (X : World) (u : Value), Bh X u B -> Calls Tryz.prog 22 #[u] X fun e w' => ∃ a n c, e = .returned (.tuple #[.slice a n c, .int .i64 0]) /\ SR8 X.heap.size w' K2 (.slice a n c) /\ Below X.heap.size X w') := fun X u hu => gs_ok hse u X hu
   have HSW : Hid (∀ (b : Nat) (X : World) (q : Value), SR8 b X K2 q -> Calls Tryz.prog 12 #[q] X fun e w' => ∃ v', e = .returned (.tuple #[v', .int .i64 0]) /\ Bn w' v' B /\ Below X.heap.size X w') := fun b X q hq => gs_write HV.out.1 hlB hse q X hq
   clear hse
   go_upto_region 20 with (first
    | (go_at_call 19; refine (HLB.out _ _ B (HV.out.later HW16.out) HLBB.out).mono ?_; rintro e w20 ⟨u20, rfl, hu, hb⟩; have HU20 : Hid (Bh w20 u20 B) := hu; have HW20 : Hid (Below w.heap.size w w20) := below_step HW16.out hb; clear hu hb)
    | (go_at_call 22; refine (HRS.out _ _ HU20.out).mono ?_; rintro e w21 ⟨t1, t2, t3, rfl, hsr, hb⟩; have HSR : Hid (SR8 w20.heap.size w21 K2 (.slice t1 t2 t3)) := hsr; have HW21 : Hid (Below w.heap.size w w21) := below_step HW20.out hb; clear hsr hb)
    | (go_at_call 12; refine (HSW.out _ _ _ HSR.out).mono ?_; rintro e w22 ⟨v22, rfl, hn, hb⟩; obtain ⟨y1, y2, y3, rfl⟩ := hn.form9; have HW22 : Hid (Below w.heap.size w w22) := below_step HW21.out hb; have hcx := conv_bn hn HV.out.1; have hcb := conv_bn (HV.out.later HW22.out).bn HV.out.1; clear hn hb))
   generalize ofL B = SS at *
   go_wp2
   go_ret
   exact ⟨rfl, HW22.out⟩
end Go.Proofs.YtelcoihmiglceaaGreat
