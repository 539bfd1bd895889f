import Derived.Test.YtelcoihmiglceaaGreatCT3
import Derived.Deep.RegionHeld3
namespace Go.Proofs.YtelcoihmiglceaaGreat
open Go.RowKit
attribute [local go_sem ↓] Go.wp_at_zero Go.wp_at_succ

theorem kb_later {X X' : World} {k : Int} {a : Option Addr} {n c : Nat} {L : List Int} (h : n = L.length /\ Ends k L /\ Br X (.slice a n c) L) (hb : Below X.heap.size X X') : n = L.length /\ Ends k L /\ Br X' (.slice a n c) L := ⟨h.1, h.2.1, h.2.2.later hb⟩
set_option maxRecDepth 20000 in
set_option maxHeartbeats 3000000 in
theorem codecEnds_any (R : List Cm) (S : List St) (rv sv : Value) (g : At) (gv v : Value) (B : List Int) (w : World) (hR : CsP w rv R) (hS : SsP w sv S) (hg : Ts w gv g.args) (hb : Br w v B) (hlR : R.length <= 2000000) (hwS : wk (S.map St.key) <= 2000000) (hlB : B.length <= 2000000) (hrR : ∀ c ∈ R, Rng c.key) (hrS : ∀ s ∈ S, Rs s.key) (hrg : ∀ t ∈ g.pl, rng t) :
  Calls Tryz.prog 4 #[.agg #[rv, sv], g.v gv, v] w fun e w' => e = .returned (.bool true) /\ Below w.heap.size w w' := by
 have hlS : S.length <= 2000000 := by have := wk_len (S.map St.key); rw [List.length_map] at this; omega
 have hmS : ∀ s ∈ S, s.vals.length <= 2000000 /\ s.uses.length <= 2000000 := fun s hs => by
  have := wk_mem (List.mem_map_of_mem (f := St.key) hs)
  have e1 : (St.key s).2.1 = s.vals := rfl
  have e2 : (St.key s).2.2 = s.uses := rfl
  rw [e1, e2] at this; omega
 obtain ⟨av, acap, rfl⟩ : ∃ a cap, v = .slice a B.length cap := by obtain ⟨-, a, cap, e, -⟩ := hb; exact ⟨a, cap, e⟩
 have HBY : Hid (∀ X : World, Below w.heap.size w X -> Calls Tryz.prog 6 #[.slice none 0 0, .agg #[rv, sv], .slice av B.length acap] X fun e w' => YesNo e /\ Below X.heap.size X w') := fun X hX => beyond_any [] R S _ rv sv av B.length acap X ⟨Or.inl ⟨rfl, rfl⟩, fun c hc => by simp at hc⟩ (hR.later hX) (hS.later hX) (by simp) (by omega) (by omega)
 have HMP : Hid (∀ X : World, Below w.heap.size w X -> Calls Tryz.prog 14 #[.agg #[rv, sv]] X fun e w' => ∃ r1 r2 r3 s1 s2 s3 R' S', e = .returned (.agg #[.slice r1 r2 r3, .slice s1 s2 s3]) /\ LL X.heap.size w' (.slice r1 r2 r3) (.slice s1 s2 s3) R' S' /\ Below X.heap.size X w') := fun X hX => (madeProof_any R S rv sv X (hR.later hX) (hS.later hX) (by omega) (by omega) (fun s hs => by have := hmS s hs; omega) (fun s hs => ⟨(hrS s hs).n.1, fun n hn => ((hrS s hs).u n hn).1⟩)).mono fun e w' h => ll_made h hlR hwS hrR hrS
 have HV : Hid (Br w (.slice av B.length acap) B) := hb
 have HLB : Hid (∀ (X : World) (u : Value) (l : List Int), Br X u l -> l.length <= 400000000000 -> Calls Tryz.prog 19 #[u] X fun e w' => ∃ u', e = .returned u' /\ Bh w' u' l /\ Below X.heap.size X w') := fun X u l hu hl => ll_lend u l X hu hl
 have HLT : Hid (∀ (X : World) (u : Value) (l : List Int), Br X u l -> l.length <= 400000000000 -> Calls Tryz.prog 19 #[u] X fun e w' => ∃ u', e = .returned u' /\ LentB w' X.heap.size u' l /\ Below X.heap.size X w') := fun X u l hu hl => lendB_any u l X hu hl
 have HBL : Hid (B.length <= 2000000) := hlB
 have HMD : Hid (∀ (X : World) (b : Nat), Below w.heap.size w X -> CBlk X b #[.int .i64 g.by_.k, .int .i64 g.by_.n, .string g.by_.s, .string g.name, gv] 26 -> Calls Tryz.prog 7 #[.agg #[.int .i64 g.by_.k, .int .i64 g.by_.n, .string g.by_.s, .string g.name, gv, .slice (some ⟨b, 0, none⟩) 1 1, .slice none 0 0]] X fun e w' => ∃ d : Cm, e = .returned d.v /\ d.key = madeK (gCk g) /\ d.ok w' /\ Below X.heap.size X w') := fun X b hX hk => ew_made hk (hg.later hX)
 have HMA : Hid (∀ X : World, Below w.heap.size w X -> Calls Tryz.prog 16 #[g.v gv] X fun e w' => ∃ v', e = .returned ((mkA g).v v') /\ Ts w' v' (mkA g).args /\ Below X.heap.size X w') := fun X hX => (madeAtom_any _ _ X (hg.later hX)).mono (by rintro e w' ⟨v', rfl, ho, hb⟩; exact ⟨v', rfl, ho.tsP.ts (by have := (fit_of (mkA_err nmP_ok g)).len; omega), hb⟩)
 have HAW : Hid (∀ (X : World) (y : Value), Ts X y (mkA g).args -> Calls Tryz.prog 15 #[(mkA g).v y] X (Wrt 0 X)) := fun X y hy => ew_atom hrg hy
 have HCW : Hid (∀ (X : World) (d : Cm), d.key = madeK (gCk g) -> d.ok X -> Calls Tryz.prog 8 #[d.v] X (Wrt 1 X)) := fun X d hk ho => ew_clause (gCk_rng hrg) hk ho
 generalize madeK (gCk g) = KM at HMD HCW
 generalize mkA g = A at HMA HAW
 obtain ⟨ra, rc, rfl⟩ := hR.form
 obtain ⟨sa, sc, rfl⟩ := hS.form
 obtain ⟨g1, g2, g3, rfl⟩ : ∃ a n c, gv = .slice a n c := by obtain ⟨a, c, e, -⟩ := hg; exact ⟨_, _, _, e⟩
 obtain ⟨⟨gk, gn, gs⟩, gm, ga⟩ := g
 simp only at HMD HMA
 have HP0 : Hid (CBlk ((w.alloc (.cells #[.slice ra R.length rc, .slice sa S.length sc] 35)).alloc (.cells #[.int .i64 gk, .int .i64 gn, .string gs, .string gm, .slice g1 g2 g3] 26)) w.heap.size #[.slice ra R.length rc, .slice sa S.length sc] 35) := (CBlk.new _ _ _).later (below1 _ _)
 have HG0 : Hid (CBlk ((w.alloc (.cells #[.slice ra R.length rc, .slice sa S.length sc] 35)).alloc (.cells #[.int .i64 gk, .int .i64 gn, .string gs, .string gm, .slice g1 g2 g3] 26)) (w.heap.size + 1) #[.int .i64 gk, .int .i64 gn, .string gs, .string gm, .slice g1 g2 g3] 26) := by
  have := CBlk.new (w.alloc (.cells #[.slice ra R.length rc, .slice sa S.length sc] 35)) #[.int .i64 gk, .int .i64 gn, .string gs, .string gm, .slice g1 g2 g3] 26
  rwa [show (w.alloc (.cells #[.slice ra R.length rc, .slice sa S.length sc] 35)).heap.size = w.heap.size + 1 by simp] at this
 clear hR hS hrR hrS hmS hwS hb hg hrg
 go_enter Tryz.func4, Tryz.ntmps4
 obtain ⟨p0, p1⟩ := ctwo HP0.out
 go_upto_if 22 with (go_at_call 6; refine (HBY.out _ (below2 _ _ _)).mono ?_; clear HBY; rintro e w1 ⟨⟨bb, rfl⟩, hb⟩; have HP1 : Hid (CBlk w1 w.heap.size _ 35) := HP0.out.later hb; have HG1 : Hid (CBlk w1 (w.heap.size + 1) #[.int .i64 gk, .int .i64 gn, .string gs, .string gm, .slice g1 g2 g3] 26) := HG0.out.later hb; have HW1 : Hid (Below w.heap.size w w1) := below_step (below2 _ _ _) hb; clear hb p0 p1)
 clear HP0 HG0
 cases bb
 case true =>
  go_wp2
  go_ret
  exact ⟨rfl, HW1.out⟩
 obtain ⟨p0, p1⟩ := ctwo HP1.out
 obtain ⟨mR, hmR⟩ : ∃ m, m = R.length := ⟨_, rfl⟩
 obtain ⟨mS, hmS⟩ : ∃ m, m = S.length := ⟨_, rfl⟩
 rw [<- hmR] at p0
 rw [<- hmS] at p1
 rw [<- hmR, <- hmS] at HMP
 clear hmR hmS
 go_upto_region 4 with (go_at_call 14; refine (HMP.out _ HW1.out).mono ?_; clear HMP; rintro e w2 ⟨r1, r2, r3, s1, s2, s3, R', S', rfl, hll, hb⟩; have HL3 : Hid (LL w1.heap.size (w2.alloc (.cells #[.slice r1 r2 r3, .slice s1 s2 s3] 35)) (.slice r1 r2 r3) (.slice s1 s2 s3) R' S') := hll.later (below1 _ _); have HP3 : Hid (CBlk (w2.alloc (.cells #[.slice r1 r2 r3, .slice s1 s2 s3] 35)) w2.heap.size #[.slice r1 r2 r3, .slice s1 s2 s3] 35) := CBlk.new _ _ _; have HG3 : Hid (CBlk (w2.alloc (.cells #[.slice r1 r2 r3, .slice s1 s2 s3] 35)) (w.heap.size + 1) #[.int .i64 gk, .int .i64 gn, .string gs, .string gm, .slice g1 g2 g3] 26) := (HG1.out.later hb).later (below1 _ _); have HW3 : Hid (Below w.heap.size w (w2.alloc (.cells #[.slice r1 r2 r3, .slice s1 s2 s3] 35))) := below_step (below_step HW1.out hb) (below1 _ _); clear hll hb p0 p1)
 clear HP1 HG1
 revert HL3 HP3 HG3 HW3
 generalize (w2.alloc (.cells #[.slice r1 r2 r3, .slice s1 s2 s3] 35)) = X3
 generalize w2.heap.size = G
 generalize w1.heap.size = B1
 intro HL3 HP3 HG3 HW3
 obtain ⟨c0, c1, c2, c3, c4⟩ := five HG3.out
 have HX3 : Hid (Below X3.heap.size X3 (X3.alloc (.cells #[.int .i64 gk, .int .i64 gn, .string gs, .string gm, .slice g1 g2 g3] 26))) := below1 _ _
 have HK3 : Hid (CBlk (X3.alloc (.cells #[.int .i64 gk, .int .i64 gn, .string gs, .string gm, .slice g1 g2 g3] 26)) X3.heap.size #[.int .i64 gk, .int .i64 gn, .string gs, .string gm, .slice g1 g2 g3] 26) := CBlk.new _ _ _
 go_upto_region 5 with (go_at_call 7; refine (HMD.out _ _ (below_step HW3.out HX3.out) HK3.out).mono ?_; clear HMD; rintro e w4 ⟨dd, rfl, hdk, hdo, hb⟩; obtain ⟨⟨d1, d2, d3, tz1⟩, ⟨d4, d6, tz2⟩, ⟨d7, d9, tz3⟩, -, -⟩ := (hdo).shape; obtain ⟨d5, tz4⟩ : ∃ n, n = dd.body.length := ⟨_, rfl⟩; obtain ⟨d8, tz5⟩ : ∃ n, n = dd.tests.length := ⟨_, rfl⟩; rw [<- tz4] at tz2; rw [<- tz5] at tz3; obtain ⟨⟨⟨⟨dk, dn, ds⟩, dm, da⟩, dv⟩, db, dbv, dt, dtv⟩ := dd; simp only at tz1 tz2 tz3; subst tz1 tz2 tz3; clear tz4 tz5; have HDK : Hid (Cm.key (⟨(⟨⟨dk, dn, ds⟩, dm, da⟩, .slice d1 d2 d3), db, .slice d4 d5 d6, dt, .slice d7 d8 d9⟩ : Cm) = KM) := hdk; have HD4 : Hid (Bx (w4.alloc (.cells #[.int .i64 dk, .int .i64 dn, .string ds, .string dm, .slice d1 d2 d3, .slice d4 d5 d6, .slice d7 d8 d9] 30)) w4.heap.size (⟨(⟨⟨dk, dn, ds⟩, dm, da⟩, .slice d1 d2 d3), db, .slice d4 d5 d6, dt, .slice d7 d8 d9⟩ : Cm)) := Bx.new hdo; have HL4 : Hid (LL B1 (w4.alloc (.cells #[.int .i64 dk, .int .i64 dn, .string ds, .string dm, .slice d1 d2 d3, .slice d4 d5 d6, .slice d7 d8 d9] 30)) (.slice r1 r2 r3) (.slice s1 s2 s3) R' S') := ((HL3.out.later HX3.out).later hb).later (below1 _ _); have HP4 : Hid (CBlk (w4.alloc (.cells #[.int .i64 dk, .int .i64 dn, .string ds, .string dm, .slice d1 d2 d3, .slice d4 d5 d6, .slice d7 d8 d9] 30)) G #[.slice r1 r2 r3, .slice s1 s2 s3] 35) := ((HP3.out.later HX3.out).later hb).later (below1 _ _); have HG4 : Hid (CBlk (w4.alloc (.cells #[.int .i64 dk, .int .i64 dn, .string ds, .string dm, .slice d1 d2 d3, .slice d4 d5 d6, .slice d7 d8 d9] 30)) (w.heap.size + 1) #[.int .i64 gk, .int .i64 gn, .string gs, .string gm, .slice g1 g2 g3] 26) := ((HG3.out.later HX3.out).later hb).later (below1 _ _); have HW4 : Hid (Below w.heap.size w (w4.alloc (.cells #[.int .i64 dk, .int .i64 dn, .string ds, .string dm, .slice d1 d2 d3, .slice d4 d5 d6, .slice d7 d8 d9] 30))) := below_step (below_step (below_step HW3.out HX3.out) hb) (below1 _ _); clear hb hdo hdk c0 c1 c2 c3 c4)
 clear HL3 HP3 HG3 HW3 HX3 HK3
 revert HD4 HL4 HP4 HG4 HW4
 generalize (w4.alloc (.cells #[.int .i64 dk, .int .i64 dn, .string ds, .string dm, .slice d1 d2 d3, .slice d4 d5 d6, .slice d7 d8 d9] 30)) = X4
 generalize w4.heap.size = G4
 intro HD4 HL4 HP4 HG4 HW4
 obtain ⟨c0, c1, c2, c3, c4⟩ := five HG4.out
 obtain ⟨⟨jk, jn, js⟩, jm, ja⟩ := A
 simp only at HMA HAW
 go_upto_region 6 with (first
  | (go_at_call 16; refine (HMA.out _ HW4.out).mono ?_; clear HMA; rintro e w5 ⟨v5, rfl, ht, hb⟩; obtain ⟨j1, j2, j3, rfl⟩ : ∃ a n c, v5 = .slice a n c := (by obtain ⟨a, c, e, -⟩ := ht; exact ⟨_, _, _, e⟩); have HT5 : Hid (Ts w5 (.slice j1 j2 j3) ja) := ht; have HD5 : Hid (Bx w5 G4 (⟨(⟨⟨dk, dn, ds⟩, dm, da⟩, .slice d1 d2 d3), db, .slice d4 d5 d6, dt, .slice d7 d8 d9⟩ : Cm)) := HD4.out.later hb; have HL5 : Hid (LL B1 w5 (.slice r1 r2 r3) (.slice s1 s2 s3) R' S') := HL4.out.later hb; have HP5 : Hid (CBlk w5 G #[.slice r1 r2 r3, .slice s1 s2 s3] 35) := HP4.out.later hb; have HW5 : Hid (Below w.heap.size w w5) := below_step HW4.out hb; clear hb ht c0 c1 c2 c3 c4 HD4 HL4 HP4 HG4 HW4)
  | (go_at_call 15; refine (HAW.out _ _ HT5.out).mono ?_; clear HAW; rintro e w6 ⟨x0, m0, y0, L0, rfl, hn, he, hbr, hb⟩; have HB0 : Hid (m0 = L0.length /\ Ends 0 L0 /\ Br w6 (.slice x0 m0 y0) L0) := ⟨hn, he, hbr⟩; have HD6 : Hid (Bx w6 G4 (⟨(⟨⟨dk, dn, ds⟩, dm, da⟩, .slice d1 d2 d3), db, .slice d4 d5 d6, dt, .slice d7 d8 d9⟩ : Cm)) := HD5.out.later hb; have HL6 : Hid (LL B1 w6 (.slice r1 r2 r3) (.slice s1 s2 s3) R' S') := HL5.out.later hb; have HP6 : Hid (CBlk w6 G #[.slice r1 r2 r3, .slice s1 s2 s3] 35) := HP5.out.later hb; have HW6 : Hid (Below w.heap.size w w6) := below_step HW5.out hb; clear hn he hbr hb HD5 HL5 HP5 HW5 HT5))
 obtain ⟨c0, c1, c2, c3, c4, c5, c6⟩ := cseven HD6.out.b
 go_upto_region 7 with (go_at_call 8; refine (HCW.out _ (⟨(⟨⟨dk, dn, ds⟩, dm, da⟩, .slice d1 d2 d3), db, .slice d4 d5 d6, dt, .slice d7 d8 d9⟩ : Cm) HDK.out HD6.out.o).mono ?_; clear HCW; rintro e w7 ⟨x1, m1, y1, L1, rfl, hn, he, hbr, hb⟩; have HB1 : Hid (m1 = L1.length /\ Ends 1 L1 /\ Br w7 (.slice x1 m1 y1) L1) := ⟨hn, he, hbr⟩; have HB0 : Hid (m0 = L0.length /\ Ends 0 L0 /\ Br w7 (.slice x0 m0 y0) L0) := kb_later HB0.out hb; have HL7 : Hid (LL B1 w7 (.slice r1 r2 r3) (.slice s1 s2 s3) R' S') := HL6.out.later hb; have HP7 : Hid (CBlk w7 G #[.slice r1 r2 r3, .slice s1 s2 s3] 35) := HP6.out.later hb; have HW7 : Hid (Below w.heap.size w w7) := below_step HW6.out hb; clear hn he hbr hb HD6 HL6 HP6 HW6 c0 c1 c2 c3 c4 c5 c6)
 obtain ⟨c0, c1⟩ := ctwo HP7.out
 go_upto_region 8 with (go_at_call 12; refine (ew_set HL7.out).mono ?_; rintro e w8 ⟨x2, m2, y2, L2, rfl, hn, he, hbr, hb⟩; have HB2 : Hid (m2 = L2.length /\ Ends 2 L2 /\ Br w8 (.slice x2 m2 y2) L2) := ⟨hn, he, hbr⟩; have HB0 : Hid (m0 = L0.length /\ Ends 0 L0 /\ Br w8 (.slice x0 m0 y0) L0) := kb_later HB0.out hb; have HB1 : Hid (m1 = L1.length /\ Ends 1 L1 /\ Br w8 (.slice x1 m1 y1) L1) := kb_later HB1.out hb; have HL8 : Hid (LL B1 w8 (.slice r1 r2 r3) (.slice s1 s2 s3) R' S') := HL7.out.later hb; have HP8 : Hid (CBlk w8 G #[.slice r1 r2 r3, .slice s1 s2 s3] 35) := HP7.out.later hb; have HW8 : Hid (Below w.heap.size w w8) := below_step HW7.out hb; clear hn he hbr hb HL7 HP7 HW7 c0 c1)
 obtain ⟨c0, c1⟩ := ctwo HP8.out
 go_upto_region 9 with (go_at_call 17; refine (ew_proof HL8.out).mono ?_; rintro e w9 ⟨x3, m3, y3, L3, rfl, hn, he, hbr, hb⟩; have HB3 : Hid (m3 = L3.length /\ Ends 3 L3 /\ Br w9 (.slice x3 m3 y3) L3) := ⟨hn, he, hbr⟩; have HB0 : Hid (m0 = L0.length /\ Ends 0 L0 /\ Br w9 (.slice x0 m0 y0) L0) := kb_later HB0.out hb; have HB1 : Hid (m1 = L1.length /\ Ends 1 L1 /\ Br w9 (.slice x1 m1 y1) L1) := kb_later HB1.out hb; have HB2 : Hid (m2 = L2.length /\ Ends 2 L2 /\ Br w9 (.slice x2 m2 y2) L2) := kb_later HB2.out hb; have HW9 : Hid (Below w.heap.size w w9) := below_step HW8.out hb; clear hn he hbr hb HL8 HP8 HW8 c0 c1)
 clear HDK
 have HE : Hid (Ex4 (w9.alloc (.cells #[.slice x0 m0 y0, .slice x1 m1 y1, .slice x2 m2 y2, .slice x3 m3 y3] 51)) w9.heap.size) := ex4_of (CBlk.new _ _ _) (kb_later HB0.out (below1 _ _)) (kb_later HB1.out (below1 _ _)) (kb_later HB2.out (below1 _ _)) (kb_later HB3.out (below1 _ _))
 have HWA : Hid (Below w.heap.size w (w9.alloc (.cells #[.slice x0 m0 y0, .slice x1 m1 y1, .slice x2 m2 y2, .slice x3 m3 y3] 51))) := below_step HW9.out (below1 _ _)
 go_upto_region 12 with fail
 clear HB0 HB1 HB2 HB3 HW9
 revert HE HWA
 generalize (w9.alloc (.cells #[.slice x0 m0 y0, .slice x1 m1 y1, .slice x2 m2 y2, .slice x3 m3 y3] 51)) = XA
 generalize w9.heap.size = GA
 intro HE HWA
 go_wp2_with fail
 go_loopg [18] 4 (fun g i wr => ∃ (k : Nat), k + g = 4 /\ i = .int .i64 (k : Int) /\ Below XA.heap.size XA wr)
 case atStart => exact ⟨0, by omega, rfl, Below.refl _ _⟩
 case round =>
 obtain ⟨k, hk, rfl, hbk⟩ := hrel
 have HBK : Hid (Below XA.heap.size XA wr) := hbk
 clear hbk
 generalize hwr : wr = XB at *
 clear hwr
 cases gk with
 | succ g =>
  have k1 : (k : Int) < 4 := by omega
  have k0 : (0 : Int) <= (k : Int) := by omega
  obtain ⟨a, n, c, L, hc, hn, he, hbr⟩ := HE.out.at_ k (by omega)
  have HC : Hid (∀ X : World, Below XA.heap.size XA X -> X.cell? ⟨GA, k, none⟩ = some (.slice a n c)) := fun X hX => cell_step hX HE.out.lt hc
  have HBR : Hid (∀ X : World, Below XA.heap.size XA X -> Br X (.slice a n c) L) := fun X hX => hbr.later hX
  have HEN : Hid (Ends k L) := he
  have HNL : Hid (n = L.length) := hn
  have HCN : Hid (n <= c) := by obtain ⟨-, a', c', e, h0, -⟩ := hbr; cases e; exact h0
  clear hc hn he hbr
  go_wp2_with fail
  go_loopg [19] (min n 400) (fun g i wr => ∃ (q : Nat), q + g = min n 400 /\ i = .int .i64 (q : Int) /\ Below XA.heap.size XA wr)
  case atStart => exact ⟨0, by omega, rfl, HBK.out⟩
  case round =>
  obtain ⟨q, hq, rfl, hbq⟩ := hrel
  have HBQ : Hid (Below XA.heap.size XA wr) := hbq
  clear hbq HBK
  generalize hwr : wr = XC at *
  clear hwr
  have z0 := HC.out _ HBQ.out
  cases gk with
  | succ g2 =>
   have q1 : (q : Int) < (n : Int) := by omega
   have q2 : (q : Int) < 400 := by omega
   have q0 : (0 : Int) <= (q : Int) := by omega
   have q3 : (q : Int) <= (c : Int) := by have := HCN.out; omega
   have HQL : Hid (q < L.length) := by have := HNL.out; show _ < _; omega
   go_wp2_with (first
    | (go_at_call 19; refine (HLB.out _ _ (L.take q) ((HBR.out _ HBQ.out).take (Nat.le_of_lt HQL.out)) (by rw [List.length_take]; have := HEN.out.lo; omega)).mono ?_; rintro e w20 ⟨u20, rfl, hu, hb⟩; have HU : Hid (Bh w20 u20 (L.take q)) := hu; have HB20 : Hid (Below XA.heap.size XA w20) := below_step HBQ.out hb; clear hu hb z0)
    | (go_at_call 18; refine (HEN.out.sh _ _ q HQL.out HU.out).mono ?_; rintro e w21 ⟨rfl, hb⟩; have HB21 : Hid (Below XA.heap.size XA w21) := below_step HB20.out hb; clear hb))
   go_roundg g2
   case measure => omega
   case rel => exact ⟨q + 1, by omega, by go_num, HB21.out⟩
  | zero =>
  have hcs : (¬ ((q : Int) < (n : Int))) ∨ ((q : Int) < (n : Int) /\ ¬ ((q : Int) < 400)) := by omega
  have q2 : True := trivial
  rcases hcs with q1 | ⟨q1, q2⟩
  ·go_upto_region 22 with (first
    | (go_at_call 19; refine (HLB.out _ _ L (HBR.out _ HBQ.out) HEN.out.lo).mono ?_; rintro e w30 ⟨u30, rfl, hu, hb⟩; have HU : Hid (Bh w30 u30 L) := hu; have HB30 : Hid (Below XA.heap.size XA w30) := below_step HBQ.out hb; clear hu hb z0)
    | (go_at_call 18; refine (HEN.out.ok _ _ HU.out).mono ?_; rintro e w31 ⟨rfl, hb⟩; have HB31 : Hid (Below XA.heap.size XA w31) := below_step HB30.out hb; clear hb))
   clear q1 q2 HBQ HB30 HU
   by_cases hB : B = []
   ·have b1 : ¬ ((0 : Int) < (B.length : Int)) := by rw [hB]; simp
    clear hB
    go_wp2_with fail
    go_roundg g
    case measure => omega
    case rel => exact ⟨k + 1, by omega, by go_num, HB31.out⟩
   ·have b1 : (0 : Int) < (B.length : Int) := by have := List.length_pos_iff.2 hB; omega
    have HNE : Hid (B ≠ []) := hB
    have z1 := HC.out _ HB31.out
    clear hB
    go_wp2_with (first
     | (go_at_call 19; refine (HLT.out _ _ L (HBR.out _ HB31.out) HEN.out.lo).mono ?_; rintro e w32 ⟨u32, rfl, hu, hb⟩; have HU : Hid (OwnB w32 w31.heap.size u32 L) := hu.own; obtain ⟨ua, un, uc, rfl⟩ := ownB_form hu.own; have HS32 : Hid (w31.heap.size <= w32.heap.size /\ XA.heap.size <= w31.heap.size) := ⟨hb.size, HB31.out.size⟩; have HB32 : Hid (Below XA.heap.size XA w32) := below_step HB31.out hb; clear hu hb z1)
     | (at_builtin; refine app8g (by rfl) _ _ rfl w31.heap.size (.slice ua un uc) L rfl HU.out (.slice av B.length acap) B rfl ((HV.out.later HWA.out).later HB32.out) HNE.out (by have h1 := HEN.out.lo; have h2 := HBL.out; omega) HS32.out.1 ?_; intro v33 w33 hown hb; have HO33 : Hid (OwnB w33 w31.heap.size v33 (L ++ B)) := hown; have HB33 : Hid (Below XA.heap.size XA w33) := HB32.out.trans (hb.mono HS32.out.2); obtain ⟨va, vn, vc, rfl⟩ := ownB_form hown; clear hown hb)
     | (go_at_call 18; refine (HEN.out.tl _ _ B HNE.out (HO33.out.bh (HEN.out.by_.app HV.out.1) (by have h1 := HEN.out.lo; have h2 := HBL.out; rw [List.length_append]; omega) (fun e => HNE.out (List.append_eq_nil_iff.1 e).2))).mono ?_; rintro e w34 ⟨rfl, hb⟩; have HB34 : Hid (Below XA.heap.size XA w34) := below_step HB33.out hb; clear hb))
    go_roundg g
    case measure => omega
    case rel => exact ⟨k + 1, by omega, by go_num, HB34.out⟩
  ·go_upto_region 22 with (first
    | (go_at_call 19; refine (HLB.out _ _ L (HBR.out _ HBQ.out) HEN.out.lo).mono ?_; rintro e w30 ⟨u30, rfl, hu, hb⟩; have HU : Hid (Bh w30 u30 L) := hu; have HB30 : Hid (Below XA.heap.size XA w30) := below_step HBQ.out hb; clear hu hb z0)
    | (go_at_call 18; refine (HEN.out.ok _ _ HU.out).mono ?_; rintro e w31 ⟨rfl, hb⟩; have HB31 : Hid (Below XA.heap.size XA w31) := below_step HB30.out hb; clear hb))
   clear q1 q2 HBQ HB30 HU
   by_cases hB : B = []
   ·have b1 : ¬ ((0 : Int) < (B.length : Int)) := by rw [hB]; simp
    clear hB
    go_wp2_with fail
    go_roundg g
    case measure => omega
    case rel => exact ⟨k + 1, by omega, by go_num, HB31.out⟩
   ·have b1 : (0 : Int) < (B.length : Int) := by have := List.length_pos_iff.2 hB; omega
    have HNE : Hid (B ≠ []) := hB
    have z1 := HC.out _ HB31.out
    clear hB
    go_wp2_with (first
     | (go_at_call 19; refine (HLT.out _ _ L (HBR.out _ HB31.out) HEN.out.lo).mono ?_; rintro e w32 ⟨u32, rfl, hu, hb⟩; have HU : Hid (OwnB w32 w31.heap.size u32 L) := hu.own; obtain ⟨ua, un, uc, rfl⟩ := ownB_form hu.own; have HS32 : Hid (w31.heap.size <= w32.heap.size /\ XA.heap.size <= w31.heap.size) := ⟨hb.size, HB31.out.size⟩; have HB32 : Hid (Below XA.heap.size XA w32) := below_step HB31.out hb; clear hu hb z1)
     | (at_builtin; refine app8g (by rfl) _ _ rfl w31.heap.size (.slice ua un uc) L rfl HU.out (.slice av B.length acap) B rfl ((HV.out.later HWA.out).later HB32.out) HNE.out (by have h1 := HEN.out.lo; have h2 := HBL.out; omega) HS32.out.1 ?_; intro v33 w33 hown hb; have HO33 : Hid (OwnB w33 w31.heap.size v33 (L ++ B)) := hown; have HB33 : Hid (Below XA.heap.size XA w33) := HB32.out.trans (hb.mono HS32.out.2); obtain ⟨va, vn, vc, rfl⟩ := ownB_form hown; clear hown hb)
     | (go_at_call 18; refine (HEN.out.tl _ _ B HNE.out (HO33.out.bh (HEN.out.by_.app HV.out.1) (by have h1 := HEN.out.lo; have h2 := HBL.out; rw [List.length_append]; omega) (fun e => HNE.out (List.append_eq_nil_iff.1 e).2))).mono ?_; rintro e w34 ⟨rfl, hb⟩; have HB34 : Hid (Below XA.heap.size XA w34) := below_step HB33.out hb; clear hb))
    go_roundg g
    case measure => omega
    case rel => exact ⟨k + 1, by omega, by go_num, HB34.out⟩
 | zero =>
 obtain rfl : k = 4 := by omega
 go_wp2
 go_ret
 exact ⟨rfl, below_step HWA.out HBK.out⟩
end Go.Proofs.YtelcoihmiglceaaGreat
