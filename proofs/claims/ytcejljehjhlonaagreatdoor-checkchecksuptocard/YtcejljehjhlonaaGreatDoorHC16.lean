import Derived.Test.YtcejljehjhlonaaGreatDoorHC15
import Derived.Test.YtcejljehjhlonaaGreatDoorSD18
import Derived.Test.YtcejljehjhlonaaGreatDoorHC11
import Derived.Test.YtcejljehjhlonaaGreatDoorHC5
import Derived.Test.YtcejljehjhlonaaGreatDoorSD8
import Derived.Test.YtcejljehjhlonaaGreatDoorSD20
import Derived.Test.YtcejljehjhlonaaGreatDoorHC14
namespace Go.Proofs.YtcejljehjhlonaaGreatDoor
open Go.RowKit

theorem LentT.form {X : World} {B : Nat} {v : Value} {l : List Tm} (h : LentT X B v l) : ∃ a n c, v = .slice a n c := by obtain ⟨g, cap, e, -⟩ := h; exact ⟨_, _, _, e⟩
set_option maxRecDepth 20000 in
set_option maxHeartbeats 1600000 in
theorem checkChecks_any (l R : List Cm) (S : List St) (f : At) (lv rv sv fv : Value) (w : World) (hl : CsP w lv l) (hR : CsP w rv R) (hS : SsP w sv S) (hf : Ts w fv f.args) (hfp : TsP w fv f.args) (hzf : szA f) (hlo : ∀ c ∈ l, COpen w c) (hlt2 : ∀ c ∈ l, (Ck.terms c.key).length <= 2000000) (hll : l.length <= 2000000) (hfl : f.args.length <= 2000000) (hco : ∀ c ∈ R, COpen w c) (hlt : ∀ c ∈ R, (Ck.terms c.key).length <= 2000000) (hwf : ∀ c ∈ R, ∀ t ∈ Ck.terms c.key, t.var = true -> (Lit.int .i64 t.n).wf = true) (hlR : R.length <= 2000000) (hwS : wk (S.map St.key) <= 2000000)
  (hts : ∀ s ∈ S, TsP w s.vv s.vals) (hns : ∀ s ∈ S, NsP w s.uv s.uses) (hB : BehOk w) :
  Calls Tryz.prog 4 #[lv, .agg #[rv, sv], f.v fv] w fun e w' => e = .returned (.bool true) /\ Below w.heap.size w w' := by
 have hlS : S.length <= 2000000 := by have := wk_len (S.map St.key); rw [List.length_map] at this; omega
 have hsw : ∀ s ∈ S, s.vals.length <= 2000000 /\ s.uses.length <= 2000000 := fun s hs => by
  have h9 : s.vals.length + s.uses.length + 1 <= wk (S.map St.key) := wk_mem (List.mem_map.2 ⟨s, hs, rfl⟩ : s.key ∈ S.map St.key)
  omega
 have HLD : Hid (∀ X : World, Below w.heap.size w X -> Calls Tryz.prog 5 #[.agg #[rv, sv]] X (LPP X R S)) := fun X hX => lendProof_any R S rv sv X (hR.later hX) (hS.later hX) (fun c hc => ((hco c hc).lp (by have := hlt c hc; omega)).later hX) (hB.later hX) (by omega) (by omega) (fun s hs => by have := hsw s hs; omega) (fun s hs => (hts s hs).later hX) (fun s hs => (hns s hs).later hX)
 have hkm : ∀ {d : Cm} {LB : List Cm}, LB.map Cm.key = R.map Cm.key -> d ∈ LB -> ∃ c ∈ R, c.key = d.key := fun {d LB} hk hd => by
  have : d.key ∈ R.map Cm.key := by rw [<- hk]; exact List.mem_map_of_mem hd
  obtain ⟨c, hc, e⟩ := List.mem_map.1 this
  exact ⟨c, hc, e⟩
 have hkl : ∀ {d : Cm} {LB : List Cm}, LB.map Cm.key = l.map Cm.key -> d ∈ LB -> ∃ c ∈ l, c.key = d.key := fun {d LB} hk hd => by
  have : d.key ∈ l.map Cm.key := by rw [<- hk]; exact List.mem_map_of_mem hd
  obtain ⟨c, hc, e⟩ := List.mem_map.1 this
  exact ⟨c, hc, e⟩
 have HLC : Hid (∀ X : World, Below w.heap.size w X -> Calls Tryz.prog 11 #[lv] X fun e w' => ∃ u LB, e = .returned u /\ LB.map Cm.key = l.map Cm.key /\ LentC w' X.heap.size u LB /\ Below X.heap.size X w') := fun X hX => lendCs_any l lv X (hl.later hX) (fun c hc => ((hlo c hc).lp (by have := hlt2 c hc; omega)).later hX) (by omega) (hB.later hX)
 have HLA : Hid (∀ X : World, Below w.heap.size w X -> Calls Tryz.prog 12 #[f.v fv] X fun e w' => ∃ u, e = .returned (f.v u) /\ LentT w' X.heap.size u f.args /\ Below X.heap.size X w') := fun X hX => lendA_any f fv X (hfp.later hX) (by omega) (hB.later hX)
 obtain ⟨z, hz⟩ : ∃ z, cheH (l.map Cm.key) (R.map Cm.key) (S.map St.key) f = z := ⟨_, rfl⟩
 have HCK : Hid (∀ (X : World) (ru su lu gu : Value) (LB : List Cm) (LS : List St) (LL : List Cm) (b1 b2 b3 : Nat), LB.map Cm.key = R.map Cm.key -> LS.map St.key = S.map St.key -> LL.map Cm.key = l.map Cm.key -> LentC X b1 ru LB -> LentS X b1 su LS -> LentC X b2 lu LL -> LentT X b3 gu f.args -> Calls Tryz.prog 13 #[lu, .agg #[ru, su], f.v gu] X fun e w' => e = .returned (.int .i64 z) /\ Below X.heap.size X w') := fun X ru su lu gu LB LS LL b1 b2 b3 hk hq hj hn hm ho hp => by
  have g1 : LB.length = R.length := by have := congrArg List.length hk; simpa using this
  have g2 : LS.length = S.length := by have := congrArg List.length hq; simpa using this
  have g3 : LL.length = l.length := by have := congrArg List.length hj; simpa using this
  have := check_whole LL LB LS f lu ru su gu X (ho.csp fun d hd => by obtain ⟨c, hc, e⟩ := hkl hj hd; have := hlt2 c hc; rw [<- e]; omega) (hn.csp fun d hd => by obtain ⟨c, hc, e⟩ := hkm hk hd; have := hlt c hc; rw [<- e]; omega) (hm.ssp fun s hs => by
   have : s.key ∈ S.map St.key := by rw [<- hq]; exact List.mem_map_of_mem hs
   have h9 : s.vals.length + s.uses.length + 1 <= wk (S.map St.key) := wk_mem this
   omega) (hp.ts (by omega)) (fun d hd => by
   obtain ⟨c, hc, e2⟩ := hkm hk hd
   refine ⟨fun t ht hv => ?_, ?_⟩
   ·rw [key_terms, <- e2] at ht
    exact hwf c hc t ht hv
   ·rw [key_terms, <- e2]
    have := hlt c hc
    omega) (by omega) (by omega) (by omega)
  rwa [hk, hq, hj, hz] at this
 have HRK : Hid (∀ X : World, Below w.heap.size w X -> Calls Tryz.prog 14 #[lv, .agg #[rv, sv], f.v fv] X fun e w' => e = .returned (.int .i64 z) /\ Below X.heap.size X w') := fun X hX => by
  have := rcheckH_any l R S f lv rv sv fv X (hl.later hX) (hR.later hX) (hS.later hX) (hf.later hX) (fun c hc => (hco c hc).okp.laterH hX) (fun c hc => (hlo c hc).sz) (fun c hc => (hco c hc).sz) hzf (by omega) (by omega) (by omega)
  rwa [hz] at this
 have HKP : Hid (∀ (X : World) (ru su : Value) (LB : List Cm) (LS : List St) (base : Nat), Below w.heap.size w X -> LB.map Cm.key = R.map Cm.key -> LS.map St.key = S.map St.key -> LentC X base ru LB -> LentS X base su LS -> Calls Tryz.prog 9 #[.agg #[ru, su], .agg #[rv, sv]] X fun e w' => e = .returned (.bool true) /\ Below X.heap.size X w') := fun X ru su LB LS base hX hk hq hn hm => keptProof_any R LB S LS rv sv ru su base X (hR.later hX) (hS.later hX) (fun c hc => by have := hlt c hc; omega) (hB.later hX) (by omega) (by omega) (fun s hs => by have := hsw s hs; omega) hn hk hm hq
 have HKC : Hid (∀ (X : World) (lu : Value) (LL : List Cm) (base : Nat), Below w.heap.size w X -> LL.map Cm.key = l.map Cm.key -> LentC X base lu LL -> Calls Tryz.prog 15 #[lu, lv] X fun e w' => e = .returned (.bool true) /\ Below X.heap.size X w') := fun X lu LL base hX hk hn => keptCs_any l LL lu lv base X (hl.later hX) (fun c hc => by have := hlt2 c hc; omega) hn hk (hB.later hX) (by omega)
 have HKA : Hid (∀ (X : World) (gu : Value) (base : Nat), Below w.heap.size w X -> LentT X base gu f.args -> Calls Tryz.prog 16 #[f.v gu, f.v fv] X fun e w' => e = .returned (.bool true) /\ Below X.heap.size X w') := fun X gu base hX hn => keptA_any f gu fv base X (hf.later hX) hn (hB.later hX)
 have HF : Hid (∀ X, Calls Tryz.prog 10 #[] X fun e w' => e = .returned (.bool true) /\ Below X.heap.size X w') := fun X => first12_any X
 obtain ⟨la, lc, rfl⟩ := hl.form
 obtain ⟨ra, rc, rfl⟩ := hR.form
 obtain ⟨sa, sc, rfl⟩ := hS.form
 obtain ⟨f1, f3, rfl⟩ := hf.sl
 clear hl hR hS hf hfp hzf hlo hlt2 hll hfl hco hlt hwf hlR hwS hts hns hB hlS hsw hkm hkl hz
 generalize l.length = lln at HLC HRK HKC ⊢
 generalize R.length = rn at HLD HRK HKP ⊢
 generalize S.length = sn at HLD HRK HKP ⊢
 obtain ⟨⟨fk, fm, fs⟩, fn, fl⟩ := f
 simp only at HLA HCK HRK HKA ⊢
 generalize fl.length = f2 at HLA HRK HKA ⊢
 have HP0 : Hid (CBlk ((w.alloc (.cells #[.slice ra rn rc, .slice sa sn sc] 25)).alloc (.cells #[.int .i64 fk, .int .i64 fm, .string fs, .string fn, .slice f1 f2 f3] 39)) w.heap.size #[.slice ra rn rc, .slice sa sn sc] 25) := (CBlk.new _ _ _).later (below1 _ _)
 have HQ0 : Hid (CBlk ((w.alloc (.cells #[.slice ra rn rc, .slice sa sn sc] 25)).alloc (.cells #[.int .i64 fk, .int .i64 fm, .string fs, .string fn, .slice f1 f2 f3] 39)) (w.heap.size + 1) #[.int .i64 fk, .int .i64 fm, .string fs, .string fn, .slice f1 f2 f3] 39) := by
  have := CBlk.new (w.alloc (.cells #[.slice ra rn rc, .slice sa sn sc] 25)) #[.int .i64 fk, .int .i64 fm, .string fs, .string fn, .slice f1 f2 f3] 39
  rwa [show (w.alloc (.cells #[.slice ra rn rc, .slice sa sn sc] 25)).heap.size = w.heap.size + 1 by simp] at this
 have HW0 : Hid (Below w.heap.size w ((w.alloc (.cells #[.slice ra rn rc, .slice sa sn sc] 25)).alloc (.cells #[.int .i64 fk, .int .i64 fm, .string fs, .string fn, .slice f1 f2 f3] 39))) := below2 _ _ _
 go_enter Tryz.func4, Tryz.ntmps4
 go_upto_region 1 with fail
 revert HP0 HQ0 HW0
 generalize (w.alloc (.cells #[.slice ra rn rc, .slice sa sn sc] 25)).alloc (.cells #[.int .i64 fk, .int .i64 fm, .string fs, .string fn, .slice f1 f2 f3] 39) = W0
 intro HP0 HQ0 HW0
 obtain ⟨p0, p1⟩ := ctwo HP0.out
 go_upto_region 2 with (go_at_call 5; refine (HLD.out _ HW0.out).mono ?_; clear HLD; rintro e w1 ⟨ru, su, LB, LS, rfl, hkb, hks, hlb, hls, hb⟩; obtain ⟨ba, bn, bc, rfl⟩ : ∃ a n c, ru = .slice a n c := (by obtain ⟨⟨g, cap, e, -⟩, -⟩ := hlb; exact ⟨_, _, _, e⟩); obtain ⟨da, dn, dc, rfl⟩ : ∃ a n c, su = .slice a n c := (by obtain ⟨⟨g, cap, e, -⟩, -⟩ := hls; exact ⟨_, _, _, e⟩); have HKB' : Hid (LB.map Cm.key = R.map Cm.key) := hkb; have HKS : Hid (LS.map St.key = S.map St.key) := hks; have hb9 := below_step hb (below1 w1 (.cells #[.slice ba bn bc, .slice da dn dc] 25)); have HP1 : Hid (CBlk (w1.alloc (.cells #[.slice ba bn bc, .slice da dn dc] 25)) w.heap.size #[.slice ra rn rc, .slice sa sn sc] 25) := HP0.out.later (hb9); have HQ1 : Hid (CBlk (w1.alloc (.cells #[.slice ba bn bc, .slice da dn dc] 25)) (w.heap.size + 1) #[.int .i64 fk, .int .i64 fm, .string fs, .string fn, .slice f1 f2 f3] 39) := HQ0.out.later (hb9); have HW1 : Hid (Below w.heap.size w (w1.alloc (.cells #[.slice ba bn bc, .slice da dn dc] 25))) := below_step HW0.out (hb9); have HX1 : Hid (LentC (w1.alloc (.cells #[.slice ba bn bc, .slice da dn dc] 25)) W0.heap.size (.slice ba bn bc) LB) := hlb.later (below1 _ _); have HY1 : Hid (LentS (w1.alloc (.cells #[.slice ba bn bc, .slice da dn dc] 25)) W0.heap.size (.slice da dn dc) LS) := hls.later (below1 _ _); have HO1 : Hid (CBlk (w1.alloc (.cells #[.slice ba bn bc, .slice da dn dc] 25)) w1.heap.size #[.slice ba bn bc, .slice da dn dc] 25) := CBlk.new _ _ _; clear hb hb9 hkb hks hlb hls p0 p1)
 clear HP0 HQ0 HW0
 revert HP1 HQ1 HW1 HX1 HY1 HO1
 generalize w1.alloc (.cells #[.slice ba bn bc, .slice da dn dc] 25) = W1
 generalize w1.heap.size = G1
 generalize W0.heap.size = B1
 intro HP1 HQ1 HW1 HX1 HY1 HO1
 go_upto_region 3 with (go_at_call 11; refine (HLC.out _ HW1.out).mono ?_; clear HLC; rintro e w2 ⟨lu, LL, rfl, hkl, hlb, hb⟩; obtain ⟨ua, un, uc, rfl⟩ : ∃ a n c, lu = .slice a n c := (by obtain ⟨⟨g, cap, e, -⟩, -⟩ := hlb; exact ⟨_, _, _, e⟩); have HKL : Hid (LL.map Cm.key = l.map Cm.key) := hkl; have HP2 : Hid (CBlk w2 w.heap.size #[.slice ra rn rc, .slice sa sn sc] 25) := HP1.out.later (hb); have HQ2 : Hid (CBlk w2 (w.heap.size + 1) #[.int .i64 fk, .int .i64 fm, .string fs, .string fn, .slice f1 f2 f3] 39) := HQ1.out.later (hb); have HW2 : Hid (Below w.heap.size w w2) := below_step HW1.out (hb); have HX2 : Hid (LentC w2 B1 (.slice ba bn bc) LB) := HX1.out.later (hb); have HY2 : Hid (LentS w2 B1 (.slice da dn dc) LS) := HY1.out.later (hb); have HO2 : Hid (CBlk w2 G1 #[.slice ba bn bc, .slice da dn dc] 25) := HO1.out.later (hb); have HL2 : Hid (LentC w2 W1.heap.size (.slice ua un uc) LL) := hlb; clear hb hkl hlb)
 clear HP1 HQ1 HW1 HX1 HY1 HO1
 revert HL2
 generalize W1.heap.size = B2
 intro HL2
 obtain ⟨q0, q1, q2, q3, q4⟩ := cfive HQ2.out
 go_upto_region 4 with (go_at_call 12; refine (HLA.out _ HW2.out).mono ?_; clear HLA; rintro e w3 ⟨gu, rfl, hlt, hb⟩; obtain ⟨ga, gn, gc, rfl⟩ := hlt.form; have hb9 := below_step hb (below1 w3 (.cells #[.int .i64 fk, .int .i64 fm, .string fs, .string fn, .slice ga gn gc] 39)); have HP3 : Hid (CBlk (w3.alloc (.cells #[.int .i64 fk, .int .i64 fm, .string fs, .string fn, .slice ga gn gc] 39)) w.heap.size #[.slice ra rn rc, .slice sa sn sc] 25) := HP2.out.later (hb9); have HQ3 : Hid (CBlk (w3.alloc (.cells #[.int .i64 fk, .int .i64 fm, .string fs, .string fn, .slice ga gn gc] 39)) (w.heap.size + 1) #[.int .i64 fk, .int .i64 fm, .string fs, .string fn, .slice f1 f2 f3] 39) := HQ2.out.later (hb9); have HW3 : Hid (Below w.heap.size w (w3.alloc (.cells #[.int .i64 fk, .int .i64 fm, .string fs, .string fn, .slice ga gn gc] 39))) := below_step HW2.out (hb9); have HX3 : Hid (LentC (w3.alloc (.cells #[.int .i64 fk, .int .i64 fm, .string fs, .string fn, .slice ga gn gc] 39)) B1 (.slice ba bn bc) LB) := HX2.out.later (hb9); have HY3 : Hid (LentS (w3.alloc (.cells #[.int .i64 fk, .int .i64 fm, .string fs, .string fn, .slice ga gn gc] 39)) B1 (.slice da dn dc) LS) := HY2.out.later (hb9); have HO3 : Hid (CBlk (w3.alloc (.cells #[.int .i64 fk, .int .i64 fm, .string fs, .string fn, .slice ga gn gc] 39)) G1 #[.slice ba bn bc, .slice da dn dc] 25) := HO2.out.later (hb9); have HL3 : Hid (LentC (w3.alloc (.cells #[.int .i64 fk, .int .i64 fm, .string fs, .string fn, .slice ga gn gc] 39)) B2 (.slice ua un uc) LL) := HL2.out.later (hb9); have HT3 : Hid (LentT (w3.alloc (.cells #[.int .i64 fk, .int .i64 fm, .string fs, .string fn, .slice ga gn gc] 39)) w2.heap.size (.slice ga gn gc) fl) := hlt.later (below1 _ _); have HN3 : Hid (CBlk (w3.alloc (.cells #[.int .i64 fk, .int .i64 fm, .string fs, .string fn, .slice ga gn gc] 39)) w3.heap.size #[.int .i64 fk, .int .i64 fm, .string fs, .string fn, .slice ga gn gc] 39) := CBlk.new _ _ _; clear hb hb9 hlt q0 q1 q2 q3 q4)
 clear HP2 HQ2 HW2 HX2 HY2 HO2 HL2
 revert HP3 HQ3 HW3 HX3 HY3 HO3 HL3 HT3 HN3
 generalize w3.alloc (.cells #[.int .i64 fk, .int .i64 fm, .string fs, .string fn, .slice ga gn gc] 39) = W3
 generalize w3.heap.size = G3
 generalize w2.heap.size = B3
 intro HP3 HQ3 HW3 HX3 HY3 HO3 HL3 HT3 HN3
 obtain ⟨p0, p1⟩ := ctwo HO3.out
 obtain ⟨q0, q1, q2, q3, q4⟩ := cfive HN3.out
 go_upto_region 5 with (go_at_call 13; refine (HCK.out _ _ _ _ _ LB LS LL _ _ _ HKB'.out HKS.out HKL.out HX3.out HY3.out HL3.out HT3.out).mono ?_; clear HCK; rintro e w4 ⟨rfl, hb⟩; have HP4 : Hid (CBlk w4 w.heap.size #[.slice ra rn rc, .slice sa sn sc] 25) := HP3.out.later (hb); have HQ4 : Hid (CBlk w4 (w.heap.size + 1) #[.int .i64 fk, .int .i64 fm, .string fs, .string fn, .slice f1 f2 f3] 39) := HQ3.out.later (hb); have HW4 : Hid (Below w.heap.size w w4) := below_step HW3.out (hb); have HX4 : Hid (LentC w4 B1 (.slice ba bn bc) LB) := HX3.out.later (hb); have HY4 : Hid (LentS w4 B1 (.slice da dn dc) LS) := HY3.out.later (hb); have HO4 : Hid (CBlk w4 G1 #[.slice ba bn bc, .slice da dn dc] 25) := HO3.out.later (hb); have HL4 : Hid (LentC w4 B2 (.slice ua un uc) LL) := HL3.out.later (hb); have HT4 : Hid (LentT w4 B3 (.slice ga gn gc) fl) := HT3.out.later (hb); have HN4 : Hid (CBlk w4 G3 #[.int .i64 fk, .int .i64 fm, .string fs, .string fn, .slice ga gn gc] 39) := HN3.out.later (hb); clear hb p0 p1 q0 q1 q2 q3 q4)
 clear HP3 HQ3 HW3 HX3 HY3 HO3 HL3 HT3 HN3
 obtain ⟨p0, p1⟩ := ctwo HP4.out
 obtain ⟨q0, q1, q2, q3, q4⟩ := cfive HQ4.out
 go_upto_region 7 with (first | (go_at_call 14; refine (HRK.out _ HW4.out).mono ?_; clear HRK; rintro e w5 ⟨rfl, hb⟩; have HP5 : Hid (CBlk w5 w.heap.size #[.slice ra rn rc, .slice sa sn sc] 25) := HP4.out.later (hb); have HQ5 : Hid (CBlk w5 (w.heap.size + 1) #[.int .i64 fk, .int .i64 fm, .string fs, .string fn, .slice f1 f2 f3] 39) := HQ4.out.later (hb); have HW5 : Hid (Below w.heap.size w w5) := below_step HW4.out (hb); have HX5 : Hid (LentC w5 B1 (.slice ba bn bc) LB) := HX4.out.later (hb); have HY5 : Hid (LentS w5 B1 (.slice da dn dc) LS) := HY4.out.later (hb); have HO5 : Hid (CBlk w5 G1 #[.slice ba bn bc, .slice da dn dc] 25) := HO4.out.later (hb); have HL5 : Hid (LentC w5 B2 (.slice ua un uc) LL) := HL4.out.later (hb); have HT5 : Hid (LentT w5 B3 (.slice ga gn gc) fl) := HT4.out.later (hb); have HN5 : Hid (CBlk w5 G3 #[.int .i64 fk, .int .i64 fm, .string fs, .string fn, .slice ga gn gc] 39) := HN4.out.later (hb); clear hb p0 p1 q0 q1 q2 q3 q4; obtain ⟨p0, p1⟩ := ctwo HP5.out; obtain ⟨q0, q1⟩ := ctwo HO5.out) | (go_at_call 9; refine (HKP.out _ _ _ LB LS _ HW5.out HKB'.out HKS.out HX5.out HY5.out).mono ?_; clear HKP; rintro e w6 ⟨rfl, hb⟩; have HP6 : Hid (CBlk w6 w.heap.size #[.slice ra rn rc, .slice sa sn sc] 25) := HP5.out.later (hb); have HQ6 : Hid (CBlk w6 (w.heap.size + 1) #[.int .i64 fk, .int .i64 fm, .string fs, .string fn, .slice f1 f2 f3] 39) := HQ5.out.later (hb); have HW6 : Hid (Below w.heap.size w w6) := below_step HW5.out (hb); have HX6 : Hid (LentC w6 B1 (.slice ba bn bc) LB) := HX5.out.later (hb); have HY6 : Hid (LentS w6 B1 (.slice da dn dc) LS) := HY5.out.later (hb); have HO6 : Hid (CBlk w6 G1 #[.slice ba bn bc, .slice da dn dc] 25) := HO5.out.later (hb); have HL6 : Hid (LentC w6 B2 (.slice ua un uc) LL) := HL5.out.later (hb); have HT6 : Hid (LentT w6 B3 (.slice ga gn gc) fl) := HT5.out.later (hb); have HN6 : Hid (CBlk w6 G3 #[.int .i64 fk, .int .i64 fm, .string fs, .string fn, .slice ga gn gc] 39) := HN5.out.later (hb); clear hb p0 p1 q0 q1))
 clear HP5 HQ5 HW5 HX5 HY5 HO5 HL5 HT5 HN5
 clear HP4 HQ4 HW4 HX4 HY4 HO4 HL4 HT4 HN4
 go_wp2_with (first | (go_at_call 15; refine (HKC.out _ _ LL _ HW6.out HKL.out HL6.out).mono ?_; rintro e w7 ⟨rfl, hb⟩; have HP7 : Hid (CBlk w7 w.heap.size #[.slice ra rn rc, .slice sa sn sc] 25) := HP6.out.later (hb); have HQ7 : Hid (CBlk w7 (w.heap.size + 1) #[.int .i64 fk, .int .i64 fm, .string fs, .string fn, .slice f1 f2 f3] 39) := HQ6.out.later (hb); have HW7 : Hid (Below w.heap.size w w7) := below_step HW6.out (hb); have HX7 : Hid (LentC w7 B1 (.slice ba bn bc) LB) := HX6.out.later (hb); have HY7 : Hid (LentS w7 B1 (.slice da dn dc) LS) := HY6.out.later (hb); have HO7 : Hid (CBlk w7 G1 #[.slice ba bn bc, .slice da dn dc] 25) := HO6.out.later (hb); have HL7 : Hid (LentC w7 B2 (.slice ua un uc) LL) := HL6.out.later (hb); have HT7 : Hid (LentT w7 B3 (.slice ga gn gc) fl) := HT6.out.later (hb); have HN7 : Hid (CBlk w7 G3 #[.int .i64 fk, .int .i64 fm, .string fs, .string fn, .slice ga gn gc] 39) := HN6.out.later (hb); clear hb; obtain ⟨q0, q1, q2, q3, q4⟩ := cfive HQ7.out; obtain ⟨p0, p1, p2, p3, p4⟩ := cfive HN7.out) | (go_at_call 16; refine (HKA.out _ _ _ HW7.out HT7.out).mono ?_; rintro e w8 ⟨rfl, hb⟩; have HW8 : Hid (Below w.heap.size w w8) := below_step HW7.out hb; clear hb p0 p1 p2 p3 p4 q0 q1 q2 q3 q4) | (go_at_call 10; refine (HF.out _).mono ?_; rintro e w9 ⟨rfl, hb⟩; have HW9 : Hid (Below w.heap.size w w9) := below_step HW8.out hb; clear hb))
 go_ret
 exact ⟨rfl, HW9.out⟩
end Go.Proofs.YtcejljehjhlonaaGreatDoor
