import Derived.Test.YtmbmchbninlhpaaGreatDoorCR5
import Derived.Test.YtmbmchbninlhpaaGreatDoorCM0
import Derived.Test.YtmbmchbninlhpaaGreatDoorSD18
import Derived.Test.YtmbmchbninlhpaaGreatDoorSD20
import Derived.Test.YtmbmchbninlhpaaGreatDoorCV1
import Derived.Test.YtmbmchbninlhpaaGreatDoorSD16
import Derived.Test.YtmbmchbninlhpaaGreatDoorCP1
import Derived.Test.YtmbmchbninlhpaaGreatDoorSD5
import Derived.Test.YtmbmchbninlhpaaGreatDoorCR11
import Derived.Test.YtmbmchbninlhpaaGreatDoorT4
import Derived.Laws.OwnMore
import Derived.Deep.RegionHeld3
import Derived.Test.YtmbmchbninlhpaaGreatDoorCV5
import Derived.Test.YtmbmchbninlhpaaGreatDoorSD8
namespace Go.Proofs.YtmbmchbninlhpaaGreatDoor
open Go.RowKit

theorem OCL.csp7 {B : Nat} {X : World} {v : Value} {l : List Cm} (h : OCL X B v l) : CsP X v l := h.o.csp2 (fun c hc => (h.m c hc).1.ok (h.m c hc).2)
theorem Bn.form7 {w : World} {v : Value} {l : List Int} (h : Bn w v l) : ∃ a n cap, v = .slice a n cap := by
 obtain ⟨a, cap, rfl, -⟩ := h
 exact ⟨_, _, _, rfl⟩
end Go.Proofs.YtmbmchbninlhpaaGreatDoor
namespace Go.Proofs.YtmbmchbninlhpaaGreatDoor
open Go.RowKit

set_option maxRecDepth 20000 in
set_option maxHeartbeats 600000 in
theorem sameProof_yes (R R' : List Cm) (S S' : List St) (rv rv' sv sv' : Value) (w : World) (h : CsP w rv R) (h' : CsP w rv' R') (k : SsP w sv S) (k' : SsP w sv' S')
  (hr : R.map Cm.key = R'.map Cm.key) (hs : S.map St.key = S'.map St.key) (hl : R.length <= 1000000000000000000) (hm : S.length <= 1000000000000000000) :
  Calls Tryz.prog 13 #[.agg #[rv, sv], .agg #[rv', sv']] w fun e w' => e = .returned (.bool true) /\ Below w.heap.size w w' := by
 have HC1 : ∀ Y : World, Below w.heap.size w Y -> Calls Tryz.prog 22 #[rv, rv'] Y fun e w' => e = .returned (.bool true) /\ Below Y.heap.size Y w' := fun Y hY => by
  have := sameCs_any R R' rv rv' Y (h.later hY) (h'.later hY) hl
  rwa [decide_eq_true hr] at this
 have HC2 : ∀ Y : World, Below w.heap.size w Y -> Calls Tryz.prog 37 #[sv, sv'] Y fun e w' => e = .returned (.bool true) /\ Below Y.heap.size Y w' := fun Y hY => sameSteps_yes S S' sv sv' Y (k.later hY) (k'.later hY) hs hm
 obtain ⟨r1, r3, e1⟩ := h.form
 obtain ⟨t1, t3, e2⟩ := h'.form
 obtain ⟨s1, s3, e3⟩ := k.form
 obtain ⟨u1, u3, e4⟩ := k'.form
 obtain ⟨r2, g1⟩ : ∃ n, R.length = n := ⟨_, rfl⟩
 obtain ⟨t2, g2⟩ : ∃ n, R'.length = n := ⟨_, rfl⟩
 obtain ⟨s2, g3⟩ : ∃ n, S.length = n := ⟨_, rfl⟩
 obtain ⟨u2, g4⟩ : ∃ n, S'.length = n := ⟨_, rfl⟩
 rw [g1] at e1
 rw [g2] at e2
 rw [g3] at e3
 rw [g4] at e4
 subst e1 e2 e3 e4
 have HC1 : Hid _ := HC1
 have HC2 : Hid _ := HC2
 have hb2 := below2 w (.cells #[.slice r1 r2 r3, .slice s1 s2 s3] 25) (.cells #[.slice t1 t2 t3, .slice u1 u2 u3] 25)
 have HB2 : Hid (Below w.heap.size w ((w.alloc (.cells #[.slice r1 r2 r3, .slice s1 s2 s3] 25)).alloc (.cells #[.slice t1 t2 t3, .slice u1 u2 u3] 25))) := hb2
 have HK1 : Hid (CBlk ((w.alloc (.cells #[.slice r1 r2 r3, .slice s1 s2 s3] 25)).alloc (.cells #[.slice t1 t2 t3, .slice u1 u2 u3] 25)) w.heap.size #[.slice r1 r2 r3, .slice s1 s2 s3] 25) := Blk.old _ _ _ _
 have HK2 : Hid (CBlk ((w.alloc (.cells #[.slice r1 r2 r3, .slice s1 s2 s3] 25)).alloc (.cells #[.slice t1 t2 t3, .slice u1 u2 u3] 25)) (w.heap.size + 1) #[.slice t1 t2 t3, .slice u1 u2 u3] 25) := Blk.new2 _ _ _ _
 clear h h' k k' hr hs hl hm g1 g2 g3 g4 hb2
 go_enter Tryz.func13, Tryz.ntmps13
 go_wp2_with (first
  | (go_at_call 22; refine (HC1.out _ HB2.out).mono ?_; rintro e w1 ⟨rfl, hb1⟩; have HB1 : Hid (Below w.heap.size w w1) := below_step HB2.out hb1; obtain ⟨p0, p1⟩ := ctwo (HK1.out.later hb1); obtain ⟨q0, q1⟩ := ctwo (HK2.out.later hb1); clear hb1)
  | (go_at_call 37; refine (HC2.out _ HB1.out).mono ?_; rintro e w2 ⟨rfl, hb3⟩; have HB3 : Hid (Below w.heap.size w w2) := below_step HB1.out hb3; clear hb3))
 go_ret
 exact ⟨rfl, HB3.out⟩
end Go.Proofs.YtmbmchbninlhpaaGreatDoor
namespace Go.Proofs.YtmbmchbninlhpaaGreatDoor
open Go.RowKit

def wk : List Sk -> Nat
 | [] => 0
 | s :: l => 1 + s.2.1.length + s.2.2.length + wk l
theorem wk_app (l m : List Sk) : wk (l ++ m) = wk l + wk m := by
 induction l with
 | nil => simp [wk]
 | cons s l ih => simp only [List.cons_append, wk, ih]; omega
theorem wk_mem {l : List Sk} {s : Sk} (h : s ∈ l) : s.2.1.length + s.2.2.length + 1 <= wk l := by
 induction l with
 | nil => simp at h
 | cons a l ih =>
  unfold wk
  rcases List.mem_cons.1 h with rfl | h
  ·omega
  ·have := ih h; omega
theorem wk_len (l : List Sk) : l.length <= wk l := by
 induction l with
 | nil => simp
 | cons a l ih => simp only [List.length_cons, wk]; omega
end Go.Proofs.YtmbmchbninlhpaaGreatDoor
namespace Go.Proofs.YtmbmchbninlhpaaGreatDoor
open Go.RowKit

theorem flatT_le {l : List Tm} (h : ∀ t ∈ l, knd t) : (l.flatMap tB).length <= l.length * 73 := by
 induction l with
 | nil => simp
 | cons a l ih =>
  have h1 := (tB_len a).2
  have h2 := (h a (by simp)).2
  have h3 := ih fun t ht => h t (by simp [ht])
  simp only [List.flatMap_cons, List.length_append, List.length_cons]; omega
theorem flatN_eq (l : List Int) : (l.flatMap nB).length = l.length * 8 := by
 induction l with
 | nil => simp
 | cons a l ih => simp only [List.flatMap_cons, List.length_append, List.length_cons, nB_len, ih]; omega
theorem flatS_le {l : List St} (h : ∀ s ∈ l, wSt s = true) : (l.flatMap sBm).length <= wk (l.map St.key) * 80 := by
 induction l with
 | nil => simp
 | cons a l ih =>
  have h1 := h a (by simp)
  unfold wSt wOk at h1
  rw [Bool.and_eq_true] at h1
  have h2 := flatT_le (l := a.vals) fun t ht => knd_con (List.all_eq_true.1 h1.1 t ht)
  have h3 := flatN_eq a.uses
  have h4 := ih fun s hs => h s (by simp [hs])
  have h5 : (sBm a).length = 16 + (a.vals.flatMap tB).length + (a.uses.flatMap nB).length := stB_parts a.key
  have e1 : (St.key a).2.1 = a.vals := rfl
  have e2 : (St.key a).2.2 = a.uses := rfl
  simp only [List.flatMap_cons, List.length_append, List.map_cons, wk, e1, e2]
  omega
structure Rs (s : Sk) : Prop where
 n : -9223372036854775808 <= s.1 /\ s.1 <= 9223372036854775807
 u : ∀ n ∈ s.2.2, -9223372036854775808 <= n /\ n <= 9223372036854775807
 t : ∀ t ∈ s.2.1, rng t
end Go.Proofs.YtmbmchbninlhpaaGreatDoor
namespace Go.Proofs.YtmbmchbninlhpaaGreatDoor
open Go.RowKit

def pX (R : List Ck) (S : List Sk) : Int := if fK R = 0 then (if S.all wOk = true then 0 else 63) else fK R
def pG (R : List Ck) (S : List Sk) : List Int := if pX R S = 0 then be 4 (R.length : Int) ++ R.flatMap cB ++ (be 4 (S.length : Int) ++ S.flatMap stB) else []
theorem pErr_pX (R : List Cm) (S : List St) : pErr R S = pX (R.map Cm.key) (S.map St.key) := by
 unfold pErr pX
 rw [fErr_fK, List.all_map]
 rfl
theorem pB_pG (R : List Cm) (S : List St) : (if pErr R S = 0 then pB R S else []) = pG (R.map Cm.key) (S.map St.key) := by
 rw [pErr_pX]
 unfold pG pB
 rw [List.length_map, List.length_map, List.flatMap_map, List.flatMap_map]
 rfl
theorem pG_byt (R : List Ck) (S : List Sk) : byt (pG R S) := by
 unfold pG
 split
 ·rename_i h
  unfold pX at h
  have h1 : fK R = 0 := by
   by_cases h1 : fK R = 0
   ·exact h1
   ·rw [if_neg h1] at h; exact absurd h h1
  rw [if_pos h1] at h
  have h2 : S.all wOk = true := by
   by_cases h2 : S.all wOk = true
   ·exact h2
   ·rw [if_neg h2] at h; exact absurd h (by decide)
  refine ((be_byt _ _).app (flat_byt9 fun c hc => kB_byt9 (fK_zero h1 c hc))).app ((be_byt _ _).app (flat_byt9 fun s hs => ?_))
  have h3 := List.all_eq_true.1 h2 s hs
  obtain ⟨h4, -, -⟩ := wOk_iff.1 h3
  unfold stB
  exact (be_byt _ _).app (((be_byt _ _).app (flat_byt9 fun t ht => tB_byt (knd_con (h4 t ht)))).app ((be_byt _ _).app (flat_byt9 fun n _ => be_byt _ _)))
 ·intro x hx; simp at hx
theorem PR8.two {B : Nat} {X : World} {x : Pk} {u : Value} (h : PR8 B X x u) : ∃ rv sv R S, u = .agg #[rv, sv] /\ CsP X rv R /\ SsP X sv S /\ R.map Cm.key = x.1 /\ S.map St.key = x.2 := by
 obtain ⟨rv, sv, R, S, rfl, hR, hS, hoc, hos⟩ := h
 exact ⟨rv, sv, R, S, rfl, hoc.csp7, hos.ssp7, hR, hS⟩
set_option maxRecDepth 20000 in
set_option maxHeartbeats 1600000 in
theorem codecProofs_any (R : List Cm) (S : List St) (rv sv u : Value) (B : List Int) (w : World) (hR : CsP w rv R) (hS : SsP w sv S) (hco : ∀ c ∈ R, COpen w c) (hlt : ∀ c ∈ R, (Ck.terms c.key).length <= 2000000) (hwf : ∀ c ∈ R, ∀ t ∈ Ck.terms c.key, t.var = true -> (Lit.int .i64 t.n).wf = true) (hlR : R.length <= 2000000) (hwS : wk (S.map St.key) <= 2000000)
  (hts : ∀ s ∈ S, TsP w s.vv s.vals) (hns : ∀ s ∈ S, NsP w s.uv s.uses) (hb : Br w u B) (hlB : B.length <= 2000000) (hB : BehOk w) :
  Calls Tryz.prog 3 #[.agg #[rv, sv], u] w fun e w' => e = .returned (.bool true) /\ Below w.heap.size w w' := by
 obtain ⟨av, acap, rfl⟩ : ∃ a cap, u = .slice a B.length cap := by obtain ⟨-, a, cap, e, -⟩ := hb; exact ⟨a, cap, e⟩
 have hlS : S.length <= 2000000 := by have := wk_len (S.map St.key); rw [List.length_map] at this; omega
 have hsz : ∀ s ∈ S, s.vals.length <= 2000000 /\ s.uses.length <= 2000000 := fun s hs => by
  have h9 : s.vals.length + s.uses.length + 1 <= wk (S.map St.key) := wk_mem (List.mem_map.2 ⟨s, hs, rfl⟩ : s.key ∈ S.map St.key)
  omega
 have HBY : Hid (∀ X : World, Below w.heap.size w X -> Calls Tryz.prog 5 #[.slice none 0 0, .agg #[rv, sv], .slice av B.length acap] X fun e w' => YesNo e /\ Below X.heap.size X w') := fun X hX => beyond_any [] R S _ rv sv av B.length acap X ⟨Or.inl ⟨rfl, rfl⟩, fun c hc => by simp at hc⟩ (hR.later hX) (hS.later hX) (by simp) (by omega) (by omega)
 have HLD : Hid (∀ X : World, Below w.heap.size w X -> Calls Tryz.prog 6 #[.agg #[rv, sv]] X (LPP X R S)) := fun X hX => lendProof_any R S rv sv X (hR.later hX) (hS.later hX) (fun c hc => ((hco c hc).lp (by have := hlt c hc; omega)).later hX) (hB.later hX) (by omega) (by omega) (fun s hs => by have := hsz s hs; omega) (fun s hs => (hts s hs).later hX) (fun s hs => (hns s hs).later hX)
 have hkm : ∀ {d : Cm} {LB : List Cm}, LB.map Cm.key = R.map Cm.key -> d ∈ LB -> ∃ c ∈ R, c.key = d.key := fun {d LB} hk hd => by
  have : d.key ∈ R.map Cm.key := by rw [<- hk]; exact List.mem_map_of_mem hd
  obtain ⟨c, hc, e⟩ := List.mem_map.1 this
  exact ⟨c, hc, e⟩
 have hbd : ∀ (LB : List Cm) (LS : List St), LB.map Cm.key = R.map Cm.key -> LS.map St.key = S.map St.key -> fErr LB = 0 -> LS.all wSt = true -> (LB.flatMap cBm).length + (LS.flatMap sBm).length <= 90000000000 := fun LB LS h1 h2 h3 h4 => by
  have g1 := flatC_le9 (l := LB) (fErr_zero h3)
  have g2 := flatS_le (l := LS) (fun s hs => List.all_eq_true.1 h4 s hs)
  rw [h2] at g2
  have g3 : LB.length = R.length := by have := congrArg List.length h1; simpa using this
  omega
 have HCW : Hid (∀ (X : World) (ru su : Value) (LB : List Cm) (LS : List St) (base : Nat), LB.map Cm.key = R.map Cm.key -> LS.map St.key = S.map St.key -> LentC X base ru LB -> LentS X base su LS -> Calls Tryz.prog 7 #[.agg #[ru, su]] X fun e w' => ∃ v', e = .returned (.tuple #[v', .int .i64 (pX (R.map Cm.key) (S.map St.key))]) /\ Bn w' v' (pG (R.map Cm.key) (S.map St.key)) /\ Below X.heap.size X w') := fun X ru su LB LS base hk hq hn hm => by
  have h1 : LB.length = R.length := by have := congrArg List.length hk; simpa using this
  have h2 : LS.length = S.length := by have := congrArg List.length hq; simpa using this
  have := proofW_any LB LS ru su X (hn.csp fun d hd => by obtain ⟨c, hc, e⟩ := hkm hk hd; have := hlt c hc; rw [<- e]; omega) (hm.ssp fun s hs => by
   have : s.key ∈ S.map St.key := by rw [<- hq]; exact List.mem_map_of_mem hs
   have h9 : s.vals.length + s.uses.length + 1 <= wk (S.map St.key) := wk_mem this
   omega) (fun d hd => by
   obtain ⟨c, hc, e2⟩ := hkm hk hd
   refine ⟨fun t ht hv => ?_, ?_⟩
   ·rw [key_terms, <- e2] at ht
    exact hwf c hc t ht hv
   ·rw [key_terms, <- e2]
    have := hlt c hc
    omega) (by omega) (by omega) (hbd LB LS hk hq)
  rw [pB_pG, pErr_pX, hk, hq] at this
  exact this
 have HRW : Hid (∀ X : World, Below w.heap.size w X -> Calls Tryz.prog 8 #[.agg #[rv, sv]] X fun e w' => ∃ v', e = .returned (.tuple #[v', .int .i64 (pX (R.map Cm.key) (S.map St.key))]) /\ Bn w' v' (pG (R.map Cm.key) (S.map St.key)) /\ Below X.heap.size X w') := fun X hX => by
  have := rproofB_any R S rv sv X (hR.later hX) (hS.later hX) (fun c hc => (hco c hc).okp.laterS hX) hlR hlS (fun j hj => by
   have g2 := flatS_le (l := S.take j) hj
   have g3 : wk ((S.take j).map St.key) <= wk (S.map St.key) := by
    have := wk_app ((S.take j).map St.key) ((S.drop j).map St.key)
    rw [<- List.map_append, List.take_append_drop] at this
    omega
   omega)
  rw [pB_pG, pErr_pX] at this
  exact this
 have HKP : Hid (∀ (X : World) (ru su : Value) (LB : List Cm) (LS : List St) (base : Nat), Below w.heap.size w X -> LB.map Cm.key = R.map Cm.key -> LS.map St.key = S.map St.key -> LentC X base ru LB -> LentS X base su LS -> Calls Tryz.prog 9 #[.agg #[ru, su], .agg #[rv, sv]] X fun e w' => e = .returned (.bool true) /\ Below X.heap.size X w') := fun X ru su LB LS base hX hk hq hn hm => keptProof_any R LB S LS rv sv ru su base X (hR.later hX) (hS.later hX) (fun c hc => by have := hlt c hc; omega) (hB.later hX) (by omega) (by omega) (fun s hs => by have := hsz s hs; omega) hn hk hm hq
 have HLB : Hid (∀ X, Below w.heap.size w X -> Calls Tryz.prog 10 #[.slice av B.length acap] X fun e w' => ∃ y, e = .returned y /\ LentB w' X.heap.size y B /\ Below X.heap.size X w') := fun X hX => lendB_any _ B X (hb.later hX) hlB
 have HKB : Hid (∀ (X : World) (y : Value) (base : Nat), Below w.heap.size w X -> LentB X base y B -> Calls Tryz.prog 14 #[y, .slice av B.length acap] X fun e w' => e = .returned (.bool true) /\ Below X.heap.size X w') := fun X y base hX hy => keptB_any y _ B base X hy (hb.later hX) hlB
 have HRA : Hid (∀ (X : World) (y : Value) (base : Nat), LentB X base y B -> Calls Tryz.prog 11 #[y] X (RP8 X (rWhole rProof B))) := fun X y base hy => readProof_any y B X (hy.bh hb.1 (by omega))
 have HQA : Hid (∀ X, Below w.heap.size w X -> Calls Tryz.prog 12 #[.slice av B.length acap] X (RQP X (rWhole rProof B))) := fun X hX => rreadProof_any _ B X (hb.later hX)
 have HF : Hid (∀ X, Calls Tryz.prog 15 #[] X fun e w' => e = .returned (.bool true) /\ Below X.heap.size X w') := fun X => first6_any X
 have HLEN : Hid (∀ K, rWhole rProof B = .ok K -> K.1.length <= 1000000000000000000 /\ K.2.length <= 1000000000000000000) := fun K e => by
  obtain ⟨-, -, -, h4, h5⟩ := iv_wproof hb.1 e
  omega
 generalize hPX : pX (R.map Cm.key) (S.map St.key) = EE at HCW HRW
 generalize hPG : pG (R.map Cm.key) (S.map St.key) = GG at HCW HRW
 have hgb : byt GG := by rw [<- hPG]; exact pG_byt _ _
 clear hPX hPG
 obtain ⟨ra, rc, rfl⟩ := hR.form
 obtain ⟨sa, sc, rfl⟩ := hS.form
 obtain ⟨rn, hrn⟩ : ∃ n, n = R.length := ⟨_, rfl⟩
 obtain ⟨sn, hsn⟩ : ∃ n, n = S.length := ⟨_, rfl⟩
 rw [<- hrn, <- hsn] at HBY HLD HRW HKP ⊢
 have HP0 : Hid (CBlk (w.alloc (.cells #[.slice ra rn rc, .slice sa sn sc] 25)) w.heap.size #[.slice ra rn rc, .slice sa sn sc] 25) := CBlk.new _ _ _
 have HW0 : Hid (Below w.heap.size w (w.alloc (.cells #[.slice ra rn rc, .slice sa sn sc] 25))) := below1 _ _
 clear hR hS hco hlt hwf hb hB hkm hrn hsn hbd hts hns hsz
 go_enter Tryz.func3, Tryz.ntmps3
 go_upto_region 1 with fail
 revert HP0 HW0
 generalize w.alloc (.cells #[.slice ra rn rc, .slice sa sn sc] 25) = W0
 intro HP0 HW0
 obtain ⟨p0, p1⟩ := ctwo HP0.out
 go_upto_if 17 with (go_at_call 5; refine (HBY.out _ HW0.out).mono ?_; clear HBY; rintro e w1 ⟨⟨bb, rfl⟩, hb⟩; have HP1 : Hid (CBlk w1 w.heap.size #[.slice ra rn rc, .slice sa sn sc] 25) := HP0.out.later hb; have HW1 : Hid (Below w.heap.size w w1) := below_step HW0.out hb; clear hb p0 p1)
 clear HP0 HW0
 cases bb
 case true =>
  go_wp2
  go_ret
  exact ⟨rfl, HW1.out⟩
 obtain ⟨p0, p1⟩ := ctwo HP1.out
 go_upto_region 4 with (go_at_call 6; refine (HLD.out _ HW1.out).mono ?_; clear HLD; rintro e w2 ⟨ru, su, LB, LS, rfl, hkb, hks, hlb, hls, hb⟩; obtain ⟨ba, bn, bc, rfl⟩ : ∃ a n c, ru = .slice a n c := (by obtain ⟨⟨g, cap, e, -⟩, -⟩ := hlb; exact ⟨_, _, _, e⟩); obtain ⟨da, dn, dc, rfl⟩ : ∃ a n c, su = .slice a n c := (by obtain ⟨⟨g, cap, e, -⟩, -⟩ := hls; exact ⟨_, _, _, e⟩); have HKB' : Hid (LB.map Cm.key = R.map Cm.key) := hkb; have HKS : Hid (LS.map St.key = S.map St.key) := hks; have HX3 : Hid (LentC (w2.alloc (.cells #[.slice ba bn bc, .slice da dn dc] 25)) w1.heap.size (.slice ba bn bc) LB) := hlb.later (below1 _ _); have HY3 : Hid (LentS (w2.alloc (.cells #[.slice ba bn bc, .slice da dn dc] 25)) w1.heap.size (.slice da dn dc) LS) := hls.later (below1 _ _); have HP3 : Hid (CBlk (w2.alloc (.cells #[.slice ba bn bc, .slice da dn dc] 25)) w.heap.size #[.slice ra rn rc, .slice sa sn sc] 25) := (HP1.out.later hb).later (below1 _ _); have HO3 : Hid (CBlk (w2.alloc (.cells #[.slice ba bn bc, .slice da dn dc] 25)) w2.heap.size #[.slice ba bn bc, .slice da dn dc] 25) := CBlk.new _ _ _; have HW3 : Hid (Below w.heap.size w (w2.alloc (.cells #[.slice ba bn bc, .slice da dn dc] 25))) := below_step (below_step HW1.out hb) (below1 _ _); clear hb hkb hks hlb hls p0 p1)
 clear HP1 HW1
 revert HX3 HY3 HP3 HO3 HW3
 generalize w2.alloc (.cells #[.slice ba bn bc, .slice da dn dc] 25) = W3
 generalize w2.heap.size = G3
 generalize w1.heap.size = B3
 intro HX3 HY3 HP3 HO3 HW3
 obtain ⟨p0, p1⟩ := ctwo HO3.out
 go_upto_region 5 with (go_at_call 7; refine (HCW.out _ _ _ LB LS _ HKB'.out HKS.out HX3.out HY3.out).mono ?_; clear HCW; rintro e w4 ⟨v4, rfl, hbn, hb⟩; obtain ⟨xa, xn, xc, rfl⟩ := hbn.form7; have HB4 : Hid (Bn w4 (.slice xa xn xc) GG) := hbn; have HX4 : Hid (LentC w4 B3 (.slice ba bn bc) LB) := HX3.out.later hb; have HY4 : Hid (LentS w4 B3 (.slice da dn dc) LS) := HY3.out.later hb; have HP4 : Hid (CBlk w4 w.heap.size #[.slice ra rn rc, .slice sa sn sc] 25) := HP3.out.later hb; have HO4 : Hid (CBlk w4 G3 #[.slice ba bn bc, .slice da dn dc] 25) := HO3.out.later hb; have HW4 : Hid (Below w.heap.size w w4) := below_step HW3.out hb; clear hb hbn p0 p1)
 clear HX3 HY3 HP3 HO3 HW3
 obtain ⟨p0, p1⟩ := ctwo HP4.out
 go_upto_region 6 with (go_at_call 8; refine (HRW.out _ HW4.out).mono ?_; clear HRW; rintro e w5 ⟨v5, rfl, hbn, hb⟩; obtain ⟨za, zn, zc, rfl⟩ := hbn.form7; have HB5 : Hid (Bn w5 (.slice xa xn xc) GG) := HB4.out.later hb; have HZ5 : Hid (Bn w5 (.slice za zn zc) GG) := hbn; have HX5 : Hid (LentC w5 B3 (.slice ba bn bc) LB) := HX4.out.later hb; have HY5 : Hid (LentS w5 B3 (.slice da dn dc) LS) := HY4.out.later hb; have HP5 : Hid (CBlk w5 w.heap.size #[.slice ra rn rc, .slice sa sn sc] 25) := HP4.out.later hb; have HO5 : Hid (CBlk w5 G3 #[.slice ba bn bc, .slice da dn dc] 25) := HO4.out.later hb; have HW5 : Hid (Below w.heap.size w w5) := below_step HW4.out hb; clear hb hbn p0 p1)
 clear HX4 HY4 HP4 HO4 HW4 HB4
 have hcv1 := conv_bn HB5.out hgb
 have hcv2 := conv_bn HZ5.out hgb
 generalize ofL GG = SS at *
 clear HB5 HZ5
 obtain ⟨p0, p1⟩ := ctwo HP5.out
 obtain ⟨q0, q1⟩ := ctwo HO5.out
 go_upto_region 8 with (go_at_call 9; refine (HKP.out _ _ _ LB LS _ HW5.out HKB'.out HKS.out HX5.out HY5.out).mono ?_; rintro e w6 ⟨rfl, hb⟩; have HW6 : Hid (Below w.heap.size w w6) := below_step HW5.out hb; clear hb hcv1 hcv2 p0 p1 q0 q1)
 clear HX5 HY5 HP5 HO5 HW5 HKB' HKS HKP hgb
 go_upto_region 10 with (first
  | (go_at_call 10; refine (HLB.out _ HW6.out).mono ?_; rintro e w7 ⟨y6, rfl, hu, hb⟩; have HU7 : Hid (LentB w7 w6.heap.size y6 B) := hu; have HW7 : Hid (Below w.heap.size w w7) := below_step HW6.out hb; obtain ⟨ga, gn, gc, rfl⟩ : ∃ a n c, y6 = .slice a n c := (by obtain ⟨g, cap, e, -⟩ := hu; exact ⟨_, _, _, e⟩); clear hu hb)
  | (go_at_call 11; refine (HRA.out _ _ _ HU7.out).mono ?_; rintro e w8 ⟨hb, x, p7, per, rfl, hpr, hm⟩; obtain ⟨mv, nv, P, Q, rfl, hP, hQ, hPK, hQK⟩ := hpr.two; obtain ⟨ma, mc, e7⟩ := hP.form; obtain ⟨mn, hmn⟩ : ∃ n, n = P.length := ⟨_, rfl⟩; rw [<- hmn] at e7; subst e7; obtain ⟨na, nc, e8⟩ := hQ.form; obtain ⟨nn, hnn⟩ : ∃ n, n = Q.length := ⟨_, rfl⟩; rw [<- hnn] at e8; subst e8; have HMP : Hid (match rWhole rProof B with | .ok y => x = y /\ per = 0 | .error d => x = ([], []) /\ per = d) := hm; have HPK : Hid (P.map Cm.key = x.1 /\ Q.map St.key = x.2) := ⟨hPK, hQK⟩; have HP8 : Hid (CsP (w8.alloc (.cells #[.slice ma mn mc, .slice na nn nc] 25)) (.slice ma mn mc) P) := hP.later (below1 _ _); have HQ8 : Hid (SsP (w8.alloc (.cells #[.slice ma mn mc, .slice na nn nc] 25)) (.slice na nn nc) Q) := hQ.later (below1 _ _); have HU8 : Hid (LentB (w8.alloc (.cells #[.slice ma mn mc, .slice na nn nc] 25)) w6.heap.size (.slice ga gn gc) B) := (HU7.out.later hb).later (below1 _ _); have HW8 : Hid (Below w.heap.size w (w8.alloc (.cells #[.slice ma mn mc, .slice na nn nc] 25))) := below_step (below_step HW7.out hb) (below1 _ _); have HO8 : Hid (CBlk (w8.alloc (.cells #[.slice ma mn mc, .slice na nn nc] 25)) w8.heap.size #[.slice ma mn mc, .slice na nn nc] 25) := CBlk.new _ _ _; clear hb hm hP hQ hPK hQK hpr hmn hnn))
 clear HU7 HW7 HW6
 revert HP8 HQ8 HU8 HW8 HO8
 generalize w8.alloc (.cells #[.slice ma mn mc, .slice na nn nc] 25) = W8
 generalize w8.heap.size = G8
 generalize w6.heap.size = B6
 intro HP8 HQ8 HU8 HW8 HO8
 go_upto_region 11 with (go_at_call 12; refine (HQA.out _ HW8.out).mono ?_; rintro e w9 ⟨hb, qv, tv, P', Q', qer, rfl, hP, hQ, hm⟩; obtain ⟨qa, qc, e7⟩ := hP.form; obtain ⟨qn, hqn⟩ : ∃ n, n = P'.length := ⟨_, rfl⟩; rw [<- hqn] at e7; subst e7; obtain ⟨ta, tc, e8⟩ := hQ.form; obtain ⟨tn, htn⟩ : ∃ n, n = Q'.length := ⟨_, rfl⟩; rw [<- htn] at e8; subst e8; have HMQ : Hid _ := hm; have HR9 : Hid (CsP (w9.alloc (.cells #[.slice qa qn qc, .slice ta tn tc] 25)) (.slice qa qn qc) P') := hP.later (below1 _ _); have HT9 : Hid (SsP (w9.alloc (.cells #[.slice qa qn qc, .slice ta tn tc] 25)) (.slice ta tn tc) Q') := hQ.later (below1 _ _); have HP9 : Hid (CsP (w9.alloc (.cells #[.slice qa qn qc, .slice ta tn tc] 25)) (.slice ma mn mc) P) := (HP8.out.later hb).later (below1 _ _); have HQ9 : Hid (SsP (w9.alloc (.cells #[.slice qa qn qc, .slice ta tn tc] 25)) (.slice na nn nc) Q) := (HQ8.out.later hb).later (below1 _ _); have HU9 : Hid (LentB (w9.alloc (.cells #[.slice qa qn qc, .slice ta tn tc] 25)) B6 (.slice ga gn gc) B) := (HU8.out.later hb).later (below1 _ _); have HO9 : Hid (CBlk (w9.alloc (.cells #[.slice qa qn qc, .slice ta tn tc] 25)) G8 #[.slice ma mn mc, .slice na nn nc] 25) := (HO8.out.later hb).later (below1 _ _); have HN9 : Hid (CBlk (w9.alloc (.cells #[.slice qa qn qc, .slice ta tn tc] 25)) w9.heap.size #[.slice qa qn qc, .slice ta tn tc] 25) := CBlk.new _ _ _; have HW9 : Hid (Below w.heap.size w (w9.alloc (.cells #[.slice qa qn qc, .slice ta tn tc] 25))) := below_step (below_step HW8.out hb) (below1 _ _); clear hb hm hP hQ hqn htn)
 clear HP8 HQ8 HU8 HW8 HO8
 revert HR9 HT9 HP9 HQ9 HU9 HO9 HN9 HW9
 generalize w9.alloc (.cells #[.slice qa qn qc, .slice ta tn tc] 25) = W9
 generalize w9.heap.size = G9
 intro HR9 HT9 HP9 HQ9 HU9 HO9 HN9 HW9
 obtain ⟨he, hs, rfl, hl1, hl2⟩ : P.map Cm.key = P'.map Cm.key /\ Q.map St.key = Q'.map St.key /\ qer = per /\ P.length <= 1000000000000000000 /\ Q.length <= 1000000000000000000 := by
  have h1 := HMP.out
  have h2 := HMQ.out
  obtain ⟨h3, h4⟩ := HPK.out
  cases hr : rWhole rProof B with
  | ok b =>
   rw [hr] at h1 h2
   obtain ⟨rfl, h5⟩ := h1
   obtain ⟨h6, h7⟩ := h2
   subst h6
   obtain ⟨h8, h9⟩ := HLEN.out _ hr
   simp only at h3 h4 h8 h9
   refine ⟨h3, h4, h7.trans h5.symm, ?_, ?_⟩
   ·have := congrArg List.length h3; simp only [List.length_map] at this h8; omega
   ·have := congrArg List.length h4; simp only [List.length_map] at this h9; omega
  | error d =>
   rw [hr] at h1 h2
   obtain ⟨rfl, h5⟩ := h1
   obtain ⟨h6, h7⟩ := h2
   simp only [Prod.mk.injEq] at h6
   have h8 : P = [] := List.map_eq_nil_iff.1 h3
   have h9 : Q = [] := List.map_eq_nil_iff.1 h4
   refine ⟨by rw [h3, h6.1], by rw [h4, h6.2], h7.trans h5.symm, by rw [h8]; simp, by rw [h9]; simp⟩
 have HS9 : Hid (Calls Tryz.prog 13 #[.agg #[.slice ma mn mc, .slice na nn nc], .agg #[.slice qa qn qc, .slice ta tn tc]] W9 fun e w' => e = .returned (.bool true) /\ Below W9.heap.size W9 w') := sameProof_yes P P' Q Q' _ _ _ _ W9 HP9.out HR9.out HQ9.out HT9.out he hs hl1 hl2
 clear HMP HMQ he hs hl1 hl2 HPK HP9 HQ9 HR9 HT9
 obtain ⟨p0, p1⟩ := ctwo HO9.out
 obtain ⟨q0, q1⟩ := ctwo HN9.out
 go_wp2_with (first
  | (go_at_call 13; refine HS9.out.mono ?_; rintro e w10 ⟨rfl, hb⟩; have HW10 : Hid (Below w.heap.size w w10) := below_step HW9.out hb; have HU10 : Hid (LentB w10 B6 (.slice ga gn gc) B) := HU9.out.later hb; clear hb p0 p1 q0 q1)
  | (go_at_call 14; refine (HKB.out _ _ _ HW10.out HU10.out).mono ?_; rintro e w11 ⟨rfl, hb⟩; have HW11 : Hid (Below w.heap.size w w11) := below_step HW10.out hb; clear hb)
  | (go_at_call 15; refine (HF.out _).mono ?_; rintro e w12 ⟨rfl, hb⟩; have HW12 : Hid (Below w.heap.size w w12) := below_step HW11.out hb; clear hb))
 go_ret
 exact ⟨rfl, HW12.out⟩
end Go.Proofs.YtmbmchbninlhpaaGreatDoor
