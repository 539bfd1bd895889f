import Derived.Test.YtcejljehjhlonaaGreatDoorCP1
import Derived.Test.YtcejljehjhlonaaGreatDoorHC11
import Derived.Test.YtcejljehjhlonaaGreatDoorHC5
import Derived.Test.YtcejljehjhlonaaGreatDoorCV7
import Derived.Test.YtcejljehjhlonaaGreatDoorSD20
import Derived.Test.YtcejljehjhlonaaGreatDoorCV6
import Derived.Test.YtcejljehjhlonaaGreatDoorCards
import Derived.Test.YtcejljehjhlonaaGreatDoorTie
import Derived.SevenTiedAt
import Derived.Deep.DeepHandedRow
import Derived.JoinedCond
namespace Go.Proofs.YtcejljehjhlonaaGreatDoor
open Go.RowKit

def wk : List Sk -> Nat
 | [] => 0
 | s :: l => 1 + s.2.1.length + s.2.2.length + wk l
theorem wk_mem {l : List Sk} {s : Sk} (h : s ∈ l) : s.2.1.length + s.2.2.length + 1 <= wk l := by
 induction l with
 | nil => simp at h
 | cons a l ih =>
  unfold wk
  rcases List.mem_cons.1 h with rfl | h
  ·omega
  ·have := ih h; omega
theorem wk_len (l : List Sk) : l.length <= wk l := by
 induction l with
 | nil => simp
 | cons a l ih => simp only [List.length_cons, wk]; omega
end Go.Proofs.YtcejljehjhlonaaGreatDoor
namespace Go.Proofs.YtcejljehjhlonaaGreatDoor
open Go.RowKit

def flH : Except Int (List At) -> List At | .ok F => F | .error _ => []
def erH : Except Int (List At) -> Int | .ok _ => 0 | .error c => c
theorem cph_two {w w' : World} {r : Except Int (List At)} {e : Ending} (h : CPH w r e w') : ∃ v FL, e = .returned (.tuple #[v, .int .i64 (erH r)]) /\ As w' v FL /\ fsts FL = flH r /\ Below w.heap.size w w' := by
 obtain ⟨hb, h⟩ := h
 cases r with
 | ok F =>
  obtain ⟨v, FL, rfl, hA, hF⟩ := h
  exact ⟨v, FL, rfl, hA, hF, hb⟩
 | error c =>
  have h : e = .returned (.tuple #[.slice none 0 0, .int .i64 c]) := h
  subst h
  exact ⟨_, [], rfl, ⟨none, 0, rfl, by simp, Or.inl rfl, fun x hx => by cases hx⟩, rfl, hb⟩
set_option maxRecDepth 20000 in
set_option maxHeartbeats 1600000 in
theorem checkConcludes_any (R : List Cm) (S : List St) (rv sv : Value) (w : World) (hR : CsP w rv R) (hS : SsP w sv S) (hco : ∀ c ∈ R, COpen w c) (hlt : ∀ c ∈ R, (Ck.terms c.key).length <= 2000000) (hwf : ∀ c ∈ R, ∀ t ∈ Ck.terms c.key, t.var = true -> (Lit.int .i64 t.n).wf = true) (hsz : ∀ c ∈ R, szK c.key) (hlR : R.length <= 2000000) (hwS : wk (S.map St.key) <= 2000000)
  (hts : ∀ s ∈ S, TsP w s.vv s.vals) (hns : ∀ s ∈ S, NsP w s.uv s.uses) (hB : BehOk w) :
  Calls Tryz.prog 3 #[.agg #[rv, sv]] w fun e w' => e = .returned (.bool true) /\ Below w.heap.size w w' := by
 have hlS : S.length <= 2000000 := by have := wk_len (S.map St.key); rw [List.length_map] at this; omega
 have hsw : ∀ s ∈ S, s.vals.length <= 2000000 /\ s.uses.length <= 2000000 := fun s hs => by
  have h9 : s.vals.length + s.uses.length + 1 <= wk (S.map St.key) := wk_mem (List.mem_map.2 ⟨s, hs, rfl⟩ : s.key ∈ S.map St.key)
  omega
 have HLD : Hid (∀ X : World, Below w.heap.size w X -> Calls Tryz.prog 5 #[.agg #[rv, sv]] X (LPP X R S)) := fun X hX => lendProof_any R S rv sv X (hR.later hX) (hS.later hX) (fun c hc => ((hco c hc).lp (by have := hlt c hc; omega)).later hX) (hB.later hX) (by omega) (by omega) (fun s hs => by have := hsw s hs; omega) (fun s hs => (hts s hs).later hX) (fun s hs => (hns s hs).later hX)
 have hkm : ∀ {d : Cm} {LB : List Cm}, LB.map Cm.key = R.map Cm.key -> d ∈ LB -> ∃ c ∈ R, c.key = d.key := fun {d LB} hk hd => by
  have : d.key ∈ R.map Cm.key := by rw [<- hk]; exact List.mem_map_of_mem hd
  obtain ⟨c, hc, e⟩ := List.mem_map.1 this
  exact ⟨c, hc, e⟩
 have HCC : Hid (∀ (X : World) (ru su : Value) (LB : List Cm) (LS : List St) (base : Nat), LB.map Cm.key = R.map Cm.key -> LS.map St.key = S.map St.key -> LentC X base ru LB -> LentS X base su LS -> Calls Tryz.prog 6 #[.agg #[ru, su]] X (CPH X (conH (R.map Cm.key) (S.map St.key)))) := fun X ru su LB LS base hk hq hn hm => by
  have := conclude_any LB LS ru su X (hn.csp fun d hd => by obtain ⟨c, hc, e⟩ := hkm hk hd; have := hlt c hc; rw [<- e]; omega) (hm.ssp fun s hs => by
   have : s.key ∈ S.map St.key := by rw [<- hq]; exact List.mem_map_of_mem hs
   have h9 : s.vals.length + s.uses.length + 1 <= wk (S.map St.key) := wk_mem this
   omega) (fun d hd => by
   obtain ⟨c, hc, e2⟩ := hkm hk hd
   refine ⟨fun t ht hv => ?_, ?_⟩
   ·rw [key_terms, <- e2] at ht
    exact hwf c hc t ht hv
   ·rw [key_terms, <- e2]
    have := hlt c hc
    omega)
  rwa [hk, hq] at this
 have HRC : Hid (∀ X : World, Below w.heap.size w X -> Calls Tryz.prog 7 #[.agg #[rv, sv]] X (CPH X (conH (R.map Cm.key) (S.map St.key)))) := fun X hX => rconclude_any R S rv sv X (hR.later hX) (hS.later hX) (fun c hc => (hco c hc).okp.laterH hX) hsz
 have HKP : Hid (∀ (X : World) (ru su : Value) (LB : List Cm) (LS : List St) (base : Nat), Below w.heap.size w X -> LB.map Cm.key = R.map Cm.key -> LS.map St.key = S.map St.key -> LentC X base ru LB -> LentS X base su LS -> Calls Tryz.prog 9 #[.agg #[ru, su], .agg #[rv, sv]] X fun e w' => e = .returned (.bool true) /\ Below X.heap.size X w') := fun X ru su LB LS base hX hk hq hn hm => keptProof_any R LB S LS rv sv ru su base X (hR.later hX) (hS.later hX) (fun c hc => by have := hlt c hc; omega) (hB.later hX) (by omega) (by omega) (fun s hs => by have := hsw s hs; omega) hn hk hm hq
 have HF : Hid (∀ X, Calls Tryz.prog 10 #[] X fun e w' => e = .returned (.bool true) /\ Below X.heap.size X w') := fun X => first12_any X
 generalize conH (R.map Cm.key) (S.map St.key) = r at HCC HRC
 obtain ⟨ra, rc, rfl⟩ := hR.form
 obtain ⟨sa, sc, rfl⟩ := hS.form
 obtain ⟨rn, hrn⟩ : ∃ n, n = R.length := ⟨_, rfl⟩
 obtain ⟨sn, hsn⟩ : ∃ n, n = S.length := ⟨_, rfl⟩
 rw [<- hrn, <- hsn] at HLD HRC HKP ⊢
 have HP0 : Hid (CBlk (w.alloc (.cells #[.slice ra rn rc, .slice sa sn sc] 25)) w.heap.size #[.slice ra rn rc, .slice sa sn sc] 25) := CBlk.new _ _ _
 have HW0 : Hid (Below w.heap.size w (w.alloc (.cells #[.slice ra rn rc, .slice sa sn sc] 25))) := below1 _ _
 clear hR hS hco hlt hwf hB hkm hrn hsn hts hns hsz hsw
 go_enter Tryz.func3, Tryz.ntmps3
 go_upto_region 1 with fail
 revert HP0 HW0
 generalize w.alloc (.cells #[.slice ra rn rc, .slice sa sn sc] 25) = W0
 intro HP0 HW0
 obtain ⟨p0, p1⟩ := ctwo HP0.out
 go_upto_region 2 with (go_at_call 5; refine (HLD.out _ HW0.out).mono ?_; clear HLD; rintro e w2 ⟨ru, su, LB, LS, rfl, hkb, hks, hlb, hls, hb⟩; obtain ⟨ba, bn, bc, rfl⟩ : ∃ a n c, ru = .slice a n c := (by obtain ⟨⟨g, cap, e, -⟩, -⟩ := hlb; exact ⟨_, _, _, e⟩); obtain ⟨da, dn, dc, rfl⟩ : ∃ a n c, su = .slice a n c := (by obtain ⟨⟨g, cap, e, -⟩, -⟩ := hls; exact ⟨_, _, _, e⟩); have HKB' : Hid (LB.map Cm.key = R.map Cm.key) := hkb; have HKS : Hid (LS.map St.key = S.map St.key) := hks; have HX3 : Hid (LentC (w2.alloc (.cells #[.slice ba bn bc, .slice da dn dc] 25)) W0.heap.size (.slice ba bn bc) LB) := hlb.later (below1 _ _); have HY3 : Hid (LentS (w2.alloc (.cells #[.slice ba bn bc, .slice da dn dc] 25)) W0.heap.size (.slice da dn dc) LS) := hls.later (below1 _ _); have HP3 : Hid (CBlk (w2.alloc (.cells #[.slice ba bn bc, .slice da dn dc] 25)) w.heap.size #[.slice ra rn rc, .slice sa sn sc] 25) := (HP0.out.later hb).later (below1 _ _); have HO3 : Hid (CBlk (w2.alloc (.cells #[.slice ba bn bc, .slice da dn dc] 25)) w2.heap.size #[.slice ba bn bc, .slice da dn dc] 25) := CBlk.new _ _ _; have HW3 : Hid (Below w.heap.size w (w2.alloc (.cells #[.slice ba bn bc, .slice da dn dc] 25))) := below_step (below_step HW0.out hb) (below1 _ _); clear hb hkb hks hlb hls p0 p1)
 clear HP0 HW0
 revert HX3 HY3 HP3 HO3 HW3
 generalize w2.alloc (.cells #[.slice ba bn bc, .slice da dn dc] 25) = W3
 generalize w2.heap.size = G3
 generalize W0.heap.size = B3
 intro HX3 HY3 HP3 HO3 HW3
 obtain ⟨p0, p1⟩ := ctwo HO3.out
 go_upto_region 3 with (go_at_call 6; refine (HCC.out _ _ _ LB LS _ HKB'.out HKS.out HX3.out HY3.out).mono ?_; clear HCC; rintro e w4 hc; obtain ⟨v4, FL, rfl, hA, hfl, hb⟩ := cph_two hc; clear hc; obtain ⟨xa, xn, xc, rfl⟩ : ∃ a n c, v4 = .slice a n c := (by obtain ⟨a, c, e, -⟩ := hA; exact ⟨_, _, _, e⟩); have HA4 : Hid (As w4 (.slice xa xn xc) FL) := hA; have HFL : Hid (fsts FL = flH r) := hfl; have HX4 : Hid (LentC w4 B3 (.slice ba bn bc) LB) := HX3.out.later hb; have HY4 : Hid (LentS w4 B3 (.slice da dn dc) LS) := HY3.out.later hb; have HP4 : Hid (CBlk w4 w.heap.size #[.slice ra rn rc, .slice sa sn sc] 25) := HP3.out.later hb; have HO4 : Hid (CBlk w4 G3 #[.slice ba bn bc, .slice da dn dc] 25) := HO3.out.later hb; have HW4 : Hid (Below w.heap.size w w4) := below_step HW3.out hb; clear hb hA hfl p0 p1)
 clear HX3 HY3 HP3 HO3 HW3
 obtain ⟨p0, p1⟩ := ctwo HP4.out
 go_upto_region 4 with (go_at_call 7; refine (HRC.out _ HW4.out).mono ?_; clear HRC; rintro e w5 hc; obtain ⟨v5, FL', rfl, hA, hfl, hb⟩ := cph_two hc; clear hc; obtain ⟨za, zn, zc, rfl⟩ : ∃ a n c, v5 = .slice a n c := (by obtain ⟨a, c, e, -⟩ := hA; exact ⟨_, _, _, e⟩); have HS5 : Hid (Calls Tryz.prog 8 #[.slice xa xn xc, .slice za zn zc] w5 fun e w' => e = .returned (.bool true) /\ Below w5.heap.size w5 w') := (by have := sameAtoms_any FL FL' _ _ w5 (HA4.out.later hb) hA; rwa [decide_eq_true (HFL.out.trans hfl.symm)] at this); have HX5 : Hid (LentC w5 B3 (.slice ba bn bc) LB) := HX4.out.later hb; have HY5 : Hid (LentS w5 B3 (.slice da dn dc) LS) := HY4.out.later hb; have HP5 : Hid (CBlk w5 w.heap.size #[.slice ra rn rc, .slice sa sn sc] 25) := HP4.out.later hb; have HO5 : Hid (CBlk w5 G3 #[.slice ba bn bc, .slice da dn dc] 25) := HO4.out.later hb; have HW5 : Hid (Below w.heap.size w w5) := below_step HW4.out hb; clear hb hA hfl p0 p1)
 clear HX4 HY4 HP4 HO4 HW4 HA4 HFL
 generalize erH r = er
 go_wp2_with (first
  | (go_at_call 8; refine HS5.out.mono ?_; rintro e w6 ⟨rfl, hb⟩; have HX6 : Hid (LentC w6 B3 (.slice ba bn bc) LB) := HX5.out.later hb; have HY6 : Hid (LentS w6 B3 (.slice da dn dc) LS) := HY5.out.later hb; have HP6 : Hid (CBlk w6 w.heap.size #[.slice ra rn rc, .slice sa sn sc] 25) := HP5.out.later hb; have HO6 : Hid (CBlk w6 G3 #[.slice ba bn bc, .slice da dn dc] 25) := HO5.out.later hb; have HW6 : Hid (Below w.heap.size w w6) := below_step HW5.out hb; clear hb; obtain ⟨p0, p1⟩ := ctwo HP6.out; obtain ⟨q0, q1⟩ := ctwo HO6.out)
  | (go_at_call 9; refine (HKP.out _ _ _ LB LS _ HW6.out HKB'.out HKS.out HX6.out HY6.out).mono ?_; rintro e w7 ⟨rfl, hb⟩; have HW7 : Hid (Below w.heap.size w w7) := below_step HW6.out hb; clear hb p0 p1 q0 q1)
  | (go_at_call 10; refine (HF.out _).mono ?_; rintro e w8 ⟨rfl, hb⟩; have HW8 : Hid (Below w.heap.size w w8) := below_step HW7.out hb; clear hb))
 go_ret
 exact ⟨rfl, HW8.out⟩
end Go.Proofs.YtcejljehjhlonaaGreatDoor
namespace Go.Proofs.YtcejljehjhlonaaGreatDoor
open Go.ChangeShapes Go.WideShapes Go.ChangeAt Go.RowKit Go.Joins Go.Deep

def zS : St := ⟨0, [], .slice none 0 0, [], .slice none 0 0⟩
structure SOpen (W : World) (s : St) : Prop where
 ok : s.ok W
 t : TsP W s.vv s.vals
 u : NsP W s.uv s.uses
theorem wk_sum {H : Type} (g : Nat -> Sk) (D : Nat -> DataW H) : ∀ l : List Nat, (∀ i ∈ l, wk [g i] <= Rows.uptoBulk (D i)) -> wk (l.map g) <= Rows.uptoBulkAll (l.map D)
 | [], _ => by simp [wk]
 | i :: l, h => by
  have h1 := h i (by simp)
  have h2 := wk_sum g D l fun j hj => h j (by simp [hj])
  simp only [List.map_cons, wk, Rows.uptoBulkAll] at h1 h2 ⊢
  omega
theorem Tryz.cellsStep8 : Tryz.prog.cellsOf 48 = 3 := by kernel_rfl
theorem Tryz.cellsInts8 : Tryz.prog.cellsOf 46 = 1 := by kernel_rfl
theorem Tryz.cellsClauses8 : Tryz.prog.cellsOf 22 = 1 := by kernel_rfl
theorem Tryz.cellsSteps8 : Tryz.prog.cellsOf 23 = 1 := by kernel_rfl
theorem Tryz.cellsProof8 : Tryz.prog.cellsOf 25 = 2 := by kernel_rfl
theorem Tryz.bytesInt8 : Tryz.prog.bytesOf 3 = 8 := by kernel_rfl
theorem open_nsZ {H : Type} {enc : TypeId × Value -> H} {W : World} {base fuel : Nat} {spare : Nat -> Bool} {held : Bool} {cs : List Value} {x : DataW H × List MemPlace}
  (h : DataW.trod enc Tryz.prog W base spare held fuel 46 cs = some x) (hw : ∀ n ∈ x.1.weights Tryz.prog 46, n <= reachBytes) : ∃ v l, cs = [v] /\ (Ns W v l /\ NsP W v l) /\ l.length <= Rows.uptoBulk x.1 /\ ∀ n ∈ l, (Lit.int .i64 n).wf = true := by
 rcases open_ints Tryz.underlying46 Tryz.underlying3 Tryz.cellsInt h with ⟨rfl, -⟩ | ⟨a, n, c, zs, rfl, -, hl, hcm, hzl, hx, hcell, hwf⟩
 ·exact ⟨_, [], rfl, ⟨⟨none, 0, rfl, by simp, Or.inl rfl⟩, Or.inl ⟨rfl, rfl⟩⟩, by simp, fun n hn => by simp at hn⟩
 ·have hz : n <= zs.length := by rw [hzl]; split <;> omega
  have htl : (zs.take n).length = n := by rw [List.length_take]; omega
  have hlen : n < 1000000000000000000 := by
   have e : x.1 = .slice (lits .i64 (zs.take n)) (lits .i64 (zs.drop n)) := congrArg Prod.fst hx
   have := hw (((lits (H := H) .i64 (zs.take n)).length + (lits (H := H) .i64 (zs.drop n)).length) * Tryz.prog.bytesOf 3) (by rw [e]; simp [DataW.weights, Tryz.underlying46])
   rw [Tryz.bytesInt8] at this
   simp only [lits, List.length_map, reachBytes, htl] at this
   omega
  have hcore : zs.take n = [] ∨ ∃ b o, a = ⟨b, o, none⟩ /\ b < W.heap.size /\ ∀ (i : Nat) (x : Int), (zs.take n)[i]? = some x -> W.cell? ⟨b, o + i, none⟩ = some (.int .i64 x) := by
   rcases Nat.eq_zero_or_pos n with h0 | h0
   ·left; rw [h0]; rfl
   ·right
    obtain ⟨b, o, spot⟩ := a
    have c0 := hcell 0 (by omega)
    have hspot : spot = none := by simpa [Addr.add] using World.cell?_spot c0
    subst hspot
    refine ⟨b, o, rfl, World.block_lt_of_cell? W _ c0, fun i x hi => ?_⟩
    have hil : i < n := by have := (List.getElem?_eq_some_iff.1 hi).1; omega
    have hc := hcell i (by omega)
    rw [Addr.add_mid] at hc
    rw [hc]
    rw [List.getElem?_take_of_lt hil] at hi
    simp [List.getD, hi]
  refine ⟨_, zs.take n, rfl, ⟨⟨some a, c, by rw [htl], by omega, ?_⟩, Or.inr ⟨a, c, by rw [htl], hcore⟩⟩, ?_, fun m hm => hwf m (List.mem_of_mem_take hm)⟩
  ·rcases hcore with h9 | ⟨b, o, rfl, h9⟩
   ·exact Or.inl h9
   ·exact Or.inr ⟨b, o, rfl, h9⟩
  ·have e : x.1 = .slice (lits .i64 (zs.take n)) (lits .i64 (zs.drop n)) := congrArg Prod.fst hx
   rw [e]
   have := bulkN_slice (lits (H := H) .i64 (zs.take n)) (lits .i64 (zs.drop n))
   have hll : (lits (H := H) .i64 (zs.take n)).length = n := by unfold lits; rw [List.length_map]; exact htl
   omega
set_option maxRecDepth 100000 in
theorem step_of_cellsZ {H : Type} {enc : TypeId × Value -> H} {W : World} {base : Nat} {spare : Nat -> Bool} {held : Bool} {fuel : Nat} {cs : List Value} {x : DataW H × List MemPlace}
  (hf : DataW.trod enc Tryz.prog W base spare held fuel 48 cs = some x) (hl : cs.length = 3) (hw : ∀ n ∈ x.1.weights Tryz.prog 48, n <= reachBytes) : ∃ c : St, cs = c.csl /\ SOpen W c /\ wk [c.key] <= Rows.uptoBulk x.1 := by
 obtain ⟨c0, c1, c2, rfl⟩ := list3 hl
 obtain ⟨y0, y1, y2, n, hd, -, h0, h1, h2⟩ := trod_struct3 Tryz.underlying48 hf
 rw [Tryz.cellsInt] at h0
 rw [Tryz.cellsTerms] at h1
 rw [Tryz.cellsInts8] at h2
 obtain ⟨k, e0, -, -⟩ := DataW.trod_int Tryz.underlying3 h0
 obtain ⟨vb, lb, e1, hb, b1, -⟩ := open_termsP h1 (fun m hm => by
  refine hw m ?_
  rw [hd, DataW.weights, Tryz.underlying48]
  exact DataW.weights_mem_each (j := 1) rfl rfl m hm)
 obtain ⟨vt, lt, e2, ht, b2, -⟩ := open_nsZ h2 (fun m hm => by
  refine hw m ?_
  rw [hd, DataW.weights, Tryz.underlying48]
  exact DataW.weights_mem_each (j := 2) rfl rfl m hm)
 simp at e0 e1 e2
 subst e0 e1 e2
 refine ⟨⟨k, lb, _, lt, _⟩, rfl, ⟨⟨hb.1, ht.1⟩, hb.2, ht.2⟩, ?_⟩
 rw [hd]
 have := bulkN_pos y0.1
 simp only [wk, St.key, Rows.uptoBulk, Rows.uptoBulkAll]
 omega
set_option maxRecDepth 100000 in
theorem open_stepsZ {H : Type} {enc : TypeId × Value -> H} {W : World} {base : Nat} {spare : Nat -> Bool} {held : Bool} {fuel : Nat} {cs : List Value} {x : DataW H × List MemPlace}
  (h : DataW.trod enc Tryz.prog W base spare held fuel 23 cs = some x) (hw : ∀ n ∈ x.1.weights Tryz.prog 23, n <= reachBytes) : ∃ v l, cs = [v] /\ SsP W v l /\ wk (l.map St.key) <= Rows.uptoBulk x.1 /\ ∀ c ∈ l, SOpen W c := by
 rcases open_slice Tryz.underlying23 h with ⟨rfl, -⟩ | ⟨a, len, cap, m, n, D, Pl, rfl, hba, hlc, hcm, hm, hx, hel⟩
 ·exact ⟨_, [], rfl, ⟨Or.inl ⟨rfl, rfl⟩, fun c hc => by cases hc⟩, by simp [wk], fun c hc => by cases hc⟩
 ·rw [Tryz.cellsStep8] at hel
  have hlm : len <= m := by rw [hm]; split <;> omega
  have key : ∀ i : Nat, ∃ c : St, i < len -> (∀ k u, c.csl[k]? = some u -> W.cell? ((a.add (i * 3)).add k) = some u) /\ SOpen W c /\ wk [c.key] <= Rows.uptoBulk (D i) := fun i => by
   by_cases hi : i < len
   ·obtain ⟨cs', h1, h2⟩ := hel i (by omega)
    obtain ⟨-, hl, hc⟩ := World.cells?_some h1
    obtain ⟨c, rfl, hok, hbk⟩ := step_of_cellsZ h2 hl (fun n hn => hw n (by
     rw [hx, DataW.weights, Tryz.underlying23]
     exact List.mem_cons_of_mem _ (List.mem_append.2 (Or.inl (weights_mem_all hn (List.mem_map.2 ⟨i, List.mem_range.2 hi, rfl⟩))))))
    refine ⟨c, fun _ => ⟨fun k u hu => ?_, hok, hbk⟩⟩
    rw [<- hu]
    exact hc k (List.getElem?_eq_some_iff.1 hu).1
   ·exact ⟨zS, fun h => absurd h hi⟩
  obtain ⟨f, hf⟩ := Classical.axiomOfChoice key
  refine ⟨_, (List.range len).map f, rfl, ⟨Or.inr ⟨a, cap, by simp, ?_⟩, fun c hc => ?_⟩, ?_, fun c hc => ?_⟩
  ·rcases Nat.eq_zero_or_pos len with h0 | h0
   ·left; subst h0; rfl
   ·right
    obtain ⟨b, off, spot⟩ := a
    have h00 := (hf 0 h0).1 0 _ rfl
    have hspot : spot = none := by simpa [Addr.add] using World.cell?_spot h00
    subst hspot
    refine ⟨b, off, rfl, ?_, fun i c hc k u hu => ?_⟩
    ·exact World.block_lt_of_cell? W _ (by simpa [Addr.add] using h00)
    ·have hi : i < len := by have := (List.getElem?_eq_some_iff.1 hc).1; simpa using this
     have e : c = f i := by
      rw [List.getElem?_map, List.getElem?_range hi] at hc; simpa using hc.symm
     subst e
     have := (hf i hi).1 k u hu
     rw [add_plain, add_plain] at this
     exact this
  ·obtain ⟨i, hi, rfl⟩ := List.mem_map.1 hc
   exact (hf i (List.mem_range.1 hi)).2.1.ok
  ·rw [hx]
   have h1 := wk_sum (fun i => (f i).key) D (List.range len) fun i hi => (hf i (List.mem_range.1 hi)).2.2
   rw [List.map_map]
   simp only [Rows.uptoBulk]
   have e : (St.key ∘ f) = fun i => (f i).key := rfl
   rw [e]; omega
  ·obtain ⟨i, hi, rfl⟩ := List.mem_map.1 hc
   exact (hf i (List.mem_range.1 hi)).2.1
set_option maxRecDepth 100000 in
theorem open_proofZ {H : Type} {enc : TypeId × Value -> H} {W : World} {r : Reach} {b0 base : Nat} {spare : Nat -> Bool} {held : Bool} {v : Value} {d : DataW H} {p : List MemPlace}
  (hv : Value.okWide Tryz.prog W r b0 25 v) (h : DataW.Trod enc Tryz.prog W base spare held 25 v d p) (hw : ∀ n ∈ d.weights Tryz.prog 25, n <= reachBytes) : ∃ (rv sv : Value) (R : List Cm) (S : List St), v = .agg #[rv, sv] /\ CsP W rv R /\ SsP W sv S /\ R.length <= Rows.uptoBulk d /\ wk (S.map St.key) <= Rows.uptoBulk d /\ (∀ c ∈ R, COpen W c /\ (Ck.terms c.key).length <= Rows.uptoBulk d) /\ ∀ s ∈ S, SOpen W s := by
 obtain ⟨cs, rfl, hsz⟩ := okWide_struct Tryz.underlying25 hv
 rw [Tryz.cellsProof8] at hsz
 obtain ⟨fuel, hf⟩ := h
 obtain ⟨l⟩ := cs
 obtain ⟨c0, c1, rfl⟩ : ∃ c0 c1, l = [c0, c1] := by
  match l, hsz with
  | [a, b], _ => exact ⟨a, b, rfl⟩
 obtain ⟨y0, y1, n, hd, -, h0, h1⟩ := trod_struct2 Tryz.underlying25 hf
 simp only [Prod.mk.injEq] at hd
 have hd := hd.1
 subst hd
 rw [Tryz.cellsClauses8] at h0
 rw [Tryz.cellsSteps8] at h1
 have hwe : ∀ (j : Nat) (t : TypeId) (y : DataW H), [22, 23][j]? = some t -> [y0.1, y1.1][j]? = some y -> ∀ m ∈ y.weights Tryz.prog t, m <= reachBytes := fun j t y ht hy m hm => by
  refine hw m ?_
  rw [DataW.weights, Tryz.underlying25]
  exact DataW.weights_mem_each (j := j) ht hy m hm
 obtain ⟨vb, lb, e1, ⟨hb, hco, -⟩, b1, wc⟩ := open_clausesZ h0 (hwe 0 _ _ rfl rfl)
 obtain ⟨vt, lt, e2, ht, b2, w2⟩ := open_stepsZ h1 (hwe 1 _ _ rfl rfl)
 simp [Value.cells] at e1 e2
 subst e1 e2
 refine ⟨_, _, lb, lt, rfl, hb, ht, ?_, ?_, fun c hc => ⟨hco c hc, ?_⟩, w2⟩
 ·simp only [Rows.uptoBulk, Rows.uptoBulkAll]; omega
 ·simp only [Rows.uptoBulk, Rows.uptoBulkAll]; omega
 ·have := wc c hc; simp only [Rows.uptoBulk, Rows.uptoBulkAll]; omega
end Go.Proofs.YtcejljehjhlonaaGreatDoor
namespace Go.Proofs.YtcejljehjhlonaaGreatDoor
open Go.ChangeShapes Go.WideShapes Go.ChangeAt Go.RowKit

theorem cc_met (os : Os) (args : Array Value) : laidMetH Tryz.prog [("hearsay/hearsayref03.behindTerm", Rows.laid_hearsay_hearsayref03_behindTerm), ("hearsay/hearsayref03.behindTest", Rows.laid_hearsay_hearsayref03_behindTest)] ((World.doorLaid Tryz.prog 400 os).forCall (fun _ _ => 0) ⟨#[], args, []⟩).memory :=
 laidMetH_of_parts3 (fuel := 8) (laidMet_of_run' 8 (by kernel_rfl) (by kernel_rfl)) (by kernel_rfl) (by kernel_rfl)
theorem cc_reads (os : Os) {H : Type} (enc : TypeId × Value -> H) : ∃ places, DataW.whole enc Tryz.prog ((World.doorLaid Tryz.prog 400 os).forCall (fun _ _ => 0) ⟨#[], #[.agg #[.slice none 0 0, .slice none 0 0]], []⟩).memory Tryz.f3.params.toList Rows.checkConcludesSpec.vars false #[.agg #[.slice none 0 0, .slice none 0 0]].toList 8 = some ([.agg [.nil, .nil]], [], places) :=
 ⟨[], by kernel_rfl⟩
set_option maxRecDepth 100000 in
theorem cc_lifted (os : Os) (started : os.Started) (H : Type) (enc : TypeId × Value -> H) (F : Stop.Interp) :
  ReturnsInHanded {} Tryz.checked os 3 .any ((Rows.OpenSpec.upto Rows.checkConcludesSpec).preRow enc Tryz.prog Tryz.f3 Rows.checkConcludesUptoRow.domain false Rows.checkConcludesUptoRow.laid) (((Rows.OpenSpec.upto Rows.checkConcludesSpec).at F).post enc Tryz.prog Tryz.f3 false true false false) := by
 obtain ⟨places, hx⟩ := cc_reads os enc
 refine returnsInHanded_of_row (C := Tryz.checked) (s := Rows.OpenSpec.upto Rows.checkConcludesSpec) Tryz.own started (by kernel_rfl) Tryz.func3
  (witness_row_at (enc := enc) (C := Tryz.checked) false (World.doorLaid Tryz.prog 400 os) #[.agg #[.slice none 0 0, .slice none 0 0]] rfl (by kernel_rfl) (by kernel_rfl) (by kernel_rfl)
   (OpenSpec.preRow_of_cond 8 hx (by kernel_rfl) (fun k hk => by cases hk; kernel_rfl) (by kernel_rfl) (cc_met os _))) ?_
 intro W base args ds gs before hval0 hW _ hcond hsz0 hL0 _ _
 have hk : Rows.uptoSmall H (ds ++ gs) = true := hcond _ rfl
 have hL : laidMetH Tryz.prog [("hearsay/hearsayref03.behindTerm", Rows.laid_hearsay_hearsayref03_behindTerm), ("hearsay/hearsayref03.behindTest", Rows.laid_hearsay_hearsayref03_behindTest)] W := hL0
 have hval : ∀ (j : Nat) t v, Tryz.f3.params[j]? = some t -> args[j]? = some v -> Value.okWide Tryz.prog W .any base t v := hval0
 have hsz : (DataW.weightsEach Tryz.prog (Tryz.f3.params.toList ++ Rows.checkConcludesSpec.plain.varTypes Tryz.prog) (ds ++ gs)).all (· <= reachBytes) = true := hsz0
 have hW' := hW
 obtain ⟨p, q, hA0, hV, rfl, hfz, hnd⟩ := hW
 have hA : DataW.TrodAll enc Tryz.prog W 0 (fun _ => true) true Tryz.f3.params.toList args.toList ds p := hA0
 rw [Tryz.params3] at hA hval hsz
 obtain ⟨v0, vs0, d0, ds0, p0, q0, hargs, rfl, rfl, h0, r0⟩ := trodAll_cons hA
 obtain ⟨rfl, rfl, rfl⟩ := trodAll_nil r0
 obtain rfl : args = #[v0] := by cases args; simp_all
 obtain ⟨rfl, rfl⟩ := trodVars_none hV
 have k0 := h0
 have lt0 : ∀ x ∈ p0, x.block < W.heap.size := by obtain ⟨m, hm⟩ := k0; exact DataW.trod_lt m _ _ _ hm
 have sz : ∀ n ∈ DataW.weightsEach Tryz.prog _ _, n <= reachBytes := fun n hn => by simpa using List.all_eq_true.1 hsz n hn
 obtain ⟨rv, sv, R, S, rfl, hR, hS, lR, lS, hco, hso⟩ := open_proofZ (hval 0 25 v0 rfl rfl) h0 (fun n hn => sz n (DataW.weights_mem_each (j := 0) rfl rfl n hn))
 have hbk : Rows.uptoBulkAll ([d0] ++ []) <= 1048576 := of_decide_eq_true hk
 simp only [List.cons_append, List.nil_append, Rows.uptoBulkAll] at hbk
 clear hA0 hval0
 refine (checkConcludes_any R S rv sv W hR hS (fun c hc => (hco c hc).1) (fun c hc => by have := (hco c hc).2; omega) (fun c hc t ht _ => (hco c hc).1.wf t ht) (fun c hc => szK_of (hco c hc).1.sz) (by omega) (by omega) (fun s hs => (hso s hs).t) (fun s hs => (hso s hs).u) (beh_of_laid hL)).mono fun e W' ⟨he, bel⟩ => ?_
 subst he
 exact ⟨_, rfl, _, _, _, [], _, [], hW', trodAll_mk1 (shut_bool Tryz.underlying4 _), (trodAll_cons_mk (Below.trod Tryz.laidOut (by kernel_rfl) (of_decide_eq_true (by kernel_rfl)) k0 bel lt0) trodAll_mk0), rfl, bel.frame _, fun h => by cases h⟩

theorem checkConcludes_row : Rows.CheckConcludesUptoSaid :=
 OpenClaim.holds_of_cond 3 Tryz.f3 rfl rfl rfl rfl rfl rfl rfl ⟨rfl, rfl, rfl, rfl, rfl⟩ rfl rfl rfl rfl rfl (by kernel_rfl) Tryz.func3 (by kernel_rfl)
  (of_decide_eq_true (by kernel_rfl)) (by unfold Func.isWrapper; first | (rw [if_pos (by decide +kernel)]; kernel_rfl) | (rw [if_neg (by decide +kernel)]; exact ⟨rfl, rfl⟩))
  (fun os started H enc _ F => by rw [OpenClaim.pre_eq_preRow]; exact cc_lifted os started H enc F)
theorem checkConcludes_holds : Rows.CheckConcludesUptoCardSaid :=
 Claim7.holds_tied_plain_at .later [] _ _ _ _
  checkConcludes_row (fun _ h => by cases h) (by kernel_rfl) (fun _ h => by cases h) checkConcludesUpto_row_tie rfl ⟨rfl, rfl⟩ (by kernel_rfl) rfl
  (fun f fn hf hfn => by
   obtain rfl : f = 3 := Option.some.inj ((show Tryz.prog.funcNamed "hearsay/hearsaylaw12.CheckConcludes" = some 3 by kernel_rfl).symm.trans hf) |>.symm
   obtain rfl : fn = Tryz.f3 := (Option.some.inj (Tryz.func3.symm.trans hfn)).symm
   exact ⟨by kernel_rfl, fun j t ht => by
    rw [Tryz.params3] at ht
    have h3 : t = 25 := by
     rcases j with _ | j
     ·simpa using ht.symm
     ·simp at ht
    subst h3
    exact (show Tryz.prog.wantsStandIn 25 = false by kernel_rfl)⟩)
  (by kernel_rfl)
#print axioms checkConcludes_holds
end Go.Proofs.YtcejljehjhlonaaGreatDoor
