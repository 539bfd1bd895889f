import Derived.Test.YtcejljehjhlonaaGreatDoorB5
import Derived.Test.YtcejljehjhlonaaGreatDoorCV6
import Derived.Test.YtcejljehjhlonaaGreatDoorCR11
import Derived.ProofKit
import Derived.OpenShut
import Derived.ShutString
import Derived.ChangeOld
import Derived.Below
import Derived.Lib.SmallJoins
import Derived.Deep.Slices
import Derived.Deep.Strs
import Derived.SizedLaws
import Derived.Test.YtcejljehjhlonaaGreatDoorCL2
import Derived.Test.YtcejljehjhlonaaGreatDoorMD1
import Derived.Test.YtcejljehjhlonaaGreatDoorRows
import Derived.Test.YtcejljehjhlonaaGreatDoorCP0
import Derived.Deep.DeepHandedRow
import Derived.LaidMore
namespace Go.Proofs.YtcejljehjhlonaaGreatDoor
open Go.RowKit
attribute [local go_sem ↓] Go.wp_at_zero Go.wp_at_succ

theorem ownN_cell {w : World} {base g n cap i : Nat} {l : List Int} {x : Int} (h : OwnN w base (.slice (some ⟨g, 0, none⟩) n cap) l) (hl : l.length < 1000000000000000000) (hi : l[i]? = some x) : g < w.heap.size /\ w.cell? ⟨g, i, none⟩ = some (.int .i64 x) := by
 obtain ⟨a, cp, e, -, hx⟩ := h.ns hl
 simp only [Value.slice.injEq] at e
 obtain ⟨rfl, -, -⟩ := e
 rcases hx with rfl | ⟨b, o, e, hb, hc⟩
 ·simp at hi
 ·simp at e
  obtain ⟨rfl, rfl⟩ := e
  exact ⟨hb, by simpa using hc i x hi⟩
theorem LentN.ns {X : World} {B : Nat} {v : Value} {l : List Int} (h : LentN X B v l) (hl : l.length < 900000000000000000) : Ns X v l := by
 obtain ⟨g, cap, rfl, ho⟩ := h
 refine ⟨_, _, rfl, by omega, ?_⟩
 rcases Nat.eq_zero_or_pos l.length with h0 | h0
 ·exact Or.inl (List.length_eq_zero_iff.1 h0)
 ·refine Or.inr ⟨g, 0, rfl, ?_, fun i x hx => ?_⟩
  ·exact (ownN_cell ho (by simp; omega) (i := l.length) (x := -908) (by simp)).1
  ·have := (ownN_cell ho (by simp; omega) (i := i) (x := x) (by rw [List.getElem?_append_left (List.getElem?_eq_some_iff.1 hx).1]; exact hx)).2
   simpa using this
theorem LentSt.ok {X : World} {B : Nat} {s : St} (h : LentSt B X s) (h1 : s.vals.length <= 900000000000) (h2 : s.uses.length <= 900000000000) : s.ok X := ⟨h.t.ts (by omega), h.u.ns (by omega)⟩
theorem LentS.ssp {X : World} {B : Nat} {u : Value} {LS : List St} (h : LentS X B u LS) (hs : ∀ s ∈ LS, s.vals.length <= 900000000000 /\ s.uses.length <= 900000000000) : SsP X u LS := by
 obtain ⟨⟨g, cap, rfl, ho⟩, ht⟩ := h
 refine ⟨Or.inr ⟨⟨g, 0, none⟩, cap, rfl, ?_⟩, fun d hd => (ht d hd).ok (hs d hd).1 (hs d hd).2⟩
 obtain ⟨b, o, e, hr⟩ := ho.adr (j := LS.length) (c := bS) (by simp)
 cases e
 exact Or.inr ⟨g, 0, rfl, hr.1, fun i c hc => hr.2 i c (by rw [List.getElem?_append_left (List.getElem?_eq_some_iff.1 hc).1]; exact hc)⟩
set_option maxRecDepth 20000 in
set_option maxHeartbeats 1500000 in
theorem keptProof_any (R LB : List Cm) (S LS : List St) (rv sv ru su : Value) (base : Nat) (w : World) (hR : CsP w rv R) (hS : SsP w sv S) (hs : ∀ c ∈ R, (Ck.terms c.key).length <= 4000000) (hB : BehOk w) (hl1 : R.length <= 900000000) (hl2 : S.length <= 900000000000) (hl3 : ∀ s ∈ S, s.vals.length <= 900000000000 /\ s.uses.length <= 900000000000)
  (hlb : LentC w base ru LB) (hkb : LB.map Cm.key = R.map Cm.key) (hls : LentS w base su LS) (hks : LS.map St.key = S.map St.key) :
  Calls Tryz.prog 9 #[.agg #[ru, su], .agg #[rv, sv]] w fun e w' => e = .returned (.bool true) /\ Below w.heap.size w w' := by
 have hsz : ∀ s ∈ LS, s.vals.length <= 900000000000 /\ s.uses.length <= 900000000000 := fun s hs => by
  have : s.key ∈ S.map St.key := by rw [<- hks]; exact List.mem_map.2 ⟨s, hs, rfl⟩
  obtain ⟨s', hs', e⟩ := List.mem_map.1 this
  have h3 := hl3 s' hs'
  unfold St.key at e
  simp only [Prod.mk.injEq] at e
  rw [e.2.1, e.2.2] at h3
  exact h3
 have HKC : Hid (∀ X : World, Below w.heap.size w X -> Calls Tryz.prog 15 #[ru, rv] X fun e w' => e = .returned (.bool true) /\ Below X.heap.size X w') := fun X hX => keptCs_any R LB ru rv base X (hR.later hX) hs (hlb.later hX) hkb (hB.later hX) (by omega)
 have HSS : Hid (∀ X : World, Below w.heap.size w X -> Calls Tryz.prog 22 #[su, sv] X fun e w' => e = .returned (.bool true) /\ Below X.heap.size X w') := fun X hX => sameSteps_yes LS S su sv X ((hls.ssp hsz).later hX) (hS.later hX) hks (by have := congrArg List.length hks; simp at this; omega)
 have hlen : LS.length = S.length := by have := congrArg List.length hks; simpa using this
 have HLS : Hid (∀ s ∈ LS, LentSt base w s) := hls.2
 have HS : Hid (SsP w sv S) := hS
 have HSZ : Hid (∀ s ∈ S, s.vals.length <= 900000000000 /\ s.uses.length <= 900000000000) := hl3
 have HKS : Hid (LS.map St.key = S.map St.key) := hks
 have HBH : Hid (BehOk w) := hB
 obtain ⟨ra, rc, rfl⟩ := hR.form
 obtain ⟨sa, sc, rfl⟩ := hS.form
 obtain ⟨ba, bn, bc, rfl⟩ : ∃ a n c, ru = .slice a n c := by obtain ⟨⟨g, cap, e, -⟩, -⟩ := hlb; exact ⟨_, _, _, e⟩
 obtain ⟨⟨g0, cap, rfl, ho⟩, -⟩ := hls
 have HOS : Hid (OwnS w base (.slice (some ⟨g0, 0, none⟩) (LS.length + 1) cap) (LS ++ [bS])) := ho
 have hcap : LS.length + 1 <= cap := by
  obtain ⟨g, cp, e, hc⟩ := ownS_some ho
  simp only [Value.slice.injEq] at e; omega
 obtain ⟨sn, hsn⟩ : ∃ n, n = S.length := ⟨_, rfl⟩
 rw [hlen, <- hsn] at HSS hcap ⊢
 rw [<- hsn] at HS hlen
 have HLL : Hid (LS.length = sn) := hlen
 have HSN : Hid (sn = S.length) := hsn
 have lsn : sn <= 900000000000 := by omega
 have hcap' : (sn : Int) + 1 <= (cap : Int) := by omega
 obtain ⟨rn, hrn⟩ : ∃ n, n = R.length := ⟨_, rfl⟩
 rw [<- hrn] at HKC ⊢
 have HO : Hid (CBlk ((w.alloc (.cells #[.slice ba bn bc, .slice (some ⟨g0, 0, none⟩) sn cap] 25)).alloc (.cells #[.slice ra rn rc, .slice sa sn sc] 25)) w.heap.size #[.slice ba bn bc, .slice (some ⟨g0, 0, none⟩) sn cap] 25) := (CBlk.new _ _ _).later (below1 _ _)
 have HP : Hid (CBlk ((w.alloc (.cells #[.slice ba bn bc, .slice (some ⟨g0, 0, none⟩) sn cap] 25)).alloc (.cells #[.slice ra rn rc, .slice sa sn sc] 25)) (w.heap.size + 1) #[.slice ra rn rc, .slice sa sn sc] 25) := by
  have := CBlk.new (w.alloc (.cells #[.slice ba bn bc, .slice (some ⟨g0, 0, none⟩) sn cap] 25)) #[.slice ra rn rc, .slice sa sn sc] 25
  rwa [show (w.alloc (.cells #[.slice ba bn bc, .slice (some ⟨g0, 0, none⟩) sn cap] 25)).heap.size = w.heap.size + 1 by simp] at this
 have HW : Hid (Below w.heap.size w ((w.alloc (.cells #[.slice ba bn bc, .slice (some ⟨g0, 0, none⟩) sn cap] 25)).alloc (.cells #[.slice ra rn rc, .slice sa sn sc] 25))) := below2 _ _ _
 clear hR hS hs hB hl1 hl2 hl3 hlb hkb hks hsz hlen ho hcap hsn hrn
 go_enter Tryz.func9, Tryz.ntmps9
 go_upto_region 1 with fail
 revert HO HP HW
 generalize (w.alloc (.cells #[.slice ba bn bc, .slice (some ⟨g0, 0, none⟩) sn cap] 25)).alloc (.cells #[.slice ra rn rc, .slice sa sn sc] 25) = W0
 intro HO HP HW
 obtain ⟨p0, p1⟩ := ctwo HO.out
 obtain ⟨q0, q1⟩ := ctwo HP.out
 go_upto_region 3 with (first
  | (go_at_call 15; refine (HKC.out _ HW.out).mono ?_; clear HKC; rintro e w1 ⟨rfl, hb⟩; have HO1 : Hid (CBlk w1 w.heap.size #[.slice ba bn bc, .slice (some ⟨g0, 0, none⟩) sn cap] 25) := HO.out.later hb; have HP1 : Hid (CBlk w1 (w.heap.size + 1) #[.slice ra rn rc, .slice sa sn sc] 25) := HP.out.later hb; have HW1 : Hid (Below w.heap.size w w1) := below_step HW.out hb; clear hb p0 p1 q0 q1; obtain ⟨p0, p1⟩ := ctwo HO1.out; obtain ⟨q0, q1⟩ := ctwo HP1.out)
  | (go_at_call 22; refine (HSS.out _ HW1.out).mono ?_; clear HSS; rintro e w2 ⟨rfl, hb⟩; have HO2 : Hid (CBlk w2 w.heap.size #[.slice ba bn bc, .slice (some ⟨g0, 0, none⟩) sn cap] 25) := HO1.out.later hb; have HP2 : Hid (CBlk w2 (w.heap.size + 1) #[.slice ra rn rc, .slice sa sn sc] 25) := HP1.out.later hb; have HW2 : Hid (Below w.heap.size w w2) := below_step HW1.out hb; clear hb p0 p1 q0 q1))
 clear HO HP HW HO1 HP1 HW1
 go_wp2_with fail
 go_loopg [5] sn (fun g i wr => ∃ j : Nat, j + g = sn /\ i = .int .i64 (j : Int) /\ Below w2.heap.size w2 wr)
 case atStart => exact ⟨0, by omega, rfl, Below.refl _ _⟩
 case round =>
  obtain ⟨j, hj, rfl, hb⟩ := hrel
  have HBr : Hid (Below w2.heap.size w2 wr) := hb
  have HO : Hid (CBlk wr w.heap.size #[.slice ba bn bc, .slice (some ⟨g0, 0, none⟩) sn cap] 25) := HO2.out.later hb
  have HP : Hid (CBlk wr (w.heap.size + 1) #[.slice ra rn rc, .slice sa sn sc] 25) := HP2.out.later hb
  have HWr : Hid (Below w.heap.size w wr) := below_step HW2.out hb
  clear hb
  obtain ⟨b', o', eg, hrow⟩ := (HOS.out.later HWr.out).adr (j := LS.length) (c := bS) (by simp)
  cases eg
  have HROW : Hid (SRow wr g0 0 (LS ++ [bS])) := hrow
  clear hrow
  obtain ⟨p0, p1⟩ := ctwo HO.out
  obtain ⟨q0, q1⟩ := ctwo HP.out
  cases gk with
  | succ g =>
   have i1 : (j : Int) < (sn : Int) := by omega
   have i0 : (0 : Int) <= (j : Int) := by omega
   obtain ⟨x, hx⟩ : ∃ t, LS[j]? = some t := ⟨_, List.getElem?_eq_getElem (by have := HLL.out; omega)⟩
   obtain ⟨y, hy⟩ : ∃ u, S[j]? = some u := ⟨_, List.getElem?_eq_getElem (by have := HSN.out; omega)⟩
   have hxy : x.key = y.key := by
    have e : (LS.map St.key)[j]? = (S.map St.key)[j]? := by rw [HKS.out]
    rw [List.getElem?_map, List.getElem?_map, hx, hy] at e
    exact Option.some.inj e
   have mx := List.mem_of_getElem? hx
   have my := List.mem_of_getElem? hy
   obtain ⟨sb, so, rfl, hzy, hrwy, hoky⟩ := (HS.out.later HWr.out).at_ hy
   have hsvx := HROW.out.three (j := j) (c := x) (by rw [List.getElem?_append_left (List.getElem?_eq_some_iff.1 hx).1]; exact hx)
   simp only [Nat.zero_add] at hsvx
   have hzx := HROW.out.1
   have hsvy := hrwy.three hy
   have hlx := (HLS.out x mx).later HWr.out
   have hys := HSZ.out y my
   have HKT0 := fun (Y : World) (hY : Below wr.heap.size wr Y) => keptT_any y.vals x.vv y.vv base Y (hoky.t.later hY) (by have := hlx.t.later hY; rw [show x.vals = y.vals from congrArg (fun k : Sk => k.2.1) hxy] at this; exact this) (HBH.out.later (below_step HWr.out hY))
   obtain ⟨⟨y1, y3, ey⟩, ⟨y4, y6, ey2⟩, -, -⟩ := hoky.shape
   have hlu := hlx.u
   rw [show x.uses = y.uses from congrArg (fun k : Sk => k.2.2) hxy] at hlu
   obtain ⟨ng, nc, eu, hou⟩ := hlu
   obtain ⟨tg, tc, et, -⟩ := hlx.t
   rw [show x.vals = y.vals from congrArg (fun k : Sk => k.2.1) hxy] at et
   have hnc := ownN_cell hou (by simp; omega) (i := y.uses.length) (x := -908) (by simp)
   have hncap : y.uses.length + 1 <= nc := by
    obtain ⟨g, cp, e, hc⟩ := ownN_some hou
    simp only [Value.slice.injEq] at e; omega
   clear hx hy mx my hxy hrwy HROW hlx hou hoky
   obtain ⟨xr, xl, xv, xu, xw⟩ := x
   obtain ⟨yr, yl, yv, yu, yw⟩ := y
   simp only at hsvx hsvy HKT0 ey ey2 eu et hnc hncap hys
   obtain ⟨ln, hln⟩ : ∃ n, n = yl.length := ⟨_, rfl⟩
   obtain ⟨lu, hlu⟩ : ∃ n, n = yu.length := ⟨_, rfl⟩
   rw [<- hln] at ey et
   rw [<- hlu] at ey2 eu hnc hncap
   subst ey ey2 eu et
   have HKT : Hid (∀ Y : World, Below wr.heap.size wr Y -> Calls Tryz.prog 23 #[.slice (some ⟨tg, 0, none⟩) ln tc, .slice y1 ln y3] Y fun e w' => e = .returned (.bool true) /\ Below Y.heap.size Y w') := HKT0
   have HXZ : Hid (g0 < wr.heap.size /\ wr.cell? ⟨g0, j * 3 + 1, none⟩ = some (.slice (some ⟨tg, 0, none⟩) ln tc) /\ wr.cell? ⟨g0, j * 3 + 2, none⟩ = some (.slice (some ⟨ng, 0, none⟩) lu nc)) := ⟨hzx, hsvx.2.1, hsvx.2.2⟩
   have HYZ : Hid (sb < wr.heap.size /\ wr.cell? ⟨sb, so + j * 3 + 1, none⟩ = some (.slice y1 ln y3) /\ wr.cell? ⟨sb, so + j * 3 + 2, none⟩ = some (.slice y4 lu y6)) := ⟨hzy, hsvy.2.1, hsvy.2.2⟩
   have HNC : Hid (ng < wr.heap.size /\ wr.cell? ⟨ng, lu, none⟩ = some (.int .i64 (-908))) := hnc
   have n1 : (lu : Int) + 1 <= (nc : Int) := by omega
   have n0 : (0 : Int) <= (lu : Int) := by omega
   have n2 : (lu : Int) < (lu : Int) + 1 := by omega
   have lul : lu <= 900000000000 := by omega
   have x2 := HXZ.out.2.2
   have y2 := HYZ.out.2.2
   clear hsvx hsvy hzx hzy HKT0 hnc hncap hys hln hlu
   go_upto_region 8 with fail
   clear x2 y2 p0 p1 q0 q1
   refine wp_region_held_drew (S := fun w' => Below wr.heap.size wr w') (by kernel_rfl) (Below.refl _ _).drew (fun hH => ?_)
   revert hH
   generalize wr.drew = V
   intro hH
   refine wTk 0 (.pointer (some ⟨w.heap.size, 1, none⟩)) rfl (by kernel_rfl) (fun _ _ _ h => h) (Or.inl ⟨by rfl, fun w' _ => by go_simp⟩) hH ?_
   simp only [wA8, wB8, wC8, wD8]
   refine wTk 1 (.slice (some ⟨g0, 0, none⟩) sn cap) rfl (by kernel_rfl) (fun _ _ _ h => h) (Or.inl ⟨by rfl, fun w' h => by obtain ⟨q0, q1⟩ := ctwo (HO.out.later h); clear h; go_simp⟩) hH ?_
   simp only [wA8, wB8, wC8, wD8]
   refine wTk 2 (.int .i64 (j : Int)) rfl (by kernel_rfl) (fun _ _ _ h => h) (Or.inl ⟨by rfl, fun w' _ => by go_simp⟩) hH ?_
   simp only [wA8, wB8, wC8, wD8]
   refine wTk 3 (.pointer (some ⟨g0, j * 3, none⟩)) rfl (by kernel_rfl) (fun _ _ _ h => h) (Or.inl ⟨by rfl, fun w' _ => by go_simp⟩) hH ?_
   simp only [wA8, wB8, wC8, wD8]
   refine wTk 4 (.pointer (some ⟨g0, j * 3 + 1, none⟩)) rfl (by kernel_rfl) (fun _ _ _ h => h) (Or.inl ⟨by rfl, fun w' _ => by go_simp⟩) hH ?_
   simp only [wA8, wB8, wC8, wD8]
   refine wTk 5 (.slice (some ⟨tg, 0, none⟩) ln tc) rfl (by kernel_rfl) (fun _ _ _ h => h) (Or.inl ⟨by rfl, fun w' h => by have y1 := cell_step h HXZ.out.1 HXZ.out.2.1; clear h; go_simp⟩) hH ?_
   simp only [wA8, wB8, wC8, wD8]
   refine wTk 6 (.pointer (some ⟨w.heap.size + 1, 1, none⟩)) rfl (by kernel_rfl) (fun _ _ _ h => h) (Or.inl ⟨by rfl, fun w' _ => by go_simp⟩) hH ?_
   simp only [wA8, wB8, wC8, wD8]
   refine wTk 7 (.slice (some ⟨sb, so, none⟩) sn sc) rfl (by kernel_rfl) (fun _ _ _ h => h) (Or.inl ⟨by rfl, fun w' h => by obtain ⟨q0, q1⟩ := ctwo (HP.out.later h); clear h; go_simp⟩) hH ?_
   simp only [wA8, wB8, wC8, wD8]
   refine wTk 8 (.int .i64 (j : Int)) rfl (by kernel_rfl) (fun _ _ _ h => h) (Or.inl ⟨by rfl, fun w' _ => by go_simp⟩) hH ?_
   simp only [wA8, wB8, wC8, wD8]
   refine wTk 9 (.pointer (some ⟨sb, so + j * 3, none⟩)) rfl (by kernel_rfl) (fun _ _ _ h => h) (Or.inl ⟨by rfl, fun w' _ => by go_simp⟩) hH ?_
   simp only [wA8, wB8, wC8, wD8]
   refine wTk 10 (.pointer (some ⟨sb, so + j * 3 + 1, none⟩)) rfl (by kernel_rfl) (fun _ _ _ h => h) (Or.inl ⟨by rfl, fun w' _ => by go_simp⟩) hH ?_
   simp only [wA8, wB8, wC8, wD8]
   refine wTk 11 (.slice y1 ln y3) rfl (by kernel_rfl) (fun _ _ _ h => h) (Or.inl ⟨by rfl, fun w' h => by have y1 := cell_step h HYZ.out.1 HYZ.out.2.1; clear h; go_simp⟩) hH ?_
   simp only [wA8, wB8, wC8, wD8]
   refine wRd 12 (by kernel_rfl) rfl (fun K hK => ?_)
   go_simp
   refine (HKT.out _ hH).mono ?_
   rintro e V1 ⟨rfl, hb⟩
   refine hK.out _ _ (below_step hH hb) (fun hH => ?_)
   clear hK K
   clear hb
   refine wTk 13 (.bool false) rfl (by kernel_rfl) (fun _ _ _ h => h) (Or.inl ⟨by rfl, fun w' _ => by go_simp⟩) hH ?_
   simp only [wA8, wB8, wC8, wD8]
   refine wTk 14 (.bool false) rfl (by kernel_rfl) (fun _ _ _ h => h) (Or.inl ⟨by rfl, fun w' _ => by go_simp⟩) hH ?_
   simp only [wA8, wB8, wC8, wD8]
   refine wTk 15 (.slice (some ⟨ng, 0, none⟩) (lu + 1) nc) rfl (by kernel_rfl) (fun _ _ _ h => h) (Or.inl ⟨by rfl, fun w' _ => by go_simp⟩) hH ?_
   simp only [wA8, wB8, wC8, wD8]
   refine wTk 16 (.int .i64 (lu : Int)) rfl (by kernel_rfl) (fun _ _ _ h => h) (Or.inl ⟨by rfl, fun w' _ => by go_simp⟩) hH ?_
   simp only [wA8, wB8, wC8, wD8]
   refine wTk 17 (.pointer (some ⟨ng, lu, none⟩)) rfl (by kernel_rfl) (fun _ _ _ h => h) (Or.inl ⟨by rfl, fun w' _ => by go_simp⟩) hH ?_
   simp only [wA8, wB8, wC8, wD8]
   refine wTk 18 (.int .i64 (-908)) rfl (by kernel_rfl) (fun _ _ _ h => h) (Or.inl ⟨by rfl, fun w' h => by have y1 := cell_step h HNC.out.1 HNC.out.2; clear h; go_simp⟩) hH ?_
   simp only [wA8, wB8, wC8, wD8]
   refine wTk 19 (.bool false) rfl (by kernel_rfl) (fun _ _ _ h => h) (Or.inl ⟨by rfl, fun w' _ => by go_simp⟩) hH ?_
   simp only [wA8, wB8, wC8, wD8]
   refine wTk 20 (.bool false) rfl (by kernel_rfl) (fun _ _ _ h => h) (Or.inl ⟨by rfl, fun w' _ => by go_simp⟩) hH ?_
   simp only [wA8, wB8, wC8, wD8]
   refine wpAnyH_done (by kernel_rfl) ?_ _
   have HV : Hid (Below wr.heap.size wr V1) := hH
   clear hH
   go_wp2
   go_roundg g
   case measure => omega
   case rel => exact ⟨j + 1, by omega, by go_num, below_step HBr.out HV.out⟩
  | zero =>
   obtain rfl : j = sn := by omega
   have hz : ¬ ((j : Int) < (j : Int)) := by omega
   have i1 : (j : Int) < (j : Int) + 1 := by omega
   have i0 : (0 : Int) <= (j : Int) := by omega
   have hsv := HROW.out.three (j := j) (c := bS) (by rw [<- HLL.out]; simp)
   simp only [Nat.zero_add, bS] at hsv
   obtain ⟨s0, s1, s2⟩ := hsv
   clear HROW
   go_wp2
   go_ret
   exact ⟨rfl, HWr.out⟩
end Go.Proofs.YtcejljehjhlonaaGreatDoor
namespace Go.Proofs.YtcejljehjhlonaaGreatDoor
open Go.ChangeShapes Go.WideShapes Go.ChangeAt Go.RowKit Go.Joins
open Go.ChangeMaps (open_string shut_string)

theorem Tryz.own : ownKnob Tryz.prog.godebug = none := by kernel_rfl
theorem Tryz.laidOut : laidOutB Tryz.prog = true := by kernel_rfl
theorem Tryz.cellsTerm : Tryz.prog.cellsOf 36 = 3 := by kernel_rfl

end Go.Proofs.YtcejljehjhlonaaGreatDoor
namespace Go.Proofs.YtcejljehjhlonaaGreatDoor
open Go.ChangeShapes Go.WideShapes Go.ChangeAt Go.RowKit Go.Joins Go.Deep

theorem Tryz.cellsAtom : Tryz.prog.cellsOf 39 = 5 := by kernel_rfl
theorem Tryz.cellsInt : Tryz.prog.cellsOf 3 = 1 := by kernel_rfl
theorem Tryz.cellsString : Tryz.prog.cellsOf 9 = 1 := by kernel_rfl
theorem Tryz.cellsTerms : Tryz.prog.cellsOf 37 = 1 := by kernel_rfl
theorem Tryz.bytesTerm : Tryz.prog.bytesOf 36 = 32 := by kernel_rfl
theorem list3 {α : Type} {l : List α} (h : l.length = 3) : ∃ a b c, l = [a, b, c] := by
 match l, h with
 | [a, b, c], _ => exact ⟨a, b, c, rfl⟩
theorem list5 {α : Type} {l : List α} (h : l.length = 5) : ∃ a b c d e, l = [a, b, c, d, e] := by
 match l, h with
 | [a, b, c, d, e], _ => exact ⟨a, b, c, d, e, rfl⟩
end Go.Proofs.YtcejljehjhlonaaGreatDoor
namespace Go.Proofs.YtcejljehjhlonaaGreatDoor
open Go.ChangeShapes Go.WideShapes Go.ChangeAt Go.RowKit Go.Joins Go.Deep

theorem weights_mem_all {H : Type} {P : Program} {e : TypeId} {d : DataW H} {n : Nat} (hn : n ∈ d.weights P e) : ∀ {ds : List (DataW H)}, d ∈ ds -> n ∈ DataW.weightsAll P e ds
 | x :: r, h => by
  rw [DataW.weightsAll, List.mem_append]
  rcases List.mem_cons.1 h with rfl | h
  ·exact Or.inl hn
  ·exact Or.inr (weights_mem_all hn h)
theorem Tryz.cellsTest3 : Tryz.prog.cellsOf 73 = 7 := by kernel_rfl
theorem Tryz.cellsClause : Tryz.prog.cellsOf 60 = 7 := by kernel_rfl
theorem Tryz.cellsAtoms : Tryz.prog.cellsOf 27 = 1 := by kernel_rfl
theorem Tryz.cellsTests : Tryz.prog.cellsOf 58 = 1 := by kernel_rfl
theorem Tryz.bytesAtom : Tryz.prog.bytesOf 39 = 72 := by kernel_rfl
theorem Tryz.bytesTest : Tryz.prog.bytesOf 73 = 72 := by kernel_rfl
theorem clist7 {α : Type} {l : List α} (h : l.length = 7) : ∃ a b c d e f g, l = [a, b, c, d, e, f, g] := by
 match l, h with
 | [a, b, c, d, e, f, g], _ => exact ⟨a, b, c, d, e, f, g, rfl⟩
end Go.Proofs.YtcejljehjhlonaaGreatDoor
namespace Go.Proofs.YtcejljehjhlonaaGreatDoor
open Go.ChangeShapes Go.WideShapes Go.ChangeAt Go.RowKit Go.Joins Go.Deep

def WfT (t : Tm) : Prop := (Lit.int .i64 t.n).wf = true
theorem bulkN_pos {H : Type} (d : DataW H) : 1 <= Rows.uptoBulk d := by
 cases d with
 | lit l => cases l <;> simp [Rows.uptoBulk]
 | _ => simp [Rows.uptoBulk]
theorem bulkN_len {H : Type} (l : List (DataW H)) : l.length <= Rows.uptoBulkAll l := by
 induction l with
 | nil => simp
 | cons d r ih => have := bulkN_pos d; simp only [Rows.uptoBulkAll, List.length_cons]; omega
theorem bulkN_slice {H : Type} (l r : List (DataW H)) : l.length <= Rows.uptoBulk (.slice l r) := by
 have := bulkN_len l; simp only [Rows.uptoBulk]; omega
theorem bulkN_sum {H α : Type} (g : Nat -> List α) (D : Nat -> DataW H) : ∀ l : List Nat, (∀ i ∈ l, (g i).length <= Rows.uptoBulk (D i)) -> (l.flatMap g).length <= Rows.uptoBulkAll (l.map D)
 | [], _ => by simp
 | i :: l, h => by
  have h1 := h i (by simp)
  have h2 := bulkN_sum g D l fun j hj => h j (by simp [hj])
  rw [List.flatMap_cons, List.length_append, List.map_cons]
  simp only [Rows.uptoBulkAll]
  omega
set_option maxRecDepth 100000 in
theorem term_of_cellsB {H : Type} {enc : TypeId × Value -> H} {W : World} {base : Nat} {spare : Nat -> Bool} {held : Bool} {fuel : Nat} {cs : List Value} {x : DataW H × List MemPlace}
  (h : DataW.trod enc Tryz.prog W base spare held fuel 36 cs = some x) (hl : cs.length = 3) : ∃ t : Tm, cs = [.int .i64 t.k, .int .i64 t.n, .string t.s] /\ WfT t := by
 obtain ⟨c0, c1, c2, rfl⟩ := list3 hl
 obtain ⟨y0, y1, y2, n, -, -, h0, h1, h2⟩ := trod_struct3 Tryz.underlying36 h
 rw [Tryz.cellsInt] at h0 h1
 rw [Tryz.cellsString] at h2
 obtain ⟨k, e0, -, -⟩ := DataW.trod_int Tryz.underlying3 h0
 obtain ⟨m, e1, -, hwf⟩ := DataW.trod_int Tryz.underlying3 h1
 obtain ⟨s, e2, -, -⟩ := DataW.trod_string Tryz.underlying9 h2
 simp at e0 e1 e2
 subst e0 e1 e2
 exact ⟨⟨k, m, s⟩, rfl, hwf⟩
end Go.Proofs.YtcejljehjhlonaaGreatDoor
namespace Go.Proofs.YtcejljehjhlonaaGreatDoor
open Go.ChangeShapes Go.WideShapes Go.ChangeAt Go.RowKit Go.Joins Go.Deep

set_option maxRecDepth 100000 in
theorem open_termsP {H : Type} {enc : TypeId × Value -> H} {W : World} {base : Nat} {spare : Nat -> Bool} {held : Bool} {fuel : Nat} {cs : List Value} {x : DataW H × List MemPlace}
  (h : DataW.trod enc Tryz.prog W base spare held fuel 37 cs = some x) (hw : ∀ n ∈ x.1.weights Tryz.prog 37, n <= reachBytes) : ∃ v l, cs = [v] /\ (Ts W v l /\ TsP W v l) /\ l.length <= Rows.uptoBulk x.1 /\ ∀ t ∈ l, WfT t := by
 rcases open_slice Tryz.underlying37 h with ⟨rfl, -⟩ | ⟨a, len, cap, m, n, D, Pl, rfl, hba, hlc, hcm, hm, hx, hel⟩
 ·exact ⟨_, [], rfl, ⟨⟨none, 0, rfl, by simp, Or.inl rfl⟩, Or.inl ⟨rfl, rfl⟩⟩, by simp, fun t ht => by cases ht⟩
 ·have hlen : len < 1000000000000000000 := by
   have := hw ((((List.range len).map D).length + ((List.range (m - len)).map fun j => D (len + j)).length) * Tryz.prog.bytesOf 36) (by rw [hx]; simp [DataW.weights, Tryz.underlying37])
   rw [Tryz.bytesTerm] at this
   simp only [List.length_map, List.length_range, reachBytes] at this
   omega
  rw [Tryz.cellsTerm] at hel
  have hlm : len <= m := by rw [hm]; split <;> omega
  have key : ∀ i : Nat, ∃ t : Tm, i < len -> WfT t /\ W.cell? (a.add (i * 3)) = some (.int .i64 t.k) /\ W.cell? ((a.add (i * 3)).add 1) = some (.int .i64 t.n) /\ W.cell? ((a.add (i * 3)).add 2) = some (.string t.s) := fun i => by
   by_cases hi : i < len
   ·obtain ⟨cs', h1, h2⟩ := hel i (by omega)
    obtain ⟨-, hl, hc⟩ := World.cells?_some h1
    obtain ⟨t, rfl, hwf⟩ := term_of_cellsB h2 hl
    exact ⟨t, fun _ => ⟨hwf, hc 0 (by omega), hc 1 (by omega), hc 2 (by omega)⟩⟩
   ·exact ⟨zt, fun h => absurd h hi⟩
  obtain ⟨f, hf⟩ := Classical.axiomOfChoice key
  have hgo : (List.range len).map f = [] ∨ ∃ b o, a = ⟨b, o, none⟩ /\ TRow W b o ((List.range len).map f) := by
   rcases Nat.eq_zero_or_pos len with h0 | h0
   ·left; subst h0; rfl
   ·right
    obtain ⟨b, off, spot⟩ := a
    have hspot : spot = none := by simpa [Addr.add] using World.cell?_spot (hf 0 h0).2.1
    subst hspot
    refine ⟨b, off, rfl, ?_, fun i t ht => ?_⟩
    ·exact World.block_lt_of_cell? W _ (by have := (hf 0 h0).2.1; simpa [Addr.add] using this)
    ·have hi : i < len := by have := (List.getElem?_eq_some_iff.1 ht).1; simpa using this
     have e : t = f i := by
      rw [List.getElem?_map, List.getElem?_range hi] at ht; simpa using ht.symm
     subst e
     have := (hf i hi).2
     rw [add_plain, add_plain, add_plain] at this
     exact this
  refine ⟨_, (List.range len).map f, rfl, ⟨⟨some a, cap, by simp, by simpa using hlen, ?_⟩, Or.inr ⟨a, cap, by simp, hgo⟩⟩, by rw [hx]; simpa using bulkN_slice ((List.range len).map D) _, fun t ht => by obtain ⟨i, hi, rfl⟩ := List.mem_map.1 ht; exact (hf i (List.mem_range.1 hi)).1⟩
  rcases hgo with hq | ⟨b, o, rfl, hq⟩
  ·exact Or.inl hq
  ·exact Or.inr ⟨b, o, rfl, hq⟩
theorem Tryz.gBT : Tryz.prog.globalNamed "hearsay/hearsayref03.behindTerm" = some 0 := by kernel_rfl
theorem Tryz.tBT : (Tryz.prog.globals[0]?).map (·.type) = some 36 := by kernel_rfl
theorem Tryz.gBE : Tryz.prog.globalNamed "hearsay/hearsayref03.behindTest" = some 1 := by kernel_rfl
theorem Tryz.tBE : (Tryz.prog.globals[1]?).map (·.type) = some 73 := by kernel_rfl
theorem terms_lits {H : Type} {enc : TypeId × Value -> H} {W : World} {base : Nat} {spare : Nat -> Bool} {held : Bool} {fuel : Nat} {cs : List Value} {x : DataW H × List MemPlace}
  (h : DataW.trod enc Tryz.prog W base spare held fuel 36 cs = some x) (hl : cs.length = 3) : ∃ t : Tm, cs = [.int .i64 t.k, .int .i64 t.n, .string t.s] /\ x.1 = .agg [.lit (.int .i64 t.k), .lit (.int .i64 t.n), .lit (.string t.s.data.toList)] := by
 obtain ⟨c0, c1, c2, rfl⟩ := list3 hl
 obtain ⟨y0, y1, y2, n, hd, -, h0, h1, h2⟩ := trod_struct3 Tryz.underlying36 h
 rw [Tryz.cellsInt] at h0 h1
 rw [Tryz.cellsString] at h2
 obtain ⟨k, e0, f0, -⟩ := DataW.trod_int Tryz.underlying3 h0
 obtain ⟨m, e1, f1, -⟩ := DataW.trod_int Tryz.underlying3 h1
 obtain ⟨s, e2, f2, -⟩ := DataW.trod_string Tryz.underlying9 h2
 simp at e0 e1 e2
 subst e0 e1 e2
 refine ⟨⟨k, m, s⟩, rfl, ?_⟩
 rw [hd, f0, f1, f2]
theorem tests_lits {H : Type} {enc : TypeId × Value -> H} {W : World} {base : Nat} {spare : Nat -> Bool} {held : Bool} {fuel : Nat} {cs : List Value} {x : DataW H × List MemPlace}
  (hf : DataW.trod enc Tryz.prog W base spare held fuel 73 cs = some x) (hl : cs.length = 7) : ∃ t : Te, cs = [.int .i64 t.op, .int .i64 t.l.k, .int .i64 t.l.n, .string t.l.s, .int .i64 t.r.k, .int .i64 t.r.n, .string t.r.s] /\ x.1 = .agg [.lit (.int .i64 t.op), .agg [.lit (.int .i64 t.l.k), .lit (.int .i64 t.l.n), .lit (.string t.l.s.data.toList)], .agg [.lit (.int .i64 t.r.k), .lit (.int .i64 t.r.n), .lit (.string t.r.s.data.toList)]] := by
 obtain ⟨c0, c1, c2, c3, c4, c5, c6, rfl⟩ := clist7 hl
 obtain ⟨y0, y1, y2, n, hd, -, h0, h1, h2⟩ := trod_struct3 Tryz.underlying73 hf
 rw [Tryz.cellsInt] at h0
 rw [Tryz.cellsTerm] at h1 h2
 obtain ⟨k, e0, f0, -⟩ := DataW.trod_int Tryz.underlying3 h0
 obtain ⟨t, e1, f1⟩ := terms_lits h1 (by simp)
 obtain ⟨u, e2, f2⟩ := terms_lits h2 (by simp)
 simp at e0 e1 e2
 subst e0
 obtain ⟨rfl, rfl, rfl⟩ := e1
 obtain ⟨rfl, rfl, rfl⟩ := e2
 refine ⟨⟨k, t, u⟩, rfl, ?_⟩
 rw [hd, f0, f1, f2]
set_option maxRecDepth 100000 in
theorem beh_of_laid {W : World} (h : laidMetH Tryz.prog [("hearsay/hearsayref03.behindTerm", Rows.laid_hearsay_hearsayref03_behindTerm), ("hearsay/hearsayref03.behindTest", Rows.laid_hearsay_hearsayref03_behindTest)] W) : BehOk W := by
 rw [MakeChecks.laidMetH_plain _ _ _ (by kernel_rfl)] at h
 obtain ⟨ps, ⟨g1, t1, cs1, f1, p1, q1, hg1, ht1, hv1, hd1, ⟨g0, t0, cs0, f0, p0, q0, hg0, ht0, hv0, hd0, _, _⟩, _⟩, _, _⟩ := h
 obtain rfl := Option.some.inj (Tryz.gBE.symm.trans hg0)
 obtain rfl := Option.some.inj (Tryz.tBE.symm.trans ht0)
 obtain rfl := Option.some.inj (Tryz.gBT.symm.trans hg1)
 obtain rfl := Option.some.inj (Tryz.tBT.symm.trans ht1)
 obtain ⟨y0, y1, y2, n, -, hl, -, -, -⟩ := trod_struct3 Tryz.underlying36 hd1
 rw [Tryz.cellsTerm] at hl
 obtain ⟨d, e, hx⟩ := terms_lits hd1 hl
 have hc : ∀ i, W.cell? ⟨0, i, none⟩ = d.cs[i]? := fun i => by
  have := World.var?_cell hg1 hv1 i
  rw [Tm.cs, <- e]; simpa using this
 simp only [Rows.laid_hearsay_hearsayref03_behindTerm, DataW.agg.injEq, List.cons.injEq, DataW.lit.injEq, Lit.int.injEq, Lit.string.injEq, true_and, and_true] at hx
 have hs : d.s = ⟨#[98, 101, 104, 105, 110, 100]⟩ := ByteArray.ext (Array.toList_inj.1 hx.2.2.symm)
 have h0 := hc 0; have h1 := hc 1; have h2 := hc 2
 simp only [Tm.cs, <- hx.1, <- hx.2.1, hs] at h0 h1 h2
 obtain ⟨z0, z1, z2, n', -, hl', -, -, -⟩ := trod_struct3 Tryz.underlying73 hd0
 rw [Tryz.cellsTest3] at hl'
 obtain ⟨d', e', hx'⟩ := tests_lits hd0 hl'
 have hc' : ∀ i, W.cell? ⟨1, i, none⟩ = (ecell d')[i]? := fun i => by
  have := World.var?_cell hg0 hv0 i
  rw [ecell, <- e']; simpa using this
 simp only [Rows.laid_hearsay_hearsayref03_behindTest, DataW.agg.injEq, List.cons.injEq, DataW.lit.injEq, Lit.int.injEq, Lit.string.injEq, true_and, and_true] at hx'
 have hs1 : d'.l.s = ⟨#[]⟩ := ByteArray.ext (Array.toList_inj.1 hx'.2.1.2.2.symm)
 have hs2 : d'.r.s = ⟨#[]⟩ := ByteArray.ext (Array.toList_inj.1 hx'.2.2.2.2.symm)
 have k0 := hc' 0; have k1 := hc' 1; have k2 := hc' 2; have k3 := hc' 3; have k4 := hc' 4; have k5 := hc' 5; have k6 := hc' 6
 simp only [ecell, <- hx'.1, <- hx'.2.1.1, <- hx'.2.1.2.1, <- hx'.2.2.1, <- hx'.2.2.2.1, hs1, hs2] at k0 k1 k2 k3 k4 k5 k6
 exact ⟨World.block_lt_of_cell? W _ h0, World.block_lt_of_cell? W _ k0, h0, h1, h2, k0, k1, k2, k3, k4, k5, k6⟩
end Go.Proofs.YtcejljehjhlonaaGreatDoor
namespace Go.Proofs.YtcejljehjhlonaaGreatDoor
open Go.ChangeShapes Go.WideShapes Go.ChangeAt Go.RowKit Go.Joins Go.Deep

theorem bulkN_mem {H : Type} {d : DataW H} : ∀ {l : List (DataW H)}, d ∈ l -> Rows.uptoBulk d <= Rows.uptoBulkAll l
 | x :: r, h => by
  simp only [Rows.uptoBulkAll]
  rcases List.mem_cons.1 h with rfl | h
  ·omega
  ·have := bulkN_mem h; omega
end Go.Proofs.YtcejljehjhlonaaGreatDoor
