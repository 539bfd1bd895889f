/-
  ref's Preds. (Written by CN15.py.)
-/
import Derived.Test.YtdfgijdededolabGreatDoorCN14
import Derived.Test.YtdfgijdededolabGreatDoorCN11
import Derived.Test.YtdfgijdededolabGreatDoorRC1
namespace Go.Proofs.YtdfgijdededolabGreatDoor
open Go.RowKit

theorem insert_any (l : List Pd) (v : Value) (p : Pd) (w : World) (B : Nat) (h : OwnP w B v l) (hr : l.Pairwise (ltG cmpP)) (hl : l.length ≤ 3000000000000) (hB : B ≤ w.heap.size) : Calls Tryz.prog 41 #[v, p.v] w (INS w B l p) := by
  rcases ownP_form h with ⟨rfl, rfl⟩ | ⟨g, cap, rfl, hc⟩
  · exact insert_nil p w B hB
  · exact insert_some l g cap p w B h hr hc hl hB
theorem RiseOf.congr {α : Type} {f : α → α → Int} {K l m : List α} (h : RiseOf f K l) (hm : ∀ x, x ∈ l ↔ x ∈ m) : RiseOf f K m := ⟨h.rise, fun x => by rw [h.mem, hm]⟩
theorem RiseOf.snoc {α : Type} {f : α → α → Int} {K K1 l : List α} {p : α} (h : RiseOf f K l) (h1 : RiseOf f K1 (K ++ [p])) : RiseOf f K1 (l ++ [p]) := h1.congr fun x => by rw [List.mem_append, List.mem_append, h.mem]
def PPost (w : World) (L : List Pd) (e : Ending) (w' : World) : Prop := ∃ v' K, e = .returned v' ∧ OwnP w' w.heap.size v' K ∧ RiseOf cmpP K L ∧ K.length ≤ L.length ∧ Below w.heap.size w w'
theorem ppost_mk {w w' : World} {L K : List Pd} {v' : Value} (h1 : OwnP w' w.heap.size v' K) (h2 : RiseOf cmpP K L) (h3 : K.length ≤ L.length) (h4 : Below w.heap.size w w') : PPost w L (.returned v') w' := ⟨v', K, rfl, h1, h2, h3, h4⟩
set_option maxRecDepth 20000 in
set_option maxHeartbeats 8000000 in
theorem rpreds_any (l : List Cm) (v : Value) (w : World) (h : CsP w v l) (hl : (l.flatMap Cm.pds).length ≤ 3000000000000) (hll : l.length ≤ 1000000000000) :
    Calls Tryz.prog 13 #[v] w (PPost w (l.flatMap Cm.pds)) := by
  have HP : Hid (CsP w v l) := h
  have HL : Hid ((l.flatMap Cm.pds).length ≤ 3000000000000) := hl
  obtain ⟨va, vc, rfl⟩ := h.form
  clear h hl
  go_enter Tryz.func13, Tryz.ntmps13
  go_wp2
  go_loopg [3, 4] l.length (fun g u i wr => ∃ (q : Nat) (K : List Pd), q + g = l.length ∧ i = .int .i64 (q : Int) ∧ OwnP wr w.heap.size u K ∧ RiseOf cmpP K ((l.take q).flatMap Cm.pds) ∧ K.length ≤ ((l.take q).flatMap Cm.pds).length ∧ Below w.heap.size w wr)
  case atStart => exact ⟨0, [], by omega, rfl, ownP_nil _ _, RiseOf.nil, by simp, Below.refl _ _⟩
  case round =>
    obtain ⟨q, K0, hg, rfl, hot, hrs, hkl, hb⟩ := hrel
    have HOT : Hid (OwnP wr w.heap.size u3 K0) := hot
    have HRS : Hid (RiseOf cmpP K0 ((l.take q).flatMap Cm.pds)) := hrs
    have HKL : Hid (K0.length ≤ ((l.take q).flatMap Cm.pds).length) := hkl
    have HB : Hid (Below w.heap.size w wr) := hb
    clear hot hrs hkl hb
    have iq : (0 : Int) ≤ (q : Int) := by omega
    by_cases hql : q < l.length
    · have k1 : (q : Int) < (l.length : Int) := by omega
      obtain ⟨G, rfl⟩ : ∃ G, gk = G + 1 := ⟨gk - 1, by omega⟩
      obtain ⟨c, hc⟩ : ∃ z, l[q]? = some z := ⟨_, List.getElem?_eq_getElem hql⟩
      have HTL : Hid (((l.take q).flatMap Cm.pds).length + c.atoms.length ≤ 3000000000000) := Nat.le_trans (takeP_len hc) HL.out
      have HTT : Hid ((l.take (q + 1)).flatMap Cm.pds = (l.take q).flatMap Cm.pds ++ c.pds) := take_pds hc
      have hcm := List.mem_of_getElem? hc
      obtain ⟨sb, so, rfl, hrw⟩ := (HP.out.later HB.out).get hc
      have HSV0 : ∀ Y : World, Below w.heap.size w Y → (Y.cell? ⟨sb, so + q * 7 + 3, none⟩ = some (.string c.head.1.name) ∧ Y.cell? ⟨sb, so + q * 7 + 4, none⟩ = some c.head.2 ∧ Y.cell? ⟨sb, so + q * 7 + 5, none⟩ = some c.bv) := fun Y hY => by
        obtain ⟨b', o', e, hrw⟩ := (HP.out.later hY).get hc
        cases e
        obtain ⟨-, -, -, h3, h4, h5, -⟩ := hrw.seven hc
        exact ⟨h3, h4, h5⟩
      have HSZ : Hid (∀ Y : World, Below w.heap.size w Y → sb < Y.heap.size) := fun Y hY => by
        obtain ⟨b', o', e, hrw⟩ := (HP.out.later hY).get hc
        cases e
        exact hrw.1
      have HCK : Hid (∀ Y : World, Below w.heap.size w Y → c.ok Y) := fun Y hY => (HP.out.ok c hcm).later hY
      obtain ⟨⟨a, cap, hde, hdl, -⟩, ⟨a', cap', e2, -⟩, ⟨a'', cap'', e3, -⟩⟩ := HP.out.ok c hcm
      have hhl : c.head.1.args.length < 1000000000000000000 := hdl
      clear hc hcm hrw
      obtain ⟨⟨⟨⟨k, m, s⟩, nm, ls⟩, hx⟩, body, bv, tests, tv⟩ := c
      simp only at HSV0 hde e2 e3 hhl
      subst hde e2 e3
      obtain ⟨hn, hhn⟩ : ∃ n, ls.length = n := ⟨_, rfl⟩
      have HCP : Hid (Cm.pds ⟨(⟨⟨k, m, s⟩, nm, ls⟩, .slice a ls.length cap), body, .slice a' body.length cap', tests, .slice a'' tests.length cap''⟩ = ⟨nm, (hn : Int)⟩ :: pds body) := by
        show pdA _ :: pds body = _
        simp [pdA, hhn]
      have HSV : Hid (∀ Y : World, Below w.heap.size w Y → (Y.cell? ⟨sb, so + q * 7 + 3, none⟩ = some (.string nm) ∧ Y.cell? ⟨sb, so + q * 7 + 4, none⟩ = some (.slice a hn cap) ∧ Y.cell? ⟨sb, so + q * 7 + 5, none⟩ = some (.slice a' body.length cap'))) := by rw [← hhn]; exact HSV0
      have HI1 : Hid (∀ Y : World, Below wr.heap.size wr Y → Calls Tryz.prog 41 #[u3, .agg #[.string nm, .int .i64 (hn : Int)]] Y (INS Y w.heap.size K0 ⟨nm, (hn : Int)⟩)) := fun Y hY => insert_any K0 u3 ⟨nm, (hn : Int)⟩ Y w.heap.size (HOT.out.later hY) HRS.out.rise (by have h1 := HKL.out; have h2 := HTL.out; omega) (Nat.le_trans HB.out.size hY.size)
      have HTL2 : Hid (((l.take q).flatMap Cm.pds).length + (body.length + 1) ≤ 3000000000000) := HTL.out
      have HBD : Hid (∀ Y : World, Below w.heap.size w Y → As Y (.slice a' body.length cap') body) := fun Y hY => (HCK.out Y hY).b
      rw [HCP.out] at HTT
      clear HSV0 HCK HCP HTL hhl
      go_upto_region 5 with fail
      refine wp_region_held_drew (S := fun w' => Below wr.heap.size wr w') (by kernel_rfl) (Below.refl _ _).drew (fun hH => ?_)
      revert hH
      generalize wr.drew = V
      intro hH
      refine wpAnyH_take (i := 0) (oi := ⟨_, _, _, _, _, _⟩) (v := u3) rfl (by kernel_rfl) (by kernel_rfl) (by kernel_rfl) (fun _ _ _ h => h) (Or.inl ⟨by rfl, fun w' _ => by go_simp⟩) hH ?_
      simp only [Act.put, List.setIfInBounds_toArray, List.set_cons_zero, List.set_cons_succ]
      refine wpAnyH_take (i := 1) (oi := ⟨_, _, _, _, _, _⟩) (v := .slice (some ⟨sb, so, none⟩) l.length vc) rfl (by kernel_rfl) (by kernel_rfl) (by kernel_rfl) (fun _ _ _ h => h) (Or.inl ⟨by rfl, fun w' _ => by go_simp⟩) hH ?_
      simp only [Act.put, List.setIfInBounds_toArray, List.set_cons_zero, List.set_cons_succ]
      refine wpAnyH_take (i := 2) (oi := ⟨_, _, _, _, _, _⟩) (v := .int .i64 (q : Int)) rfl (by kernel_rfl) (by kernel_rfl) (by kernel_rfl) (fun _ _ _ h => h) (Or.inl ⟨by rfl, fun w' _ => by go_simp⟩) hH ?_
      simp only [Act.put, List.setIfInBounds_toArray, List.set_cons_zero, List.set_cons_succ]
      refine wpAnyH_take (i := 3) (oi := ⟨_, _, _, _, _, _⟩) (v := .pointer (some ⟨sb, so + q * 7, none⟩)) rfl (by kernel_rfl) (by kernel_rfl) (by kernel_rfl) (fun _ _ _ h => h) (Or.inl ⟨by rfl, fun w' _ => by go_simp⟩) hH ?_
      simp only [Act.put, List.setIfInBounds_toArray, List.set_cons_zero, List.set_cons_succ]
      refine wpAnyH_take (i := 4) (oi := ⟨_, _, _, _, _, _⟩) (v := .pointer (some ⟨sb, so + q * 7, none⟩)) rfl (by kernel_rfl) (by kernel_rfl) (by kernel_rfl) (fun _ _ _ h => h) (Or.inl ⟨by rfl, fun w' _ => by go_simp⟩) hH ?_
      simp only [Act.put, List.setIfInBounds_toArray, List.set_cons_zero, List.set_cons_succ]
      refine wpAnyH_take (i := 5) (oi := ⟨_, _, _, _, _, _⟩) (v := .pointer (some ⟨sb, so + q * 7 + 3, none⟩)) rfl (by kernel_rfl) (by kernel_rfl) (by kernel_rfl) (fun _ _ _ h => h) (Or.inl ⟨by rfl, fun w' _ => by go_simp⟩) hH ?_
      simp only [Act.put, List.setIfInBounds_toArray, List.set_cons_zero, List.set_cons_succ]
      refine wpAnyH_take (i := 6) (oi := ⟨_, _, _, _, _, _⟩) (v := .string nm) rfl (by kernel_rfl) (by kernel_rfl) (by kernel_rfl) (fun _ _ _ h => h) (Or.inl ⟨by rfl, fun w' h => by obtain ⟨y3, y4, y5⟩ := Hid.out HSV w' (below_step (Hid.out HB) h); have z := Hid.out HSZ w' (below_step (Hid.out HB) h); clear h; go_simp⟩) hH ?_
      simp only [Act.put, List.setIfInBounds_toArray, List.set_cons_zero, List.set_cons_succ]
      refine wpAnyH_take (i := 7) (oi := ⟨_, _, _, _, _, _⟩) (v := .slice (some ⟨sb, so, none⟩) l.length vc) rfl (by kernel_rfl) (by kernel_rfl) (by kernel_rfl) (fun _ _ _ h => h) (Or.inl ⟨by rfl, fun w' _ => by go_simp⟩) hH ?_
      simp only [Act.put, List.setIfInBounds_toArray, List.set_cons_zero, List.set_cons_succ]
      refine wpAnyH_take (i := 8) (oi := ⟨_, _, _, _, _, _⟩) (v := .int .i64 (q : Int)) rfl (by kernel_rfl) (by kernel_rfl) (by kernel_rfl) (fun _ _ _ h => h) (Or.inl ⟨by rfl, fun w' _ => by go_simp⟩) hH ?_
      simp only [Act.put, List.setIfInBounds_toArray, List.set_cons_zero, List.set_cons_succ]
      refine wpAnyH_take (i := 9) (oi := ⟨_, _, _, _, _, _⟩) (v := .pointer (some ⟨sb, so + q * 7, none⟩)) rfl (by kernel_rfl) (by kernel_rfl) (by kernel_rfl) (fun _ _ _ h => h) (Or.inl ⟨by rfl, fun w' _ => by go_simp⟩) hH ?_
      simp only [Act.put, List.setIfInBounds_toArray, List.set_cons_zero, List.set_cons_succ]
      refine wpAnyH_take (i := 10) (oi := ⟨_, _, _, _, _, _⟩) (v := .pointer (some ⟨sb, so + q * 7, none⟩)) rfl (by kernel_rfl) (by kernel_rfl) (by kernel_rfl) (fun _ _ _ h => h) (Or.inl ⟨by rfl, fun w' _ => by go_simp⟩) hH ?_
      simp only [Act.put, List.setIfInBounds_toArray, List.set_cons_zero, List.set_cons_succ]
      refine wpAnyH_take (i := 11) (oi := ⟨_, _, _, _, _, _⟩) (v := .pointer (some ⟨sb, so + q * 7 + 4, none⟩)) rfl (by kernel_rfl) (by kernel_rfl) (by kernel_rfl) (fun _ _ _ h => h) (Or.inl ⟨by rfl, fun w' _ => by go_simp⟩) hH ?_
      simp only [Act.put, List.setIfInBounds_toArray, List.set_cons_zero, List.set_cons_succ]
      refine wpAnyH_take (i := 12) (oi := ⟨_, _, _, _, _, _⟩) (v := .slice a hn cap) rfl (by kernel_rfl) (by kernel_rfl) (by kernel_rfl) (fun _ _ _ h => h) (Or.inl ⟨by rfl, fun w' h => by obtain ⟨y3, y4, y5⟩ := Hid.out HSV w' (below_step (Hid.out HB) h); have z := Hid.out HSZ w' (below_step (Hid.out HB) h); clear h; go_simp⟩) hH ?_
      simp only [Act.put, List.setIfInBounds_toArray, List.set_cons_zero, List.set_cons_succ]
      refine wpAnyH_take (i := 13) (oi := ⟨_, _, _, _, _, _⟩) (v := .int .i64 (hn : Int)) rfl (by kernel_rfl) (by kernel_rfl) (by kernel_rfl) (fun _ _ _ h => h) (Or.inl ⟨by rfl, fun w' _ => by go_simp⟩) hH ?_
      simp only [Act.put, List.setIfInBounds_toArray, List.set_cons_zero, List.set_cons_succ]
      refine wpAnyH_take (i := 14) (oi := ⟨_, _, _, _, _, _⟩) (v := .agg #[.string nm, .int .i64 (hn : Int)]) rfl (by kernel_rfl) (by kernel_rfl) (by kernel_rfl) (fun _ _ _ h => h) (Or.inl ⟨by rfl, fun w' _ => by go_simp⟩) hH ?_
      simp only [Act.put, List.setIfInBounds_toArray, List.set_cons_zero, List.set_cons_succ]
      refine wpAnyH_ready (rs := [15]) (by kernel_rfl) (by simp) ?_
      refine (AllReadyH.cons (o := ⟨_, _, _, _, _, _⟩) rfl (fun K hK => ?_) AllReadyH.nil)
      go_simp
      refine (HI1.out _ hH).mono ?_
      rintro e V1 ⟨v1, K1, rfl, ho1, hr1, hl1, hb1⟩
      have HO1 : Hid (OwnP V1 w.heap.size v1 K1) := ho1
      have HR1 : Hid (RiseOf cmpP K1 (K0 ++ [⟨nm, (hn : Int)⟩])) := hr1
      have HL1 : Hid (K1.length ≤ K0.length + 1) := hl1
      clear ho1 hr1 hl1
      refine hK.out _ _ (below_step hH hb1) (fun hH => ?_)
      clear hK K hb1
      refine wpAnyH_take (i := 16) (oi := ⟨_, _, _, _, _, _⟩) (v := v1) rfl (by kernel_rfl) (by kernel_rfl) (by kernel_rfl) (fun _ _ _ h => h) (Or.inl ⟨by rfl, fun w' _ => by go_simp⟩) hH ?_
      simp only [Act.put, List.setIfInBounds_toArray, List.set_cons_zero, List.set_cons_succ]
      refine wpAnyH_done (by kernel_rfl) ?_ _
      have HB1 : Hid (Below w.heap.size w V1) := below_step HB.out hH
      clear hH
      have HR2 : Hid (RiseOf cmpP K1 ((l.take q).flatMap Cm.pds ++ ⟨nm, (hn : Int)⟩ :: pds (body.take 0))) := by
        have := HRS.out.snoc HR1.out
        rw [List.take_zero]; exact this
      have HL2 : Hid (K1.length ≤ ((l.take q).flatMap Cm.pds).length + 1 + 0) := by have h1 := HKL.out; have h2 := HL1.out; show _ ≤ _; omega
      have HQ : Hid (q < l.length ∧ q + (G + 1) = l.length) := ⟨hql, hg⟩
      have hbb : body.length ≤ 3000000000000 := by have := HTL2.out; omega
      clear HI1 HR1 HL1 HOT HRS HKL HB k1 hql hg hdl hhn
      go_wp2
      go_loopg [3, 5] body.length (fun g u i wr => ∃ (j : Nat) (K : List Pd), j + g = body.length ∧ i = .int .i64 (j : Int) ∧ OwnP wr w.heap.size u K ∧ RiseOf cmpP K ((l.take q).flatMap Cm.pds ++ ⟨nm, (hn : Int)⟩ :: pds (body.take j)) ∧ K.length ≤ ((l.take q).flatMap Cm.pds).length + 1 + j ∧ Below w.heap.size w wr)
      case atStart => exact ⟨0, K1, by omega, rfl, HO1.out, HR2.out, HL2.out, HB1.out⟩
      case round =>
        obtain ⟨j, K2, hg, rfl, hot, hrs, hkl, hb⟩ := hrel
        have HOT : Hid (OwnP wr w.heap.size u3 K2) := hot
        have HRS : Hid (RiseOf cmpP K2 ((l.take q).flatMap Cm.pds ++ ⟨nm, (hn : Int)⟩ :: pds (body.take j))) := hrs
        have HKL : Hid (K2.length ≤ ((l.take q).flatMap Cm.pds).length + 1 + j) := hkl
        have HB : Hid (Below w.heap.size w wr) := hb
        obtain ⟨y3, y4, y5⟩ := HSV.out wr hb
        have z := HSZ.out wr hb
        obtain ⟨hq1, hq2⟩ := HQ.out
        have k1 : (q : Int) < (l.length : Int) := by omega
        clear hot hrs hkl
        have ij : (0 : Int) ≤ (j : Int) := by omega
        by_cases hjl : j < body.length
        · have k2 : (j : Int) < (body.length : Int) := by omega
          obtain ⟨bb, bo, x, rfl, hxj, hbz, hxc, hxt⟩ := (HBD.out wr hb).get_ hjl
          have htk : pds (body.take (j + 1)) = pds (body.take j) ++ [pdA x] := by rw [List.take_add_one, hxj]; exact pds_snoc _ _
          obtain ⟨⟨⟨xk, xm, xs⟩, xn, xl⟩, xv⟩ := x
          simp only at hxt hxc
          obtain ⟨xa, xc, rfl, -⟩ := hxt
          obtain ⟨xh, hxh⟩ : ∃ n, xl.length = n := ⟨_, rfl⟩
          rw [pdA, hxh] at htk
          rw [hxh] at hxc
          obtain ⟨c0, c1, c2, c3, c4⟩ := hxc
          have HN : Hid (∀ K3 : List Pd, RiseOf cmpP K3 (K2 ++ [⟨xn, (xh : Int)⟩]) → RiseOf cmpP K3 ((l.take q).flatMap Cm.pds ++ ⟨nm, (hn : Int)⟩ :: pds (body.take (j + 1)))) := fun K3 h3 => by
            have := HRS.out.snoc h3
            rw [htk]; simpa using this
          have HI2 : Hid (∀ Y : World, Below wr.heap.size wr Y → Calls Tryz.prog 41 #[u3, .agg #[.string xn, .int .i64 (xh : Int)]] Y (INS Y w.heap.size K2 ⟨xn, (xh : Int)⟩)) := fun Y hY => insert_any K2 u3 ⟨xn, (xh : Int)⟩ Y w.heap.size (HOT.out.later hY) HRS.out.rise (by have h1 := HKL.out; have h2 := HTL2.out; omega) (Nat.le_trans HB.out.size hY.size)
          clear htk hxj hb hxh
          go_wp2_with (go_at_call 41; refine (HI2.out _ (below1 _ _)).mono ?_; rintro e w2 ⟨v2, K3, rfl, ho2, hr2, hl2, hb2⟩; have HO2 : Hid (OwnP w2 w.heap.size v2 K3) := ho2; have HR3 : Hid (RiseOf cmpP K3 ((l.take q).flatMap Cm.pds ++ ⟨nm, (hn : Int)⟩ :: pds (body.take (j + 1)))) := HN.out K3 hr2; have HL3 : Hid (K3.length ≤ ((l.take q).flatMap Cm.pds).length + 1 + (j + 1)) := (by have h1 := HKL.out; show K3.length ≤ _; omega); have HB2 : Hid (Below w.heap.size w w2) := below_step (below_step HB.out (below1 _ _)) hb2; clear ho2 hr2 hl2 hb2 HI2)
          go_roundg (gk - 1)
          case measure => omega
          case rel => exact ⟨j + 1, K3, by omega, by go_num, HO2.out, HR3.out, HL3.out, HB2.out⟩
        · have k2 : ¬ (j : Int) < (body.length : Int) := by omega
          obtain rfl : j = body.length := by omega
          have HR5 : Hid (RiseOf cmpP K2 ((l.take (q + 1)).flatMap Cm.pds)) := by have h1 := HRS.out; rw [List.take_length] at h1; rw [HTT.out]; exact h1
          have HL5 : Hid (K2.length ≤ ((l.take (q + 1)).flatMap Cm.pds).length) := by
            have h1 := HKL.out
            rw [HTT.out]
            show _ ≤ _
            simp only [List.length_append, List.length_cons, pds, List.length_map]
            omega
          clear hb
          go_wp2
          go_roundg G
          case measure => omega
          case rel => exact ⟨q + 1, K2, by omega, by go_num, HOT.out, HR5.out, HL5.out, HB.out⟩
    · have k1 : ¬ (q : Int) < (l.length : Int) := by omega
      obtain rfl : q = l.length := by omega
      have HR9 : Hid (RiseOf cmpP K0 (l.flatMap Cm.pds)) := by have h1 := HRS.out; rw [List.take_length] at h1; exact h1
      have HK9 : Hid (K0.length ≤ (l.flatMap Cm.pds).length) := by have h1 := HKL.out; rw [List.take_length] at h1; exact h1
      go_wp2
      go_ret
      exact ppost_mk HOT.out HR9.out HK9.out HB.out
end Go.Proofs.YtdfgijdededolabGreatDoor
