import Derived.Test.YtnenadklmjcakaaGreatDoorCL1
import Derived.Test.YtnenadklmjcakaaGreatDoorCR5
import Derived.Test.YtnenadklmjcakaaGreatDoorCU1
namespace Go.Proofs.YtnenadklmjcakaaGreatDoor
open Go.RowKit

def Muy (n : Nat) (l : List Int) (k : Nat) (K : List Ck) (l' : List Int) : Prop := rUp n none l = (rUp k K.getLast? l').and fun cs r => .ok (K ++ cs, r)
theorem Muy.start (n : Nat) (l : List Int) : Muy n l n [] l := by
 show rUp n none l = (rUp n none l).and _
 rcases rUp n none l with c | ⟨a, r⟩ <;> rfl
theorem Muy.no {n k : Nat} {l l' : List Int} {K : List Ck} {c : Int} (h : Muy n l (k + 1) K l') (hc : rClause l' = .error c) : rUp n none l = .error c := by
 unfold Muy at h
 rw [h, rUp, hc]
 rfl
theorem Muy.bad {n k : Nat} {l l' r : List Int} {K : List Ck} {t : Ck} (h : Muy n l (k + 1) K l') (hc : rClause l' = .ok (t, r)) (hu : upK K.getLast? t = false) : rUp n none l = .error 64 := by
 unfold Muy at h
 rw [h, rUp, hc]
 simp only [Rd.and, hu]
 rfl
theorem Muy.next {n k : Nat} {l l' r : List Int} {K : List Ck} {t : Ck} (h : Muy n l (k + 1) K l') (hc : rClause l' = .ok (t, r)) (hu : upK K.getLast? t = true) : Muy n l k (K ++ [t]) r := by
 unfold Muy at h ⊢
 rw [h]
 conv => lhs; unfold rUp
 rw [hc]
 simp only [Rd.and]
 rw [if_pos hu, List.getLast?_concat]
 rcases rUp k (some t) r with c | ⟨a, s⟩
 ·rfl
 ·simp only [List.append_assoc, List.cons_append, List.nil_append]
theorem Muy.done {n : Nat} {l l' : List Int} {K : List Ck} (h : Muy n l 0 K l') : rUp n none l = .ok (K, l') := by
 unfold Muy at h
 rw [h, rUp]
 simp only [Rd.and, List.append_nil]
set_option maxRecDepth 20000 in
set_option maxHeartbeats 1600000 in
theorem set8_any (g : Nat) (l : List Int) (w : World) (h : RdS w g l) :
  Calls Tryz.prog 36 #[.pointer (some ⟨g, 0, none⟩)] w (RdP g w (fun K v w' => ∃ L : List Cm, L.map Cm.key = K /\ OCL w' w.heap.size v L) (rSet l)) := by
 have hlt := h.lt
 have hN1 := count8_any g l w h
 clear h
 rcases hr1 : rNum 4 l with c | ⟨k1, r1⟩
 ·have HN1 : Hid (Calls Tryz.prog 82 #[.pointer (some ⟨g, 0, none⟩)] w fun e w' => e = .panicked [pE c] /\ Bv g w.heap.size w w') := RdP.err hN1 hr1
  have HR0 : Hid (rNum 4 l = .error c) := hr1
  clear hN1 hr1
  go_enter Tryz.func36, Tryz.ntmps36
  go_wp2_with (go_at_call 82; refine (HN1.out).mono ?_; rintro e wz ⟨rfl, hb⟩)
  refine ⟨rfl, ?_⟩
  unfold rSet
  rw [HR0.out]
  exact ⟨hb, rfl⟩
 ·have HN1 : Hid (Calls Tryz.prog 82 #[.pointer (some ⟨g, 0, none⟩)] w fun e w' => ∃ v, e = .returned v /\ (v = .int .i64 k1 /\ 0 <= k1 /\ k1 <= 4294967295) /\ RdS w' g r1 /\ Bv g w.heap.size w w') := RdP.ok hN1 hr1
  have HR0 : Hid (rNum 4 l = .ok (k1, r1)) := hr1
  clear hN1 hr1
  go_enter Tryz.func36, Tryz.ntmps36
  go_upto_region 3 with (go_at_call 82; refine (HN1.out).mono ?_; clear HN1; rintro e w0 ⟨v0, rfl, ⟨rfl, hq0, hq1⟩, hs0, hb0⟩)
  obtain ⟨n, rfl⟩ : ∃ n : Nat, k1 = (n : Int) := ⟨k1.toNat, by omega⟩
  have HS0 : Hid (RdS w0 g r1) := hs0
  have HB0 : Hid (Bv g w.heap.size w w0) := hb0
  clear hs0 hb0 hq0
  go_loopg [3, 8] n (fun k u i wr => ∃ (j : Nat) (L : List Cm) (l' : List Int), j + k = n /\ i = .int .i64 j /\ L.length = j /\ OCL wr w.heap.size u L /\ RdS wr g l' /\ Bv g w.heap.size w wr /\ Muy n r1 k (L.map Cm.key) l')
  case atStart => exact ⟨0, [], r1, by omega, rfl, rfl, OCL.nil _ _, HS0.out, HB0.out, Muy.start _ _⟩
  case round =>
   obtain ⟨j, L, l', hj, rfl, hts, ho, hs, hb, hm⟩ := hrel
   obtain ⟨ua, uc, hu⟩ := ho.o.form
   rw [hts] at hu
   subst hu
   have HO : Hid (OCL wr w.heap.size (.slice ua j uc) L) := ho
   have HB : Hid (Bv g w.heap.size w wr) := hb
   have HS : Hid (RdS wr g l') := hs
   have hsz := hb.size
   cases gk with
   | succ k =>
    have HM : Hid (Muy n r1 (k + 1) (L.map Cm.key) l') := hm
    have i1 : (j : Int) < (n : Int) := by omega
    have hN := clause8_any g l' wr hs
    clear ho hs hb hm
    rcases hr : rClause l' with c | ⟨t, r⟩
    ·have HN : Hid (Calls Tryz.prog 83 #[.pointer (some ⟨g, 0, none⟩)] wr fun e w' => e = .panicked [pE c] /\ Bv g wr.heap.size wr w') := RdP.err hN hr
     have HE : Hid (rUp n none r1 = .error c) := HM.out.no hr
     clear hN hr
     go_wp2_with (go_at_call 83; refine HN.out.mono ?_; rintro e w1 ⟨rfl, hb⟩)
     refine ⟨rfl, ?_⟩
     unfold rSet
     rw [HR0.out]
     simp only [Rd.and, Int.toNat_natCast]
     rw [HE.out]
     exact ⟨HB.out.step hb, rfl⟩
    ·have HN : Hid (Calls Tryz.prog 83 #[.pointer (some ⟨g, 0, none⟩)] wr fun e w' => ∃ v, e = .returned v /\ (∃ c : Cm, v = c.v /\ c.key = t /\ GC t /\ MC8 wr.heap.size w' c) /\ RdS w' g r /\ Bv g wr.heap.size wr w') := RdP.ok hN hr
     have HRC : Hid (rClause l' = .ok (t, r)) := hr
     clear hN hr
     go_upto_region 6 with (go_at_call 83; refine HN.out.mono ?_; rintro e w1 ⟨v1, rfl, ⟨c, rfl, hck, hgc, hmc⟩, hs1, hb1⟩; obtain ⟨⟨c1, c2, c3, y1⟩, ⟨c4, c6, y2⟩, ⟨c7, c9, y3⟩, -, -⟩ := (hmc.ok (by rw [hck]; exact hgc)).shape; obtain ⟨⟨⟨⟨ck, cn, cs⟩, cm, cl⟩, cv⟩, cb, cbv, ct, ctv⟩ := c; simp only at y1 y2 y3; obtain ⟨c5, hc5⟩ : ∃ n, cb.length = n := ⟨_, rfl⟩; obtain ⟨c8, hc8⟩ : ∃ n, ct.length = n := ⟨_, rfl⟩; rw [hc5] at y2; rw [hc8] at y3; subst y1 y2 y3; clear hc5 hc8; have HB1 : Hid (Bv g w.heap.size w w1) := HB.out.step hb1; have HS1 : Hid (RdS w1 g r) := hs1; have HO1 : Hid (OCL w1 w.heap.size (.slice ua j uc) L) := HO.out.blM hb1 hlt; have hz1 := HB1.out.size; have HT1 : Hid (Cm.key (⟨(⟨⟨ck, cn, cs⟩, cm, cl⟩, .slice c1 c2 c3), cb, .slice c4 c5 c6, ct, .slice c7 c8 c9⟩ : Cm) = t /\ MC8 w.heap.size w1 (⟨(⟨⟨ck, cn, cs⟩, cm, cl⟩, .slice c1 c2 c3), cb, .slice c4 c5 c6, ct, .slice c7 c8 c9⟩ : Cm) /\ GC (Cm.key (⟨(⟨⟨ck, cn, cs⟩, cm, cl⟩, .slice c1 c2 c3), cb, .slice c4 c5 c6, ct, .slice c7 c8 c9⟩ : Cm))) := ⟨hck, hmc.mono hsz, (by rw [hck]; exact hgc)⟩; clear hs1 hb1 hck hgc hmc)
     have hbx := below1 w1 (.cells #[.int .i64 ck, .int .i64 cn, .string cs, .string cm, .slice c1 c2 c3, .slice c4 c5 c6, .slice c7 c8 c9] 58)
     have bx := CBlk.new w1 #[.int .i64 ck, .int .i64 cn, .string cs, .string cm, .slice c1 c2 c3, .slice c4 c5 c6, .slice c7 c8 c9] 58
     revert hbx bx
     generalize w1.alloc (.cells #[.int .i64 ck, .int .i64 cn, .string cs, .string cm, .slice c1 c2 c3, .slice c4 c5 c6, .slice c7 c8 c9] 58) = X
     intro hbx bx
     have HBX : Hid (Below w1.heap.size w1 X) := hbx
     have BT : Hid (CBlk X w1.heap.size #[.int .i64 ck, .int .i64 cn, .string cs, .string cm, .slice c1 c2 c3, .slice c4 c5 c6, .slice c7 c8 c9] 58) := bx
     clear hbx bx
     rcases Nat.eq_zero_or_pos j with hj0 | hjp
     ·have hL : L = [] := List.eq_nil_of_length_eq_zero (by omega)
      have HM2 : Hid (Muy n r1 k (L.map Cm.key ++ [t]) r) := HM.out.next HRC.out (by rw [hL]; rfl)
      have iz : (j : Int) = 0 := by omega
      refine wp_region_held_drew (S := fun w' => Below X.heap.size X w') (by kernel_rfl) (Below.refl _ _).drew (fun hH => ?_)
      revert hH
      generalize X.drew = V
      intro hH
      refine wTk 0 (.int .i64 (j : Int)) rfl (by kernel_rfl) (fun _ _ _ h => h) (Or.inl ⟨by rfl, fun w' _ => by go_simp⟩) hH ?_
      simp only [wA8, wB8, wC8, wD8]
      refine wTk 1 (.bool false) rfl (by kernel_rfl) (fun _ _ _ h => h) (Or.inl ⟨by rfl, fun w' _ => by go_simp⟩) hH ?_
      simp only [wA8, wB8, wC8, wD8]
      refine wTk 2 (.bool false) rfl (by kernel_rfl) (fun _ _ _ h => h) (Or.inl ⟨by rfl, fun w' _ => by go_simp⟩) hH ?_
      simp only [wA8, wB8, wC8, wD8]
      refine wTk 3 (undef) rfl (by kernel_rfl) (fun _ _ _ h => h) (Or.inr ⟨by rfl, rfl⟩) hH ?_
      simp only [wA8, wB8, wC8, wD8]
      refine wTk 4 (undef) rfl (by kernel_rfl) (fun _ _ _ h => h) (Or.inr ⟨by rfl, rfl⟩) hH ?_
      simp only [wA8, wB8, wC8, wD8]
      refine wTk 5 (undef) rfl (by kernel_rfl) (fun _ _ _ h => h) (Or.inr ⟨by rfl, rfl⟩) hH ?_
      simp only [wA8, wB8, wC8, wD8]
      refine wTk 6 (undef) rfl (by kernel_rfl) (fun _ _ _ h => h) (Or.inr ⟨by rfl, rfl⟩) hH ?_
      simp only [wA8, wB8, wC8, wD8]
      refine wTk 7 (undef) rfl (by kernel_rfl) (fun _ _ _ h => h) (Or.inr ⟨by rfl, rfl⟩) hH ?_
      simp only [wA8, wB8, wC8, wD8]
      refine wTk 8 (undef) rfl (by kernel_rfl) (fun _ _ _ h => h) (Or.inr ⟨by rfl, rfl⟩) hH ?_
      simp only [wA8, wB8, wC8, wD8]
      refine wTk 9 (undef) rfl (by kernel_rfl) (fun _ _ _ h => h) (Or.inr ⟨by rfl, rfl⟩) hH ?_
      simp only [wA8, wB8, wC8, wD8]
      refine wTk 10 (undef) rfl (by kernel_rfl) (fun _ _ _ h => h) (Or.inr ⟨by rfl, rfl⟩) hH ?_
      simp only [wA8, wB8, wC8, wD8]
      refine wTk 11 (.bool false) rfl (by kernel_rfl) (fun _ _ _ h => h) (Or.inl ⟨by rfl, fun w' _ => by go_simp⟩) hH ?_
      simp only [wA8, wB8, wC8, wD8]
      refine wpAnyH_done (by kernel_rfl) ?_ _
      have HVb : Hid (Below w1.heap.size w1 V) := below_step HBX.out hH
      have BV : Hid (CBlk V w1.heap.size #[.int .i64 ck, .int .i64 cn, .string cs, .string cm, .slice c1 c2 c3, .slice c4 c5 c6, .slice c7 c8 c9] 58) := BT.out.later hH
      have HOV : Hid (OCL V w.heap.size (.slice ua j uc) L) := HO1.out.blM (Bv.of HVb.out) hlt
      have HTV : Hid (MC8 w.heap.size V (⟨(⟨⟨ck, cn, cs⟩, cm, cl⟩, .slice c1 c2 c3), cb, .slice c4 c5 c6, ct, .slice c7 c8 c9⟩ : Cm) /\ GC (Cm.key (⟨(⟨⟨ck, cn, cs⟩, cm, cl⟩, .slice c1 c2 c3), cb, .slice c4 c5 c6, ct, .slice c7 c8 c9⟩ : Cm))) := ⟨HT1.out.2.1.later HVb.out, HT1.out.2.2⟩
      have hzV := HVb.out.size
      clear hH
      obtain ⟨x0, x1, x2, x3, x4, x5, x6⟩ := cseven BV.out
      go_wp2_with (at_builtin; refine capp_one rfl _ _ rfl w.heap.size (.slice ua j uc) L rfl (HOV.out.o.later (below1 _ _)) V.heap.size (⟨(⟨⟨ck, cn, cs⟩, cm, cl⟩, .slice c1 c2 c3), cb, .slice c4 c5 c6, ct, .slice c7 c8 c9⟩ : Cm) rfl (show CBlk _ _ (Cm.cs (⟨(⟨⟨ck, cn, cs⟩, cm, cl⟩, .slice c1 c2 c3), cb, .slice c4 c5 c6, ct, .slice c7 c8 c9⟩ : Cm)) _ from CBlk.new _ _ _) (W := V) (HTV.out.1.ok HTV.out.2) (by omega) (by simp; omega) ?_; intro v2 w2 ho2 hb2 hg2 hk2; have HO2 : Hid (OCL w2 w.heap.size v2 (L ++ [(⟨(⟨⟨ck, cn, cs⟩, cm, cl⟩, .slice c1 c2 c3), cb, .slice c4 c5 c6, ct, .slice c7 c8 c9⟩ : Cm)])) := HOV.out.add ho2 ((Kt.of (below1 _ _)).trans (row_grown (HOV.out.o.later (below1 _ _)) hg2)) HTV.out; have HB2 : Hid (Below w.heap.size w1 w2) := (HVb.out.mono hz1).trans (((below1 _ _).mono (by omega)).trans hb2); clear ho2 hb2 hg2 hk2)
      go_roundg k
      case measure => omega
      case rel => exact ⟨j + 1, L ++ [(⟨(⟨⟨ck, cn, cs⟩, cm, cl⟩, .slice c1 c2 c3), cb, .slice c4 c5 c6, ct, .slice c7 c8 c9⟩ : Cm)], r, by omega, by go_num, by simp; omega, HO2.out, HS1.out.low HB2.out hlt, HB1.out.trans (Bv.of HB2.out), by rw [List.map_append, List.map_cons, List.map_nil, HT1.out.1]; exact HM2.out⟩
     ·obtain ⟨p, hp⟩ : ∃ p, L[j - 1]? = some p := ⟨_, List.getElem?_eq_getElem (by omega)⟩
      have hpm := List.mem_of_getElem? hp
      obtain ⟨sb, so, rfl, hrw⟩ := HO1.out.o.adr hp
      have hlast : (L.map Cm.key).getLast? = some p.key := by rw [List.getLast?_eq_getElem?, List.length_map, hts, List.getElem?_map, hp]; rfl
      have hok := (HO1.out.m p hpm).1.ok (HO1.out.m p hpm).2
      have hsv := hrw.seven hp
      have hsh := hok.shape
      have hz0 := hrw.1
      have HCM : ∀ Y : World, Below w1.heap.size w1 Y -> Calls Tryz.prog 59 #[p.v, Cm.v (⟨(⟨⟨ck, cn, cs⟩, cm, cl⟩, .slice c1 c2 c3), cb, .slice c4 c5 c6, ct, .slice c7 c8 c9⟩ : Cm)] Y fun e w' => e = .returned (.int .i64 (p.cmp (⟨(⟨⟨ck, cn, cs⟩, cm, cl⟩, .slice c1 c2 c3), cb, .slice c4 c5 c6, ct, .slice c7 c8 c9⟩ : Cm))) /\ Below Y.heap.size Y w' := fun Y hY => compareC_any p (⟨(⟨⟨ck, cn, cs⟩, cm, cl⟩, .slice c1 c2 c3), cb, .slice c4 c5 c6, ct, .slice c7 c8 c9⟩ : Cm) Y (hok.later hY) ((HT1.out.2.1.ok HT1.out.2.2).later hY)
      have hup : upK (L.map Cm.key).getLast? t = decide (p.cmp (⟨(⟨⟨ck, cn, cs⟩, cm, cl⟩, .slice c1 c2 c3), cb, .slice c4 c5 c6, ct, .slice c7 c8 c9⟩ : Cm) < 0) := by rw [hlast, cmp_key, <- HT1.out.1]; rfl
      have ep : (j : Int) - 1 = ((j - 1 : Nat) : Int) := by omega
      have ip : (0 : Int) < (j : Int) := by omega
      have iq0 : (0 : Int) <= ((j - 1 : Nat) : Int) := by omega
      have iq1 : ((j - 1 : Nat) : Int) < (j : Int) := by omega
      have HJW : Hid (IntKind.i64.wrap ((j - 1 : Nat) : Int) = ((j - 1 : Nat) : Int)) := by show _ = _; rw [IntKind.wrap_i64]; omega
      obtain ⟨R, hR⟩ : ∃ R, p.cmp (⟨(⟨⟨ck, cn, cs⟩, cm, cl⟩, .slice c1 c2 c3), cb, .slice c4 c5 c6, ct, .slice c7 c8 c9⟩ : Cm) = R := ⟨_, rfl⟩
      rw [hR] at hup
      simp only [hR] at HCM
      clear hp hpm hrw hlast hR hok
      obtain ⟨⟨⟨⟨pk, pm, ps⟩, pn, pl⟩, px⟩, pb, pbv, pt, ptv⟩ := p
      simp only at hsv hsh
      obtain ⟨⟨p1, p2, p3, e1⟩, ⟨p4, p6, e2⟩, ⟨p7, p9, e3⟩, -, -⟩ := hsh
      obtain ⟨p5, hp5⟩ : ∃ n, pb.length = n := ⟨_, rfl⟩
      obtain ⟨p8, hp8⟩ : ∃ n, pt.length = n := ⟨_, rfl⟩
      rw [hp5] at e2
      rw [hp8] at e3
      subst e1 e2 e3
      clear hp5 hp8
      obtain ⟨q0, q1, q2, q3, q4, q5, q6⟩ := hsv
      have HQ := conj7 (cell_step HBX.out hz0 q0) (cell_step HBX.out hz0 q1) (cell_step HBX.out hz0 q2) (cell_step HBX.out hz0 q3) (cell_step HBX.out hz0 q4) (cell_step HBX.out hz0 q5) (cell_step HBX.out hz0 q6)
      have HQz : Hid (sb < X.heap.size) := Nat.lt_of_lt_of_le hz0 HBX.out.size
      have HCM : Hid (∀ Y : World, Below w1.heap.size w1 Y -> Calls Tryz.prog 59 #[.agg #[.int .i64 pk, .int .i64 pm, .string ps, .string pn, .slice p1 p2 p3, .slice p4 p5 p6, .slice p7 p8 p9], .agg #[.int .i64 ck, .int .i64 cn, .string cs, .string cm, .slice c1 c2 c3, .slice c4 c5 c6, .slice c7 c8 c9]] Y fun e w' => e = .returned (.int .i64 R) /\ Below Y.heap.size Y w') := HCM
      clear q0 q1 q2 q3 q4 q5 q6 hz0
      by_cases hr : R < 0
      ·have HM2 : Hid (Muy n r1 k (L.map Cm.key ++ [t]) r) := HM.out.next HRC.out (by rw [hup]; exact decide_eq_true hr)
       have n1 : ¬ (0 <= R) := by omega
       have n2 : ¬ (R ≥ 0) := by omega
       clear hup
       refine wp_region_held_drew (S := fun w' => Below X.heap.size X w') (by kernel_rfl) (Below.refl _ _).drew (fun hH => ?_)
       revert hH
       generalize X.drew = V
       intro hH
       refine wTk 0 (.int .i64 (j : Int)) rfl (by kernel_rfl) (fun _ _ _ h => h) (Or.inl ⟨by rfl, fun w' _ => by go_simp⟩) hH ?_
       simp only [wA8, wB8, wC8, wD8]
       refine wTk 1 (.bool true) rfl (by kernel_rfl) (fun _ _ _ h => h) (Or.inl ⟨by rfl, fun w' _ => by go_simp⟩) hH ?_
       simp only [wA8, wB8, wC8, wD8]
       refine wTk 2 (.bool true) rfl (by kernel_rfl) (fun _ _ _ h => h) (Or.inl ⟨by rfl, fun w' _ => by go_simp⟩) hH ?_
       simp only [wA8, wB8, wC8, wD8]
       refine wTk 3 (.slice (some ⟨sb, so, none⟩) j uc) rfl (by kernel_rfl) (fun _ _ _ h => h) (Or.inl ⟨by rfl, fun w' _ => by go_simp⟩) hH ?_
       simp only [wA8, wB8, wC8, wD8]
       refine wTk 4 (.int .i64 (j : Int)) rfl (by kernel_rfl) (fun _ _ _ h => h) (Or.inl ⟨by rfl, fun w' _ => by go_simp⟩) hH ?_
       simp only [wA8, wB8, wC8, wD8]
       refine wTk 5 (.int .i64 ((j - 1 : Nat) : Int)) rfl (by kernel_rfl) (fun _ _ _ h => h) (Or.inl ⟨by rfl, fun w' _ => by go_simp; exact HJW.out⟩) hH ?_
       simp only [wA8, wB8, wC8, wD8]
       refine wTk 6 (.pointer (some ⟨sb, so + (j - 1) * 7, none⟩)) rfl (by kernel_rfl) (fun _ _ _ h => h) (Or.inl ⟨by rfl, fun w' _ => by go_simp⟩) hH ?_
       simp only [wA8, wB8, wC8, wD8]
       refine wTk 7 (.agg #[.int .i64 pk, .int .i64 pm, .string ps, .string pn, .slice p1 p2 p3, .slice p4 p5 p6, .slice p7 p8 p9]) rfl (by kernel_rfl) (fun _ _ _ h => h) (Or.inl ⟨by rfl, fun w' h => by obtain ⟨q0, q1, q2, q3, q4, q5, q6⟩ := HQ.out; have z := HQz.out; have y0 := cell_step h z q0; have y1 := cell_step h z q1; have y2 := cell_step h z q2; have y3 := cell_step h z q3; have y4 := cell_step h z q4; have y5 := cell_step h z q5; have y6 := cell_step h z q6; clear q0 q1 q2 q3 q4 q5 q6; go_simp⟩) hH ?_
       simp only [wA8, wB8, wC8, wD8]
       refine wTk 8 (.agg #[.int .i64 ck, .int .i64 cn, .string cs, .string cm, .slice c1 c2 c3, .slice c4 c5 c6, .slice c7 c8 c9]) rfl (by kernel_rfl) (fun _ _ _ h => h) (Or.inl ⟨by rfl, fun w' h => by obtain ⟨x0, x1, x2, x3, x4, x5, x6⟩ := cseven (CBlk.later (Hid.out BT) h); clear h; go_simp⟩) hH ?_
       simp only [wA8, wB8, wC8, wD8]
       refine wRd 9 (by kernel_rfl) rfl (fun K hK => ?_)
       go_simp
       refine (HCM.out _ (below_step HBX.out hH)).mono ?_
       rintro e V1 ⟨rfl, hb⟩
       refine hK.out _ _ (below_step hH hb) (fun hH => ?_)
       clear hK K hb
       refine wTk 10 (.bool false) rfl (by kernel_rfl) (fun _ _ _ h => h) (Or.inl ⟨by rfl, fun w' _ => by go_simp⟩) hH ?_
       simp only [wA8, wB8, wC8, wD8]
       refine wTk 11 (.bool false) rfl (by kernel_rfl) (fun _ _ _ h => h) (Or.inl ⟨by rfl, fun w' _ => by go_simp⟩) hH ?_
       simp only [wA8, wB8, wC8, wD8]
       refine wpAnyH_done (by kernel_rfl) ?_ _
       have HVb : Hid (Below w1.heap.size w1 V1) := below_step HBX.out hH
       have BV : Hid (CBlk V1 w1.heap.size #[.int .i64 ck, .int .i64 cn, .string cs, .string cm, .slice c1 c2 c3, .slice c4 c5 c6, .slice c7 c8 c9] 58) := BT.out.later hH
       have HOV : Hid (OCL V1 w.heap.size (.slice (some ⟨sb, so, none⟩) j uc) L) := HO1.out.blM (Bv.of HVb.out) hlt
       have HTV : Hid (MC8 w.heap.size V1 (⟨(⟨⟨ck, cn, cs⟩, cm, cl⟩, .slice c1 c2 c3), cb, .slice c4 c5 c6, ct, .slice c7 c8 c9⟩ : Cm) /\ GC (Cm.key (⟨(⟨⟨ck, cn, cs⟩, cm, cl⟩, .slice c1 c2 c3), cb, .slice c4 c5 c6, ct, .slice c7 c8 c9⟩ : Cm))) := ⟨HT1.out.2.1.later HVb.out, HT1.out.2.2⟩
       have hzV := HVb.out.size
       clear hH
       obtain ⟨x0, x1, x2, x3, x4, x5, x6⟩ := cseven BV.out
       go_wp2_with (at_builtin; refine capp_one rfl _ _ rfl w.heap.size (.slice (some ⟨sb, so, none⟩) j uc) L rfl (HOV.out.o.later (below1 _ _)) V1.heap.size (⟨(⟨⟨ck, cn, cs⟩, cm, cl⟩, .slice c1 c2 c3), cb, .slice c4 c5 c6, ct, .slice c7 c8 c9⟩ : Cm) rfl (show CBlk _ _ (Cm.cs (⟨(⟨⟨ck, cn, cs⟩, cm, cl⟩, .slice c1 c2 c3), cb, .slice c4 c5 c6, ct, .slice c7 c8 c9⟩ : Cm)) _ from CBlk.new _ _ _) (W := V1) (HTV.out.1.ok HTV.out.2) (by omega) (by simp; omega) ?_; intro v2 w2 ho2 hb2 hg2 hk2; have HO2 : Hid (OCL w2 w.heap.size v2 (L ++ [(⟨(⟨⟨ck, cn, cs⟩, cm, cl⟩, .slice c1 c2 c3), cb, .slice c4 c5 c6, ct, .slice c7 c8 c9⟩ : Cm)])) := HOV.out.add ho2 ((Kt.of (below1 _ _)).trans (row_grown (HOV.out.o.later (below1 _ _)) hg2)) HTV.out; have HB2 : Hid (Below w.heap.size w1 w2) := (HVb.out.mono hz1).trans (((below1 _ _).mono (by omega)).trans hb2); clear ho2 hb2 hg2 hk2)
       go_roundg k
       case measure => omega
       case rel => exact ⟨j + 1, L ++ [(⟨(⟨⟨ck, cn, cs⟩, cm, cl⟩, .slice c1 c2 c3), cb, .slice c4 c5 c6, ct, .slice c7 c8 c9⟩ : Cm)], r, by omega, by go_num, by simp; omega, HO2.out, HS1.out.low HB2.out hlt, HB1.out.trans (Bv.of HB2.out), by rw [List.map_append, List.map_cons, List.map_nil, HT1.out.1]; exact HM2.out⟩
      ·have HE : Hid (rUp n none r1 = .error 64) := HM.out.bad HRC.out (by rw [hup]; exact decide_eq_false hr)
       have n1 : 0 <= R := by omega
       have n2 : R ≥ 0 := by omega
       clear hup
       refine wp_region_held_drew (S := fun w' => Below X.heap.size X w') (by kernel_rfl) (Below.refl _ _).drew (fun hH => ?_)
       revert hH
       generalize X.drew = V
       intro hH
       refine wTk 0 (.int .i64 (j : Int)) rfl (by kernel_rfl) (fun _ _ _ h => h) (Or.inl ⟨by rfl, fun w' _ => by go_simp⟩) hH ?_
       simp only [wA8, wB8, wC8, wD8]
       refine wTk 1 (.bool true) rfl (by kernel_rfl) (fun _ _ _ h => h) (Or.inl ⟨by rfl, fun w' _ => by go_simp⟩) hH ?_
       simp only [wA8, wB8, wC8, wD8]
       refine wTk 2 (.bool true) rfl (by kernel_rfl) (fun _ _ _ h => h) (Or.inl ⟨by rfl, fun w' _ => by go_simp⟩) hH ?_
       simp only [wA8, wB8, wC8, wD8]
       refine wTk 3 (.slice (some ⟨sb, so, none⟩) j uc) rfl (by kernel_rfl) (fun _ _ _ h => h) (Or.inl ⟨by rfl, fun w' _ => by go_simp⟩) hH ?_
       simp only [wA8, wB8, wC8, wD8]
       refine wTk 4 (.int .i64 (j : Int)) rfl (by kernel_rfl) (fun _ _ _ h => h) (Or.inl ⟨by rfl, fun w' _ => by go_simp⟩) hH ?_
       simp only [wA8, wB8, wC8, wD8]
       refine wTk 5 (.int .i64 ((j - 1 : Nat) : Int)) rfl (by kernel_rfl) (fun _ _ _ h => h) (Or.inl ⟨by rfl, fun w' _ => by go_simp; exact HJW.out⟩) hH ?_
       simp only [wA8, wB8, wC8, wD8]
       refine wTk 6 (.pointer (some ⟨sb, so + (j - 1) * 7, none⟩)) rfl (by kernel_rfl) (fun _ _ _ h => h) (Or.inl ⟨by rfl, fun w' _ => by go_simp⟩) hH ?_
       simp only [wA8, wB8, wC8, wD8]
       refine wTk 7 (.agg #[.int .i64 pk, .int .i64 pm, .string ps, .string pn, .slice p1 p2 p3, .slice p4 p5 p6, .slice p7 p8 p9]) rfl (by kernel_rfl) (fun _ _ _ h => h) (Or.inl ⟨by rfl, fun w' h => by obtain ⟨q0, q1, q2, q3, q4, q5, q6⟩ := HQ.out; have z := HQz.out; have y0 := cell_step h z q0; have y1 := cell_step h z q1; have y2 := cell_step h z q2; have y3 := cell_step h z q3; have y4 := cell_step h z q4; have y5 := cell_step h z q5; have y6 := cell_step h z q6; clear q0 q1 q2 q3 q4 q5 q6; go_simp⟩) hH ?_
       simp only [wA8, wB8, wC8, wD8]
       refine wTk 8 (.agg #[.int .i64 ck, .int .i64 cn, .string cs, .string cm, .slice c1 c2 c3, .slice c4 c5 c6, .slice c7 c8 c9]) rfl (by kernel_rfl) (fun _ _ _ h => h) (Or.inl ⟨by rfl, fun w' h => by obtain ⟨x0, x1, x2, x3, x4, x5, x6⟩ := cseven (CBlk.later (Hid.out BT) h); clear h; go_simp⟩) hH ?_
       simp only [wA8, wB8, wC8, wD8]
       refine wRd 9 (by kernel_rfl) rfl (fun K hK => ?_)
       go_simp
       refine (HCM.out _ (below_step HBX.out hH)).mono ?_
       rintro e V1 ⟨rfl, hb⟩
       refine hK.out _ _ (below_step hH hb) (fun hH => ?_)
       clear hK K hb
       refine wTk 10 (.bool true) rfl (by kernel_rfl) (fun _ _ _ h => h) (Or.inl ⟨by rfl, fun w' _ => by go_simp⟩) hH ?_
       simp only [wA8, wB8, wC8, wD8]
       refine wTk 11 (.bool true) rfl (by kernel_rfl) (fun _ _ _ h => h) (Or.inl ⟨by rfl, fun w' _ => by go_simp⟩) hH ?_
       simp only [wA8, wB8, wC8, wD8]
       refine wpAnyH_done (by kernel_rfl) ?_ _
       have HVb : Hid (Below w1.heap.size w1 V1) := below_step HBX.out hH
       clear hH
       go_wp2_with (go_at_call 81; refine (giveUp_any 64 _).mono ?_; rintro e w2 ⟨rfl, rfl⟩)
       refine ⟨rfl, ?_⟩
       unfold rSet
       rw [HR0.out]
       simp only [Rd.and, Int.toNat_natCast]
       rw [HE.out]
       exact ⟨HB1.out.step (Bv.of HVb.out), rfl⟩
   | zero =>
    obtain rfl : j = n := by omega
    have hz : ¬ ((j : Int) < (j : Int)) := by omega
    have HE : Hid (rUp j none r1 = .ok (L.map Cm.key, l')) := hm.done
    clear ho hs hb hm
    go_wp2
    go_ret
    unfold rSet
    rw [HR0.out]
    simp only [Rd.and, Int.toNat_natCast]
    rw [HE.out]
    exact ⟨HB.out, _, rfl, ⟨L, rfl, HO.out⟩, HS.out⟩
end Go.Proofs.YtnenadklmjcakaaGreatDoor
