import Derived.Test.YtnenadklmjcakaaGreatDoorCL1
import Derived.Test.YtnenadklmjcakaaGreatDoorMD8
import Derived.Deep.RegionHeld3
namespace Go.Proofs.YtnenadklmjcakaaGreatDoor
open Go.RowKit
attribute [local go_sem ↓] Go.wp_at_zero Go.wp_at_succ

structure PP (w X : World) (x : At) (v : Value) : Prop where
 bc : CBlk X w.heap.size (At.cs x v) 54
 br : CBlk X (w.heap.size + 1) #[.int .i64 0, .int .i64 0, .string ⟨#[]⟩, .string ⟨#[]⟩, .slice none 0 0] 54
 bw : Below w.heap.size w X
 sz : w.heap.size + 1 + 1 <= X.heap.size
theorem PP.later {w X X' : World} {x : At} {v : Value} (h : PP w X x v) (hb : Below X.heap.size X X') : PP w X' x v := ⟨h.bc.later hb, h.br.later hb, below_step h.bw hb, Nat.le_trans h.sz hb.size⟩
theorem PP.laterB {w X X' : World} {x : At} {v : Value} {B : Nat} (h : PP w X x v) (hb : Below B X X') (hB : w.heap.size + 1 + 1 <= B) : PP w X' x v :=
 ⟨(hb.block _ (by omega)).trans h.bc, (hb.block _ (by omega)).trans h.br, h.bw.trans (hb.mono (by omega)), Nat.le_trans h.sz hb.size⟩
theorem PP.start (w : World) (x : At) (v : Value) : PP w ((w.alloc (.cells (At.cs x v) 54)).alloc (.cells #[.int .i64 0, .int .i64 0, .string ⟨#[]⟩, .string ⟨#[]⟩, .slice none 0 0] 54)) x v := by
 have x2 := CBlk.new (w.alloc (.cells (At.cs x v) 54)) #[.int .i64 0, .int .i64 0, .string ⟨#[]⟩, .string ⟨#[]⟩, .slice none 0 0] 54
 rw [show (w.alloc (.cells (At.cs x v) 54)).heap.size = w.heap.size + 1 by simp] at x2
 exact ⟨(CBlk.new w (At.cs x v) 54).later (below1 _ _), x2, below2 _ _ _, by simp⟩
theorem MS.pp {w X : World} {x : At} {v : Value} {b' : Tm} {nm' : ByteArray} {u : Value} {L : List Tm} (h : MS w X x v b' nm' u L) : PP w X x v := ⟨h.bc, h.br, h.bw, by have := h.sz; omega⟩
theorem PP.fill {w Y : World} {x : At} {v : Value} (h : PP w Y x v) (hg : CBlk Y (w.heap.size + 1 + 1) #[.int .i64 0, .int .i64 0, .string ⟨#[]⟩, .string ⟨#[]⟩, .slice none 0 0] 54) {b' : Tm} {nm' : ByteArray} :
  MS w (((((Y.setCell ⟨w.heap.size + 1 + 1, 0, none⟩ (.int .i64 b'.k)).setCell ⟨w.heap.size + 1 + 1, 1, none⟩ (.int .i64 b'.n)).setCell ⟨w.heap.size + 1 + 1, 2, none⟩ (.string b'.s)).setCell ⟨w.heap.size + 1 + 1, 3, none⟩ (.string nm')).setCell ⟨w.heap.size + 1 + 1, 4, none⟩ (.slice none 0 0)) x v b' nm' (.slice none 0 0) [] := by
 have n1 : w.heap.size ≠ w.heap.size + 1 + 1 := by omega
 have n2 : w.heap.size + 1 ≠ w.heap.size + 1 + 1 := by omega
 have n4 : w.heap.size <= w.heap.size + 1 + 1 := by omega
 exact ⟨((((h.bc.off n1).off n1).off n1).off n1).off n1, ((((h.br.off n2).off n2).off n2).off n2).off n2, hg.put5, ownT_nil _ _, ((((h.bw.setCell n4 _).setCell n4 _).setCell n4 _).setCell n4 _).setCell n4 _, by have := hg.lt; simp [World.setCell]; omega⟩
set_option maxRecDepth 20000 in
set_option maxHeartbeats 2000000 in
theorem putAtom_any (f : Tm -> Tm) (x : At) (v : Value) (pre post : List Tm) (vl : Value) (w : World) (hv : ∃ a cap, v = .slice a x.args.length cap) (hlen : x.args.length <= 3900000000000) (hl : Ts w vl (pre ++ (x.pl.map f ++ post))) :
  Calls Tryz.prog 162 #[x.v v, vl, .int .i64 (pre.length : Nat)] w fun e w' => ∃ v', e = .returned (.tuple #[(mapA f x).v v', .int .i64 ((pre.length + x.pl.length : Nat) : Int)]) /\ OwnT w' w.heap.size v' (mapA f x).args /\ Below w.heap.size w w' := by
 obtain ⟨⟨k, n, ss⟩, nm, la⟩ := x
 simp only at hv hlen
 obtain ⟨a, cap, rfl⟩ := hv
 obtain ⟨al, capl, rfl, hLl, hm⟩ := hl
 have hpl : (At.pl ⟨⟨k, n, ss⟩, nm, la⟩).map f = f ⟨k, n, ss⟩ :: la.map f := rfl
 rw [hpl] at hm hLl ⊢
 have HEQ : Hid (mapA f ⟨⟨k, n, ss⟩, nm, la⟩ = ⟨f ⟨k, n, ss⟩, nm, la.map f⟩) := rfl
 have hpn : (At.pl ⟨⟨k, n, ss⟩, nm, la⟩).length = la.length + 1 := by simp [At.pl]
 rw [hpn]
 have hget0 : (pre ++ (f ⟨k, n, ss⟩ :: la.map f ++ post))[pre.length]? = some (f ⟨k, n, ss⟩) := by simp
 have hget : ∀ j t, (la.map f)[j]? = some t -> (pre ++ (f ⟨k, n, ss⟩ :: la.map f ++ post))[pre.length + 1 + j]? = some t := fun j t h => by
  rw [List.getElem?_append_right (by omega), show pre.length + 1 + j - pre.length = j + 1 by omega, List.cons_append, List.getElem?_cons_succ, List.getElem?_append_left (List.getElem?_eq_some_iff.1 h).1, h]
 have hlm : (la.map f).length = la.length := by simp
 have hLn : pre.length + 1 + la.length <= (pre ++ (f ⟨k, n, ss⟩ :: la.map f ++ post)).length := by simp; omega
 obtain ⟨⟨bk, bn, bz⟩, hB⟩ : ∃ b, f ⟨k, n, ss⟩ = b := ⟨_, rfl⟩
 rw [hB] at hget0 hget HEQ hm hLl hLn ⊢
 generalize la.map f = LM at hget0 hget HEQ hm hLl hLn hlm ⊢
 generalize pre ++ (⟨bk, bn, bz⟩ :: LM ++ post) = LL at hget0 hget hm hLl hLn ⊢
 generalize pre.length = KK at hget0 hget hLn ⊢
 rcases hm with hm | ⟨b1, o1, rfl, hb1, hm⟩
 ·subst hm; simp at hget0
 have HGET : Hid (∀ j t, LM[j]? = some t -> LL[KK + 1 + j]? = some t) := hget
 obtain ⟨p0, p1, p2⟩ := hm KK _ hget0
 simp only at p0 p1 p2
 have HM : Hid (∀ i t, LL[i]? = some t -> _) := hm
 have HLM : Hid (LM.length = la.length) := hlm
 have i1 : (0 : Int) <= (KK : Int) := by omega
 have i2 : (KK : Int) < (LL.length : Int) := by omega
 clear hB hget hget0 hpl hpn hm hlm
 go_enter Tryz.func162, Tryz.ntmps162
 go_wp2_with fail
 have hV0 : PP w (((w.alloc (.cells (At.cs ⟨⟨k, n, ss⟩, nm, la⟩ (.slice a la.length cap)) 54)).alloc (.cells #[.int .i64 0, .int .i64 0, .string ⟨#[]⟩, .string ⟨#[]⟩, .slice none 0 0] 54))).drew ⟨⟨k, n, ss⟩, nm, la⟩ (.slice a la.length cap) /\ (((w.alloc (.cells (At.cs ⟨⟨k, n, ss⟩, nm, la⟩ (.slice a la.length cap)) 54)).alloc (.cells #[.int .i64 0, .int .i64 0, .string ⟨#[]⟩, .string ⟨#[]⟩, .slice none 0 0] 54))).drew.heap.size = w.heap.size + 1 + 1 := ⟨(PP.start w ⟨⟨k, n, ss⟩, nm, la⟩ (.slice a la.length cap)).later (Below.refl _ _).drew, by simp [World.drew]⟩
 refine wp_region_held_drew (S := fun w' => PP w w' ⟨⟨k, n, ss⟩, nm, la⟩ (.slice a la.length cap)) (by kernel_rfl) hV0.1 (fun hH => ?_)
 revert hH hV0
 generalize ((w.alloc (.cells (At.cs ⟨⟨k, n, ss⟩, nm, la⟩ (.slice a la.length cap)) 54)).alloc (.cells #[.int .i64 0, .int .i64 0, .string ⟨#[]⟩, .string ⟨#[]⟩, .slice none 0 0] 54)).drew = V0
 intro hV0 hH
 obtain ⟨hV0, hVs⟩ := hV0
 have HV0 : Hid (PP w V0 ⟨⟨k, n, ss⟩, nm, la⟩ (.slice a la.length cap)) := hV0
 clear hV0
 refine wTk 0 (.slice (some ⟨b1, o1, none⟩) LL.length capl) rfl (by kernel_rfl) (fun _ _ _ h => h) (Or.inl ⟨by rfl, fun w' h => by clear h; go_simp⟩) hH ?_
 simp only [wA8, wB8, wC8, wD8]
 refine wTk 1 (.int .i64 (KK : Int)) rfl (by kernel_rfl) (fun _ _ _ h => h) (Or.inl ⟨by rfl, fun w' h => by clear h; go_simp⟩) hH ?_
 simp only [wA8, wB8, wC8, wD8]
 refine wTk 2 (.pointer (some ⟨b1, o1 + KK * 3, none⟩)) rfl (by kernel_rfl) (fun _ _ _ h => h) (Or.inl ⟨by rfl, fun w' h => by clear h; go_simp⟩) hH ?_
 simp only [wA8, wB8, wC8, wD8]
 refine wTk 3 (Tm.v ⟨bk, bn, bz⟩) rfl (by kernel_rfl) (fun _ _ _ h => h) (Or.inl ⟨by rfl, fun w' h => by have z1 := cell_step h.bw hb1 p0; have z2 := cell_step h.bw hb1 p1; have z3 := cell_step h.bw hb1 p2; clear h; go_simp⟩) hH ?_
 simp only [wA8, wB8, wC8, wD8]
 refine wTk 4 (.pointer (some ⟨w.heap.size, 3, none⟩)) rfl (by kernel_rfl) (fun _ _ _ h => h) (Or.inl ⟨by rfl, fun w' h => by clear h; go_simp⟩) hH ?_
 simp only [wA8, wB8, wC8, wD8]
 refine wTk 5 (.string nm) rfl (by kernel_rfl) (fun _ _ _ h => h) (Or.inl ⟨by rfl, fun w' h => by obtain ⟨c0, c1, c2, c3, c4⟩ := cfive h.bc; clear h; go_simp⟩) hH ?_
 simp only [wA8, wB8, wC8, wD8]
 refine wTk 6 (.agg #[.int .i64 bk, .int .i64 bn, .string bz, .string nm, .slice none 0 0]) rfl (by kernel_rfl) (fun _ _ _ h => h) (Or.inl ⟨by rfl, fun w' h => by clear h; go_simp⟩) hH ?_
 simp only [wA8, wB8, wC8, wD8]
 refine wRd 7 (by kernel_rfl) rfl (fun K hK => ?_)
 go_simp
 have HV1 : Hid (PP w (V0.alloc (.cells #[.int .i64 0, .int .i64 0, .string ⟨#[]⟩, .string ⟨#[]⟩, .slice none 0 0] 54)) ⟨⟨k, n, ss⟩, nm, la⟩ (.slice a la.length cap)) := HV0.out.later (below1 _ _)
 have HG1 : Hid (CBlk (V0.alloc (.cells #[.int .i64 0, .int .i64 0, .string ⟨#[]⟩, .string ⟨#[]⟩, .slice none 0 0] 54)) (w.heap.size + 1 + 1) #[.int .i64 0, .int .i64 0, .string ⟨#[]⟩, .string ⟨#[]⟩, .slice none 0 0] 54) := by have := CBlk.new V0 #[.int .i64 0, .int .i64 0, .string ⟨#[]⟩, .string ⟨#[]⟩, .slice none 0 0] 54; rw [hVs] at this; exact this
 clear hH HV0 hVs
 refine hK.out _ _ HV1.out (fun hH => ?_)
 clear hK K
 revert hH HV1 HG1
 generalize V0.alloc (.cells #[.int .i64 0, .int .i64 0, .string ⟨#[]⟩, .string ⟨#[]⟩, .slice none 0 0] 54) = V1
 intro HV1 HG1 hH
 refine wRd 8 (by kernel_rfl) rfl (fun K hK => ?_)
 obtain ⟨c0, c1, c2, c3, c4⟩ := cfive HG1.out
 have f0 : V1.frozen? ⟨w.heap.size + 1 + 1, 0, none⟩ = false := HG1.out.froz
 have f1 : V1.frozen? ⟨w.heap.size + 1 + 1, 1, none⟩ = false := HG1.out.froz
 have f2 : V1.frozen? ⟨w.heap.size + 1 + 1, 2, none⟩ = false := HG1.out.froz
 have f3 : V1.frozen? ⟨w.heap.size + 1 + 1, 3, none⟩ = false := HG1.out.froz
 have f4 : V1.frozen? ⟨w.heap.size + 1 + 1, 4, none⟩ = false := HG1.out.froz
 go_simp
 clear c0 c1 c2 c3 c4 f0 f1 f2 f3 f4 hH
 have HM1 : Hid (MS w (((((V1.setCell ⟨w.heap.size + 1 + 1, 0, none⟩ (.int .i64 bk)).setCell ⟨w.heap.size + 1 + 1, 1, none⟩ (.int .i64 bn)).setCell ⟨w.heap.size + 1 + 1, 2, none⟩ (.string bz)).setCell ⟨w.heap.size + 1 + 1, 3, none⟩ (.string nm)).setCell ⟨w.heap.size + 1 + 1, 4, none⟩ (.slice none 0 0)) ⟨⟨k, n, ss⟩, nm, la⟩ (.slice a la.length cap) ⟨bk, bn, bz⟩ nm (.slice none 0 0) []) := HV1.out.fill (b' := ⟨bk, bn, bz⟩) (nm' := nm) HG1.out
 refine hK.out _ _ HM1.out.pp (fun hH => ?_)
 clear hK K hH
 refine wpAnyH_done (by kernel_rfl) ?_ _
 clear HV1 HG1
 go_wp2_with fail
 clear p0 p1 p2
 go_loopg [2, 9] la.length (fun g a2 i wr => ∃ (j : Nat) (u : Value), j + g = la.length /\ a2 = .int .i64 ((KK + 1 + j : Nat) : Int) /\ i = .int .i64 j /\ MS w wr ⟨⟨k, n, ss⟩, nm, la⟩ (.slice a la.length cap) ⟨bk, bn, bz⟩ nm u (LM.take j))
 case atStart => exact ⟨0, _, by omega, by go_num, rfl, HM1.out⟩
 case round =>
  obtain ⟨j, u, hj, hQ, rfl, hms⟩ := hrel
  have HMS : Hid (MS w wr ⟨⟨k, n, ss⟩, nm, la⟩ (.slice a la.length cap) ⟨bk, bn, bz⟩ nm u (LM.take j)) := hms
  clear hms HM1
  obtain ⟨c0, c1, c2, c3, c4⟩ := cfive HMS.out.bc
  simp only at c0 c1 c2 c3 c4
  obtain ⟨QQ, hQQ⟩ : ∃ Q, KK + 1 + j = Q := ⟨_, rfl⟩
  rw [hQQ] at hQ
  subst hQ
  have hQ2 : Hid (QQ = KK + 1 + j) := hQQ.symm
  cases gk with
  | succ g =>
   have hlt : (j : Int) < (la.length : Int) := by omega
   have j0 : (0 : Int) <= (QQ : Int) := by omega
   have j1 : (QQ : Int) < (LL.length : Int) := by omega
   obtain ⟨t, ht⟩ : ∃ t, LM[j]? = some t := ⟨_, List.getElem?_eq_getElem (by have := HLM.out; omega)⟩
   obtain ⟨p0, p1, p2⟩ := HM.out QQ t (by rw [<- hQQ]; exact HGET.out j t ht)
   have HTJ : Hid (LM.take j ++ [t] = LM.take (j + 1)) := by show _ = _; rw [List.take_add_one, ht]; rfl
   have HLJ : Hid ((LM.take j).length <= 3900000000000) := by show _ <= _; rw [List.length_take]; omega
   clear hQQ ht
   obtain ⟨tk, tn, ts⟩ := t
   simp only at p0 p1 p2
   generalize LM.take j = LJ at HMS HTJ HLJ
   go_wp2_with fail
   clear c0 c1 c2 c3 c4
   have hV0 : MS w wr.drew ⟨⟨k, n, ss⟩, nm, la⟩ (.slice a la.length cap) ⟨bk, bn, bz⟩ nm u LJ := HMS.out.later (Below.refl _ _).drew
   refine wp_region_held_drew (S := fun w' => PP w w' ⟨⟨k, n, ss⟩, nm, la⟩ (.slice a la.length cap)) (by kernel_rfl) hV0.pp (fun hH => ?_)
   revert hH hV0
   generalize wr.drew = V0
   intro hV0 hH
   have HV0 : Hid (MS w V0 ⟨⟨k, n, ss⟩, nm, la⟩ (.slice a la.length cap) ⟨bk, bn, bz⟩ nm u LJ) := hV0
   clear hV0 HMS
   refine wTk 0 (.pointer (some ⟨w.heap.size + 1 + 1, 4, none⟩)) rfl (by kernel_rfl) (fun _ _ _ h => h) (Or.inl ⟨by rfl, fun w' h => by clear h; go_simp⟩) hH ?_
   simp only [wA8, wB8, wC8, wD8]
   refine wTk 2 (.slice (some ⟨b1, o1, none⟩) LL.length capl) rfl (by kernel_rfl) (fun _ _ _ h => h) (Or.inl ⟨by rfl, fun w' h => by clear h; go_simp⟩) hH ?_
   simp only [wA8, wB8, wC8, wD8]
   refine wTk 3 (.int .i64 (QQ : Int)) rfl (by kernel_rfl) (fun _ _ _ h => h) (Or.inl ⟨by rfl, fun w' h => by clear h; go_simp⟩) hH ?_
   simp only [wA8, wB8, wC8, wD8]
   refine wTk 4 (.pointer (some ⟨b1, o1 + QQ * 3, none⟩)) rfl (by kernel_rfl) (fun _ _ _ h => h) (Or.inl ⟨by rfl, fun w' h => by clear h; go_simp⟩) hH ?_
   simp only [wA8, wB8, wC8, wD8]
   refine wTk 5 (Tm.v ⟨tk, tn, ts⟩) rfl (by kernel_rfl) (fun _ _ _ h => h) (Or.inl ⟨by rfl, fun w' h => by have z1 := cell_step h.bw hb1 p0; have z2 := cell_step h.bw hb1 p1; have z3 := cell_step h.bw hb1 p2; clear h; go_simp⟩) hH ?_
   simp only [wA8, wB8, wC8, wD8]
   refine wpAnyH_ready (rs := [1, 6]) (by kernel_rfl) (by simp) ?_
   refine (AllReadyH.cons (o := ⟨_, _, _, _, _, _⟩) rfl (fun K hK => ?_) (AllReadyH.cons (o := ⟨_, _, _, _, _, _⟩) rfl (fun K hK => ?_) AllReadyH.nil))
   ·have c4 := (cfive HV0.out.bo).2.2.2.2
    go_simp
    clear c4
    refine hK.out _ _ hH (fun hH => ?_)
    clear hK K
    refine wRd 6 (by kernel_rfl) rfl (fun K hK => ?_)
    go_simp
    have HV1 : Hid (MS w (V0.alloc (.cells #[.int .i64 tk, .int .i64 tn, .string ts] 52)) ⟨⟨k, n, ss⟩, nm, la⟩ (.slice a la.length cap) ⟨bk, bn, bz⟩ nm u LJ) := HV0.out.later (below1 _ _)
    have HG : Hid (CBlk (V0.alloc (.cells #[.int .i64 tk, .int .i64 tn, .string ts] 52)) V0.heap.size #[.int .i64 tk, .int .i64 tn, .string ts] 52) := CBlk.new _ _ _
    clear hH HV0
    refine hK.out _ _ HV1.out.pp (fun hH => ?_)
    clear hK K
    revert hH HV1 HG
    generalize V0.alloc (.cells #[.int .i64 tk, .int .i64 tn, .string ts] 52) = V1
    generalize V0.heap.size = GG
    intro HV1 HG hH
    refine wRd 7 (by kernel_rfl) rfl (fun K hK => ?_)
    refine step_terms rfl _ _ rfl (w.heap.size + 3) u LJ (by rfl) HV1.out.ow GG [⟨tk, tn, ts⟩] (by simp) (by rfl) (row_one HG.out) (by have := HLJ.out; simp only [List.length_cons, List.length_nil]; omega) HV1.out.sz ?_
    intro v' w3 hown hb3 hg3
    obtain ⟨va, vn, vc, rfl⟩ := ownT_form4 hown
    have HW3 : Hid (MS w (w3.setCell ⟨w.heap.size + 1 + 1, 4, none⟩ (.slice va vn vc)) ⟨⟨k, n, ss⟩, nm, la⟩ (.slice a la.length cap) ⟨bk, bn, bz⟩ nm (.slice va vn vc) (LJ ++ [⟨tk, tn, ts⟩])) := HV1.out.args hown hb3
    have HP3 : Hid (PP w w3 ⟨⟨k, n, ss⟩, nm, la⟩ (.slice a la.length cap)) := (HV1.out.pp.laterB hb3 (by omega))
    have hD : CBlk w3 (w.heap.size + 1 + 1) _ 54 := (hb3.block _ (by omega)).trans HV1.out.bo
    obtain ⟨d0, d1, d2, d3, d4⟩ := cfive hD
    have f4 : w3.frozen? ⟨w.heap.size + 1 + 1, 4, none⟩ = false := hD.froz
    clear hD hown hb3 hg3 HV1 HG hH
    refine hK.out _ _ HP3.out (fun hH => ?_)
    clear hK K
    simp only [wA8, wB8, wC8, wD8]
    refine wTk 8 (.pointer (some ⟨w.heap.size + 1 + 1, 4, none⟩)) rfl (by kernel_rfl) (fun _ _ _ h => h) (Or.inl ⟨by rfl, fun w' h => by clear h; go_simp⟩) hH ?_
    simp only [wA8, wB8, wC8, wD8]
    refine wRd 9 (by kernel_rfl) rfl (fun K hK => ?_)
    go_simp
    clear d0 d1 d2 d3 d4 f4
    refine hK.out _ _ HW3.out.pp (fun hH => ?_)
    clear hK K hH HP3
    refine wpAnyH_done (by kernel_rfl) ?_ _
    go_wp2_with fail
    go_roundg g
    case measure => omega
    case rel => exact ⟨j + 1, _, by omega, by rw [hQ2.out]; go_num, by go_num, by rw [<- HTJ.out]; exact HW3.out⟩
   ·go_simp
    have HV1 : Hid (MS w (V0.alloc (.cells #[.int .i64 tk, .int .i64 tn, .string ts] 52)) ⟨⟨k, n, ss⟩, nm, la⟩ (.slice a la.length cap) ⟨bk, bn, bz⟩ nm u LJ) := HV0.out.later (below1 _ _)
    have HG : Hid (CBlk (V0.alloc (.cells #[.int .i64 tk, .int .i64 tn, .string ts] 52)) V0.heap.size #[.int .i64 tk, .int .i64 tn, .string ts] 52) := CBlk.new _ _ _
    clear hH HV0
    refine hK.out _ _ HV1.out.pp (fun hH => ?_)
    clear hK K
    revert hH HV1 HG
    generalize V0.alloc (.cells #[.int .i64 tk, .int .i64 tn, .string ts] 52) = V1
    generalize V0.heap.size = GG
    intro HV1 HG hH
    refine wRd 1 (by kernel_rfl) rfl (fun K hK => ?_)
    have c4 := (cfive HV1.out.bo).2.2.2.2
    go_simp
    clear c4
    refine hK.out _ _ hH (fun hH => ?_)
    clear hK K
    refine wRd 7 (by kernel_rfl) rfl (fun K hK => ?_)
    refine step_terms rfl _ _ rfl (w.heap.size + 3) u LJ (by rfl) HV1.out.ow GG [⟨tk, tn, ts⟩] (by simp) (by rfl) (row_one HG.out) (by have := HLJ.out; simp only [List.length_cons, List.length_nil]; omega) HV1.out.sz ?_
    intro v' w3 hown hb3 hg3
    obtain ⟨va, vn, vc, rfl⟩ := ownT_form4 hown
    have HW3 : Hid (MS w (w3.setCell ⟨w.heap.size + 1 + 1, 4, none⟩ (.slice va vn vc)) ⟨⟨k, n, ss⟩, nm, la⟩ (.slice a la.length cap) ⟨bk, bn, bz⟩ nm (.slice va vn vc) (LJ ++ [⟨tk, tn, ts⟩])) := HV1.out.args hown hb3
    have HP3 : Hid (PP w w3 ⟨⟨k, n, ss⟩, nm, la⟩ (.slice a la.length cap)) := (HV1.out.pp.laterB hb3 (by omega))
    have hD : CBlk w3 (w.heap.size + 1 + 1) _ 54 := (hb3.block _ (by omega)).trans HV1.out.bo
    obtain ⟨d0, d1, d2, d3, d4⟩ := cfive hD
    have f4 : w3.frozen? ⟨w.heap.size + 1 + 1, 4, none⟩ = false := hD.froz
    clear hD hown hb3 hg3 HV1 HG hH
    refine hK.out _ _ HP3.out (fun hH => ?_)
    clear hK K
    simp only [wA8, wB8, wC8, wD8]
    refine wTk 8 (.pointer (some ⟨w.heap.size + 1 + 1, 4, none⟩)) rfl (by kernel_rfl) (fun _ _ _ h => h) (Or.inl ⟨by rfl, fun w' h => by clear h; go_simp⟩) hH ?_
    simp only [wA8, wB8, wC8, wD8]
    refine wRd 9 (by kernel_rfl) rfl (fun K hK => ?_)
    go_simp
    clear d0 d1 d2 d3 d4 f4
    refine hK.out _ _ HW3.out.pp (fun hH => ?_)
    clear hK K hH HP3
    refine wpAnyH_done (by kernel_rfl) ?_ _
    go_wp2_with fail
    go_roundg g
    case measure => omega
    case rel => exact ⟨j + 1, _, by omega, by rw [hQ2.out]; go_num, by go_num, by rw [<- HTJ.out]; exact HW3.out⟩
  | zero =>
   obtain rfl : j = la.length := by omega
   have hz : ¬ ((la.length : Int) < (la.length : Int)) := by omega
   have ht : LM.take la.length = LM := by rw [<- HLM.out, List.take_length]
   rw [ht] at HMS
   obtain ⟨ua, un, uc, rfl⟩ := ownT_form4 HMS.out.ow
   obtain ⟨d0, d1, d2, d3, d4⟩ := cfive HMS.out.bo
   obtain ⟨r0, r1, r2, r3, r4⟩ := cfive HMS.out.br
   have f0 : wr.frozen? ⟨w.heap.size + 1, 0, none⟩ = false := HMS.out.br.froz
   have f1 : wr.frozen? ⟨w.heap.size + 1, 1, none⟩ = false := HMS.out.br.froz
   have f2 : wr.frozen? ⟨w.heap.size + 1, 2, none⟩ = false := HMS.out.br.froz
   have f3 : wr.frozen? ⟨w.heap.size + 1, 3, none⟩ = false := HMS.out.br.froz
   have f4 : wr.frozen? ⟨w.heap.size + 1, 4, none⟩ = false := HMS.out.br.froz
   have n3 : w.heap.size + 1 < w.heap.size + 3 := by omega
   have n4 : w.heap.size <= w.heap.size + 1 := by omega
   clear ht hQQ
   go_wp2
   refine bodyPost_ret (v := .tuple #[(At.mk ⟨bk, bn, bz⟩ nm LM).v (.slice ua un uc), .int .i64 (QQ : Int)]) (by simp [results, Tryz.results162, go_sem, r0, r1, r2, r3, r4]) rfl ⟨.slice ua un uc, ?_, ?_, ?_⟩
   ·rw [HEQ.out, hQ2.out]; congr 3; simp; omega
   ·rw [HEQ.out]
    exact ((((((HMS.out.ow.set n3).set n3).set n3).set n3).set n3).mono (by omega))
   ·exact ((((HMS.out.bw.setCell n4 _).setCell n4 _).setCell n4 _).setCell n4 _).setCell n4 _
end Go.Proofs.YtnenadklmjcakaaGreatDoor
namespace Go.Proofs.YtnenadklmjcakaaGreatDoor
open Go.RowKit
attribute [local go_sem ↓] Go.wp_at_zero Go.wp_at_succ

structure MCl (B : Nat) (X : World) (d : Cm) : Prop where
 h : OwnT X B d.head.2 d.head.1.args
 b : OwnA X B d.bv d.body
 x : ∀ y ∈ d.body, OwnT X B y.2 y.1.args
 t : OwnE X B d.tv d.tests
 s : ∀ k, d.bv.ownBlock = some k -> d.head.2.ownBlock ≠ some k /\ (∀ y ∈ d.body, y.2.ownBlock ≠ some k) /\ d.tv.ownBlock ≠ some k
theorem MCl.mono {B B' : Nat} {X : World} {d : Cm} (h : MCl B X d) (hb : B' <= B) : MCl B' X d := ⟨h.h.mono hb, h.b.mono hb, fun y hy => (h.x y hy).mono hb, h.t.mono hb, h.s⟩
theorem MCl.ok {B : Nat} {X : World} {d : Cm} (h : MCl B X d) (h1 : d.head.1.args.length < 1000000000000000000) (h2 : d.body.length < 1000000000000000000) (h3 : ∀ y ∈ d.body, y.1.args.length < 1000000000000000000) (h4 : d.tests.length < 1000000000000000000) : d.ok X :=
 ⟨h.h.tsP.ts h1, h.b.as h2 fun y hy => (h.x y hy).tsP.ts (h3 y hy), h.t.es h4⟩
abbrev ucs (h : At × Value) (bu tu : Value) : Array Value := #[.int .i64 h.1.by_.k, .int .i64 h.1.by_.n, .string h.1.by_.s, .string h.1.name, h.2, bu, tu]
structure US (w X : World) (o : Array Value) (h : At × Value) (bu : Value) (LB : List (At × Value)) (tu : Value) (LT : List Te) : Prop where
 bc : CBlk X w.heap.size o 58
 br : CBlk X (w.heap.size + 1) zcs 58
 bo : CBlk X (w.heap.size + 1 + 1) (ucs h bu tu) 58
 hw : OwnT X (w.heap.size + 3) h.2 h.1.args
 ba : OwnA X (w.heap.size + 3) bu LB
 bt : ∀ x ∈ LB, OwnT X (w.heap.size + 3) x.2 x.1.args
 et : OwnE X (w.heap.size + 3) tu LT
 s1 : ∀ k, bu.ownBlock = some k -> h.2.ownBlock ≠ some k /\ (∀ x ∈ LB, x.2.ownBlock ≠ some k) /\ tu.ownBlock ≠ some k
 s2 : ∀ k, tu.ownBlock = some k -> h.2.ownBlock ≠ some k /\ (∀ x ∈ LB, x.2.ownBlock ≠ some k)
 bw : Below w.heap.size w X
 sz : w.heap.size + 3 <= X.heap.size
theorem US.later {w X X' : World} {o : Array Value} {h : At × Value} {bu : Value} {LB : List (At × Value)} {tu : Value} {LT : List Te} (H : US w X o h bu LB tu LT) (hb : Below X.heap.size X X') : US w X' o h bu LB tu LT :=
 ⟨H.bc.later hb, H.br.later hb, H.bo.later hb, H.hw.later hb, H.ba.later hb, fun x hx => (H.bt x hx).later hb, H.et.later hb, H.s1, H.s2, below_step H.bw hb, Nat.le_trans H.sz hb.size⟩
structure Fr (h : At × Value) (bu : Value) (LB : List (At × Value)) (tu : Value) (B : Nat) : Prop where
 h : ∀ k, h.2.ownBlock = some k -> k ≠ B
 b : ∀ k, bu.ownBlock = some k -> k ≠ B
 x : ∀ x ∈ LB, ∀ k, x.2.ownBlock = some k -> k ≠ B
 t : ∀ k, tu.ownBlock = some k -> k ≠ B
theorem US.fresh {w X : World} {o : Array Value} {h : At × Value} {bu : Value} {LB : List (At × Value)} {tu : Value} {LT : List Te} (H : US w X o h bu LB tu LT) {B : Nat} (hB : X.heap.size <= B) : Fr h bu LB tu B :=
 ⟨fun k hk => by have := (H.hw.lt k hk).2; omega, fun k hk => by have := (H.ba.lt k hk).2; omega, fun x hx k hk => by have := ((H.bt x hx).lt k hk).2; omega, fun k hk => by have := (H.et.lt k hk).2; omega⟩
theorem US.far {w X : World} {o : Array Value} {h : At × Value} {bu : Value} {LB : List (At × Value)} {tu : Value} {LT : List Te} {B i : Nat} (H : US w X o h bu LB tu LT) (hB : w.heap.size + 3 <= B) (F : Fr h bu LB tu B) (c : Value) : US w (X.setCell ⟨B, i, none⟩ c) o h bu LB tu LT :=
 ⟨H.bc.off (by omega), H.br.off (by omega), H.bo.off (by omega), H.hw.off F.h, H.ba.off F.b, fun x hx => (H.bt x hx).off (F.x x hx), H.et.off F.t, H.s1, H.s2, H.bw.setCell (show w.heap.size <= B by omega) _, by simpa [World.setCell] using H.sz⟩
theorem US.grow_b {w X X' : World} {o : Array Value} {h : At × Value} {bu bu' : Value} {LB : List (At × Value)} {tu : Value} {LT : List Te} {x : At × Value} (H : US w X o h bu LB tu LT) (hx : OwnT X (w.heap.size + 3) x.2 x.1.args)
  (n1 : ∀ k, bu.ownBlock = some k -> x.2.ownBlock ≠ some k) (n2 : ∀ k, tu.ownBlock = some k -> x.2.ownBlock ≠ some k) (ho : OwnA X' (w.heap.size + 3) bu' (LB ++ [x])) (hb : Below (w.heap.size + 3) X X') (hg : X.grownBy X' bu.ownBlock)
  (ha : ∀ k, bu'.ownBlock = some k -> bu.ownBlock = some k ∨ X.heap.size <= k) : US w (X'.setCell ⟨w.heap.size + 1 + 1, 5, none⟩ bu') o h bu' (LB ++ [x]) tu LT := by
 have n3 : w.heap.size + 1 + 1 < w.heap.size + 3 := by omega
 have n4 : w.heap.size <= w.heap.size + 1 + 1 := by omega
 have l1 : CBlk X' w.heap.size o 58 := (hb.block _ (by omega)).trans H.bc
 have l2 : CBlk X' (w.heap.size + 1) zcs 58 := (hb.block _ (by omega)).trans H.br
 have l3 : CBlk X' (w.heap.size + 1 + 1) _ 58 := (hb.block _ (by omega)).trans H.bo
 have e1 : ∀ (v : Value), (∀ k, v.ownBlock = some k -> k < X.heap.size) -> (∀ k, bu.ownBlock = some k -> v.ownBlock ≠ some k) -> (∀ k, bu'.ownBlock = some k -> v.ownBlock ≠ some k) := fun v h1 h2 k hk e => by
  rcases ha k hk with h | h
  ·exact h2 k h e
  ·have := h1 k e; omega
 have m1 : ∀ v : Value, (∀ k, bu.ownBlock = some k -> v.ownBlock ≠ some k) -> ∀ k, v.ownBlock = some k -> bu.ownBlock ≠ some k := fun v h k hk e => h k e hk
 refine ⟨l1.off (by omega), l2.off (by omega), ?_, (H.hw.grown hg (m1 _ fun k hk => (H.s1 k hk).1)).set n3, ho.set n3, fun y hy => ?_, (H.et.grown hg (m1 _ fun k hk => (H.s1 k hk).2.2)).set n3, fun k hk => ⟨e1 _ (fun k hk => (H.hw.lt k hk).2) (fun k hk => (H.s1 k hk).1) k hk, fun y hy => ?_, e1 _ (fun k hk => (H.et.lt k hk).2) (fun k hk => (H.s1 k hk).2.2) k hk⟩, fun k hk => ⟨(H.s2 k hk).1, fun y hy => ?_⟩, (H.bw.trans (hb.mono (by omega))).setCell n4 _, by simpa [World.setCell] using Nat.le_trans H.sz hb.size⟩
 ·have := l3.set 5 bu'
  simpa using this
 ·rcases List.mem_append.1 hy with hy | hy
  ·exact ((H.bt y hy).grown hg (m1 _ fun k hk => (H.s1 k hk).2.1 y hy)).set n3
  ·rw [List.mem_singleton] at hy; subst hy
   exact (hx.grown hg (m1 _ n1)).set n3
 ·rcases List.mem_append.1 hy with hy | hy
  ·exact e1 _ (fun k hk => ((H.bt y hy).lt k hk).2) (fun k hk => (H.s1 k hk).2.1 y hy) k hk
  ·rw [List.mem_singleton] at hy; subst hy
   exact e1 _ (fun k hk => (hx.lt k hk).2) n1 k hk
 ·rcases List.mem_append.1 hy with hy | hy
  ·exact (H.s2 k hk).2 y hy
  ·rw [List.mem_singleton] at hy; subst hy
   exact n2 k hk
theorem US.grow_t {w X X' : World} {o : Array Value} {h : At × Value} {bu : Value} {LB : List (At × Value)} {tu tu' : Value} {LT LT' : List Te} (H : US w X o h bu LB tu LT) (ho : OwnE X' (w.heap.size + 3) tu' LT') (hb : Below (w.heap.size + 3) X X') (hg : X.grownBy X' tu.ownBlock)
  (ha : ∀ k, tu'.ownBlock = some k -> tu.ownBlock = some k ∨ X.heap.size <= k) : US w (X'.setCell ⟨w.heap.size + 1 + 1, 6, none⟩ tu') o h bu LB tu' LT' := by
 have n3 : w.heap.size + 1 + 1 < w.heap.size + 3 := by omega
 have n4 : w.heap.size <= w.heap.size + 1 + 1 := by omega
 have l1 : CBlk X' w.heap.size o 58 := (hb.block _ (by omega)).trans H.bc
 have l2 : CBlk X' (w.heap.size + 1) zcs 58 := (hb.block _ (by omega)).trans H.br
 have l3 : CBlk X' (w.heap.size + 1 + 1) _ 58 := (hb.block _ (by omega)).trans H.bo
 have e1 : ∀ (v : Value), (∀ k, v.ownBlock = some k -> k < X.heap.size) -> (∀ k, tu.ownBlock = some k -> v.ownBlock ≠ some k) -> (∀ k, tu'.ownBlock = some k -> v.ownBlock ≠ some k) := fun v h1 h2 k hk e => by
  rcases ha k hk with h | h
  ·exact h2 k h e
  ·have := h1 k e; omega
 have m1 : ∀ v : Value, (∀ k, tu.ownBlock = some k -> v.ownBlock ≠ some k) -> ∀ k, v.ownBlock = some k -> tu.ownBlock ≠ some k := fun v h k hk e => h k e hk
 have sb : ∀ k, tu.ownBlock = some k -> bu.ownBlock ≠ some k := fun k hk e => (H.s1 k e).2.2 hk
 refine ⟨l1.off (by omega), l2.off (by omega), ?_, (H.hw.grown hg (m1 _ fun k hk => (H.s2 k hk).1)).set n3, (H.ba.grown hg (m1 _ sb)).set n3, fun y hy => ((H.bt y hy).grown hg (m1 _ fun k hk => (H.s2 k hk).2 y hy)).set n3, ho.set n3,
  fun k hk => ⟨(H.s1 k hk).1, (H.s1 k hk).2.1, fun e => e1 bu (fun k hk => (H.ba.lt k hk).2) sb k e hk⟩, fun k hk => ⟨e1 _ (fun k hk => (H.hw.lt k hk).2) (fun k hk => (H.s2 k hk).1) k hk, fun y hy => e1 _ (fun k hk => ((H.bt y hy).lt k hk).2) (fun k hk => (H.s2 k hk).2 y hy) k hk⟩, (H.bw.trans (hb.mono (by omega))).setCell n4 _, by simpa [World.setCell] using Nat.le_trans H.sz hb.size⟩
 have := l3.set 6 tu'
 simpa using this
structure U0 (w X : World) (o : Array Value) : Prop where
 bc : CBlk X w.heap.size o 58
 br : CBlk X (w.heap.size + 1) zcs 58
 bo : CBlk X (w.heap.size + 1 + 1) zcs 58
 bw : Below w.heap.size w X
 sz : w.heap.size + 3 <= X.heap.size
theorem U0.later {w X X' : World} {o : Array Value} (H : U0 w X o) (hb : Below X.heap.size X X') : U0 w X' o := ⟨H.bc.later hb, H.br.later hb, H.bo.later hb, below_step H.bw hb, Nat.le_trans H.sz hb.size⟩
theorem U0.start (w : World) (o : Array Value) : U0 w (((w.alloc (.cells o 58)).alloc (.cells zcs 58)).alloc (.cells zcs 58)) o := by
 have b3 := below_step (below2 w (.cells o 58) (.cells zcs 58)) (below1 _ (.cells zcs 58))
 have x1 := (CBlk.new w o 58).later (below2 (w.alloc (.cells o 58)) (.cells zcs 58) (.cells zcs 58))
 have x2 := (CBlk.new (w.alloc (.cells o 58)) zcs 58).later (below1 _ (.cells zcs 58))
 have x3 := CBlk.new ((w.alloc (.cells o 58)).alloc (.cells zcs 58)) zcs 58
 rw [show (w.alloc (.cells o 58)).heap.size = w.heap.size + 1 by simp] at x2
 rw [show ((w.alloc (.cells o 58)).alloc (.cells zcs 58)).heap.size = w.heap.size + 1 + 1 by simp] at x3
 exact ⟨x1, x2, x3, b3, by simp⟩
abbrev Hput (X : World) (g : Nat) (h : At × Value) : World := ((((X.setCell ⟨g, 0, none⟩ (.int .i64 h.1.by_.k)).setCell ⟨g, 1, none⟩ (.int .i64 h.1.by_.n)).setCell ⟨g, 2, none⟩ (.string h.1.by_.s)).setCell ⟨g, 3, none⟩ (.string h.1.name)).setCell ⟨g, 4, none⟩ h.2
theorem U0.head {w X : World} {o : Array Value} (H : U0 w X o) (h : At × Value) (hh : OwnT X (w.heap.size + 3) h.2 h.1.args) : US w (Hput X (w.heap.size + 1 + 1) h) o h (.slice none 0 0) [] (.slice none 0 0) [] := by
 have n1 : w.heap.size ≠ w.heap.size + 1 + 1 := by omega
 have n2 : w.heap.size + 1 ≠ w.heap.size + 1 + 1 := by omega
 have n3 : w.heap.size + 1 + 1 < w.heap.size + 3 := by omega
 have n4 : w.heap.size <= w.heap.size + 1 + 1 := by omega
 refine ⟨((((H.bc.off n1).off n1).off n1).off n1).off n1, ((((H.br.off n2).off n2).off n2).off n2).off n2, ?_, ((((hh.set n3).set n3).set n3).set n3).set n3, OwnA.nil _ _, fun x hx => by simp at hx, OwnE.nil _ _, fun k hk => by simp [Value.ownBlock] at hk, fun k hk => by simp [Value.ownBlock] at hk, ((((H.bw.setCell n4 _).setCell n4 _).setCell n4 _).setCell n4 _).setCell n4 _, by simpa [World.setCell] using H.sz⟩
 have := ((((H.bo.set 0 (.int .i64 h.1.by_.k)).set 1 (.int .i64 h.1.by_.n)).set 2 (.string h.1.by_.s)).set 3 (.string h.1.name)).set 4 h.2
 simpa [zcs] using this
theorem US.mc {w X : World} {o : Array Value} {h : At × Value} {bu : Value} {LB : List (At × Value)} {tu : Value} {LT : List Te} (H : US w X o h bu LB tu LT) : MCl (w.heap.size + 3) X ⟨h, LB, bu, LT, tu⟩ := ⟨H.hw, H.ba, H.bt, H.et, H.s1⟩
theorem MCl.set {B : Nat} {X : World} {d : Cm} {G i : Nat} (h : MCl B X d) (hG : G < B) (c : Value) : MCl B (X.setCell ⟨G, i, none⟩ c) d := ⟨h.h.set hG, h.b.set hG, fun y hy => (h.x y hy).set hG, h.t.set hG, h.s⟩
end Go.Proofs.YtnenadklmjcakaaGreatDoor
