import Derived.Test.YtechceagghcipaaGreatDoorAA0
import Derived.Test.YtechceagghcipaaGreatDoorEC4
namespace Go.Proofs.YtechceagghcipaaGreatDoor
open Go.RowKit
attribute [local go_sem ↓] Go.wp_at_zero Go.wp_at_succ

open Classical in
noncomputable def bpt8 (T : List Tm) (K : List Pd) (s : Pd -> St7) (a : At) : Int := if a.pd8 ∈ K /\ kn8 T a.pl = true then part7 (s a.pd8) (nm8 T a.pl) else 0
theorem PT.part {w Y : World} {T : Nat -> Prop} {g m : Nat} {s : St7} {G : Nat -> Prop} {v : Value} {r : List Int} (h : PT w T g m s Y) (hv : Li G Y v r) (hl : r.length <= 10000000000) :
  Calls Tryz.prog 111 #[.pointer (some ⟨g, 0, none⟩), v] Y fun e Y' => e = .returned (.int .i64 (part7 s r)) /\ Below Y.heap.size Y Y' := by
 obtain ⟨F, S, h1, -⟩ := h
 exact part7_any g F S G m s v r Y h1 hv hl
set_option maxRecDepth 20000 in
set_option maxHeartbeats 2000000 in
theorem bpart8_any (w : World) (g : Nat) (tv : Value) (mn mr : Nat) (ga : Pd -> Nat) (B : Pd -> Nat -> Prop) (m : Nat) (T : List Tm) (K : List Pd) (s : Pd -> St7) (a : At) (x : Value) (Y : World) (h : BS w g tv mn mr ga B m T K s Y) (hx : TsP Y x a.args) (hk : ∀ t ∈ a.pl, KeyT t) (hkp : KeyP a.pd8) (hl : a.pl.length <= 1000000000) :
  Calls Tryz.prog 73 #[.pointer (some ⟨g, 0, none⟩), a.v x] Y fun e Y' => e = .returned (.int .i64 (bpt8 T K s a)) /\ Below Y.heap.size Y Y' := by
 have hap : a.pl.length = a.args.length + 1 := rfl
 obtain ⟨Y0, hY0⟩ : ∃ Y0, Y.alloc (.cells #[.int .i64 a.by_.k, .int .i64 a.by_.n, .string a.by_.s, .string a.name, x] 27) = Y0 := ⟨_, rfl⟩
 have hb0 : Below Y.heap.size Y Y0 := by rw [<- hY0]; exact below1 _ _
 have HBX : Hid (Bk Y0 Y.heap.size #[.int .i64 a.by_.k, .int .i64 a.by_.n, .string a.by_.s, .string a.name, x] 27) := by show Bk _ _ _ _; rw [<- hY0]; exact Bk.new _ _ _
 have HBK := hm7 ((h.t.b).below hb0)
 have HB0 := hm7 hb0
 have hsh := hx.shape
 have HPR : Hid (∀ X : World, Calls Tryz.prog 33 #[a.v x] X fun e Y' => e = .returned (.agg #[.string a.name, .int .i64 (a.args.length : Int)]) /\ Below X.heap.size X Y') := fun X => predOf8_any a x X hsh
 have HRO : Hid (∀ X : World, Below Y.heap.size Y X -> Calls Tryz.prog 110 #[.pointer (some ⟨g, 0, none⟩), a.v x] X (Rw8 T a.pl X)) := fun X hX => row8_any g tv mn _ T a x X (h.t.below hX) (hx.later hX) hk hl
 have HW := hm7 (nm8_w (show T.length <= 1000000000 from h.t.l) a.pl)
 have HRM := hm7 (show (nm8 T a.pl).length <= 10000000000 by rw [nm8_len]; omega)
 have HLK : Hid (∀ X : World, Below Y0.heap.size Y0 X -> (Instr.lookup 80 (.map (some mr)) (.agg #[.string a.name, .int .i64 (a.args.length : Int)]) false).run Tryz.prog X = .ok ((rlF ga K a.pd8).getD (.pointer none)) X) := fun X hX => ((h.below hb0).below hX).look hkp
 obtain ⟨ax, cx, rfl⟩ := hsh
 by_cases hp : a.pd8 ∈ K
 ·obtain ⟨gp, hgp⟩ : ∃ gp, ga a.pd8 = gp := ⟨_, rfl⟩
  have HL := HLK
  rw [rlF_in hp, hgp] at HL
  have HPT : Hid (∀ X : World, Below Y.heap.size Y X -> PT w (B a.pd8) gp m (s a.pd8) X) := fun X hX => by rw [<- hgp]; exact (h.pt _ hp).below hX
  cases hkn : kn8 T a.pl with
  | false =>
   have e : bpt8 T K s a = 0 := if_neg (by rw [hkn]; simp)
   rw [e]
   unfold Rw8 at HRO
   rw [hkn] at HRO
   clear h hx hk hkp hb0 hgp hp HLK hap e hkn HPT HW HRM hl
   obtain ⟨⟨k, i, z⟩, nm, l⟩ := a
   go_enter Tryz.func73, Tryz.ntmps73
   go_upto_region 1 with fail
   refine wp_region_held_drew (S := fun w' => Below Y0.heap.size Y0 w') (by kernel_rfl) (by exact (Below.refl _ _).drew) (fun hH => ?_)
   revert hH
   generalize Y0.drew = V0
   intro hH
   refine wTk 0 (.pointer (some ⟨g, 0, none⟩)) rfl (by kernel_rfl) (fun _ _ _ h => h) (Or.inl ⟨by rfl, fun w' h => by clear h; go_simp⟩) hH ?_
   simp only [wA8, wB8, wC8, wD8]
   refine wTk 1 (.pointer (some ⟨g, 0, none⟩)) rfl (by kernel_rfl) (fun _ _ _ h => h) (Or.inl ⟨by rfl, fun w' h => by clear h; go_simp⟩) hH ?_
   simp only [wA8, wB8, wC8, wD8]
   refine wTk 2 (.pointer (some ⟨g, 2, none⟩)) rfl (by kernel_rfl) (fun _ _ _ h => h) (Or.inl ⟨by rfl, fun w' h => by clear h; go_simp⟩) hH ?_
   simp only [wA8, wB8, wC8, wD8]
   refine wTk 3 (.map (some mr)) rfl (by kernel_rfl) (fun _ _ _ h => h) (Or.inl ⟨by rfl, fun w' h => by have q := (HBK.out.below h).cell (i := 2) rfl; clear h; go_simp⟩) hH ?_
   simp only [wA8, wB8, wC8, wD8]
   refine wTk 4 (.agg #[.int .i64 k, .int .i64 i, .string z, .string nm, .slice ax l.length cx]) rfl (by kernel_rfl) (fun _ _ _ h => h) (Or.inl ⟨by rfl, fun w' h => by obtain ⟨⟨q0, q1⟩, q2, q3, q4⟩ := five8 (HBX.out.below h); clear h; go_simp⟩) hH ?_
   simp only [wA8, wB8, wC8, wD8]
   refine wRd 5 (by kernel_rfl) rfl (fun K hK => ?_)
   go_simp
   refine (HPR.out _).mono ?_
   rintro e U ⟨rfl, hb⟩
   refine hK.out _ _ (hH.trans (hb.mono hH.size)) (fun hH => ?_)
   clear hK hb
   refine wTk 6 (.pointer (some ⟨gp, 0, none⟩)) rfl (by kernel_rfl) (fun _ _ _ h => h) (Or.inl ⟨by rfl, fun w' h => by have q := HL.out w' h; clear h; go_simp⟩) hH ?_
   simp only [wA8, wB8, wC8, wD8]
   refine wTk 7 (.pointer (some ⟨gp, 0, none⟩)) rfl (by kernel_rfl) (fun _ _ _ h => h) (Or.inl ⟨by rfl, fun w' h => by clear h; go_simp⟩) hH ?_
   simp only [wA8, wB8, wC8, wD8]
   refine wpAnyH_done (by kernel_rfl) ?_ _
   have HV := hm7 hH
   clear hH
   obtain ⟨⟨q0, q1⟩, q2, q3, q4⟩ := five8 (HBX.out.below HV.out)
   have HYV := hm7 (HB0.out.trans (HV.out.mono HB0.out.size))
   go_wp2_with (go_at_call 110; refine (HRO.out _ HYV.out).mono ?_; clear HRO; rintro e w1 ⟨rv, rfl, -, h2, hb⟩; have hr := h2 rfl; subst hr; have HB1 := hm7 hb; clear hb h2)
   go_ret
   exact ⟨rfl, below_step HYV.out HB1.out⟩
  | true =>
   have e : bpt8 T K s a = part7 (s a.pd8) (nm8 T a.pl) := if_pos ⟨hp, hkn⟩
   rw [e]
   unfold Rw8 at HRO
   rw [hkn] at HRO
   obtain ⟨P, hP⟩ : ∃ P, part7 (s a.pd8) (nm8 T a.pl) = P := ⟨_, rfl⟩
   have HPA : Hid (∀ (X : World) (v : Value) (b : Nat), Below Y.heap.size Y X -> OwI X b v (nm8 T a.pl) -> Calls Tryz.prog 111 #[.pointer (some ⟨gp, 0, none⟩), v] X fun e Y' => e = .returned (.int .i64 P) /\ Below X.heap.size X Y') := fun X v b hX ho => by rw [<- hP]; exact (HPT.out X hX).part (ho.li HW.out) HRM.out
   rw [hP]
   obtain ⟨L, hL⟩ : ∃ L, a.pl = L := ⟨_, rfl⟩
   rw [hL] at HRO HPA
   clear h hx hk hkp hb0 hgp hp HLK hap e hkn HPT HW HRM hl hP hL
   obtain ⟨⟨k, i, z⟩, nm, l⟩ := a
   go_enter Tryz.func73, Tryz.ntmps73
   go_upto_region 1 with fail
   refine wp_region_held_drew (S := fun w' => Below Y0.heap.size Y0 w') (by kernel_rfl) (by exact (Below.refl _ _).drew) (fun hH => ?_)
   revert hH
   generalize Y0.drew = V0
   intro hH
   refine wTk 0 (.pointer (some ⟨g, 0, none⟩)) rfl (by kernel_rfl) (fun _ _ _ h => h) (Or.inl ⟨by rfl, fun w' h => by clear h; go_simp⟩) hH ?_
   simp only [wA8, wB8, wC8, wD8]
   refine wTk 1 (.pointer (some ⟨g, 0, none⟩)) rfl (by kernel_rfl) (fun _ _ _ h => h) (Or.inl ⟨by rfl, fun w' h => by clear h; go_simp⟩) hH ?_
   simp only [wA8, wB8, wC8, wD8]
   refine wTk 2 (.pointer (some ⟨g, 2, none⟩)) rfl (by kernel_rfl) (fun _ _ _ h => h) (Or.inl ⟨by rfl, fun w' h => by clear h; go_simp⟩) hH ?_
   simp only [wA8, wB8, wC8, wD8]
   refine wTk 3 (.map (some mr)) rfl (by kernel_rfl) (fun _ _ _ h => h) (Or.inl ⟨by rfl, fun w' h => by have q := (HBK.out.below h).cell (i := 2) rfl; clear h; go_simp⟩) hH ?_
   simp only [wA8, wB8, wC8, wD8]
   refine wTk 4 (.agg #[.int .i64 k, .int .i64 i, .string z, .string nm, .slice ax l.length cx]) rfl (by kernel_rfl) (fun _ _ _ h => h) (Or.inl ⟨by rfl, fun w' h => by obtain ⟨⟨q0, q1⟩, q2, q3, q4⟩ := five8 (HBX.out.below h); clear h; go_simp⟩) hH ?_
   simp only [wA8, wB8, wC8, wD8]
   refine wRd 5 (by kernel_rfl) rfl (fun K hK => ?_)
   go_simp
   refine (HPR.out _).mono ?_
   rintro e U ⟨rfl, hb⟩
   refine hK.out _ _ (hH.trans (hb.mono hH.size)) (fun hH => ?_)
   clear hK hb
   refine wTk 6 (.pointer (some ⟨gp, 0, none⟩)) rfl (by kernel_rfl) (fun _ _ _ h => h) (Or.inl ⟨by rfl, fun w' h => by have q := HL.out w' h; clear h; go_simp⟩) hH ?_
   simp only [wA8, wB8, wC8, wD8]
   refine wTk 7 (.pointer (some ⟨gp, 0, none⟩)) rfl (by kernel_rfl) (fun _ _ _ h => h) (Or.inl ⟨by rfl, fun w' h => by clear h; go_simp⟩) hH ?_
   simp only [wA8, wB8, wC8, wD8]
   refine wpAnyH_done (by kernel_rfl) ?_ _
   have HV := hm7 hH
   clear hH
   obtain ⟨⟨q0, q1⟩, q2, q3, q4⟩ := five8 (HBX.out.below HV.out)
   have HYV := hm7 (HB0.out.trans (HV.out.mono HB0.out.size))
   go_wp2_with (first
    | (go_at_call 110; refine (HRO.out _ HYV.out).mono ?_; clear HRO; rintro e w1 ⟨rv, rfl, h2, -, hb⟩; have HO := hm7 (h2 rfl); have HB1 := hm7 (below_step HYV.out hb); clear hb h2)
    | (go_at_call 111; refine (HPA.out _ _ _ HB1.out HO.out).mono ?_; clear HPA; rintro e w2 ⟨rfl, hb⟩; have HB2 := hm7 hb; clear hb))
   go_ret
   exact ⟨rfl, below_step HB1.out HB2.out⟩
 ·have HL := HLK
  rw [rlF_out hp] at HL
  have e : bpt8 T K s a = 0 := if_neg fun h => hp h.1
  rw [e]
  clear h hx hk hkp hb0 hp HLK hap e HRO HW HRM hl
  obtain ⟨⟨k, i, z⟩, nm, l⟩ := a
  go_enter Tryz.func73, Tryz.ntmps73
  go_upto_region 1 with fail
  refine wp_region_held_drew (S := fun w' => Below Y0.heap.size Y0 w') (by kernel_rfl) (by exact (Below.refl _ _).drew) (fun hH => ?_)
  revert hH
  generalize Y0.drew = V0
  intro hH
  refine wTk 0 (.pointer (some ⟨g, 0, none⟩)) rfl (by kernel_rfl) (fun _ _ _ h => h) (Or.inl ⟨by rfl, fun w' h => by clear h; go_simp⟩) hH ?_
  simp only [wA8, wB8, wC8, wD8]
  refine wTk 1 (.pointer (some ⟨g, 0, none⟩)) rfl (by kernel_rfl) (fun _ _ _ h => h) (Or.inl ⟨by rfl, fun w' h => by clear h; go_simp⟩) hH ?_
  simp only [wA8, wB8, wC8, wD8]
  refine wTk 2 (.pointer (some ⟨g, 2, none⟩)) rfl (by kernel_rfl) (fun _ _ _ h => h) (Or.inl ⟨by rfl, fun w' h => by clear h; go_simp⟩) hH ?_
  simp only [wA8, wB8, wC8, wD8]
  refine wTk 3 (.map (some mr)) rfl (by kernel_rfl) (fun _ _ _ h => h) (Or.inl ⟨by rfl, fun w' h => by have q := (HBK.out.below h).cell (i := 2) rfl; clear h; go_simp⟩) hH ?_
  simp only [wA8, wB8, wC8, wD8]
  refine wTk 4 (.agg #[.int .i64 k, .int .i64 i, .string z, .string nm, .slice ax l.length cx]) rfl (by kernel_rfl) (fun _ _ _ h => h) (Or.inl ⟨by rfl, fun w' h => by obtain ⟨⟨q0, q1⟩, q2, q3, q4⟩ := five8 (HBX.out.below h); clear h; go_simp⟩) hH ?_
  simp only [wA8, wB8, wC8, wD8]
  refine wRd 5 (by kernel_rfl) rfl (fun K hK => ?_)
  go_simp
  refine (HPR.out _).mono ?_
  rintro e U ⟨rfl, hb⟩
  refine hK.out _ _ (hH.trans (hb.mono hH.size)) (fun hH => ?_)
  clear hK hb
  refine wTk 6 (.pointer none) rfl (by kernel_rfl) (fun _ _ _ h => h) (Or.inl ⟨by rfl, fun w' h => by have q := HL.out w' h; clear h; go_simp⟩) hH ?_
  simp only [wA8, wB8, wC8, wD8]
  refine wTk 7 (.pointer none) rfl (by kernel_rfl) (fun _ _ _ h => h) (Or.inl ⟨by rfl, fun w' h => by clear h; go_simp⟩) hH ?_
  simp only [wA8, wB8, wC8, wD8]
  refine wpAnyH_done (by kernel_rfl) ?_ _
  have HV := hm7 hH
  clear hH
  go_wp2
  go_ret
  exact ⟨rfl, HB0.out.trans (HV.out.mono HB0.out.size)⟩
end Go.Proofs.YtechceagghcipaaGreatDoor
