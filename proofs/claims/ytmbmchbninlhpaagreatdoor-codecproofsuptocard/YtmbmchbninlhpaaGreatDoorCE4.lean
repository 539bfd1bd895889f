import Derived.Test.YtmbmchbninlhpaaGreatDoorCL1
import Derived.Test.YtmbmchbninlhpaaGreatDoorCE3
import Derived.Test.YtmbmchbninlhpaaGreatDoorCD10
import Derived.Test.YtmbmchbninlhpaaGreatDoorMD7
import Derived.Test.YtmbmchbninlhpaaGreatDoorMD5
import Derived.Deep.RegionHeld3
namespace Go.Proofs.YtmbmchbninlhpaaGreatDoor
open Go.RowKit

structure AS (w X : World) (g A : Nat) (B : List Int) (s : Qs) (t : Tm) (nm : ByteArray) (av : Value) (ts : List Tm) : Prop where
 bl : Bv g w.heap.size w X
 rq : RqS X g B s
 res : Blk X w.heap.size #[.int .i64 0, .int .i64 0, .string ⟨#[]⟩, .string ⟨#[]⟩, .slice none 0 0] 58
 box : Blk X A #[.int .i64 t.k, .int .i64 t.n, .string t.s, .string nm, av] 58
 own : OwnT X (A + 1) av ts
 lt : w.heap.size < A
 gt : g < w.heap.size
variable {w X X' : World} {g A : Nat} {B : List Int} {s s' : Qs} {t : Tm} {nm nm' : ByteArray} {av v' : Value} {ts ts' : List Tm}
theorem AS.step (h : AS w X g A B s t nm av ts) (hs : RqS X' g B s') (hb : Bv g X.heap.size X X') : AS w X' g A B s' t nm av ts :=
 ⟨h.bl.step hb, hs, h.res.bl hb (by have := h.gt; omega), h.box.bl hb (by have := h.lt; have := h.gt; omega), h.own.blM hb (by have := h.lt; have := h.gt; omega), h.lt, h.gt⟩
theorem AS.below (h : AS w X g A B s t nm av ts) (hb : Below X.heap.size X X') : AS w X' g A B s t nm av ts := h.step (h.rq.below hb) (Bv.of hb)
theorem AS.name (h : AS w X g A B s t nm av ts) : AS w (X.setCell ⟨A, 3, none⟩ (.string nm')) g A B s t nm' av ts :=
 ⟨h.bl.trans (Bv.of ((Below.refl _ _).setCell (p := ⟨A, 3, none⟩) (Nat.le_of_lt h.lt) _)), h.rq.off (by have := h.lt; have := h.gt; omega), (heap_setCell_other _ _ _ _ (by have := h.lt; show _ ≠ A; omega)).trans h.res, heap_setCell_same _ _ _ _ _ _ h.box, h.own.set (Nat.lt_succ_self _), h.lt, h.gt⟩
theorem AS.args (h : AS w X g A B s t nm av ts) (ho : OwnT X' (A + 1) v' ts') (hb : Below (A + 1) X X') : AS w (X'.setCell ⟨A, 4, none⟩ v') g A B s t nm v' ts' :=
 ⟨(h.bl.trans (Bv.of (hb.mono (by have := h.lt; omega)))).trans (Bv.of ((Below.refl _ _).setCell (p := ⟨A, 4, none⟩) (Nat.le_of_lt h.lt) _)), (h.rq.low hb (by have := h.lt; have := h.gt; omega)).off (by have := h.lt; have := h.gt; omega),
  (heap_setCell_other _ _ _ _ (by have := h.lt; show _ ≠ A; omega)).trans ((hb.block _ (by have := h.lt; omega)).trans h.res), heap_setCell_same _ _ _ _ _ _ ((hb.block _ (by omega)).trans h.box), ho.set (Nat.lt_succ_self _), h.lt, h.gt⟩
theorem AS.er (h : AS w X g A B s t nm av ts) : X.cell? ⟨g, 2, none⟩ = some (.int .i64 s.er) := by
 obtain ⟨a, cap, c0, c1, c2, -⟩ := h.rq.cells
 exact c2
theorem row_one8 {b : Nat} (h : CBlk X b #[.int .i64 t.k, .int .i64 t.n, .string t.s] 56) : TRow X b 0 [t] := by
 rcases TsP.one h with ⟨h, -⟩ | ⟨ad, cap, h1, h | ⟨b', o', h3, h4⟩⟩
 ·cases h
 ·cases h
 ·cases h1; cases h3; exact h4
def QA (B : List Int) (K : Nat) (s0 : Qs) (k : Nat) (ts : List Tm) (s : Qs) : Prop := qArgs B K s0 = (ts ++ (qArgs B k s).1, (qArgs B k s).2)
theorem QA.start (B : List Int) (K : Nat) (s0 : Qs) : QA B K s0 K [] s0 := by unfold QA; simp
theorem QA.next {K k : Nat} {s0 : Qs} (h : QA B K s0 (k + 1) ts s) (he : s.er = 0) {t : Tm} {s2 : Qs} (hq : qTerm B false true true s = (t, s2)) : QA B K s0 k (ts ++ [t]) s2 := by
 unfold QA at h ⊢
 rw [h]
 conv => lhs; unfold qArgs
 rw [if_neg (by rw [he]; simp), hq]
 simp
theorem QA.stop {K k : Nat} {s0 : Qs} (h : QA B K s0 k ts s) (he : s.er ≠ 0 ∨ k = 0) : qArgs B K s0 = (ts, s) := by
 unfold QA at h
 rw [h]
 rcases he with he | rfl
 ·rw [qArgs_ne he]; simp
 ·simp [qArgs]
set_option maxRecDepth 20000 in
set_option maxHeartbeats 8000000 in
theorem qatom_any (g : Nat) (B : List Int) (s : Qs) (w : World) (h : RqS w g B s) :
  Calls Tryz.prog 86 #[.pointer (some ⟨g, 0, none⟩)] w fun e w' => ∃ y, e = .returned (At.v (qAtom B s).1 y) /\ RqS w' g B (qAtom B s).2 /\ OwnT w' w.heap.size y (qAtom B s).1.args /\ Bv g w.heap.size w w' := by
 have hlt := h.lt
 have HB : Hid (Blk (w.alloc (.cells #[.int .i64 0, .int .i64 0, .string ⟨#[]⟩, .string ⟨#[]⟩, .slice none 0 0] 58)) w.heap.size #[.int .i64 0, .int .i64 0, .string ⟨#[]⟩, .string ⟨#[]⟩, .slice none 0 0] 58) := Blk.new _ _ _
 have HL : Hid (Bv g w.heap.size w (w.alloc (.cells #[.int .i64 0, .int .i64 0, .string ⟨#[]⟩, .string ⟨#[]⟩, .slice none 0 0] 58))) := Bv.of (below1 _ _)
 have hN1 := qqual_any g B s (w.alloc (.cells #[.int .i64 0, .int .i64 0, .string ⟨#[]⟩, .string ⟨#[]⟩, .slice none 0 0] 58)) (h.below (below1 _ _))
 unfold qAtom qName qAtomN
 generalize qTerm B true false true s = q1 at *
 obtain ⟨⟨tk, tn, tt⟩, s1⟩ := q1
 simp only at *
 have HN1 : Hid (Calls Tryz.prog 88 #[.pointer (some ⟨g, 0, none⟩), .bool true, .bool false, .bool true] (w.alloc (.cells #[.int .i64 0, .int .i64 0, .string ⟨#[]⟩, .string ⟨#[]⟩, .slice none 0 0] 58)) fun e w' => e = .returned (Tm.v ⟨tk, tn, tt⟩) /\ RqS w' g B s1 /\ Bv g _ _ w') := hN1
 have hN2 := fun X hX => qsmall_any 1 32 g B s1 X hX
 obtain ⟨hn0, hn9⟩ := qSmall_rng h.1 (lo := 1) (hi := 32) (s := s1)
 generalize qSmall B 1 32 s1 = q2 at *
 obtain ⟨n, s2⟩ := q2
 simp only at *
 have HN2 : Hid (∀ X, RqS X g B s1 -> Calls Tryz.prog 87 #[.pointer (some ⟨g, 0, none⟩), .int .i64 1, .int .i64 32] X fun e w' => e = .returned (.int .i64 n) /\ RqS w' g B s2 /\ Bv g X.heap.size X w') := hN2
 have hN3 : ∀ X, RqS X g B s2 -> Calls Tryz.prog 85 #[.pointer (some ⟨g, 0, none⟩), .int .i64 n] X fun e w' => ∃ v, e = .returned v /\ Bn w' v (qTake B n.toNat s2).1 /\ RqS w' g B (qTake B n.toNat s2).2 /\ Bv g X.heap.size X w' := fun X hX => by
  have := qtake_any n.toNat (by omega) g B s2 X hX
  rwa [Int.toNat_of_nonneg hn0] at this
 have hy := (qTake_facts h.1 n.toNat s2).1
 generalize qTake B n.toNat s2 = q3 at *
 obtain ⟨m, s3⟩ := q3
 simp only at *
 have HY : Hid (byt m) := hy
 have HN3 : Hid (∀ X, RqS X g B s2 -> Calls Tryz.prog 85 #[.pointer (some ⟨g, 0, none⟩), .int .i64 n] X fun e w' => ∃ v, e = .returned v /\ Bn w' v m /\ RqS w' g B s3 /\ Bv g X.heap.size X w') := hN3
 have HC : Hid (∀ X, Calls Tryz.prog 66 #[.agg #[.int .i64 0, .int .i64 0, .string ⟨#[]⟩, .string (ofL m), .slice none 0 0]] X fun e w' => e = .returned (.int .i64 (if nameOk (ofL m) = true then 0 else 21)) /\ Below X.heap.size X w') := fun X => by
  have := rchk_any ⟨zt, ofL m, []⟩ (.slice none 0 0) X (ts_nil X)
  rw [err_name] at this
  exact this
 have HST : Hid (∀ X, RqS X g B s3 -> Calls Tryz.prog 53 #[.pointer (some ⟨g, 0, none⟩), .int .i64 63] X fun e w' => e = .returned (.tuple #[]) /\ RqS w' g B (stp 63 s3) /\ Bv g X.heap.size X w') := fun X hX => qstop_any 63 g B s3 X hX
 have hN5 := fun X hX => qsmall_any 0 8 g B (qNm (ofL m) s3) X hX
 obtain ⟨hK0, hK9⟩ := qSmall_rng h.1 (lo := 0) (hi := 8) (s := qNm (ofL m) s3)
 obtain ⟨s4, hs4⟩ : ∃ s4, qNm (ofL m) s3 = s4 := ⟨_, rfl⟩
 rw [hs4] at hN5 hK0 hK9 ⊢
 generalize qSmall B 0 8 s4 = q5 at *
 obtain ⟨K, s5⟩ := q5
 simp only at *
 have HN5 : Hid (∀ X, RqS X g B s4 -> Calls Tryz.prog 87 #[.pointer (some ⟨g, 0, none⟩), .int .i64 0, .int .i64 8] X fun e w' => e = .returned (.int .i64 K) /\ RqS w' g B s5 /\ Bv g X.heap.size X w') := hN5
 clear h hN1 hN2 hN3 hN5 hy
 by_cases he3 : s3.er = 0
 ·cases hnm : nameOk (ofL m)
  ·have hs4' : s4 = ⟨s3.at_, 63⟩ := by rw [<- hs4]; unfold qNm; rw [if_pos ⟨he3, hnm⟩]
   rw [hnm] at HC
   rw [stp_0 he3, <- hs4'] at HST
   simp only [Bool.false_eq_true, if_false] at HC
   clear hs4 hs4' hnm
   go_enter Tryz.func86, Tryz.ntmps86
   go_upto_region 4 with (first
    | (go_at_call 88; refine HN1.out.mono ?_; rintro e w1 ⟨rfl, hs, hb⟩; have HA1 : Hid (AS w (w1.alloc (.cells #[.int .i64 tk, .int .i64 tn, .string tt, .string ⟨#[]⟩, .slice none 0 0] 58)) g w1.heap.size B s1 ⟨tk, tn, tt⟩ ⟨#[]⟩ (.slice none 0 0) []) := ⟨(HL.out.step hb).step (Bv.of (below1 _ _)), hs.below (below1 _ _), (HB.out.bl hb (by omega)).later (below1 _ _), Blk.new _ _ _, ownT_nil _ _, (by have := hb.size; simp at this; omega), hlt⟩; have hz1 : w.heap.size < w1.heap.size := HA1.out.lt; clear hs hb)
    | (go_at_call 87; refine (HN2.out _ HA1.out.rq).mono ?_; rintro e w2 ⟨rfl, hs, hb⟩; have HA2 : Hid (AS w w2 g w1.heap.size B s2 ⟨tk, tn, tt⟩ ⟨#[]⟩ (.slice none 0 0) []) := HA1.out.step hs hb; clear hs hb)
    | (go_at_call 85; refine (HN3.out _ HA2.out.rq).mono ?_; rintro e w3 ⟨v3, rfl, hn, hs, hb⟩; have hcv := conv_bn hn HY.out; have HA3 : Hid (AS w w3 g w1.heap.size B s3 ⟨tk, tn, tt⟩ ⟨#[]⟩ (.slice none 0 0) []) := HA2.out.step hs hb; obtain ⟨k0, k1, k2, k3, k4⟩ := five HA3.out.box; obtain ⟨f0, f1, f2, f3, f4⟩ := ff5 HA3.out.box; clear hs hb hn))
   have HA3n : Hid (AS w (w3.setCell ⟨w1.heap.size, 3, none⟩ (.string (ofL m))) g w1.heap.size B s3 ⟨tk, tn, tt⟩ (ofL m) (.slice none 0 0) []) := HA3.out.name
   have e2 := HA3n.out.er
   rw [he3] at e2
   clear k0 k1 k2 k3 k4 f0 f1 f2 f3 f4 hcv HA1 HA2 HA3 HN1 HN2 HN3 HB HL HY hz1
   obtain ⟨k0, k1, k2, k3, k4⟩ := five HA3n.out.box
   revert HA3n e2 k0 k1 k2 k3 k4
   generalize w3.setCell ⟨w1.heap.size, 3, none⟩ (.string (ofL m)) = W3
   generalize w1.heap.size = A
   intro HA3n e2 k0 k1 k2 k3 k4
   go_upto_region 6 with (first
    | (go_at_call 66; refine (HC.out _).mono ?_; rintro e w4 ⟨rfl, hb⟩; have HA4c : Hid (AS w w4 g A B s3 ⟨tk, tn, tt⟩ (ofL m) (.slice none 0 0) []) := HA3n.out.below hb; clear hb)
    | (go_at_call 53; refine (HST.out _ HA4c.out.rq).mono ?_; rintro e w6 ⟨rfl, hs, hb⟩; have HA4 : Hid (AS w w6 g A B s4 ⟨tk, tn, tt⟩ (ofL m) (.slice none 0 0) []) := HA4c.out.step hs hb; clear hs hb))
   clear HA4c HA3n e2 k0 k1 k2 k3 k4 HC HST
   go_upto_region 7 with (go_at_call 87; refine (HN5.out _ HA4.out.rq).mono ?_; rintro e w5 ⟨rfl, hs, hb⟩; have HA5 : Hid (AS w w5 g A B s5 ⟨tk, tn, tt⟩ (ofL m) (.slice none 0 0) []) := HA4.out.step hs hb; clear hs hb HA4)
   go_wp2
   go_loopg [6] K.toNat (fun g9 i wr => ∃ (j : Nat) (av : Value) (sj : Qs) (ts : List Tm), j + g9 = K.toNat /\ i = .int .i64 j /\ ts.length <= j /\ AS w wr g A B sj ⟨tk, tn, tt⟩ (ofL m) av ts /\ QA B K.toNat s5 g9 ts sj)
   case atStart => exact ⟨0, _, s5, [], by omega, rfl, by simp, HA5.out, QA.start _ _ _⟩
   case round =>
    obtain ⟨j, av, sj, ts, hj, rfl, hts, ha, hq⟩ := hrel
    obtain ⟨xa, xn, xc, rfl⟩ := ownT_form8 ha.own
    have HA : Hid (AS w wr g A B sj ⟨tk, tn, tt⟩ (ofL m) (.slice xa xn xc) ts) := ha
    have HQ : Hid (QA B K.toNat s5 gk ts sj) := hq
    have e2 := ha.er
    obtain ⟨k0, k1, k2, k3, k4⟩ := five ha.box
    obtain ⟨r0, r1, r2, r3, r4⟩ := five ha.res
    obtain ⟨f0, f1, f2, f3, f4⟩ := ff5 ha.res
    have hAlt := ha.lt
    clear ha hq
    by_cases hx : (j : Int) < K /\ sj.er = 0
    ·obtain ⟨hjK, he⟩ := hx
     cases gk with
     | zero => omega
     | succ g9 =>
      rw [he] at e2
      obtain ⟨⟨⟨yk, yn, yt⟩, s9⟩, hq9⟩ : ∃ q, qTerm B false true true sj = q := ⟨_, rfl⟩
      have HQ9 : Hid (QA B K.toNat s5 g9 (ts ++ [⟨yk, yn, yt⟩]) s9) := HQ.out.next he hq9
      have HTM : Hid (∀ X, RqS X g B sj -> Calls Tryz.prog 88 #[.pointer (some ⟨g, 0, none⟩), .bool false, .bool true, .bool true] X fun e w' => e = .returned (Tm.v ⟨yk, yn, yt⟩) /\ RqS w' g B s9 /\ Bv g X.heap.size X w') := fun X hX => by
       have := qarg_any g B sj X hX
       rw [hq9] at this
       exact this
      clear hq9 HQ r0 r1 r2 r3 r4 f0 f1 f2 f3 f4
      go_upto_region 10 with fail
      clear e2 k0 k1 k2 k3 k4
      have HV0 : Hid (AS w wr.drew g A B sj ⟨tk, tn, tt⟩ (ofL m) (.slice xa xn xc) ts) := HA.out.below (Below.refl _ _).drew
      refine wp_region_held_drew (S := fun _ => True) (by kernel_rfl) trivial (fun hH => ?_)
      revert hH HV0
      generalize wr.drew = V0
      intro HV0 hH
      clear HA
      refine wTk 0 (.pointer (some ⟨A, 4, none⟩)) rfl (by kernel_rfl) (fun _ _ _ h => h) (Or.inl ⟨by rfl, fun w' h => by clear h; go_simp⟩) hH ?_
      simp only [wA8, wB8, wC8, wD8]
      refine wTk 2 (.pointer (some ⟨g, 0, none⟩)) rfl (by kernel_rfl) (fun _ _ _ h => h) (Or.inl ⟨by rfl, fun w' h => by clear h; go_simp⟩) hH ?_
      simp only [wA8, wB8, wC8, wD8]
      refine wpAnyH_ready (rs := [1, 3]) (by kernel_rfl) (by simp) ?_
      refine (AllReadyH.cons (o := ⟨_, _, _, _, _, _⟩) rfl (fun K hK => ?_) (AllReadyH.cons (o := ⟨_, _, _, _, _, _⟩) rfl (fun K hK => ?_) AllReadyH.nil))
      ·have c4 := (five HV0.out.box).2.2.2.2
       go_simp
       clear c4
       refine hK.out _ _ trivial (fun hH => ?_)
       clear hK K
       refine wRd 3 (by kernel_rfl) rfl (fun K hK => ?_)
       go_simp
       refine (HTM.out _ HV0.out.rq).mono ?_
       rintro e V1 ⟨rfl, hs, hb⟩
       have HV1 : Hid (AS w V1 g A B s9 ⟨tk, tn, tt⟩ (ofL m) (.slice xa xn xc) ts) := HV0.out.step hs hb
       clear hs hb HV0 hH
       refine hK.out _ _ trivial (fun hH => ?_)
       clear hK K
       try simp only [wA8, wB8, wC8, wD8]
       refine wRd 4 (by kernel_rfl) rfl (fun K hK => ?_)
       go_simp
       have HV2 : Hid (AS w (V1.alloc (.cells #[.int .i64 yk, .int .i64 yn, .string yt] 56)) g A B s9 ⟨tk, tn, tt⟩ (ofL m) (.slice xa xn xc) ts) := HV1.out.below (below1 _ _)
       have HG : Hid (CBlk (V1.alloc (.cells #[.int .i64 yk, .int .i64 yn, .string yt] 56)) V1.heap.size #[.int .i64 yk, .int .i64 yn, .string yt] 56) := CBlk.new _ _ _
       clear hH HV1
       refine hK.out _ _ trivial (fun hH => ?_)
       clear hK K
       revert hH HV2 HG
       generalize V1.alloc (.cells #[.int .i64 yk, .int .i64 yn, .string yt] 56) = V2
       generalize V1.heap.size = GG
       intro HV2 HG hH
       refine wRd 5 (by kernel_rfl) rfl (fun K hK => ?_)
       refine step_terms rfl _ _ rfl (A + 1) (.slice xa xn xc) ts (by rfl) HV2.out.own GG [⟨yk, yn, yt⟩] (by simp) (by rfl) (row_one8 (t := ⟨yk, yn, yt⟩) HG.out) (by simp only [List.length_cons, List.length_nil]; omega) HV2.out.box.lt ?_
       intro v' w3 hown hb3 hg3
       obtain ⟨va, vn, vc, rfl⟩ := ownT_form8 hown
       have HW3 : Hid (AS w (w3.setCell ⟨A, 4, none⟩ (.slice va vn vc)) g A B s9 ⟨tk, tn, tt⟩ (ofL m) (.slice va vn vc) (ts ++ [⟨yk, yn, yt⟩])) := HV2.out.args hown hb3
       have hD : Blk w3 A _ 58 := (hb3.block _ (by omega)).trans HV2.out.box
       have d4 := (five hD).2.2.2.2
       have f4 : w3.frozen? ⟨A, 4, none⟩ = false := (ff5 hD).2.2.2.2
       clear hD hown hb3 hg3 HV2 HG hH
       refine hK.out _ _ trivial (fun hH => ?_)
       clear hK K
       simp only [wA8, wB8, wC8, wD8]
       refine wTk 6 (.pointer (some ⟨A, 4, none⟩)) rfl (by kernel_rfl) (fun _ _ _ h => h) (Or.inl ⟨by rfl, fun w' h => by clear h; go_simp⟩) hH ?_
       simp only [wA8, wB8, wC8, wD8]
       refine wRd 7 (by kernel_rfl) rfl (fun K hK => ?_)
       go_simp
       clear d4 f4
       refine hK.out _ _ trivial (fun hH => ?_)
       clear hK K hH
       refine wpAnyH_done (by kernel_rfl) ?_ _
       go_wp2_with fail
       go_roundg g9
       case measure => omega
       case rel => exact ⟨j + 1, (.slice va vn vc), s9, ts ++ [⟨yk, yn, yt⟩], by omega, by go_num, by simp; omega, HW3.out, HQ9.out⟩
      ·go_simp
       refine (HTM.out _ HV0.out.rq).mono ?_
       rintro e V1 ⟨rfl, hs, hb⟩
       have HV1 : Hid (AS w V1 g A B s9 ⟨tk, tn, tt⟩ (ofL m) (.slice xa xn xc) ts) := HV0.out.step hs hb
       clear hs hb HV0 hH
       refine hK.out _ _ trivial (fun hH => ?_)
       clear hK K
       try simp only [wA8, wB8, wC8, wD8]
       refine wpAnyH_ready (rs := [1, 4]) (by kernel_rfl) (by simp) ?_
       refine (AllReadyH.cons (o := ⟨_, _, _, _, _, _⟩) rfl (fun K hK => ?_) (AllReadyH.cons (o := ⟨_, _, _, _, _, _⟩) rfl (fun K hK => ?_) AllReadyH.nil))
       ·have c4 := (five HV1.out.box).2.2.2.2
        go_simp
        clear c4
        refine hK.out _ _ trivial (fun hH => ?_)
        clear hK K
        refine wRd 4 (by kernel_rfl) rfl (fun K hK => ?_)
        go_simp
        have HV2 : Hid (AS w (V1.alloc (.cells #[.int .i64 yk, .int .i64 yn, .string yt] 56)) g A B s9 ⟨tk, tn, tt⟩ (ofL m) (.slice xa xn xc) ts) := HV1.out.below (below1 _ _)
        have HG : Hid (CBlk (V1.alloc (.cells #[.int .i64 yk, .int .i64 yn, .string yt] 56)) V1.heap.size #[.int .i64 yk, .int .i64 yn, .string yt] 56) := CBlk.new _ _ _
        clear hH HV1
        refine hK.out _ _ trivial (fun hH => ?_)
        clear hK K
        revert hH HV2 HG
        generalize V1.alloc (.cells #[.int .i64 yk, .int .i64 yn, .string yt] 56) = V2
        generalize V1.heap.size = GG
        intro HV2 HG hH
        refine wRd 5 (by kernel_rfl) rfl (fun K hK => ?_)
        refine step_terms rfl _ _ rfl (A + 1) (.slice xa xn xc) ts (by rfl) HV2.out.own GG [⟨yk, yn, yt⟩] (by simp) (by rfl) (row_one8 (t := ⟨yk, yn, yt⟩) HG.out) (by simp only [List.length_cons, List.length_nil]; omega) HV2.out.box.lt ?_
        intro v' w3 hown hb3 hg3
        obtain ⟨va, vn, vc, rfl⟩ := ownT_form8 hown
        have HW3 : Hid (AS w (w3.setCell ⟨A, 4, none⟩ (.slice va vn vc)) g A B s9 ⟨tk, tn, tt⟩ (ofL m) (.slice va vn vc) (ts ++ [⟨yk, yn, yt⟩])) := HV2.out.args hown hb3
        have hD : Blk w3 A _ 58 := (hb3.block _ (by omega)).trans HV2.out.box
        have d4 := (five hD).2.2.2.2
        have f4 : w3.frozen? ⟨A, 4, none⟩ = false := (ff5 hD).2.2.2.2
        clear hD hown hb3 hg3 HV2 HG hH
        refine hK.out _ _ trivial (fun hH => ?_)
        clear hK K
        simp only [wA8, wB8, wC8, wD8]
        refine wTk 6 (.pointer (some ⟨A, 4, none⟩)) rfl (by kernel_rfl) (fun _ _ _ h => h) (Or.inl ⟨by rfl, fun w' h => by clear h; go_simp⟩) hH ?_
        simp only [wA8, wB8, wC8, wD8]
        refine wRd 7 (by kernel_rfl) rfl (fun K hK => ?_)
        go_simp
        clear d4 f4
        refine hK.out _ _ trivial (fun hH => ?_)
        clear hK K hH
        refine wpAnyH_done (by kernel_rfl) ?_ _
        go_wp2_with fail
        go_roundg g9
        case measure => omega
        case rel => exact ⟨j + 1, (.slice va vn vc), s9, ts ++ [⟨yk, yn, yt⟩], by omega, by go_num, by simp; omega, HW3.out, HQ9.out⟩
       ·go_simp
        have HV2 : Hid (AS w (V1.alloc (.cells #[.int .i64 yk, .int .i64 yn, .string yt] 56)) g A B s9 ⟨tk, tn, tt⟩ (ofL m) (.slice xa xn xc) ts) := HV1.out.below (below1 _ _)
        have HG : Hid (CBlk (V1.alloc (.cells #[.int .i64 yk, .int .i64 yn, .string yt] 56)) V1.heap.size #[.int .i64 yk, .int .i64 yn, .string yt] 56) := CBlk.new _ _ _
        clear hH HV1
        refine hK.out _ _ trivial (fun hH => ?_)
        clear hK K
        revert hH HV2 HG
        generalize V1.alloc (.cells #[.int .i64 yk, .int .i64 yn, .string yt] 56) = V2
        generalize V1.heap.size = GG
        intro HV2 HG hH
        refine wRd 1 (by kernel_rfl) rfl (fun K hK => ?_)
        have c4 := (five HV2.out.box).2.2.2.2
        go_simp
        clear c4
        refine hK.out _ _ trivial (fun hH => ?_)
        clear hK K
        refine wRd 5 (by kernel_rfl) rfl (fun K hK => ?_)
        refine step_terms rfl _ _ rfl (A + 1) (.slice xa xn xc) ts (by rfl) HV2.out.own GG [⟨yk, yn, yt⟩] (by simp) (by rfl) (row_one8 (t := ⟨yk, yn, yt⟩) HG.out) (by simp only [List.length_cons, List.length_nil]; omega) HV2.out.box.lt ?_
        intro v' w3 hown hb3 hg3
        obtain ⟨va, vn, vc, rfl⟩ := ownT_form8 hown
        have HW3 : Hid (AS w (w3.setCell ⟨A, 4, none⟩ (.slice va vn vc)) g A B s9 ⟨tk, tn, tt⟩ (ofL m) (.slice va vn vc) (ts ++ [⟨yk, yn, yt⟩])) := HV2.out.args hown hb3
        have hD : Blk w3 A _ 58 := (hb3.block _ (by omega)).trans HV2.out.box
        have d4 := (five hD).2.2.2.2
        have f4 : w3.frozen? ⟨A, 4, none⟩ = false := (ff5 hD).2.2.2.2
        clear hD hown hb3 hg3 HV2 HG hH
        refine hK.out _ _ trivial (fun hH => ?_)
        clear hK K
        simp only [wA8, wB8, wC8, wD8]
        refine wTk 6 (.pointer (some ⟨A, 4, none⟩)) rfl (by kernel_rfl) (fun _ _ _ h => h) (Or.inl ⟨by rfl, fun w' h => by clear h; go_simp⟩) hH ?_
        simp only [wA8, wB8, wC8, wD8]
        refine wRd 7 (by kernel_rfl) rfl (fun K hK => ?_)
        go_simp
        clear d4 f4
        refine hK.out _ _ trivial (fun hH => ?_)
        clear hK K hH
        refine wpAnyH_done (by kernel_rfl) ?_ _
        go_wp2_with fail
        go_roundg g9
        case measure => omega
        case rel => exact ⟨j + 1, (.slice va vn vc), s9, ts ++ [⟨yk, yn, yt⟩], by omega, by go_num, by simp; omega, HW3.out, HQ9.out⟩
    ·have HE : Hid (qArgs B K.toNat s5 = (ts, sj)) := HQ.out.stop (by
      by_cases h0 : sj.er = 0
      ·right; have : ¬ (j : Int) < K := fun h => hx ⟨h, h0⟩
       omega
      ·exact Or.inl h0)
     have HF : ∀ Y : World, Y = ((((wr.setCell ⟨w.heap.size, 0, none⟩ (.int .i64 tk)).setCell ⟨w.heap.size, 1, none⟩ (.int .i64 tn)).setCell ⟨w.heap.size, 2, none⟩ (.string tt)).setCell ⟨w.heap.size, 3, none⟩ (.string (ofL m))).setCell ⟨w.heap.size, 4, none⟩ (.slice xa xn xc) -> RqS Y g B sj /\ OwnT Y w.heap.size (.slice xa xn xc) ts /\ Bv g w.heap.size w Y := fun Y hY => by
      subst hY
      have hgw := HA.out.gt
      refine ⟨((((HA.out.rq.off hgw).off hgw).off hgw).off hgw).off hgw, ?_, bset5M HA.out.bl (Nat.le_refl _)⟩
      exact (((((HA.out.own.set (by omega)).set (by omega)).set (by omega)).set (by omega)).set (by omega)).mono (by omega)
     have HF' : Hid _ := HF
     clear HF
     by_cases hjK : (j : Int) < K
     ·have hne : (sj.er == 0) = false := beq_eq_false_iff_ne.2 (fun h => hx ⟨hjK, h⟩)
      clear hx
      generalize sj.er = er9 at *
      go_wp2
      refine bodyPost_ret (v := At.v ⟨⟨tk, tn, tt⟩, ofL m, ts⟩ (.slice xa xn xc)) (by simp [results, Tryz.results86, go_sem, r0, r1, r2, r3, r4]) rfl ?_
      rw [HE.out]
      exact ⟨_, rfl, (HF'.out _ rfl).1, (HF'.out _ rfl).2⟩
     ·clear hx
      generalize sj.er = er9 at *
      go_wp2
      refine bodyPost_ret (v := At.v ⟨⟨tk, tn, tt⟩, ofL m, ts⟩ (.slice xa xn xc)) (by simp [results, Tryz.results86, go_sem, r0, r1, r2, r3, r4]) rfl ?_
      rw [HE.out]
      exact ⟨_, rfl, (HF'.out _ rfl).1, (HF'.out _ rfl).2⟩
  ·have hs4' : s4 = s3 := by rw [<- hs4]; unfold qNm; rw [if_neg (by rw [hnm]; simp)]
   rw [hnm] at HC
   simp only [if_true] at HC
   clear hs4 hnm
   go_enter Tryz.func86, Tryz.ntmps86
   go_upto_region 4 with (first
    | (go_at_call 88; refine HN1.out.mono ?_; rintro e w1 ⟨rfl, hs, hb⟩; have HA1 : Hid (AS w (w1.alloc (.cells #[.int .i64 tk, .int .i64 tn, .string tt, .string ⟨#[]⟩, .slice none 0 0] 58)) g w1.heap.size B s1 ⟨tk, tn, tt⟩ ⟨#[]⟩ (.slice none 0 0) []) := ⟨(HL.out.step hb).step (Bv.of (below1 _ _)), hs.below (below1 _ _), (HB.out.bl hb (by omega)).later (below1 _ _), Blk.new _ _ _, ownT_nil _ _, (by have := hb.size; simp at this; omega), hlt⟩; have hz1 : w.heap.size < w1.heap.size := HA1.out.lt; clear hs hb)
    | (go_at_call 87; refine (HN2.out _ HA1.out.rq).mono ?_; rintro e w2 ⟨rfl, hs, hb⟩; have HA2 : Hid (AS w w2 g w1.heap.size B s2 ⟨tk, tn, tt⟩ ⟨#[]⟩ (.slice none 0 0) []) := HA1.out.step hs hb; clear hs hb)
    | (go_at_call 85; refine (HN3.out _ HA2.out.rq).mono ?_; rintro e w3 ⟨v3, rfl, hn, hs, hb⟩; have hcv := conv_bn hn HY.out; have HA3 : Hid (AS w w3 g w1.heap.size B s3 ⟨tk, tn, tt⟩ ⟨#[]⟩ (.slice none 0 0) []) := HA2.out.step hs hb; obtain ⟨k0, k1, k2, k3, k4⟩ := five HA3.out.box; obtain ⟨f0, f1, f2, f3, f4⟩ := ff5 HA3.out.box; clear hs hb hn))
   have HA3n : Hid (AS w (w3.setCell ⟨w1.heap.size, 3, none⟩ (.string (ofL m))) g w1.heap.size B s3 ⟨tk, tn, tt⟩ (ofL m) (.slice none 0 0) []) := HA3.out.name
   have e2 := HA3n.out.er
   rw [he3] at e2
   clear k0 k1 k2 k3 k4 f0 f1 f2 f3 f4 hcv HA1 HA2 HA3 HN1 HN2 HN3 HB HL HY hz1
   obtain ⟨k0, k1, k2, k3, k4⟩ := five HA3n.out.box
   revert HA3n e2 k0 k1 k2 k3 k4
   generalize w3.setCell ⟨w1.heap.size, 3, none⟩ (.string (ofL m)) = W3
   generalize w1.heap.size = A
   intro HA3n e2 k0 k1 k2 k3 k4
   go_upto_region 6 with (go_at_call 66; refine (HC.out _).mono ?_; rintro e w4 ⟨rfl, hb⟩; have HA4c : Hid (AS w w4 g A B s3 ⟨tk, tn, tt⟩ (ofL m) (.slice none 0 0) []) := HA3n.out.below hb; clear hb)
   have HA4 : Hid (AS w w4 g A B s4 ⟨tk, tn, tt⟩ (ofL m) (.slice none 0 0) []) := by show AS _ _ _ _ _ _ _ _ _ _; rw [hs4']; exact HA4c.out
   clear HA4c HA3n e2 k0 k1 k2 k3 k4 HC HST hs4'
   go_upto_region 7 with (go_at_call 87; refine (HN5.out _ HA4.out.rq).mono ?_; rintro e w5 ⟨rfl, hs, hb⟩; have HA5 : Hid (AS w w5 g A B s5 ⟨tk, tn, tt⟩ (ofL m) (.slice none 0 0) []) := HA4.out.step hs hb; clear hs hb HA4)
   go_wp2
   go_loopg [6] K.toNat (fun g9 i wr => ∃ (j : Nat) (av : Value) (sj : Qs) (ts : List Tm), j + g9 = K.toNat /\ i = .int .i64 j /\ ts.length <= j /\ AS w wr g A B sj ⟨tk, tn, tt⟩ (ofL m) av ts /\ QA B K.toNat s5 g9 ts sj)
   case atStart => exact ⟨0, _, s5, [], by omega, rfl, by simp, HA5.out, QA.start _ _ _⟩
   case round =>
    obtain ⟨j, av, sj, ts, hj, rfl, hts, ha, hq⟩ := hrel
    obtain ⟨xa, xn, xc, rfl⟩ := ownT_form8 ha.own
    have HA : Hid (AS w wr g A B sj ⟨tk, tn, tt⟩ (ofL m) (.slice xa xn xc) ts) := ha
    have HQ : Hid (QA B K.toNat s5 gk ts sj) := hq
    have e2 := ha.er
    obtain ⟨k0, k1, k2, k3, k4⟩ := five ha.box
    obtain ⟨r0, r1, r2, r3, r4⟩ := five ha.res
    obtain ⟨f0, f1, f2, f3, f4⟩ := ff5 ha.res
    have hAlt := ha.lt
    clear ha hq
    by_cases hx : (j : Int) < K /\ sj.er = 0
    ·obtain ⟨hjK, he⟩ := hx
     cases gk with
     | zero => omega
     | succ g9 =>
      rw [he] at e2
      obtain ⟨⟨⟨yk, yn, yt⟩, s9⟩, hq9⟩ : ∃ q, qTerm B false true true sj = q := ⟨_, rfl⟩
      have HQ9 : Hid (QA B K.toNat s5 g9 (ts ++ [⟨yk, yn, yt⟩]) s9) := HQ.out.next he hq9
      have HTM : Hid (∀ X, RqS X g B sj -> Calls Tryz.prog 88 #[.pointer (some ⟨g, 0, none⟩), .bool false, .bool true, .bool true] X fun e w' => e = .returned (Tm.v ⟨yk, yn, yt⟩) /\ RqS w' g B s9 /\ Bv g X.heap.size X w') := fun X hX => by
       have := qarg_any g B sj X hX
       rw [hq9] at this
       exact this
      clear hq9 HQ r0 r1 r2 r3 r4 f0 f1 f2 f3 f4
      go_upto_region 10 with fail
      clear e2 k0 k1 k2 k3 k4
      have HV0 : Hid (AS w wr.drew g A B sj ⟨tk, tn, tt⟩ (ofL m) (.slice xa xn xc) ts) := HA.out.below (Below.refl _ _).drew
      refine wp_region_held_drew (S := fun _ => True) (by kernel_rfl) trivial (fun hH => ?_)
      revert hH HV0
      generalize wr.drew = V0
      intro HV0 hH
      clear HA
      refine wTk 0 (.pointer (some ⟨A, 4, none⟩)) rfl (by kernel_rfl) (fun _ _ _ h => h) (Or.inl ⟨by rfl, fun w' h => by clear h; go_simp⟩) hH ?_
      simp only [wA8, wB8, wC8, wD8]
      refine wTk 2 (.pointer (some ⟨g, 0, none⟩)) rfl (by kernel_rfl) (fun _ _ _ h => h) (Or.inl ⟨by rfl, fun w' h => by clear h; go_simp⟩) hH ?_
      simp only [wA8, wB8, wC8, wD8]
      refine wpAnyH_ready (rs := [1, 3]) (by kernel_rfl) (by simp) ?_
      refine (AllReadyH.cons (o := ⟨_, _, _, _, _, _⟩) rfl (fun K hK => ?_) (AllReadyH.cons (o := ⟨_, _, _, _, _, _⟩) rfl (fun K hK => ?_) AllReadyH.nil))
      ·have c4 := (five HV0.out.box).2.2.2.2
       go_simp
       clear c4
       refine hK.out _ _ trivial (fun hH => ?_)
       clear hK K
       refine wRd 3 (by kernel_rfl) rfl (fun K hK => ?_)
       go_simp
       refine (HTM.out _ HV0.out.rq).mono ?_
       rintro e V1 ⟨rfl, hs, hb⟩
       have HV1 : Hid (AS w V1 g A B s9 ⟨tk, tn, tt⟩ (ofL m) (.slice xa xn xc) ts) := HV0.out.step hs hb
       clear hs hb HV0 hH
       refine hK.out _ _ trivial (fun hH => ?_)
       clear hK K
       try simp only [wA8, wB8, wC8, wD8]
       refine wRd 4 (by kernel_rfl) rfl (fun K hK => ?_)
       go_simp
       have HV2 : Hid (AS w (V1.alloc (.cells #[.int .i64 yk, .int .i64 yn, .string yt] 56)) g A B s9 ⟨tk, tn, tt⟩ (ofL m) (.slice xa xn xc) ts) := HV1.out.below (below1 _ _)
       have HG : Hid (CBlk (V1.alloc (.cells #[.int .i64 yk, .int .i64 yn, .string yt] 56)) V1.heap.size #[.int .i64 yk, .int .i64 yn, .string yt] 56) := CBlk.new _ _ _
       clear hH HV1
       refine hK.out _ _ trivial (fun hH => ?_)
       clear hK K
       revert hH HV2 HG
       generalize V1.alloc (.cells #[.int .i64 yk, .int .i64 yn, .string yt] 56) = V2
       generalize V1.heap.size = GG
       intro HV2 HG hH
       refine wRd 5 (by kernel_rfl) rfl (fun K hK => ?_)
       refine step_terms rfl _ _ rfl (A + 1) (.slice xa xn xc) ts (by rfl) HV2.out.own GG [⟨yk, yn, yt⟩] (by simp) (by rfl) (row_one8 (t := ⟨yk, yn, yt⟩) HG.out) (by simp only [List.length_cons, List.length_nil]; omega) HV2.out.box.lt ?_
       intro v' w3 hown hb3 hg3
       obtain ⟨va, vn, vc, rfl⟩ := ownT_form8 hown
       have HW3 : Hid (AS w (w3.setCell ⟨A, 4, none⟩ (.slice va vn vc)) g A B s9 ⟨tk, tn, tt⟩ (ofL m) (.slice va vn vc) (ts ++ [⟨yk, yn, yt⟩])) := HV2.out.args hown hb3
       have hD : Blk w3 A _ 58 := (hb3.block _ (by omega)).trans HV2.out.box
       have d4 := (five hD).2.2.2.2
       have f4 : w3.frozen? ⟨A, 4, none⟩ = false := (ff5 hD).2.2.2.2
       clear hD hown hb3 hg3 HV2 HG hH
       refine hK.out _ _ trivial (fun hH => ?_)
       clear hK K
       simp only [wA8, wB8, wC8, wD8]
       refine wTk 6 (.pointer (some ⟨A, 4, none⟩)) rfl (by kernel_rfl) (fun _ _ _ h => h) (Or.inl ⟨by rfl, fun w' h => by clear h; go_simp⟩) hH ?_
       simp only [wA8, wB8, wC8, wD8]
       refine wRd 7 (by kernel_rfl) rfl (fun K hK => ?_)
       go_simp
       clear d4 f4
       refine hK.out _ _ trivial (fun hH => ?_)
       clear hK K hH
       refine wpAnyH_done (by kernel_rfl) ?_ _
       go_wp2_with fail
       go_roundg g9
       case measure => omega
       case rel => exact ⟨j + 1, (.slice va vn vc), s9, ts ++ [⟨yk, yn, yt⟩], by omega, by go_num, by simp; omega, HW3.out, HQ9.out⟩
      ·go_simp
       refine (HTM.out _ HV0.out.rq).mono ?_
       rintro e V1 ⟨rfl, hs, hb⟩
       have HV1 : Hid (AS w V1 g A B s9 ⟨tk, tn, tt⟩ (ofL m) (.slice xa xn xc) ts) := HV0.out.step hs hb
       clear hs hb HV0 hH
       refine hK.out _ _ trivial (fun hH => ?_)
       clear hK K
       try simp only [wA8, wB8, wC8, wD8]
       refine wpAnyH_ready (rs := [1, 4]) (by kernel_rfl) (by simp) ?_
       refine (AllReadyH.cons (o := ⟨_, _, _, _, _, _⟩) rfl (fun K hK => ?_) (AllReadyH.cons (o := ⟨_, _, _, _, _, _⟩) rfl (fun K hK => ?_) AllReadyH.nil))
       ·have c4 := (five HV1.out.box).2.2.2.2
        go_simp
        clear c4
        refine hK.out _ _ trivial (fun hH => ?_)
        clear hK K
        refine wRd 4 (by kernel_rfl) rfl (fun K hK => ?_)
        go_simp
        have HV2 : Hid (AS w (V1.alloc (.cells #[.int .i64 yk, .int .i64 yn, .string yt] 56)) g A B s9 ⟨tk, tn, tt⟩ (ofL m) (.slice xa xn xc) ts) := HV1.out.below (below1 _ _)
        have HG : Hid (CBlk (V1.alloc (.cells #[.int .i64 yk, .int .i64 yn, .string yt] 56)) V1.heap.size #[.int .i64 yk, .int .i64 yn, .string yt] 56) := CBlk.new _ _ _
        clear hH HV1
        refine hK.out _ _ trivial (fun hH => ?_)
        clear hK K
        revert hH HV2 HG
        generalize V1.alloc (.cells #[.int .i64 yk, .int .i64 yn, .string yt] 56) = V2
        generalize V1.heap.size = GG
        intro HV2 HG hH
        refine wRd 5 (by kernel_rfl) rfl (fun K hK => ?_)
        refine step_terms rfl _ _ rfl (A + 1) (.slice xa xn xc) ts (by rfl) HV2.out.own GG [⟨yk, yn, yt⟩] (by simp) (by rfl) (row_one8 (t := ⟨yk, yn, yt⟩) HG.out) (by simp only [List.length_cons, List.length_nil]; omega) HV2.out.box.lt ?_
        intro v' w3 hown hb3 hg3
        obtain ⟨va, vn, vc, rfl⟩ := ownT_form8 hown
        have HW3 : Hid (AS w (w3.setCell ⟨A, 4, none⟩ (.slice va vn vc)) g A B s9 ⟨tk, tn, tt⟩ (ofL m) (.slice va vn vc) (ts ++ [⟨yk, yn, yt⟩])) := HV2.out.args hown hb3
        have hD : Blk w3 A _ 58 := (hb3.block _ (by omega)).trans HV2.out.box
        have d4 := (five hD).2.2.2.2
        have f4 : w3.frozen? ⟨A, 4, none⟩ = false := (ff5 hD).2.2.2.2
        clear hD hown hb3 hg3 HV2 HG hH
        refine hK.out _ _ trivial (fun hH => ?_)
        clear hK K
        simp only [wA8, wB8, wC8, wD8]
        refine wTk 6 (.pointer (some ⟨A, 4, none⟩)) rfl (by kernel_rfl) (fun _ _ _ h => h) (Or.inl ⟨by rfl, fun w' h => by clear h; go_simp⟩) hH ?_
        simp only [wA8, wB8, wC8, wD8]
        refine wRd 7 (by kernel_rfl) rfl (fun K hK => ?_)
        go_simp
        clear d4 f4
        refine hK.out _ _ trivial (fun hH => ?_)
        clear hK K hH
        refine wpAnyH_done (by kernel_rfl) ?_ _
        go_wp2_with fail
        go_roundg g9
        case measure => omega
        case rel => exact ⟨j + 1, (.slice va vn vc), s9, ts ++ [⟨yk, yn, yt⟩], by omega, by go_num, by simp; omega, HW3.out, HQ9.out⟩
       ·go_simp
        have HV2 : Hid (AS w (V1.alloc (.cells #[.int .i64 yk, .int .i64 yn, .string yt] 56)) g A B s9 ⟨tk, tn, tt⟩ (ofL m) (.slice xa xn xc) ts) := HV1.out.below (below1 _ _)
        have HG : Hid (CBlk (V1.alloc (.cells #[.int .i64 yk, .int .i64 yn, .string yt] 56)) V1.heap.size #[.int .i64 yk, .int .i64 yn, .string yt] 56) := CBlk.new _ _ _
        clear hH HV1
        refine hK.out _ _ trivial (fun hH => ?_)
        clear hK K
        revert hH HV2 HG
        generalize V1.alloc (.cells #[.int .i64 yk, .int .i64 yn, .string yt] 56) = V2
        generalize V1.heap.size = GG
        intro HV2 HG hH
        refine wRd 1 (by kernel_rfl) rfl (fun K hK => ?_)
        have c4 := (five HV2.out.box).2.2.2.2
        go_simp
        clear c4
        refine hK.out _ _ trivial (fun hH => ?_)
        clear hK K
        refine wRd 5 (by kernel_rfl) rfl (fun K hK => ?_)
        refine step_terms rfl _ _ rfl (A + 1) (.slice xa xn xc) ts (by rfl) HV2.out.own GG [⟨yk, yn, yt⟩] (by simp) (by rfl) (row_one8 (t := ⟨yk, yn, yt⟩) HG.out) (by simp only [List.length_cons, List.length_nil]; omega) HV2.out.box.lt ?_
        intro v' w3 hown hb3 hg3
        obtain ⟨va, vn, vc, rfl⟩ := ownT_form8 hown
        have HW3 : Hid (AS w (w3.setCell ⟨A, 4, none⟩ (.slice va vn vc)) g A B s9 ⟨tk, tn, tt⟩ (ofL m) (.slice va vn vc) (ts ++ [⟨yk, yn, yt⟩])) := HV2.out.args hown hb3
        have hD : Blk w3 A _ 58 := (hb3.block _ (by omega)).trans HV2.out.box
        have d4 := (five hD).2.2.2.2
        have f4 : w3.frozen? ⟨A, 4, none⟩ = false := (ff5 hD).2.2.2.2
        clear hD hown hb3 hg3 HV2 HG hH
        refine hK.out _ _ trivial (fun hH => ?_)
        clear hK K
        simp only [wA8, wB8, wC8, wD8]
        refine wTk 6 (.pointer (some ⟨A, 4, none⟩)) rfl (by kernel_rfl) (fun _ _ _ h => h) (Or.inl ⟨by rfl, fun w' h => by clear h; go_simp⟩) hH ?_
        simp only [wA8, wB8, wC8, wD8]
        refine wRd 7 (by kernel_rfl) rfl (fun K hK => ?_)
        go_simp
        clear d4 f4
        refine hK.out _ _ trivial (fun hH => ?_)
        clear hK K hH
        refine wpAnyH_done (by kernel_rfl) ?_ _
        go_wp2_with fail
        go_roundg g9
        case measure => omega
        case rel => exact ⟨j + 1, (.slice va vn vc), s9, ts ++ [⟨yk, yn, yt⟩], by omega, by go_num, by simp; omega, HW3.out, HQ9.out⟩
    ·have HE : Hid (qArgs B K.toNat s5 = (ts, sj)) := HQ.out.stop (by
      by_cases h0 : sj.er = 0
      ·right; have : ¬ (j : Int) < K := fun h => hx ⟨h, h0⟩
       omega
      ·exact Or.inl h0)
     have HF : ∀ Y : World, Y = ((((wr.setCell ⟨w.heap.size, 0, none⟩ (.int .i64 tk)).setCell ⟨w.heap.size, 1, none⟩ (.int .i64 tn)).setCell ⟨w.heap.size, 2, none⟩ (.string tt)).setCell ⟨w.heap.size, 3, none⟩ (.string (ofL m))).setCell ⟨w.heap.size, 4, none⟩ (.slice xa xn xc) -> RqS Y g B sj /\ OwnT Y w.heap.size (.slice xa xn xc) ts /\ Bv g w.heap.size w Y := fun Y hY => by
      subst hY
      have hgw := HA.out.gt
      refine ⟨((((HA.out.rq.off hgw).off hgw).off hgw).off hgw).off hgw, ?_, bset5M HA.out.bl (Nat.le_refl _)⟩
      exact (((((HA.out.own.set (by omega)).set (by omega)).set (by omega)).set (by omega)).set (by omega)).mono (by omega)
     have HF' : Hid _ := HF
     clear HF
     by_cases hjK : (j : Int) < K
     ·have hne : (sj.er == 0) = false := beq_eq_false_iff_ne.2 (fun h => hx ⟨hjK, h⟩)
      clear hx
      generalize sj.er = er9 at *
      go_wp2
      refine bodyPost_ret (v := At.v ⟨⟨tk, tn, tt⟩, ofL m, ts⟩ (.slice xa xn xc)) (by simp [results, Tryz.results86, go_sem, r0, r1, r2, r3, r4]) rfl ?_
      rw [HE.out]
      exact ⟨_, rfl, (HF'.out _ rfl).1, (HF'.out _ rfl).2⟩
     ·clear hx
      generalize sj.er = er9 at *
      go_wp2
      refine bodyPost_ret (v := At.v ⟨⟨tk, tn, tt⟩, ofL m, ts⟩ (.slice xa xn xc)) (by simp [results, Tryz.results86, go_sem, r0, r1, r2, r3, r4]) rfl ?_
      rw [HE.out]
      exact ⟨_, rfl, (HF'.out _ rfl).1, (HF'.out _ rfl).2⟩
 ·have hs4' : s4 = s3 := by rw [<- hs4]; unfold qNm; rw [if_neg (fun h => he3 h.1)]
  have hne : (s3.er == 0) = false := beq_eq_false_iff_ne.2 he3
  clear hs4
  go_enter Tryz.func86, Tryz.ntmps86
  go_upto_region 4 with (first
   | (go_at_call 88; refine HN1.out.mono ?_; rintro e w1 ⟨rfl, hs, hb⟩; have HA1 : Hid (AS w (w1.alloc (.cells #[.int .i64 tk, .int .i64 tn, .string tt, .string ⟨#[]⟩, .slice none 0 0] 58)) g w1.heap.size B s1 ⟨tk, tn, tt⟩ ⟨#[]⟩ (.slice none 0 0) []) := ⟨(HL.out.step hb).step (Bv.of (below1 _ _)), hs.below (below1 _ _), (HB.out.bl hb (by omega)).later (below1 _ _), Blk.new _ _ _, ownT_nil _ _, (by have := hb.size; simp at this; omega), hlt⟩; have hz1 : w.heap.size < w1.heap.size := HA1.out.lt; clear hs hb)
   | (go_at_call 87; refine (HN2.out _ HA1.out.rq).mono ?_; rintro e w2 ⟨rfl, hs, hb⟩; have HA2 : Hid (AS w w2 g w1.heap.size B s2 ⟨tk, tn, tt⟩ ⟨#[]⟩ (.slice none 0 0) []) := HA1.out.step hs hb; clear hs hb)
   | (go_at_call 85; refine (HN3.out _ HA2.out.rq).mono ?_; rintro e w3 ⟨v3, rfl, hn, hs, hb⟩; have hcv := conv_bn hn HY.out; have HA3 : Hid (AS w w3 g w1.heap.size B s3 ⟨tk, tn, tt⟩ ⟨#[]⟩ (.slice none 0 0) []) := HA2.out.step hs hb; obtain ⟨k0, k1, k2, k3, k4⟩ := five HA3.out.box; obtain ⟨f0, f1, f2, f3, f4⟩ := ff5 HA3.out.box; clear hs hb hn))
  have HA3n : Hid (AS w (w3.setCell ⟨w1.heap.size, 3, none⟩ (.string (ofL m))) g w1.heap.size B s3 ⟨tk, tn, tt⟩ (ofL m) (.slice none 0 0) []) := HA3.out.name
  have e2 := HA3n.out.er
  generalize s3.er = er3 at e2 hne
  clear k0 k1 k2 k3 k4 f0 f1 f2 f3 f4 hcv HA1 HA2 HA3 HN1 HN2 HN3 HB HL HY hz1
  obtain ⟨k0, k1, k2, k3, k4⟩ := five HA3n.out.box
  revert HA3n e2 k0 k1 k2 k3 k4
  generalize w3.setCell ⟨w1.heap.size, 3, none⟩ (.string (ofL m)) = W3
  generalize w1.heap.size = A
  intro HA3n e2 k0 k1 k2 k3 k4
  go_upto_region 6 with fail
  have HA4 : Hid (AS w W3 g A B s4 ⟨tk, tn, tt⟩ (ofL m) (.slice none 0 0) []) := by show AS _ _ _ _ _ _ _ _ _ _; rw [hs4']; exact HA3n.out
  clear HA3n e2 k0 k1 k2 k3 k4 HC HST hs4'
  go_upto_region 7 with (go_at_call 87; refine (HN5.out _ HA4.out.rq).mono ?_; rintro e w5 ⟨rfl, hs, hb⟩; have HA5 : Hid (AS w w5 g A B s5 ⟨tk, tn, tt⟩ (ofL m) (.slice none 0 0) []) := HA4.out.step hs hb; clear hs hb HA4)
  go_wp2
  go_loopg [6] K.toNat (fun g9 i wr => ∃ (j : Nat) (av : Value) (sj : Qs) (ts : List Tm), j + g9 = K.toNat /\ i = .int .i64 j /\ ts.length <= j /\ AS w wr g A B sj ⟨tk, tn, tt⟩ (ofL m) av ts /\ QA B K.toNat s5 g9 ts sj)
  case atStart => exact ⟨0, _, s5, [], by omega, rfl, by simp, HA5.out, QA.start _ _ _⟩
  case round =>
   obtain ⟨j, av, sj, ts, hj, rfl, hts, ha, hq⟩ := hrel
   obtain ⟨xa, xn, xc, rfl⟩ := ownT_form8 ha.own
   have HA : Hid (AS w wr g A B sj ⟨tk, tn, tt⟩ (ofL m) (.slice xa xn xc) ts) := ha
   have HQ : Hid (QA B K.toNat s5 gk ts sj) := hq
   have e2 := ha.er
   obtain ⟨k0, k1, k2, k3, k4⟩ := five ha.box
   obtain ⟨r0, r1, r2, r3, r4⟩ := five ha.res
   obtain ⟨f0, f1, f2, f3, f4⟩ := ff5 ha.res
   have hAlt := ha.lt
   clear ha hq
   by_cases hx : (j : Int) < K /\ sj.er = 0
   ·obtain ⟨hjK, he⟩ := hx
    cases gk with
    | zero => omega
    | succ g9 =>
     rw [he] at e2
     obtain ⟨⟨⟨yk, yn, yt⟩, s9⟩, hq9⟩ : ∃ q, qTerm B false true true sj = q := ⟨_, rfl⟩
     have HQ9 : Hid (QA B K.toNat s5 g9 (ts ++ [⟨yk, yn, yt⟩]) s9) := HQ.out.next he hq9
     have HTM : Hid (∀ X, RqS X g B sj -> Calls Tryz.prog 88 #[.pointer (some ⟨g, 0, none⟩), .bool false, .bool true, .bool true] X fun e w' => e = .returned (Tm.v ⟨yk, yn, yt⟩) /\ RqS w' g B s9 /\ Bv g X.heap.size X w') := fun X hX => by
      have := qarg_any g B sj X hX
      rw [hq9] at this
      exact this
     clear hq9 HQ r0 r1 r2 r3 r4 f0 f1 f2 f3 f4
     go_upto_region 10 with fail
     clear e2 k0 k1 k2 k3 k4
     have HV0 : Hid (AS w wr.drew g A B sj ⟨tk, tn, tt⟩ (ofL m) (.slice xa xn xc) ts) := HA.out.below (Below.refl _ _).drew
     refine wp_region_held_drew (S := fun _ => True) (by kernel_rfl) trivial (fun hH => ?_)
     revert hH HV0
     generalize wr.drew = V0
     intro HV0 hH
     clear HA
     refine wTk 0 (.pointer (some ⟨A, 4, none⟩)) rfl (by kernel_rfl) (fun _ _ _ h => h) (Or.inl ⟨by rfl, fun w' h => by clear h; go_simp⟩) hH ?_
     simp only [wA8, wB8, wC8, wD8]
     refine wTk 2 (.pointer (some ⟨g, 0, none⟩)) rfl (by kernel_rfl) (fun _ _ _ h => h) (Or.inl ⟨by rfl, fun w' h => by clear h; go_simp⟩) hH ?_
     simp only [wA8, wB8, wC8, wD8]
     refine wpAnyH_ready (rs := [1, 3]) (by kernel_rfl) (by simp) ?_
     refine (AllReadyH.cons (o := ⟨_, _, _, _, _, _⟩) rfl (fun K hK => ?_) (AllReadyH.cons (o := ⟨_, _, _, _, _, _⟩) rfl (fun K hK => ?_) AllReadyH.nil))
     ·have c4 := (five HV0.out.box).2.2.2.2
      go_simp
      clear c4
      refine hK.out _ _ trivial (fun hH => ?_)
      clear hK K
      refine wRd 3 (by kernel_rfl) rfl (fun K hK => ?_)
      go_simp
      refine (HTM.out _ HV0.out.rq).mono ?_
      rintro e V1 ⟨rfl, hs, hb⟩
      have HV1 : Hid (AS w V1 g A B s9 ⟨tk, tn, tt⟩ (ofL m) (.slice xa xn xc) ts) := HV0.out.step hs hb
      clear hs hb HV0 hH
      refine hK.out _ _ trivial (fun hH => ?_)
      clear hK K
      try simp only [wA8, wB8, wC8, wD8]
      refine wRd 4 (by kernel_rfl) rfl (fun K hK => ?_)
      go_simp
      have HV2 : Hid (AS w (V1.alloc (.cells #[.int .i64 yk, .int .i64 yn, .string yt] 56)) g A B s9 ⟨tk, tn, tt⟩ (ofL m) (.slice xa xn xc) ts) := HV1.out.below (below1 _ _)
      have HG : Hid (CBlk (V1.alloc (.cells #[.int .i64 yk, .int .i64 yn, .string yt] 56)) V1.heap.size #[.int .i64 yk, .int .i64 yn, .string yt] 56) := CBlk.new _ _ _
      clear hH HV1
      refine hK.out _ _ trivial (fun hH => ?_)
      clear hK K
      revert hH HV2 HG
      generalize V1.alloc (.cells #[.int .i64 yk, .int .i64 yn, .string yt] 56) = V2
      generalize V1.heap.size = GG
      intro HV2 HG hH
      refine wRd 5 (by kernel_rfl) rfl (fun K hK => ?_)
      refine step_terms rfl _ _ rfl (A + 1) (.slice xa xn xc) ts (by rfl) HV2.out.own GG [⟨yk, yn, yt⟩] (by simp) (by rfl) (row_one8 (t := ⟨yk, yn, yt⟩) HG.out) (by simp only [List.length_cons, List.length_nil]; omega) HV2.out.box.lt ?_
      intro v' w3 hown hb3 hg3
      obtain ⟨va, vn, vc, rfl⟩ := ownT_form8 hown
      have HW3 : Hid (AS w (w3.setCell ⟨A, 4, none⟩ (.slice va vn vc)) g A B s9 ⟨tk, tn, tt⟩ (ofL m) (.slice va vn vc) (ts ++ [⟨yk, yn, yt⟩])) := HV2.out.args hown hb3
      have hD : Blk w3 A _ 58 := (hb3.block _ (by omega)).trans HV2.out.box
      have d4 := (five hD).2.2.2.2
      have f4 : w3.frozen? ⟨A, 4, none⟩ = false := (ff5 hD).2.2.2.2
      clear hD hown hb3 hg3 HV2 HG hH
      refine hK.out _ _ trivial (fun hH => ?_)
      clear hK K
      simp only [wA8, wB8, wC8, wD8]
      refine wTk 6 (.pointer (some ⟨A, 4, none⟩)) rfl (by kernel_rfl) (fun _ _ _ h => h) (Or.inl ⟨by rfl, fun w' h => by clear h; go_simp⟩) hH ?_
      simp only [wA8, wB8, wC8, wD8]
      refine wRd 7 (by kernel_rfl) rfl (fun K hK => ?_)
      go_simp
      clear d4 f4
      refine hK.out _ _ trivial (fun hH => ?_)
      clear hK K hH
      refine wpAnyH_done (by kernel_rfl) ?_ _
      go_wp2_with fail
      go_roundg g9
      case measure => omega
      case rel => exact ⟨j + 1, (.slice va vn vc), s9, ts ++ [⟨yk, yn, yt⟩], by omega, by go_num, by simp; omega, HW3.out, HQ9.out⟩
     ·go_simp
      refine (HTM.out _ HV0.out.rq).mono ?_
      rintro e V1 ⟨rfl, hs, hb⟩
      have HV1 : Hid (AS w V1 g A B s9 ⟨tk, tn, tt⟩ (ofL m) (.slice xa xn xc) ts) := HV0.out.step hs hb
      clear hs hb HV0 hH
      refine hK.out _ _ trivial (fun hH => ?_)
      clear hK K
      try simp only [wA8, wB8, wC8, wD8]
      refine wpAnyH_ready (rs := [1, 4]) (by kernel_rfl) (by simp) ?_
      refine (AllReadyH.cons (o := ⟨_, _, _, _, _, _⟩) rfl (fun K hK => ?_) (AllReadyH.cons (o := ⟨_, _, _, _, _, _⟩) rfl (fun K hK => ?_) AllReadyH.nil))
      ·have c4 := (five HV1.out.box).2.2.2.2
       go_simp
       clear c4
       refine hK.out _ _ trivial (fun hH => ?_)
       clear hK K
       refine wRd 4 (by kernel_rfl) rfl (fun K hK => ?_)
       go_simp
       have HV2 : Hid (AS w (V1.alloc (.cells #[.int .i64 yk, .int .i64 yn, .string yt] 56)) g A B s9 ⟨tk, tn, tt⟩ (ofL m) (.slice xa xn xc) ts) := HV1.out.below (below1 _ _)
       have HG : Hid (CBlk (V1.alloc (.cells #[.int .i64 yk, .int .i64 yn, .string yt] 56)) V1.heap.size #[.int .i64 yk, .int .i64 yn, .string yt] 56) := CBlk.new _ _ _
       clear hH HV1
       refine hK.out _ _ trivial (fun hH => ?_)
       clear hK K
       revert hH HV2 HG
       generalize V1.alloc (.cells #[.int .i64 yk, .int .i64 yn, .string yt] 56) = V2
       generalize V1.heap.size = GG
       intro HV2 HG hH
       refine wRd 5 (by kernel_rfl) rfl (fun K hK => ?_)
       refine step_terms rfl _ _ rfl (A + 1) (.slice xa xn xc) ts (by rfl) HV2.out.own GG [⟨yk, yn, yt⟩] (by simp) (by rfl) (row_one8 (t := ⟨yk, yn, yt⟩) HG.out) (by simp only [List.length_cons, List.length_nil]; omega) HV2.out.box.lt ?_
       intro v' w3 hown hb3 hg3
       obtain ⟨va, vn, vc, rfl⟩ := ownT_form8 hown
       have HW3 : Hid (AS w (w3.setCell ⟨A, 4, none⟩ (.slice va vn vc)) g A B s9 ⟨tk, tn, tt⟩ (ofL m) (.slice va vn vc) (ts ++ [⟨yk, yn, yt⟩])) := HV2.out.args hown hb3
       have hD : Blk w3 A _ 58 := (hb3.block _ (by omega)).trans HV2.out.box
       have d4 := (five hD).2.2.2.2
       have f4 : w3.frozen? ⟨A, 4, none⟩ = false := (ff5 hD).2.2.2.2
       clear hD hown hb3 hg3 HV2 HG hH
       refine hK.out _ _ trivial (fun hH => ?_)
       clear hK K
       simp only [wA8, wB8, wC8, wD8]
       refine wTk 6 (.pointer (some ⟨A, 4, none⟩)) rfl (by kernel_rfl) (fun _ _ _ h => h) (Or.inl ⟨by rfl, fun w' h => by clear h; go_simp⟩) hH ?_
       simp only [wA8, wB8, wC8, wD8]
       refine wRd 7 (by kernel_rfl) rfl (fun K hK => ?_)
       go_simp
       clear d4 f4
       refine hK.out _ _ trivial (fun hH => ?_)
       clear hK K hH
       refine wpAnyH_done (by kernel_rfl) ?_ _
       go_wp2_with fail
       go_roundg g9
       case measure => omega
       case rel => exact ⟨j + 1, (.slice va vn vc), s9, ts ++ [⟨yk, yn, yt⟩], by omega, by go_num, by simp; omega, HW3.out, HQ9.out⟩
      ·go_simp
       have HV2 : Hid (AS w (V1.alloc (.cells #[.int .i64 yk, .int .i64 yn, .string yt] 56)) g A B s9 ⟨tk, tn, tt⟩ (ofL m) (.slice xa xn xc) ts) := HV1.out.below (below1 _ _)
       have HG : Hid (CBlk (V1.alloc (.cells #[.int .i64 yk, .int .i64 yn, .string yt] 56)) V1.heap.size #[.int .i64 yk, .int .i64 yn, .string yt] 56) := CBlk.new _ _ _
       clear hH HV1
       refine hK.out _ _ trivial (fun hH => ?_)
       clear hK K
       revert hH HV2 HG
       generalize V1.alloc (.cells #[.int .i64 yk, .int .i64 yn, .string yt] 56) = V2
       generalize V1.heap.size = GG
       intro HV2 HG hH
       refine wRd 1 (by kernel_rfl) rfl (fun K hK => ?_)
       have c4 := (five HV2.out.box).2.2.2.2
       go_simp
       clear c4
       refine hK.out _ _ trivial (fun hH => ?_)
       clear hK K
       refine wRd 5 (by kernel_rfl) rfl (fun K hK => ?_)
       refine step_terms rfl _ _ rfl (A + 1) (.slice xa xn xc) ts (by rfl) HV2.out.own GG [⟨yk, yn, yt⟩] (by simp) (by rfl) (row_one8 (t := ⟨yk, yn, yt⟩) HG.out) (by simp only [List.length_cons, List.length_nil]; omega) HV2.out.box.lt ?_
       intro v' w3 hown hb3 hg3
       obtain ⟨va, vn, vc, rfl⟩ := ownT_form8 hown
       have HW3 : Hid (AS w (w3.setCell ⟨A, 4, none⟩ (.slice va vn vc)) g A B s9 ⟨tk, tn, tt⟩ (ofL m) (.slice va vn vc) (ts ++ [⟨yk, yn, yt⟩])) := HV2.out.args hown hb3
       have hD : Blk w3 A _ 58 := (hb3.block _ (by omega)).trans HV2.out.box
       have d4 := (five hD).2.2.2.2
       have f4 : w3.frozen? ⟨A, 4, none⟩ = false := (ff5 hD).2.2.2.2
       clear hD hown hb3 hg3 HV2 HG hH
       refine hK.out _ _ trivial (fun hH => ?_)
       clear hK K
       simp only [wA8, wB8, wC8, wD8]
       refine wTk 6 (.pointer (some ⟨A, 4, none⟩)) rfl (by kernel_rfl) (fun _ _ _ h => h) (Or.inl ⟨by rfl, fun w' h => by clear h; go_simp⟩) hH ?_
       simp only [wA8, wB8, wC8, wD8]
       refine wRd 7 (by kernel_rfl) rfl (fun K hK => ?_)
       go_simp
       clear d4 f4
       refine hK.out _ _ trivial (fun hH => ?_)
       clear hK K hH
       refine wpAnyH_done (by kernel_rfl) ?_ _
       go_wp2_with fail
       go_roundg g9
       case measure => omega
       case rel => exact ⟨j + 1, (.slice va vn vc), s9, ts ++ [⟨yk, yn, yt⟩], by omega, by go_num, by simp; omega, HW3.out, HQ9.out⟩
   ·have HE : Hid (qArgs B K.toNat s5 = (ts, sj)) := HQ.out.stop (by
     by_cases h0 : sj.er = 0
     ·right; have : ¬ (j : Int) < K := fun h => hx ⟨h, h0⟩
      omega
     ·exact Or.inl h0)
    have HF : ∀ Y : World, Y = ((((wr.setCell ⟨w.heap.size, 0, none⟩ (.int .i64 tk)).setCell ⟨w.heap.size, 1, none⟩ (.int .i64 tn)).setCell ⟨w.heap.size, 2, none⟩ (.string tt)).setCell ⟨w.heap.size, 3, none⟩ (.string (ofL m))).setCell ⟨w.heap.size, 4, none⟩ (.slice xa xn xc) -> RqS Y g B sj /\ OwnT Y w.heap.size (.slice xa xn xc) ts /\ Bv g w.heap.size w Y := fun Y hY => by
     subst hY
     have hgw := HA.out.gt
     refine ⟨((((HA.out.rq.off hgw).off hgw).off hgw).off hgw).off hgw, ?_, bset5M HA.out.bl (Nat.le_refl _)⟩
     exact (((((HA.out.own.set (by omega)).set (by omega)).set (by omega)).set (by omega)).set (by omega)).mono (by omega)
    have HF' : Hid _ := HF
    clear HF
    by_cases hjK : (j : Int) < K
    ·have hne : (sj.er == 0) = false := beq_eq_false_iff_ne.2 (fun h => hx ⟨hjK, h⟩)
     clear hx
     generalize sj.er = er9 at *
     go_wp2
     refine bodyPost_ret (v := At.v ⟨⟨tk, tn, tt⟩, ofL m, ts⟩ (.slice xa xn xc)) (by simp [results, Tryz.results86, go_sem, r0, r1, r2, r3, r4]) rfl ?_
     rw [HE.out]
     exact ⟨_, rfl, (HF'.out _ rfl).1, (HF'.out _ rfl).2⟩
    ·clear hx
     generalize sj.er = er9 at *
     go_wp2
     refine bodyPost_ret (v := At.v ⟨⟨tk, tn, tt⟩, ofL m, ts⟩ (.slice xa xn xc)) (by simp [results, Tryz.results86, go_sem, r0, r1, r2, r3, r4]) rfl ?_
     rw [HE.out]
     exact ⟨_, rfl, (HF'.out _ rfl).1, (HF'.out _ rfl).2⟩
end Go.Proofs.YtmbmchbninlhpaaGreatDoor
