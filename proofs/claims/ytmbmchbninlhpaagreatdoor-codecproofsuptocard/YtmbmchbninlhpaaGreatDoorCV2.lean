import Derived.Test.YtmbmchbninlhpaaGreatDoorCL1
import Derived.Test.YtmbmchbninlhpaaGreatDoorCV1
import Derived.Test.YtmbmchbninlhpaaGreatDoorCR5
import Derived.Test.YtmbmchbninlhpaaGreatDoorCE4
import Derived.Test.YtmbmchbninlhpaaGreatDoorCH3
import Derived.Deep.RegionHeld3
namespace Go.Proofs.YtmbmchbninlhpaaGreatDoor
open Go.RowKit

set_option maxRecDepth 20000 in
set_option maxHeartbeats 4000000 in
theorem qval_any (g : Nat) (B : List Int) (s : Qs) (w : World) (h : RqS w g B s) :
  Calls Tryz.prog 88 #[.pointer (some ⟨g, 0, none⟩), .bool false, .bool true, .bool false] w fun e w' => e = .returned (qTerm B false true false s).1.v /\ RqS w' g B (qTerm B false true false s).2 /\ Bv g w.heap.size w w' := by
 have hlt := h.lt
 have HZ : Hid (Blk (w.alloc (.cells #[.int .i64 0, .int .i64 0, .string ⟨#[]⟩] 56)) w.heap.size #[.int .i64 0, .int .i64 0, .string ⟨#[]⟩] 56) := Blk.new _ _ _
 have HN : Hid (Calls Tryz.prog 87 #[.pointer (some ⟨g, 0, none⟩), .int .i64 0, .int .i64 3] (w.alloc (.cells #[.int .i64 0, .int .i64 0, .string ⟨#[]⟩] 56)) fun e w' => e = .returned (.int .i64 (qSmall B 0 3 s).1) /\ RqS w' g B (qSmall B 0 3 s).2 /\ Bv g (w.alloc (.cells #[.int .i64 0, .int .i64 0, .string ⟨#[]⟩] 56)).heap.size (w.alloc (.cells #[.int .i64 0, .int .i64 0, .string ⟨#[]⟩] 56)) w') := qsmall_any 0 3 g B s _ (h.below (below1 _ _))
 have HL : Hid (Bv g w.heap.size w (w.alloc (.cells #[.int .i64 0, .int .i64 0, .string ⟨#[]⟩] 56))) := Bv.of (below1 _ _)
 have hin := qSmall_in (B := B) (lo := 0) (hi := 3) (s := s)
 unfold qTerm
 generalize qSmall B 0 3 s = q at *
 obtain ⟨k, ⟨at_, er⟩⟩ := q
 simp only at *
 clear h
 by_cases he : er = 0
 ·subst he
  obtain ⟨hk0, hk3⟩ := hin rfl
  clear hin
  have hk : k = 0 ∨ k = 1 ∨ k = 2 ∨ k = 3 := by omega
  clear hk0 hk3
  rcases hk with rfl | rfl | rfl | rfl
  ·have e : qTermK B false true false 0 ⟨at_, 0⟩ = (zt, ⟨at_, 63⟩) := by simp [qTermK, stp]
   rw [e]
   clear e
   have HST : Hid (∀ X, RqS X g B ⟨at_, 0⟩ -> Calls Tryz.prog 53 #[.pointer (some ⟨g, 0, none⟩), .int .i64 63] X fun e w' => e = .returned (.tuple #[]) /\ RqS w' g B ⟨at_, 63⟩ /\ Bv g X.heap.size X w') := fun X hX => qstop_any 63 g B ⟨at_, 0⟩ X hX
   go_enter Tryz.func88, Tryz.ntmps88
   go_wp2_with (first
    | (go_at_call 87; refine HN.out.mono ?_; rintro e w1 ⟨rfl, hs, hb⟩; have HB : Hid (Bv g w.heap.size w w1) := HL.out.step hb; have HS : Hid (RqS w1 g B ⟨at_, 0⟩) := hs; obtain ⟨sa, scap, s0, s1, s2⟩ : ∃ a cap, w1.cell? ⟨g, 0, none⟩ = some (.slice a B.length cap) /\ w1.cell? ⟨g, 1, none⟩ = some (.int .i64 at_) /\ w1.cell? ⟨g, 2, none⟩ = some (.int .i64 0) := (by obtain ⟨a, cap, c0, c1, c2, -, -⟩ := hs.cells; exact ⟨a, cap, c0, c1, c2⟩); have HK : Hid (Blk w1 _ _ _) := HZ.out.bl hb (by omega); obtain ⟨r0, r1, r2, f0, f1, f2⟩ := three (HZ.out.bl hb (by omega)); clear hs hb)
    | (go_at_call 53; refine (HST.out _ HS.out).mono ?_; rintro e w2 ⟨rfl, hs, hb⟩; have HB2 : Hid (Bv g w.heap.size w w2) := HB.out.step hb; have HS2 : Hid (RqS w2 g B ⟨at_, 63⟩) := hs; clear r0 r1 r2 f0 f1 f2; obtain ⟨r0, r1, r2, f0, f1, f2⟩ := three (HK.out.bl hb (by omega)); clear hs hb))
   exact bodyPost_ret (v := Tm.v zt) (by simp [results, Tryz.results88, go_sem, zt, r0, r1, r2]) rfl ⟨rfl, ((HS2.out.off hlt).off hlt).off hlt, bset3V HB2.out (Nat.le_refl _)⟩
  ·have e : qTermK B false true false 1 ⟨at_, 0⟩ = (⟨1, wrap64 (qNum B 8 ⟨at_, 0⟩).1, ⟨#[]⟩⟩, (qNum B 8 ⟨at_, 0⟩).2) := by simp [qTermK]
   rw [e]
   clear e
   have HC : Hid (∀ X, RqS X g B ⟨at_, 0⟩ -> Calls Tryz.prog 41 #[.pointer (some ⟨g, 0, none⟩), .int .i64 8] X fun e w' => e = .returned (.int .u64 (qNum B 8 ⟨at_, 0⟩).1) /\ RqS w' g B (qNum B 8 ⟨at_, 0⟩).2 /\ Bv g X.heap.size X w') := fun X hX => qnumber_any 8 (by omega) g B ⟨at_, 0⟩ X hX
   generalize qNum B 8 ⟨at_, 0⟩ = q at *
   obtain ⟨z, s2'⟩ := q
   simp only at *
   go_enter Tryz.func88, Tryz.ntmps88
   go_wp2_with (first
    | (go_at_call 87; refine HN.out.mono ?_; rintro e w1 ⟨rfl, hs, hb⟩; have HB : Hid (Bv g w.heap.size w w1) := HL.out.step hb; have HS : Hid (RqS w1 g B ⟨at_, 0⟩) := hs; obtain ⟨sa, scap, s0, s1, s2⟩ : ∃ a cap, w1.cell? ⟨g, 0, none⟩ = some (.slice a B.length cap) /\ w1.cell? ⟨g, 1, none⟩ = some (.int .i64 at_) /\ w1.cell? ⟨g, 2, none⟩ = some (.int .i64 0) := (by obtain ⟨a, cap, c0, c1, c2, -, -⟩ := hs.cells; exact ⟨a, cap, c0, c1, c2⟩); have HK : Hid (Blk w1 _ _ _) := HZ.out.bl hb (by omega); obtain ⟨r0, r1, r2, f0, f1, f2⟩ := three (HZ.out.bl hb (by omega)); clear hs hb)
    | (go_at_call 41; refine (HC.out _ HS.out).mono ?_; rintro e w2 ⟨rfl, hs, hb⟩; have HB2 : Hid (Bv g w.heap.size w w2) := HB.out.step hb; have HS2 : Hid (RqS w2 g B s2') := hs; clear r0 r1 r2 f0 f1 f2; obtain ⟨r0, r1, r2, f0, f1, f2⟩ := three (HK.out.bl hb (by omega)); clear hs hb))
   exact bodyPost_ret (v := Tm.v ⟨1, wrap64 z, ⟨#[]⟩⟩) (by simp [results, Tryz.results88, go_sem, r0, r1, r2]) rfl ⟨rfl, ((HS2.out.off hlt).off hlt).off hlt, bset3V HB2.out (Nat.le_refl _)⟩
  ·have e : qTermK B false true false 2 ⟨at_, 0⟩ = qText B 0 ⟨at_, 0⟩ := by simp [qTermK]
   rw [e]
   clear e
   have HC : Hid (∀ X, RqS X g B ⟨at_, 0⟩ -> Calls Tryz.prog 122 #[.pointer (some ⟨g, 0, none⟩), .int .i64 0] X fun e w' => e = .returned ((qText B 0 ⟨at_, 0⟩).1.v) /\ RqS w' g B (qText B 0 ⟨at_, 0⟩).2 /\ Bv g X.heap.size X w') := fun X hX => qtext_any 0 g B ⟨at_, 0⟩ X hX
   generalize qText B 0 ⟨at_, 0⟩ = q at *
   obtain ⟨z, s2'⟩ := q
   simp only at *
   obtain ⟨zk, zn, zs⟩ := z
   go_enter Tryz.func88, Tryz.ntmps88
   go_wp2_with (first
    | (go_at_call 87; refine HN.out.mono ?_; rintro e w1 ⟨rfl, hs, hb⟩; have HB : Hid (Bv g w.heap.size w w1) := HL.out.step hb; have HS : Hid (RqS w1 g B ⟨at_, 0⟩) := hs; obtain ⟨sa, scap, s0, s1, s2⟩ : ∃ a cap, w1.cell? ⟨g, 0, none⟩ = some (.slice a B.length cap) /\ w1.cell? ⟨g, 1, none⟩ = some (.int .i64 at_) /\ w1.cell? ⟨g, 2, none⟩ = some (.int .i64 0) := (by obtain ⟨a, cap, c0, c1, c2, -, -⟩ := hs.cells; exact ⟨a, cap, c0, c1, c2⟩); have HK : Hid (Blk w1 _ _ _) := HZ.out.bl hb (by omega); obtain ⟨r0, r1, r2, f0, f1, f2⟩ := three (HZ.out.bl hb (by omega)); clear hs hb)
    | (go_at_call 122; refine (HC.out _ HS.out).mono ?_; rintro e w2 ⟨rfl, hs, hb⟩; have HB2 : Hid (Bv g w.heap.size w w2) := HB.out.step hb; have HS2 : Hid (RqS w2 g B s2') := hs; clear r0 r1 r2 f0 f1 f2; obtain ⟨r0, r1, r2, f0, f1, f2⟩ := three (HK.out.bl hb (by omega)); clear hs hb))
   exact bodyPost_ret (v := Tm.v ⟨zk, zn, zs⟩) (by simp [results, Tryz.results88, go_sem, r0, r1, r2]) rfl ⟨rfl, ((HS2.out.off hlt).off hlt).off hlt, bset3V HB2.out (Nat.le_refl _)⟩
  ·have e : qTermK B false true false 3 ⟨at_, 0⟩ = (zt, ⟨at_, 63⟩) := by simp [qTermK, stp]
   rw [e]
   clear e
   have HST : Hid (∀ X, RqS X g B ⟨at_, 0⟩ -> Calls Tryz.prog 53 #[.pointer (some ⟨g, 0, none⟩), .int .i64 63] X fun e w' => e = .returned (.tuple #[]) /\ RqS w' g B ⟨at_, 63⟩ /\ Bv g X.heap.size X w') := fun X hX => qstop_any 63 g B ⟨at_, 0⟩ X hX
   go_enter Tryz.func88, Tryz.ntmps88
   go_wp2_with (first
    | (go_at_call 87; refine HN.out.mono ?_; rintro e w1 ⟨rfl, hs, hb⟩; have HB : Hid (Bv g w.heap.size w w1) := HL.out.step hb; have HS : Hid (RqS w1 g B ⟨at_, 0⟩) := hs; obtain ⟨sa, scap, s0, s1, s2⟩ : ∃ a cap, w1.cell? ⟨g, 0, none⟩ = some (.slice a B.length cap) /\ w1.cell? ⟨g, 1, none⟩ = some (.int .i64 at_) /\ w1.cell? ⟨g, 2, none⟩ = some (.int .i64 0) := (by obtain ⟨a, cap, c0, c1, c2, -, -⟩ := hs.cells; exact ⟨a, cap, c0, c1, c2⟩); have HK : Hid (Blk w1 _ _ _) := HZ.out.bl hb (by omega); obtain ⟨r0, r1, r2, f0, f1, f2⟩ := three (HZ.out.bl hb (by omega)); clear hs hb)
    | (go_at_call 53; refine (HST.out _ HS.out).mono ?_; rintro e w2 ⟨rfl, hs, hb⟩; have HB2 : Hid (Bv g w.heap.size w w2) := HB.out.step hb; have HS2 : Hid (RqS w2 g B ⟨at_, 63⟩) := hs; clear r0 r1 r2 f0 f1 f2; obtain ⟨r0, r1, r2, f0, f1, f2⟩ := three (HK.out.bl hb (by omega)); clear hs hb))
   exact bodyPost_ret (v := Tm.v zt) (by simp [results, Tryz.results88, go_sem, zt, r0, r1, r2]) rfl ⟨rfl, ((HS2.out.off hlt).off hlt).off hlt, bset3V HB2.out (Nat.le_refl _)⟩
 ·have hne : (er != 0) = true := by simpa using he
  rw [qTermK_ne he]
  clear hin
  go_enter Tryz.func88, Tryz.ntmps88
  go_wp2_with (go_at_call 87; refine HN.out.mono ?_; rintro e w1 ⟨rfl, hs, hb⟩; have HB : Hid (Bv g w.heap.size w w1) := HL.out.step hb; have HS : Hid (RqS w1 g B ⟨at_, er⟩) := hs; obtain ⟨sa, scap, s0, s1, s2⟩ : ∃ a cap, w1.cell? ⟨g, 0, none⟩ = some (.slice a B.length cap) /\ w1.cell? ⟨g, 1, none⟩ = some (.int .i64 at_) /\ w1.cell? ⟨g, 2, none⟩ = some (.int .i64 er) := (by obtain ⟨a, cap, c0, c1, c2, -, -⟩ := hs.cells; exact ⟨a, cap, c0, c1, c2⟩); have HK : Hid (Blk w1 _ _ _) := HZ.out.bl hb (by omega); obtain ⟨r0, r1, r2, f0, f1, f2⟩ := three (HZ.out.bl hb (by omega)); clear hs hb)
  exact bodyPost_ret (v := Tm.v zt) (by simp [results, Tryz.results88, go_sem, zt, r0, r1, r2]) rfl ⟨rfl, ((HS.out.off hlt).off hlt).off hlt, bset3V HB.out (Nat.le_refl _)⟩
structure SP (w X : World) (g A : Nat) (B : List Int) (s : Qs) (r : Int) (tv : Value) (ts : List Tm) (uv : Value) (us : List Int) : Prop where
 bl : Bv g w.heap.size w X
 rq : RqS X g B s
 res : CBlk X w.heap.size #[.int .i64 0, .slice none 0 0, .slice none 0 0] 50
 box : CBlk X A #[.int .i64 r, tv, uv] 50
 ot : OwnT X (A + 1) tv ts
 on : OwnN X (A + 1) uv us
 lt : w.heap.size < A
 gt : g < w.heap.size
theorem SP.step {w X X' : World} {g A : Nat} {B : List Int} {s s' : Qs} {r : Int} {tv uv : Value} {ts : List Tm} {us : List Int} (h : SP w X g A B s r tv ts uv us) (hs : RqS X' g B s') (hb : Bv g X.heap.size X X') : SP w X' g A B s' r tv ts uv us := by
 have h1 := h.lt
 have h2 := h.gt
 exact ⟨h.bl.step hb, hs, (hb.block _ h.res.lt (by omega)).trans h.res, (hb.block _ h.box.lt (by omega)).trans h.box, row_blM h.ot hb (by omega), row_blM h.on hb (by omega), h.lt, h.gt⟩
theorem SP.below {w X X' : World} {g A : Nat} {B : List Int} {s : Qs} {r : Int} {tv uv : Value} {ts : List Tm} {us : List Int} (h : SP w X g A B s r tv ts uv us) (hb : Below X.heap.size X X') : SP w X' g A B s r tv ts uv us := h.step (h.rq.below hb) (Bv.of hb)
theorem SP.er {w X : World} {g A : Nat} {B : List Int} {s : Qs} {r : Int} {tv uv : Value} {ts : List Tm} {us : List Int} (h : SP w X g A B s r tv ts uv us) : X.cell? ⟨g, 2, none⟩ = some (.int .i64 s.er) := by
 obtain ⟨a, cap, c0, c1, c2, -⟩ := h.rq.cells
 exact c2
theorem SP.vals {w X X' : World} {g A : Nat} {B : List Int} {s : Qs} {r : Int} {tv uv v' : Value} {ts ts' : List Tm} {us : List Int} (h : SP w X g A B s r tv ts uv us) (ho : OwnT X' (A + 1) v' ts') (hb : Below (A + 1) X X') (hg : X.grownBy X' tv.ownBlock) : SP w (X'.setCell ⟨A, 1, none⟩ v') g A B s r v' ts' uv us := by
 have h1 := h.lt
 have h2 := h.gt
 have hs : CBlk X' A #[.int .i64 r, tv, uv] 50 := (hb.block _ (by omega)).trans h.box
 have hk : Kt 50 X' (X'.setCell ⟨A, 1, none⟩ v') := Kt.set hs
 have hs2 := hs.set 1 v'
 exact ⟨(h.bl.trans (Bv.of (hb.mono (by omega)))).trans (Bv.of ((Below.refl _ _).setCell (p := ⟨A, 1, none⟩) (Nat.le_of_lt h.lt) _)), (h.rq.low hb (by omega)).off (by omega),
  (heap_setCell_other _ _ _ _ (by show _ ≠ A; omega)).trans ((hb.block _ (by omega)).trans h.res), by simpa using hs2, row_kt ho hk (by decide), row_kt (row_kt h.on (row_grown h.ot hg) (by decide)) hk (by decide), h.lt, h.gt⟩
theorem SP.uses {w X X' : World} {g A : Nat} {B : List Int} {s : Qs} {r : Int} {tv uv v' : Value} {ts : List Tm} {us us' : List Int} (h : SP w X g A B s r tv ts uv us) (ho : OwnN X' (A + 1) v' us') (hb : Below (A + 1) X X') (hg : X.grownBy X' uv.ownBlock) : SP w (X'.setCell ⟨A, 2, none⟩ v') g A B s r tv ts v' us' := by
 have h1 := h.lt
 have h2 := h.gt
 have hs : CBlk X' A #[.int .i64 r, tv, uv] 50 := (hb.block _ (by omega)).trans h.box
 have hk : Kt 50 X' (X'.setCell ⟨A, 2, none⟩ v') := Kt.set hs
 have hs2 := hs.set 2 v'
 exact ⟨(h.bl.trans (Bv.of (hb.mono (by omega)))).trans (Bv.of ((Below.refl _ _).setCell (p := ⟨A, 2, none⟩) (Nat.le_of_lt h.lt) _)), (h.rq.low hb (by omega)).off (by omega),
  (heap_setCell_other _ _ _ _ (by show _ ≠ A; omega)).trans ((hb.block _ (by omega)).trans h.res), by simpa using hs2, row_kt (row_kt h.ot (row_grown h.on hg) (by decide)) hk (by decide), row_kt ho hk (by decide), h.lt, h.gt⟩
theorem SP.fin {w X : World} {g A : Nat} {B : List Int} {s : Qs} {r : Int} {tv uv : Value} {ts : List Tm} {us : List Int} (h : SP w X g A B s r tv ts uv us) (h1 : ts.length <= 4294967295) (h2 : us.length <= 4294967295) (Y : World) (hY : Y = ((X.setCell ⟨w.heap.size, 0, none⟩ (.int .i64 r)).setCell ⟨w.heap.size, 1, none⟩ tv).setCell ⟨w.heap.size, 2, none⟩ uv) : RqS Y g B s /\ MS8 w.heap.size Y ⟨r, ts, tv, us, uv⟩ /\ Bv g w.heap.size w Y := by
 subst hY
 have hgw := h.gt
 have hlt := h.lt
 have k1 : Kt 50 X (X.setCell ⟨w.heap.size, 0, none⟩ (.int .i64 r)) := Kt.set h.res
 have k2 : Kt 50 (X.setCell ⟨w.heap.size, 0, none⟩ (.int .i64 r)) ((X.setCell ⟨w.heap.size, 0, none⟩ (.int .i64 r)).setCell ⟨w.heap.size, 1, none⟩ tv) := Kt.set (h.res.set 0 _)
 have k3 : Kt 50 ((X.setCell ⟨w.heap.size, 0, none⟩ (.int .i64 r)).setCell ⟨w.heap.size, 1, none⟩ tv) (((X.setCell ⟨w.heap.size, 0, none⟩ (.int .i64 r)).setCell ⟨w.heap.size, 1, none⟩ tv).setCell ⟨w.heap.size, 2, none⟩ uv) := Kt.set ((h.res.set 0 _).set 1 _)
 have hk := (k1.trans k2).trans k3
 exact ⟨((h.rq.off hgw).off hgw).off hgw, ⟨row_mono9 (row_kt h.ot hk (by decide)) (by omega), row_mono9 (row_kt h.on hk (by decide)) (by omega), h1, h2⟩, bset3V h.bl (Nat.le_refl _)⟩
set_option maxRecDepth 20000 in
set_option maxHeartbeats 4000000 in
theorem rstep_any (g : Nat) (B : List Int) (s : Qs) (w : World) (h : RqS w g B s) :
  Calls Tryz.prog 43 #[.pointer (some ⟨g, 0, none⟩)] w fun e w' => ∃ c : St, e = .returned c.v /\ c.key = (qStep B s).1 /\ RqS w' g B (qStep B s).2 /\ MS8 w.heap.size w' c /\ Bv g w.heap.size w w' := by
 have hlt := h.lt
 have HYB : Hid (byt B) := h.1
 have HB : Hid (CBlk (w.alloc (.cells #[.int .i64 0, .slice none 0 0, .slice none 0 0] 50)) w.heap.size #[.int .i64 0, .slice none 0 0, .slice none 0 0] 50) := CBlk.new _ _ _
 have HL : Hid (Bv g w.heap.size w (w.alloc (.cells #[.int .i64 0, .slice none 0 0, .slice none 0 0] 50))) := Bv.of (below1 _ _)
 have hN1 := qnatural_any g B s (w.alloc (.cells #[.int .i64 0, .slice none 0 0, .slice none 0 0] 50)) (h.below (below1 _ _))
 obtain ⟨QC, hQC⟩ : ∃ q, qStep B s = q := ⟨_, rfl⟩
 rw [hQC]
 unfold qStep at hQC
 generalize qNat B s = q1 at *
 obtain ⟨R, s1⟩ := q1
 simp only at *
 have HN1 : Hid (Calls Tryz.prog 89 #[.pointer (some ⟨g, 0, none⟩)] (w.alloc (.cells #[.int .i64 0, .slice none 0 0, .slice none 0 0] 50)) fun e w' => e = .returned (.int .i64 R) /\ RqS w' g B s1 /\ Bv g (w.alloc (.cells #[.int .i64 0, .slice none 0 0, .slice none 0 0] 50)).heap.size (w.alloc (.cells #[.int .i64 0, .slice none 0 0, .slice none 0 0] 50)) w') := hN1
 obtain ⟨n, hn0, hn4⟩ := qNum4 HYB.out s1
 have hN2 := fun (X : World) (hX : RqS X g B s1) => qnumber_any 4 (by omega) g B s1 X hX
 unfold qStep2 at hQC
 rw [hn0] at hN2 hQC
 obtain ⟨s2, hs2⟩ : ∃ s, (qNum B 4 s1).2 = s := ⟨_, rfl⟩
 rw [hs2] at hN2 hQC
 have HN2 : Hid (∀ X : World, RqS X g B s1 -> Calls Tryz.prog 41 #[.pointer (some ⟨g, 0, none⟩), .int .i64 4] X fun e w' => e = .returned (.int .u64 (n : Int)) /\ RqS w' g B s2 /\ Bv g X.heap.size X w') := hN2
 have HQS3 : Hid (qStep3 B R (n : Int) s2 = QC) := hQC
 have HNN : Hid ((n : Int).toNat = n) := by show _ = _; omega
 have hnw : IntKind.i64.wrap (n : Int) = (n : Int) := by rw [IntKind.wrap_i64]; omega
 clear h hN1 hN2 hQC hn0 hs2
 go_enter Tryz.func43, Tryz.ntmps43
 go_upto_region 3 with (first
  | (go_at_call 89; refine HN1.out.mono ?_; rintro e w1 ⟨rfl, hs, hb⟩; have HA1 : Hid (SP w (w1.alloc (.cells #[.int .i64 R, .slice none 0 0, .slice none 0 0] 50)) g w1.heap.size B s1 R (.slice none 0 0) [] (.slice none 0 0) []) := ⟨(HL.out.step hb).step (Bv.of (below1 _ _)), hs.below (below1 _ _), (Blk.bl9 HB.out hb (by omega)).later (below1 _ _), CBlk.new _ _ _, ownT_nil _ _, ownN_nil _ _, (by have := hb.size; simp at this; omega), hlt⟩; clear hs hb)
  | (go_at_call 41; refine (HN2.out _ HA1.out.rq).mono ?_; rintro e w2 ⟨rfl, hs, hb⟩; have HA2 : Hid (SP w w2 g w1.heap.size B s2 R (.slice none 0 0) [] (.slice none 0 0) []) := HA1.out.step hs hb; clear hs hb HA1))
 clear HN1 HN2 HB HL
 revert HA2
 generalize w1.heap.size = A
 intro HA2
 go_wp2_with fail
 go_loopg [5] n (fun g9 i wr => ∃ (j : Nat) (av : Value) (sj : Qs) (ts : List Tm), j + g9 = n /\ i = .int .i64 (j : Int) /\ ts.length <= j /\ SP w wr g A B sj R av ts (.slice none 0 0) [] /\ QM (qTerm B false true false) n s2 g9 ts sj)
 case atStart => exact ⟨0, _, s2, [], by omega, rfl, by simp, HA2.out, QM.start _ _ _⟩
 case round =>
 obtain ⟨j, av, sj, ts, hj, rfl, hts, ha, hq⟩ := hrel
 obtain ⟨xa, xn, xc, rfl⟩ := ownT_form8 ha.ot
 have HA : Hid (SP w wr g A B sj R (.slice xa xn xc) ts (.slice none 0 0) []) := ha
 have HQ : Hid (QM (qTerm B false true false) n s2 gk ts sj) := hq
 have e2 := ha.er
 clear ha hq HA2
 by_cases hx : (j : Int) < (n : Int) /\ sj.er = 0
 ·obtain ⟨hjK, he⟩ := hx
  cases gk with
  | zero => omega
  | succ g9 =>
   rw [he] at e2
   obtain ⟨⟨⟨yk, yn, yt⟩, s9⟩, hq9⟩ : ∃ q, qTerm B false true false sj = q := ⟨_, rfl⟩
   have HTM : Hid (∀ X, RqS X g B sj -> Calls Tryz.prog 88 #[.pointer (some ⟨g, 0, none⟩), .bool false, .bool true, .bool false] X fun e w' => e = .returned (Tm.v ⟨yk, yn, yt⟩) /\ RqS w' g B s9 /\ Bv g X.heap.size X w') := fun X hX => by
    have := qval_any g B sj X hX
    rw [hq9] at this
    exact this
   have HQ9 : Hid (QM (qTerm B false true false) n s2 g9 (ts ++ [⟨yk, yn, yt⟩]) s9) := HQ.out.next he hq9
   clear hq9 HQ
   go_upto_region 6 with fail
   clear e2
   have HV0 : Hid (SP w wr.drew g A B sj R (.slice xa xn xc) ts (.slice none 0 0) []) := HA.out.below (Below.refl _ _).drew
   refine wp_region_held_drew (S := fun _ => True) (by kernel_rfl) trivial (fun hH => ?_)
   revert hH HV0
   generalize wr.drew = V0
   intro HV0 hH
   clear HA
   refine wTk 0 (.pointer (some ⟨A, 1, none⟩)) rfl (by kernel_rfl) (fun _ _ _ h => h) (Or.inl ⟨by rfl, fun w' h => by clear h; go_simp⟩) hH ?_
   simp only [wA8, wB8, wC8, wD8]
   refine wTk 2 (.pointer (some ⟨g, 0, none⟩)) rfl (by kernel_rfl) (fun _ _ _ h => h) (Or.inl ⟨by rfl, fun w' h => by clear h; go_simp⟩) hH ?_
   simp only [wA8, wB8, wC8, wD8]
   refine wpAnyH_ready (rs := [1, 3]) (by kernel_rfl) (by simp) ?_
   refine (AllReadyH.cons (o := ⟨_, _, _, _, _, _⟩) rfl (fun K hK => ?_) (AllReadyH.cons (o := ⟨_, _, _, _, _, _⟩) rfl (fun K hK => ?_) AllReadyH.nil))
   ·have c4 := (cthree HV0.out.box).2.1
    go_simp
    clear c4
    refine hK.out _ _ trivial (fun hH => ?_)
    clear hK K
    refine wRd 3 (by kernel_rfl) rfl (fun K hK => ?_)
    go_simp
    refine (HTM.out _ HV0.out.rq).mono ?_
    rintro e V1 ⟨rfl, hs, hb⟩
    have HV1 : Hid (SP w V1 g A B s9 R (.slice xa xn xc) ts (.slice none 0 0) []) := HV0.out.step hs hb
    clear hs hb HV0 hH
    refine hK.out _ _ trivial (fun hH => ?_)
    clear hK K
    try simp only [wA8, wB8, wC8, wD8]
    refine wRd 4 (by kernel_rfl) rfl (fun K hK => ?_)
    go_simp
    have HV2 : Hid (SP w (V1.alloc (.cells #[.int .i64 yk, .int .i64 yn, .string yt] 56)) g A B s9 R (.slice xa xn xc) ts (.slice none 0 0) []) := HV1.out.below (below1 _ _)
    have HG : Hid (CBlk (V1.alloc (.cells #[.int .i64 yk, .int .i64 yn, .string yt] 56)) V1.heap.size #[.int .i64 yk, .int .i64 yn, .string yt] 56) := CBlk.new _ _ _
    clear hH HV1
    refine hK.out _ _ trivial (fun hH => ?_)
    clear hK K
    revert hH HV2 HG
    generalize V1.alloc (.cells #[.int .i64 yk, .int .i64 yn, .string yt] 56) = V2
    generalize V1.heap.size = GG
    intro HV2 HG hH
    refine wRd 5 (by kernel_rfl) rfl (fun K hK => ?_)
    refine step_terms rfl _ _ rfl (A + 1) (.slice xa xn xc) ts (by rfl) HV2.out.ot GG [⟨yk, yn, yt⟩] (by simp) (by rfl) (row_one8 (t := ⟨yk, yn, yt⟩) HG.out) (by simp only [List.length_cons, List.length_nil]; omega) HV2.out.box.lt ?_
    intro v' w3 hown hb3 hg3
    obtain ⟨va, vn, vc, rfl⟩ := ownT_form8 hown
    have HW3 : Hid (SP w (w3.setCell ⟨A, 1, none⟩ (.slice va vn vc)) g A B s9 R (.slice va vn vc) (ts ++ [⟨yk, yn, yt⟩]) (.slice none 0 0) []) := HV2.out.vals hown hb3 hg3
    have hD : CBlk w3 A _ 50 := (hb3.block _ (by omega)).trans HV2.out.box
    have d4 := (cthree hD).2.1
    have f4 : w3.frozen? ⟨A, 1, none⟩ = false := hD.froz
    clear hD hown hb3 hg3 HV2 HG hH
    refine hK.out _ _ trivial (fun hH => ?_)
    clear hK K
    simp only [wA8, wB8, wC8, wD8]
    refine wTk 6 (.pointer (some ⟨A, 1, none⟩)) rfl (by kernel_rfl) (fun _ _ _ h => h) (Or.inl ⟨by rfl, fun w' h => by clear h; go_simp⟩) hH ?_
    simp only [wA8, wB8, wC8, wD8]
    refine wRd 7 (by kernel_rfl) rfl (fun K hK => ?_)
    go_simp
    clear d4 f4
    refine hK.out _ _ trivial (fun hH => ?_)
    clear hK K hH
    refine wpAnyH_done (by kernel_rfl) ?_ _
    go_wp2_with fail
    go_roundg g9
    case measure => omega
    case rel => exact ⟨j + 1, (.slice va vn vc), s9, ts ++ [⟨yk, yn, yt⟩], by omega, by go_num, by simp; omega, HW3.out, HQ9.out⟩
   ·go_simp
    refine (HTM.out _ HV0.out.rq).mono ?_
    rintro e V1 ⟨rfl, hs, hb⟩
    have HV1 : Hid (SP w V1 g A B s9 R (.slice xa xn xc) ts (.slice none 0 0) []) := HV0.out.step hs hb
    clear hs hb HV0 hH
    refine hK.out _ _ trivial (fun hH => ?_)
    clear hK K
    try simp only [wA8, wB8, wC8, wD8]
    refine wpAnyH_ready (rs := [1, 4]) (by kernel_rfl) (by simp) ?_
    refine (AllReadyH.cons (o := ⟨_, _, _, _, _, _⟩) rfl (fun K hK => ?_) (AllReadyH.cons (o := ⟨_, _, _, _, _, _⟩) rfl (fun K hK => ?_) AllReadyH.nil))
    ·have c4 := (cthree HV1.out.box).2.1
     go_simp
     clear c4
     refine hK.out _ _ trivial (fun hH => ?_)
     clear hK K
     refine wRd 4 (by kernel_rfl) rfl (fun K hK => ?_)
     go_simp
     have HV2 : Hid (SP w (V1.alloc (.cells #[.int .i64 yk, .int .i64 yn, .string yt] 56)) g A B s9 R (.slice xa xn xc) ts (.slice none 0 0) []) := HV1.out.below (below1 _ _)
     have HG : Hid (CBlk (V1.alloc (.cells #[.int .i64 yk, .int .i64 yn, .string yt] 56)) V1.heap.size #[.int .i64 yk, .int .i64 yn, .string yt] 56) := CBlk.new _ _ _
     clear hH HV1
     refine hK.out _ _ trivial (fun hH => ?_)
     clear hK K
     revert hH HV2 HG
     generalize V1.alloc (.cells #[.int .i64 yk, .int .i64 yn, .string yt] 56) = V2
     generalize V1.heap.size = GG
     intro HV2 HG hH
     refine wRd 5 (by kernel_rfl) rfl (fun K hK => ?_)
     refine step_terms rfl _ _ rfl (A + 1) (.slice xa xn xc) ts (by rfl) HV2.out.ot GG [⟨yk, yn, yt⟩] (by simp) (by rfl) (row_one8 (t := ⟨yk, yn, yt⟩) HG.out) (by simp only [List.length_cons, List.length_nil]; omega) HV2.out.box.lt ?_
     intro v' w3 hown hb3 hg3
     obtain ⟨va, vn, vc, rfl⟩ := ownT_form8 hown
     have HW3 : Hid (SP w (w3.setCell ⟨A, 1, none⟩ (.slice va vn vc)) g A B s9 R (.slice va vn vc) (ts ++ [⟨yk, yn, yt⟩]) (.slice none 0 0) []) := HV2.out.vals hown hb3 hg3
     have hD : CBlk w3 A _ 50 := (hb3.block _ (by omega)).trans HV2.out.box
     have d4 := (cthree hD).2.1
     have f4 : w3.frozen? ⟨A, 1, none⟩ = false := hD.froz
     clear hD hown hb3 hg3 HV2 HG hH
     refine hK.out _ _ trivial (fun hH => ?_)
     clear hK K
     simp only [wA8, wB8, wC8, wD8]
     refine wTk 6 (.pointer (some ⟨A, 1, none⟩)) rfl (by kernel_rfl) (fun _ _ _ h => h) (Or.inl ⟨by rfl, fun w' h => by clear h; go_simp⟩) hH ?_
     simp only [wA8, wB8, wC8, wD8]
     refine wRd 7 (by kernel_rfl) rfl (fun K hK => ?_)
     go_simp
     clear d4 f4
     refine hK.out _ _ trivial (fun hH => ?_)
     clear hK K hH
     refine wpAnyH_done (by kernel_rfl) ?_ _
     go_wp2_with fail
     go_roundg g9
     case measure => omega
     case rel => exact ⟨j + 1, (.slice va vn vc), s9, ts ++ [⟨yk, yn, yt⟩], by omega, by go_num, by simp; omega, HW3.out, HQ9.out⟩
    ·go_simp
     have HV2 : Hid (SP w (V1.alloc (.cells #[.int .i64 yk, .int .i64 yn, .string yt] 56)) g A B s9 R (.slice xa xn xc) ts (.slice none 0 0) []) := HV1.out.below (below1 _ _)
     have HG : Hid (CBlk (V1.alloc (.cells #[.int .i64 yk, .int .i64 yn, .string yt] 56)) V1.heap.size #[.int .i64 yk, .int .i64 yn, .string yt] 56) := CBlk.new _ _ _
     clear hH HV1
     refine hK.out _ _ trivial (fun hH => ?_)
     clear hK K
     revert hH HV2 HG
     generalize V1.alloc (.cells #[.int .i64 yk, .int .i64 yn, .string yt] 56) = V2
     generalize V1.heap.size = GG
     intro HV2 HG hH
     refine wRd 1 (by kernel_rfl) rfl (fun K hK => ?_)
     have c4 := (cthree HV2.out.box).2.1
     go_simp
     clear c4
     refine hK.out _ _ trivial (fun hH => ?_)
     clear hK K
     refine wRd 5 (by kernel_rfl) rfl (fun K hK => ?_)
     refine step_terms rfl _ _ rfl (A + 1) (.slice xa xn xc) ts (by rfl) HV2.out.ot GG [⟨yk, yn, yt⟩] (by simp) (by rfl) (row_one8 (t := ⟨yk, yn, yt⟩) HG.out) (by simp only [List.length_cons, List.length_nil]; omega) HV2.out.box.lt ?_
     intro v' w3 hown hb3 hg3
     obtain ⟨va, vn, vc, rfl⟩ := ownT_form8 hown
     have HW3 : Hid (SP w (w3.setCell ⟨A, 1, none⟩ (.slice va vn vc)) g A B s9 R (.slice va vn vc) (ts ++ [⟨yk, yn, yt⟩]) (.slice none 0 0) []) := HV2.out.vals hown hb3 hg3
     have hD : CBlk w3 A _ 50 := (hb3.block _ (by omega)).trans HV2.out.box
     have d4 := (cthree hD).2.1
     have f4 : w3.frozen? ⟨A, 1, none⟩ = false := hD.froz
     clear hD hown hb3 hg3 HV2 HG hH
     refine hK.out _ _ trivial (fun hH => ?_)
     clear hK K
     simp only [wA8, wB8, wC8, wD8]
     refine wTk 6 (.pointer (some ⟨A, 1, none⟩)) rfl (by kernel_rfl) (fun _ _ _ h => h) (Or.inl ⟨by rfl, fun w' h => by clear h; go_simp⟩) hH ?_
     simp only [wA8, wB8, wC8, wD8]
     refine wRd 7 (by kernel_rfl) rfl (fun K hK => ?_)
     go_simp
     clear d4 f4
     refine hK.out _ _ trivial (fun hH => ?_)
     clear hK K hH
     refine wpAnyH_done (by kernel_rfl) ?_ _
     go_wp2_with fail
     go_roundg g9
     case measure => omega
     case rel => exact ⟨j + 1, (.slice va vn vc), s9, ts ++ [⟨yk, yn, yt⟩], by omega, by go_num, by simp; omega, HW3.out, HQ9.out⟩
 ·have HE : Hid (qMany (qTerm B false true false) n s2 = (ts, sj)) := HQ.out.stop (by
   by_cases h0 : sj.er = 0
   ·right; have : ¬ (j : Int) < (n : Int) := fun h => hx ⟨h, h0⟩
    omega
   ·exact Or.inl h0)
  have hlj : ts.length <= n := by omega
  by_cases hjK : (j : Int) < (n : Int)
  ·have hne : (sj.er == 0) = false := beq_eq_false_iff_ne.2 (fun h => hx ⟨hjK, h⟩)
   clear hx HQ
   have HQ4 := HQS3.out
   unfold qStep3 at HQ4
   rw [HNN.out, HE.out] at HQ4
   unfold qStep4 at HQ4
   obtain ⟨mm, hm0, hm4⟩ := qNum4 HYB.out sj
   have hN4 := fun (X : World) (hX : RqS X g B sj) => qnumber_any 4 (by omega) g B sj X hX
   rw [hm0] at hN4 HQ4
   obtain ⟨s4, hs4⟩ : ∃ s, (qNum B 4 sj).2 = s := ⟨_, rfl⟩
   rw [hs4] at hN4 HQ4
   obtain ⟨m, rfl⟩ : ∃ m, m = mm := ⟨_, rfl⟩
   have HN4 : Hid (∀ X : World, RqS X g B sj -> Calls Tryz.prog 41 #[.pointer (some ⟨g, 0, none⟩), .int .i64 4] X fun e w' => e = .returned (.int .u64 (m : Int)) /\ RqS w' g B s4 /\ Bv g X.heap.size X w') := hN4
   have HQS : Hid (qStep5 B R ts (m : Int) s4 = QC) := HQ4
   have HNM : Hid ((m : Int).toNat = m) := by show _ = _; omega
   have hmw : IntKind.i64.wrap (m : Int) = (m : Int) := by rw [IntKind.wrap_i64]; omega
   clear hm0 hN4 hs4 HQ4 HE
   generalize sj.er = er9 at *
   go_upto_region 8 with (go_at_call 41; refine (HN4.out _ HA.out.rq).mono ?_; rintro e w4 ⟨rfl, hs, hb⟩; have HA4 : Hid (SP w w4 g A B s4 R (.slice xa xn xc) ts (.slice none 0 0) []) := HA.out.step hs hb; clear hs hb HA)
   clear HN4 e2
   go_wp2_with fail
   go_loopg [6] m (fun g9 i wr => ∃ (j : Nat) (av : Value) (sj : Qs) (us : List Int), j + g9 = m /\ i = .int .i64 (j : Int) /\ us.length <= j /\ SP w wr g A B sj R (.slice xa xn xc) ts av us /\ QM (qNat B) m s4 g9 us sj)
   case atStart => exact ⟨0, _, s4, [], by omega, rfl, by simp, HA4.out, QM.start _ _ _⟩
   case round =>
   obtain ⟨j, av, sj, us, hj, rfl, hus, ha, hq⟩ := hrel
   obtain ⟨na, nn, nc, rfl⟩ := ownN_form4 ha.on
   have HA : Hid (SP w wr g A B sj R (.slice xa xn xc) ts (.slice na nn nc) us) := ha
   have HQ : Hid (QM (qNat B) m s4 gk us sj) := hq
   have e2 := ha.er
   clear ha hq HA4
   by_cases hx : (j : Int) < (m : Int) /\ sj.er = 0
   ·obtain ⟨hjK, he⟩ := hx
    cases gk with
    | zero => omega
    | succ g9 =>
     rw [he] at e2
     obtain ⟨⟨y, s9⟩, hq9⟩ : ∃ q, qNat B sj = q := ⟨_, rfl⟩
     have HTM : Hid (∀ X, RqS X g B sj -> Calls Tryz.prog 89 #[.pointer (some ⟨g, 0, none⟩)] X fun e w' => e = .returned (.int .i64 y) /\ RqS w' g B s9 /\ Bv g X.heap.size X w') := fun X hX => by
      have := qnatural_any g B sj X hX
      rw [hq9] at this
      exact this
     have HQ9 : Hid (QM (qNat B) m s4 g9 (us ++ [y]) s9) := HQ.out.next he hq9
     clear hq9 HQ
     go_upto_region 11 with fail
     clear e2
     have HV0 : Hid (SP w wr.drew g A B sj R (.slice xa xn xc) ts (.slice na nn nc) us) := HA.out.below (Below.refl _ _).drew
     refine wp_region_held_drew (S := fun _ => True) (by kernel_rfl) trivial (fun hH => ?_)
     revert hH HV0
     generalize wr.drew = V0
     intro HV0 hH
     clear HA
     refine wTk 0 (.pointer (some ⟨A, 2, none⟩)) rfl (by kernel_rfl) (fun _ _ _ h => h) (Or.inl ⟨by rfl, fun w' h => by clear h; go_simp⟩) hH ?_
     simp only [wA8, wB8, wC8, wD8]
     refine wTk 2 (.pointer (some ⟨g, 0, none⟩)) rfl (by kernel_rfl) (fun _ _ _ h => h) (Or.inl ⟨by rfl, fun w' h => by clear h; go_simp⟩) hH ?_
     simp only [wA8, wB8, wC8, wD8]
     refine wpAnyH_ready (rs := [1, 3]) (by kernel_rfl) (by simp) ?_
     refine (AllReadyH.cons (o := ⟨_, _, _, _, _, _⟩) rfl (fun K hK => ?_) (AllReadyH.cons (o := ⟨_, _, _, _, _, _⟩) rfl (fun K hK => ?_) AllReadyH.nil))
     ·have c4 := (cthree HV0.out.box).2.2
      go_simp
      clear c4
      refine hK.out _ _ trivial (fun hH => ?_)
      clear hK K
      refine wRd 3 (by kernel_rfl) rfl (fun K hK => ?_)
      go_simp
      refine (HTM.out _ HV0.out.rq).mono ?_
      rintro e V1 ⟨rfl, hs, hb⟩
      have HV1 : Hid (SP w V1 g A B s9 R (.slice xa xn xc) ts (.slice na nn nc) us) := HV0.out.step hs hb
      clear hs hb HV0 hH
      refine hK.out _ _ trivial (fun hH => ?_)
      clear hK K
      try simp only [wA8, wB8, wC8, wD8]
      refine wRd 4 (by kernel_rfl) rfl (fun K hK => ?_)
      go_simp
      have HV2 : Hid (SP w (V1.alloc (.cells #[.int .i64 y] 3)) g A B s9 R (.slice xa xn xc) ts (.slice na nn nc) us) := HV1.out.below (below1 _ _)
      have HG : Hid (CBlk (V1.alloc (.cells #[.int .i64 y] 3)) V1.heap.size #[.int .i64 y] 3) := CBlk.new _ _ _
      clear hH HV1
      refine hK.out _ _ trivial (fun hH => ?_)
      clear hK K
      revert hH HV2 HG
      generalize V1.alloc (.cells #[.int .i64 y] 3) = V2
      generalize V1.heap.size = GG
      intro HV2 HG hH
      refine wRd 5 (by kernel_rfl) rfl (fun K hK => ?_)
      refine step_num rfl _ _ rfl (A + 1) (.slice na nn nc) us (by rfl) HV2.out.on GG y (by rfl) HG.out (by omega) HV2.out.box.lt ?_
      intro v' w3 hown hb3 hg3
      obtain ⟨va, vn, vc, rfl⟩ := ownN_form4 hown
      have HW3 : Hid (SP w (w3.setCell ⟨A, 2, none⟩ (.slice va vn vc)) g A B s9 R (.slice xa xn xc) ts (.slice va vn vc) (us ++ [y])) := HV2.out.uses hown hb3 hg3
      have hD : CBlk w3 A _ 50 := (hb3.block _ (by omega)).trans HV2.out.box
      have d4 := (cthree hD).2.2
      have f4 : w3.frozen? ⟨A, 2, none⟩ = false := hD.froz
      clear hD hown hb3 hg3 HV2 HG hH
      refine hK.out _ _ trivial (fun hH => ?_)
      clear hK K
      simp only [wA8, wB8, wC8, wD8]
      refine wTk 6 (.pointer (some ⟨A, 2, none⟩)) rfl (by kernel_rfl) (fun _ _ _ h => h) (Or.inl ⟨by rfl, fun w' h => by clear h; go_simp⟩) hH ?_
      simp only [wA8, wB8, wC8, wD8]
      refine wRd 7 (by kernel_rfl) rfl (fun K hK => ?_)
      go_simp
      clear d4 f4
      refine hK.out _ _ trivial (fun hH => ?_)
      clear hK K hH
      refine wpAnyH_done (by kernel_rfl) ?_ _
      go_wp2_with fail
      go_roundg g9
      case measure => omega
      case rel => exact ⟨j + 1, (.slice va vn vc), s9, us ++ [y], by omega, by go_num, by simp; omega, HW3.out, HQ9.out⟩
     ·go_simp
      refine (HTM.out _ HV0.out.rq).mono ?_
      rintro e V1 ⟨rfl, hs, hb⟩
      have HV1 : Hid (SP w V1 g A B s9 R (.slice xa xn xc) ts (.slice na nn nc) us) := HV0.out.step hs hb
      clear hs hb HV0 hH
      refine hK.out _ _ trivial (fun hH => ?_)
      clear hK K
      try simp only [wA8, wB8, wC8, wD8]
      refine wpAnyH_ready (rs := [1, 4]) (by kernel_rfl) (by simp) ?_
      refine (AllReadyH.cons (o := ⟨_, _, _, _, _, _⟩) rfl (fun K hK => ?_) (AllReadyH.cons (o := ⟨_, _, _, _, _, _⟩) rfl (fun K hK => ?_) AllReadyH.nil))
      ·have c4 := (cthree HV1.out.box).2.2
       go_simp
       clear c4
       refine hK.out _ _ trivial (fun hH => ?_)
       clear hK K
       refine wRd 4 (by kernel_rfl) rfl (fun K hK => ?_)
       go_simp
       have HV2 : Hid (SP w (V1.alloc (.cells #[.int .i64 y] 3)) g A B s9 R (.slice xa xn xc) ts (.slice na nn nc) us) := HV1.out.below (below1 _ _)
       have HG : Hid (CBlk (V1.alloc (.cells #[.int .i64 y] 3)) V1.heap.size #[.int .i64 y] 3) := CBlk.new _ _ _
       clear hH HV1
       refine hK.out _ _ trivial (fun hH => ?_)
       clear hK K
       revert hH HV2 HG
       generalize V1.alloc (.cells #[.int .i64 y] 3) = V2
       generalize V1.heap.size = GG
       intro HV2 HG hH
       refine wRd 5 (by kernel_rfl) rfl (fun K hK => ?_)
       refine step_num rfl _ _ rfl (A + 1) (.slice na nn nc) us (by rfl) HV2.out.on GG y (by rfl) HG.out (by omega) HV2.out.box.lt ?_
       intro v' w3 hown hb3 hg3
       obtain ⟨va, vn, vc, rfl⟩ := ownN_form4 hown
       have HW3 : Hid (SP w (w3.setCell ⟨A, 2, none⟩ (.slice va vn vc)) g A B s9 R (.slice xa xn xc) ts (.slice va vn vc) (us ++ [y])) := HV2.out.uses hown hb3 hg3
       have hD : CBlk w3 A _ 50 := (hb3.block _ (by omega)).trans HV2.out.box
       have d4 := (cthree hD).2.2
       have f4 : w3.frozen? ⟨A, 2, none⟩ = false := hD.froz
       clear hD hown hb3 hg3 HV2 HG hH
       refine hK.out _ _ trivial (fun hH => ?_)
       clear hK K
       simp only [wA8, wB8, wC8, wD8]
       refine wTk 6 (.pointer (some ⟨A, 2, none⟩)) rfl (by kernel_rfl) (fun _ _ _ h => h) (Or.inl ⟨by rfl, fun w' h => by clear h; go_simp⟩) hH ?_
       simp only [wA8, wB8, wC8, wD8]
       refine wRd 7 (by kernel_rfl) rfl (fun K hK => ?_)
       go_simp
       clear d4 f4
       refine hK.out _ _ trivial (fun hH => ?_)
       clear hK K hH
       refine wpAnyH_done (by kernel_rfl) ?_ _
       go_wp2_with fail
       go_roundg g9
       case measure => omega
       case rel => exact ⟨j + 1, (.slice va vn vc), s9, us ++ [y], by omega, by go_num, by simp; omega, HW3.out, HQ9.out⟩
      ·go_simp
       have HV2 : Hid (SP w (V1.alloc (.cells #[.int .i64 y] 3)) g A B s9 R (.slice xa xn xc) ts (.slice na nn nc) us) := HV1.out.below (below1 _ _)
       have HG : Hid (CBlk (V1.alloc (.cells #[.int .i64 y] 3)) V1.heap.size #[.int .i64 y] 3) := CBlk.new _ _ _
       clear hH HV1
       refine hK.out _ _ trivial (fun hH => ?_)
       clear hK K
       revert hH HV2 HG
       generalize V1.alloc (.cells #[.int .i64 y] 3) = V2
       generalize V1.heap.size = GG
       intro HV2 HG hH
       refine wRd 1 (by kernel_rfl) rfl (fun K hK => ?_)
       have c4 := (cthree HV2.out.box).2.2
       go_simp
       clear c4
       refine hK.out _ _ trivial (fun hH => ?_)
       clear hK K
       refine wRd 5 (by kernel_rfl) rfl (fun K hK => ?_)
       refine step_num rfl _ _ rfl (A + 1) (.slice na nn nc) us (by rfl) HV2.out.on GG y (by rfl) HG.out (by omega) HV2.out.box.lt ?_
       intro v' w3 hown hb3 hg3
       obtain ⟨va, vn, vc, rfl⟩ := ownN_form4 hown
       have HW3 : Hid (SP w (w3.setCell ⟨A, 2, none⟩ (.slice va vn vc)) g A B s9 R (.slice xa xn xc) ts (.slice va vn vc) (us ++ [y])) := HV2.out.uses hown hb3 hg3
       have hD : CBlk w3 A _ 50 := (hb3.block _ (by omega)).trans HV2.out.box
       have d4 := (cthree hD).2.2
       have f4 : w3.frozen? ⟨A, 2, none⟩ = false := hD.froz
       clear hD hown hb3 hg3 HV2 HG hH
       refine hK.out _ _ trivial (fun hH => ?_)
       clear hK K
       simp only [wA8, wB8, wC8, wD8]
       refine wTk 6 (.pointer (some ⟨A, 2, none⟩)) rfl (by kernel_rfl) (fun _ _ _ h => h) (Or.inl ⟨by rfl, fun w' h => by clear h; go_simp⟩) hH ?_
       simp only [wA8, wB8, wC8, wD8]
       refine wRd 7 (by kernel_rfl) rfl (fun K hK => ?_)
       go_simp
       clear d4 f4
       refine hK.out _ _ trivial (fun hH => ?_)
       clear hK K hH
       refine wpAnyH_done (by kernel_rfl) ?_ _
       go_wp2_with fail
       go_roundg g9
       case measure => omega
       case rel => exact ⟨j + 1, (.slice va vn vc), s9, us ++ [y], by omega, by go_num, by simp; omega, HW3.out, HQ9.out⟩
   ·have HE : Hid (qMany (qNat B) m s4 = (us, sj)) := HQ.out.stop (by
     by_cases h0 : sj.er = 0
     ·right; have : ¬ (j : Int) < (m : Int) := fun h => hx ⟨h, h0⟩
      omega
     ·exact Or.inl h0)
    have hlj : us.length <= m := by omega
    by_cases hjK : (j : Int) < (m : Int)
    ·have hne : (sj.er == 0) = false := beq_eq_false_iff_ne.2 (fun h => hx ⟨hjK, h⟩)
     clear hx HQ
     obtain ⟨k0, k1, k2⟩ := cthree HA.out.box
     obtain ⟨r0, r1, r2⟩ := cthree HA.out.res
     have f0 : wr.frozen? ⟨w.heap.size, 0, none⟩ = false := HA.out.res.froz
     have f1 : wr.frozen? ⟨w.heap.size, 1, none⟩ = false := HA.out.res.froz
     have f2 : wr.frozen? ⟨w.heap.size, 2, none⟩ = false := HA.out.res.froz
     have hAlt := HA.out.lt
     have HF := HA.out.fin (by omega) (by omega)
     have HF' : Hid _ := HF
     clear HF
     generalize sj.er = er9 at *
     go_wp2
     refine bodyPost_ret (v := St.v ⟨R, ts, .slice xa xn xc, us, .slice na nn nc⟩) (by simp [results, Tryz.results43, go_sem, r0, r1, r2]) rfl ?_
     have HQ5 := HQS.out
     unfold qStep5 at HQ5
     rw [HNM.out, HE.out] at HQ5
     rw [<- HQ5]
     exact ⟨_, rfl, rfl, (HF'.out _ rfl).1, (HF'.out _ rfl).2⟩
    ·clear hx HQ
     obtain ⟨k0, k1, k2⟩ := cthree HA.out.box
     obtain ⟨r0, r1, r2⟩ := cthree HA.out.res
     have f0 : wr.frozen? ⟨w.heap.size, 0, none⟩ = false := HA.out.res.froz
     have f1 : wr.frozen? ⟨w.heap.size, 1, none⟩ = false := HA.out.res.froz
     have f2 : wr.frozen? ⟨w.heap.size, 2, none⟩ = false := HA.out.res.froz
     have hAlt := HA.out.lt
     have HF := HA.out.fin (by omega) (by omega)
     have HF' : Hid _ := HF
     clear HF
     generalize sj.er = er9 at *
     go_wp2
     refine bodyPost_ret (v := St.v ⟨R, ts, .slice xa xn xc, us, .slice na nn nc⟩) (by simp [results, Tryz.results43, go_sem, r0, r1, r2]) rfl ?_
     have HQ5 := HQS.out
     unfold qStep5 at HQ5
     rw [HNM.out, HE.out] at HQ5
     rw [<- HQ5]
     exact ⟨_, rfl, rfl, (HF'.out _ rfl).1, (HF'.out _ rfl).2⟩
  ·clear hx HQ
   have HQ4 := HQS3.out
   unfold qStep3 at HQ4
   rw [HNN.out, HE.out] at HQ4
   unfold qStep4 at HQ4
   obtain ⟨mm, hm0, hm4⟩ := qNum4 HYB.out sj
   have hN4 := fun (X : World) (hX : RqS X g B sj) => qnumber_any 4 (by omega) g B sj X hX
   rw [hm0] at hN4 HQ4
   obtain ⟨s4, hs4⟩ : ∃ s, (qNum B 4 sj).2 = s := ⟨_, rfl⟩
   rw [hs4] at hN4 HQ4
   obtain ⟨m, rfl⟩ : ∃ m, m = mm := ⟨_, rfl⟩
   have HN4 : Hid (∀ X : World, RqS X g B sj -> Calls Tryz.prog 41 #[.pointer (some ⟨g, 0, none⟩), .int .i64 4] X fun e w' => e = .returned (.int .u64 (m : Int)) /\ RqS w' g B s4 /\ Bv g X.heap.size X w') := hN4
   have HQS : Hid (qStep5 B R ts (m : Int) s4 = QC) := HQ4
   have HNM : Hid ((m : Int).toNat = m) := by show _ = _; omega
   have hmw : IntKind.i64.wrap (m : Int) = (m : Int) := by rw [IntKind.wrap_i64]; omega
   clear hm0 hN4 hs4 HQ4 HE
   generalize sj.er = er9 at *
   go_upto_region 8 with (go_at_call 41; refine (HN4.out _ HA.out.rq).mono ?_; rintro e w4 ⟨rfl, hs, hb⟩; have HA4 : Hid (SP w w4 g A B s4 R (.slice xa xn xc) ts (.slice none 0 0) []) := HA.out.step hs hb; clear hs hb HA)
   clear HN4 e2
   go_wp2_with fail
   go_loopg [6] m (fun g9 i wr => ∃ (j : Nat) (av : Value) (sj : Qs) (us : List Int), j + g9 = m /\ i = .int .i64 (j : Int) /\ us.length <= j /\ SP w wr g A B sj R (.slice xa xn xc) ts av us /\ QM (qNat B) m s4 g9 us sj)
   case atStart => exact ⟨0, _, s4, [], by omega, rfl, by simp, HA4.out, QM.start _ _ _⟩
   case round =>
   obtain ⟨j, av, sj, us, hj, rfl, hus, ha, hq⟩ := hrel
   obtain ⟨na, nn, nc, rfl⟩ := ownN_form4 ha.on
   have HA : Hid (SP w wr g A B sj R (.slice xa xn xc) ts (.slice na nn nc) us) := ha
   have HQ : Hid (QM (qNat B) m s4 gk us sj) := hq
   have e2 := ha.er
   clear ha hq HA4
   by_cases hx : (j : Int) < (m : Int) /\ sj.er = 0
   ·obtain ⟨hjK, he⟩ := hx
    cases gk with
    | zero => omega
    | succ g9 =>
     rw [he] at e2
     obtain ⟨⟨y, s9⟩, hq9⟩ : ∃ q, qNat B sj = q := ⟨_, rfl⟩
     have HTM : Hid (∀ X, RqS X g B sj -> Calls Tryz.prog 89 #[.pointer (some ⟨g, 0, none⟩)] X fun e w' => e = .returned (.int .i64 y) /\ RqS w' g B s9 /\ Bv g X.heap.size X w') := fun X hX => by
      have := qnatural_any g B sj X hX
      rw [hq9] at this
      exact this
     have HQ9 : Hid (QM (qNat B) m s4 g9 (us ++ [y]) s9) := HQ.out.next he hq9
     clear hq9 HQ
     go_upto_region 11 with fail
     clear e2
     have HV0 : Hid (SP w wr.drew g A B sj R (.slice xa xn xc) ts (.slice na nn nc) us) := HA.out.below (Below.refl _ _).drew
     refine wp_region_held_drew (S := fun _ => True) (by kernel_rfl) trivial (fun hH => ?_)
     revert hH HV0
     generalize wr.drew = V0
     intro HV0 hH
     clear HA
     refine wTk 0 (.pointer (some ⟨A, 2, none⟩)) rfl (by kernel_rfl) (fun _ _ _ h => h) (Or.inl ⟨by rfl, fun w' h => by clear h; go_simp⟩) hH ?_
     simp only [wA8, wB8, wC8, wD8]
     refine wTk 2 (.pointer (some ⟨g, 0, none⟩)) rfl (by kernel_rfl) (fun _ _ _ h => h) (Or.inl ⟨by rfl, fun w' h => by clear h; go_simp⟩) hH ?_
     simp only [wA8, wB8, wC8, wD8]
     refine wpAnyH_ready (rs := [1, 3]) (by kernel_rfl) (by simp) ?_
     refine (AllReadyH.cons (o := ⟨_, _, _, _, _, _⟩) rfl (fun K hK => ?_) (AllReadyH.cons (o := ⟨_, _, _, _, _, _⟩) rfl (fun K hK => ?_) AllReadyH.nil))
     ·have c4 := (cthree HV0.out.box).2.2
      go_simp
      clear c4
      refine hK.out _ _ trivial (fun hH => ?_)
      clear hK K
      refine wRd 3 (by kernel_rfl) rfl (fun K hK => ?_)
      go_simp
      refine (HTM.out _ HV0.out.rq).mono ?_
      rintro e V1 ⟨rfl, hs, hb⟩
      have HV1 : Hid (SP w V1 g A B s9 R (.slice xa xn xc) ts (.slice na nn nc) us) := HV0.out.step hs hb
      clear hs hb HV0 hH
      refine hK.out _ _ trivial (fun hH => ?_)
      clear hK K
      try simp only [wA8, wB8, wC8, wD8]
      refine wRd 4 (by kernel_rfl) rfl (fun K hK => ?_)
      go_simp
      have HV2 : Hid (SP w (V1.alloc (.cells #[.int .i64 y] 3)) g A B s9 R (.slice xa xn xc) ts (.slice na nn nc) us) := HV1.out.below (below1 _ _)
      have HG : Hid (CBlk (V1.alloc (.cells #[.int .i64 y] 3)) V1.heap.size #[.int .i64 y] 3) := CBlk.new _ _ _
      clear hH HV1
      refine hK.out _ _ trivial (fun hH => ?_)
      clear hK K
      revert hH HV2 HG
      generalize V1.alloc (.cells #[.int .i64 y] 3) = V2
      generalize V1.heap.size = GG
      intro HV2 HG hH
      refine wRd 5 (by kernel_rfl) rfl (fun K hK => ?_)
      refine step_num rfl _ _ rfl (A + 1) (.slice na nn nc) us (by rfl) HV2.out.on GG y (by rfl) HG.out (by omega) HV2.out.box.lt ?_
      intro v' w3 hown hb3 hg3
      obtain ⟨va, vn, vc, rfl⟩ := ownN_form4 hown
      have HW3 : Hid (SP w (w3.setCell ⟨A, 2, none⟩ (.slice va vn vc)) g A B s9 R (.slice xa xn xc) ts (.slice va vn vc) (us ++ [y])) := HV2.out.uses hown hb3 hg3
      have hD : CBlk w3 A _ 50 := (hb3.block _ (by omega)).trans HV2.out.box
      have d4 := (cthree hD).2.2
      have f4 : w3.frozen? ⟨A, 2, none⟩ = false := hD.froz
      clear hD hown hb3 hg3 HV2 HG hH
      refine hK.out _ _ trivial (fun hH => ?_)
      clear hK K
      simp only [wA8, wB8, wC8, wD8]
      refine wTk 6 (.pointer (some ⟨A, 2, none⟩)) rfl (by kernel_rfl) (fun _ _ _ h => h) (Or.inl ⟨by rfl, fun w' h => by clear h; go_simp⟩) hH ?_
      simp only [wA8, wB8, wC8, wD8]
      refine wRd 7 (by kernel_rfl) rfl (fun K hK => ?_)
      go_simp
      clear d4 f4
      refine hK.out _ _ trivial (fun hH => ?_)
      clear hK K hH
      refine wpAnyH_done (by kernel_rfl) ?_ _
      go_wp2_with fail
      go_roundg g9
      case measure => omega
      case rel => exact ⟨j + 1, (.slice va vn vc), s9, us ++ [y], by omega, by go_num, by simp; omega, HW3.out, HQ9.out⟩
     ·go_simp
      refine (HTM.out _ HV0.out.rq).mono ?_
      rintro e V1 ⟨rfl, hs, hb⟩
      have HV1 : Hid (SP w V1 g A B s9 R (.slice xa xn xc) ts (.slice na nn nc) us) := HV0.out.step hs hb
      clear hs hb HV0 hH
      refine hK.out _ _ trivial (fun hH => ?_)
      clear hK K
      try simp only [wA8, wB8, wC8, wD8]
      refine wpAnyH_ready (rs := [1, 4]) (by kernel_rfl) (by simp) ?_
      refine (AllReadyH.cons (o := ⟨_, _, _, _, _, _⟩) rfl (fun K hK => ?_) (AllReadyH.cons (o := ⟨_, _, _, _, _, _⟩) rfl (fun K hK => ?_) AllReadyH.nil))
      ·have c4 := (cthree HV1.out.box).2.2
       go_simp
       clear c4
       refine hK.out _ _ trivial (fun hH => ?_)
       clear hK K
       refine wRd 4 (by kernel_rfl) rfl (fun K hK => ?_)
       go_simp
       have HV2 : Hid (SP w (V1.alloc (.cells #[.int .i64 y] 3)) g A B s9 R (.slice xa xn xc) ts (.slice na nn nc) us) := HV1.out.below (below1 _ _)
       have HG : Hid (CBlk (V1.alloc (.cells #[.int .i64 y] 3)) V1.heap.size #[.int .i64 y] 3) := CBlk.new _ _ _
       clear hH HV1
       refine hK.out _ _ trivial (fun hH => ?_)
       clear hK K
       revert hH HV2 HG
       generalize V1.alloc (.cells #[.int .i64 y] 3) = V2
       generalize V1.heap.size = GG
       intro HV2 HG hH
       refine wRd 5 (by kernel_rfl) rfl (fun K hK => ?_)
       refine step_num rfl _ _ rfl (A + 1) (.slice na nn nc) us (by rfl) HV2.out.on GG y (by rfl) HG.out (by omega) HV2.out.box.lt ?_
       intro v' w3 hown hb3 hg3
       obtain ⟨va, vn, vc, rfl⟩ := ownN_form4 hown
       have HW3 : Hid (SP w (w3.setCell ⟨A, 2, none⟩ (.slice va vn vc)) g A B s9 R (.slice xa xn xc) ts (.slice va vn vc) (us ++ [y])) := HV2.out.uses hown hb3 hg3
       have hD : CBlk w3 A _ 50 := (hb3.block _ (by omega)).trans HV2.out.box
       have d4 := (cthree hD).2.2
       have f4 : w3.frozen? ⟨A, 2, none⟩ = false := hD.froz
       clear hD hown hb3 hg3 HV2 HG hH
       refine hK.out _ _ trivial (fun hH => ?_)
       clear hK K
       simp only [wA8, wB8, wC8, wD8]
       refine wTk 6 (.pointer (some ⟨A, 2, none⟩)) rfl (by kernel_rfl) (fun _ _ _ h => h) (Or.inl ⟨by rfl, fun w' h => by clear h; go_simp⟩) hH ?_
       simp only [wA8, wB8, wC8, wD8]
       refine wRd 7 (by kernel_rfl) rfl (fun K hK => ?_)
       go_simp
       clear d4 f4
       refine hK.out _ _ trivial (fun hH => ?_)
       clear hK K hH
       refine wpAnyH_done (by kernel_rfl) ?_ _
       go_wp2_with fail
       go_roundg g9
       case measure => omega
       case rel => exact ⟨j + 1, (.slice va vn vc), s9, us ++ [y], by omega, by go_num, by simp; omega, HW3.out, HQ9.out⟩
      ·go_simp
       have HV2 : Hid (SP w (V1.alloc (.cells #[.int .i64 y] 3)) g A B s9 R (.slice xa xn xc) ts (.slice na nn nc) us) := HV1.out.below (below1 _ _)
       have HG : Hid (CBlk (V1.alloc (.cells #[.int .i64 y] 3)) V1.heap.size #[.int .i64 y] 3) := CBlk.new _ _ _
       clear hH HV1
       refine hK.out _ _ trivial (fun hH => ?_)
       clear hK K
       revert hH HV2 HG
       generalize V1.alloc (.cells #[.int .i64 y] 3) = V2
       generalize V1.heap.size = GG
       intro HV2 HG hH
       refine wRd 1 (by kernel_rfl) rfl (fun K hK => ?_)
       have c4 := (cthree HV2.out.box).2.2
       go_simp
       clear c4
       refine hK.out _ _ trivial (fun hH => ?_)
       clear hK K
       refine wRd 5 (by kernel_rfl) rfl (fun K hK => ?_)
       refine step_num rfl _ _ rfl (A + 1) (.slice na nn nc) us (by rfl) HV2.out.on GG y (by rfl) HG.out (by omega) HV2.out.box.lt ?_
       intro v' w3 hown hb3 hg3
       obtain ⟨va, vn, vc, rfl⟩ := ownN_form4 hown
       have HW3 : Hid (SP w (w3.setCell ⟨A, 2, none⟩ (.slice va vn vc)) g A B s9 R (.slice xa xn xc) ts (.slice va vn vc) (us ++ [y])) := HV2.out.uses hown hb3 hg3
       have hD : CBlk w3 A _ 50 := (hb3.block _ (by omega)).trans HV2.out.box
       have d4 := (cthree hD).2.2
       have f4 : w3.frozen? ⟨A, 2, none⟩ = false := hD.froz
       clear hD hown hb3 hg3 HV2 HG hH
       refine hK.out _ _ trivial (fun hH => ?_)
       clear hK K
       simp only [wA8, wB8, wC8, wD8]
       refine wTk 6 (.pointer (some ⟨A, 2, none⟩)) rfl (by kernel_rfl) (fun _ _ _ h => h) (Or.inl ⟨by rfl, fun w' h => by clear h; go_simp⟩) hH ?_
       simp only [wA8, wB8, wC8, wD8]
       refine wRd 7 (by kernel_rfl) rfl (fun K hK => ?_)
       go_simp
       clear d4 f4
       refine hK.out _ _ trivial (fun hH => ?_)
       clear hK K hH
       refine wpAnyH_done (by kernel_rfl) ?_ _
       go_wp2_with fail
       go_roundg g9
       case measure => omega
       case rel => exact ⟨j + 1, (.slice va vn vc), s9, us ++ [y], by omega, by go_num, by simp; omega, HW3.out, HQ9.out⟩
   ·have HE : Hid (qMany (qNat B) m s4 = (us, sj)) := HQ.out.stop (by
     by_cases h0 : sj.er = 0
     ·right; have : ¬ (j : Int) < (m : Int) := fun h => hx ⟨h, h0⟩
      omega
     ·exact Or.inl h0)
    have hlj : us.length <= m := by omega
    by_cases hjK : (j : Int) < (m : Int)
    ·have hne : (sj.er == 0) = false := beq_eq_false_iff_ne.2 (fun h => hx ⟨hjK, h⟩)
     clear hx HQ
     obtain ⟨k0, k1, k2⟩ := cthree HA.out.box
     obtain ⟨r0, r1, r2⟩ := cthree HA.out.res
     have f0 : wr.frozen? ⟨w.heap.size, 0, none⟩ = false := HA.out.res.froz
     have f1 : wr.frozen? ⟨w.heap.size, 1, none⟩ = false := HA.out.res.froz
     have f2 : wr.frozen? ⟨w.heap.size, 2, none⟩ = false := HA.out.res.froz
     have hAlt := HA.out.lt
     have HF := HA.out.fin (by omega) (by omega)
     have HF' : Hid _ := HF
     clear HF
     generalize sj.er = er9 at *
     go_wp2
     refine bodyPost_ret (v := St.v ⟨R, ts, .slice xa xn xc, us, .slice na nn nc⟩) (by simp [results, Tryz.results43, go_sem, r0, r1, r2]) rfl ?_
     have HQ5 := HQS.out
     unfold qStep5 at HQ5
     rw [HNM.out, HE.out] at HQ5
     rw [<- HQ5]
     exact ⟨_, rfl, rfl, (HF'.out _ rfl).1, (HF'.out _ rfl).2⟩
    ·clear hx HQ
     obtain ⟨k0, k1, k2⟩ := cthree HA.out.box
     obtain ⟨r0, r1, r2⟩ := cthree HA.out.res
     have f0 : wr.frozen? ⟨w.heap.size, 0, none⟩ = false := HA.out.res.froz
     have f1 : wr.frozen? ⟨w.heap.size, 1, none⟩ = false := HA.out.res.froz
     have f2 : wr.frozen? ⟨w.heap.size, 2, none⟩ = false := HA.out.res.froz
     have hAlt := HA.out.lt
     have HF := HA.out.fin (by omega) (by omega)
     have HF' : Hid _ := HF
     clear HF
     generalize sj.er = er9 at *
     go_wp2
     refine bodyPost_ret (v := St.v ⟨R, ts, .slice xa xn xc, us, .slice na nn nc⟩) (by simp [results, Tryz.results43, go_sem, r0, r1, r2]) rfl ?_
     have HQ5 := HQS.out
     unfold qStep5 at HQ5
     rw [HNM.out, HE.out] at HQ5
     rw [<- HQ5]
     exact ⟨_, rfl, rfl, (HF'.out _ rfl).1, (HF'.out _ rfl).2⟩
end Go.Proofs.YtmbmchbninlhpaaGreatDoor
