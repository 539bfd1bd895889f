import Derived.Test.YtmbmchbninlhpaaGreatDoorCE2
namespace Go.Proofs.YtmbmchbninlhpaaGreatDoor
open Go.RowKit

theorem qNum_rng {B : List Int} (hy : byt B) {k : Nat} {s : Qs} : 0 <= (qNum B k s).1 /\ (qNum B k s).1 < (256 : Int) ^ k := by
 obtain ⟨h1, h2⟩ := qTake_facts hy k s
 have hv := val_rng h1
 refine ⟨hv.1, Int.lt_of_lt_of_le hv.2 ?_⟩
 have : ∀ a b : Nat, a <= b -> (256 : Int) ^ a <= (256 : Int) ^ b := by
  intro a b h
  obtain ⟨c, rfl⟩ : ∃ c, b = a + c := ⟨b - a, by omega⟩
  induction c with
  | zero => exact Int.le_refl _
  | succ c ih =>
   have e : (256 : Int) ^ (a + (c + 1)) = (256 : Int) ^ (a + c) * 256 := by rw [<- Nat.add_assoc]; exact Int.pow_succ _ _
   have := ih (by omega)
   have h0 : (0 : Int) < (256 : Int) ^ a := Int.pow_pos (by omega)
   omega
 exact this _ _ h2
theorem qNum1_rng {B : List Int} (hy : byt B) {s : Qs} : 0 <= (qNum B 1 s).1 /\ (qNum B 1 s).1 <= 255 := by
 have := qNum_rng hy (k := 1) (s := s)
 rw [show (256 : Int) ^ 1 = 256 by decide] at this
 omega
theorem qSmall_rng {B : List Int} (hy : byt B) {lo hi : Int} {s : Qs} : 0 <= (qSmall B lo hi s).1 /\ (qSmall B lo hi s).1 <= 255 := by
 have := qNum1_rng hy (s := s)
 unfold qSmall
 split
 ·exact ⟨Int.le_refl _, by omega⟩
 ·exact this
theorem qSmall_in {B : List Int} {lo hi : Int} {s : Qs} (h : (qSmall B lo hi s).2.er = 0) : lo <= (qSmall B lo hi s).1 /\ (qSmall B lo hi s).1 <= hi := by
 unfold qSmall at h ⊢
 split at h
 ·unfold stp at h
  split at h
  ·cases h
  ·rename_i h'; exact absurd h h'
 ·rename_i h1
  rw [if_neg h1]
  omega
set_option maxRecDepth 20000 in
set_option maxHeartbeats 2000000 in
theorem qsmall_any (lo hi : Int) (g : Nat) (B : List Int) (s : Qs) (w : World) (h : RqS w g B s) :
  Calls Tryz.prog 87 #[.pointer (some ⟨g, 0, none⟩), .int .i64 lo, .int .i64 hi] w fun e w' => e = .returned (.int .i64 (qSmall B lo hi s).1) /\ RqS w' g B (qSmall B lo hi s).2 /\ Bv g w.heap.size w w' := by
 have HN : Hid (Calls Tryz.prog 41 #[.pointer (some ⟨g, 0, none⟩), .int .i64 1] w fun e w' => e = .returned (.int .u64 (qNum B 1 s).1) /\ RqS w' g B (qNum B 1 s).2 /\ Bv g w.heap.size w w') := qnumber_any 1 (by omega) g B s w h
 obtain ⟨h0, h9⟩ := qNum1_rng h.1 (s := s)
 unfold qSmall
 generalize qNum B 1 s = q at *
 obtain ⟨n, s1⟩ := q
 simp only at *
 have HST : Hid (∀ X, RqS X g B s1 -> Calls Tryz.prog 53 #[.pointer (some ⟨g, 0, none⟩), .int .i64 63] X fun e w' => e = .returned (.tuple #[]) /\ RqS w' g B (stp 63 s1) /\ Bv g X.heap.size X w') := fun X hX => qstop_any 63 g B s1 X hX
 clear h
 by_cases h1 : n < lo
 ·rw [if_pos (Or.inl h1)]
  go_enter Tryz.func87, Tryz.ntmps87
  go_wp2_with (first
   | (go_at_call 41; refine HN.out.mono ?_; rintro e w1 ⟨rfl, hs, hb⟩; have HB : Hid (Bv g w.heap.size w w1) := hb; have HS : Hid (RqS w1 g B s1) := hs; clear hs hb)
   | (go_at_call 53; refine (HST.out _ HS.out).mono ?_; rintro e w2 ⟨rfl, hs, hb⟩; have HB2 : Hid (Bv g w.heap.size w w2) := HB.out.step hb; have HS2 : Hid (RqS w2 g B (stp 63 s1)) := hs; clear hs hb))
  go_ret
  exact ⟨rfl, HS2.out, HB2.out⟩
 ·by_cases h2 : hi < n
  ·rw [if_pos (Or.inr h2)]
   go_enter Tryz.func87, Tryz.ntmps87
   go_wp2_with (first
    | (go_at_call 41; refine HN.out.mono ?_; rintro e w1 ⟨rfl, hs, hb⟩; have HB : Hid (Bv g w.heap.size w w1) := hb; have HS : Hid (RqS w1 g B s1) := hs; clear hs hb)
    | (go_at_call 53; refine (HST.out _ HS.out).mono ?_; rintro e w2 ⟨rfl, hs, hb⟩; have HB2 : Hid (Bv g w.heap.size w w2) := HB.out.step hb; have HS2 : Hid (RqS w2 g B (stp 63 s1)) := hs; clear hs hb))
   go_ret
   exact ⟨rfl, HS2.out, HB2.out⟩
  ·rw [if_neg (fun h => h.elim h1 h2)]
   go_enter Tryz.func87, Tryz.ntmps87
   go_wp2_with (go_at_call 41; refine HN.out.mono ?_; rintro e w1 ⟨rfl, hs, hb⟩; have HB : Hid (Bv g w.heap.size w w1) := hb; have HS : Hid (RqS w1 g B s1) := hs; clear hs hb)
   go_ret
   exact ⟨rfl, HS.out, HB.out⟩
set_option maxRecDepth 20000 in
set_option maxHeartbeats 2000000 in
theorem qnatural_any (g : Nat) (B : List Int) (s : Qs) (w : World) (h : RqS w g B s) :
  Calls Tryz.prog 89 #[.pointer (some ⟨g, 0, none⟩)] w fun e w' => e = .returned (.int .i64 (qNat B s).1) /\ RqS w' g B (qNat B s).2 /\ Bv g w.heap.size w w' := by
 have HN : Hid (Calls Tryz.prog 41 #[.pointer (some ⟨g, 0, none⟩), .int .i64 8] w fun e w' => e = .returned (.int .u64 (qNum B 8 s).1) /\ RqS w' g B (qNum B 8 s).2 /\ Bv g w.heap.size w w') := qnumber_any 8 (by omega) g B s w h
 obtain ⟨h0, h9⟩ := qNum_rng h.1 (k := 8) (s := s)
 unfold qNat
 generalize qNum B 8 s = q at *
 obtain ⟨n, s1⟩ := q
 simp only at *
 have HST : Hid (∀ X, RqS X g B s1 -> Calls Tryz.prog 53 #[.pointer (some ⟨g, 0, none⟩), .int .i64 63] X fun e w' => e = .returned (.tuple #[]) /\ RqS w' g B (stp 63 s1) /\ Bv g X.heap.size X w') := fun X hX => qstop_any 63 g B s1 X hX
 clear h h9
 by_cases h1 : 9223372036854775808 <= n
 ·rw [if_pos h1]
  go_enter Tryz.func89, Tryz.ntmps89
  go_wp2_with (first
   | (go_at_call 41; refine HN.out.mono ?_; rintro e w1 ⟨rfl, hs, hb⟩; have HB : Hid (Bv g w.heap.size w w1) := hb; have HS : Hid (RqS w1 g B s1) := hs; clear hs hb)
   | (go_at_call 53; refine (HST.out _ HS.out).mono ?_; rintro e w2 ⟨rfl, hs, hb⟩; have HB2 : Hid (Bv g w.heap.size w w2) := HB.out.step hb; have HS2 : Hid (RqS w2 g B (stp 63 s1)) := hs; clear hs hb))
  go_ret
  exact ⟨rfl, HS2.out, HB2.out⟩
 ·rw [if_neg h1]
  have h2 : n < 9223372036854775808 := by omega
  go_enter Tryz.func89, Tryz.ntmps89
  go_wp2_with (go_at_call 41; refine HN.out.mono ?_; rintro e w1 ⟨rfl, hs, hb⟩; have HB : Hid (Bv g w.heap.size w w1) := hb; have HS : Hid (RqS w1 g B s1) := hs; clear hs hb)
  go_ret
  exact ⟨rfl, HS.out, HB.out⟩
set_option maxRecDepth 20000 in
set_option maxHeartbeats 2000000 in
theorem qtext_any (lo : Int) (g : Nat) (B : List Int) (s : Qs) (w : World) (h : RqS w g B s) :
  Calls Tryz.prog 122 #[.pointer (some ⟨g, 0, none⟩), .int .i64 lo] w fun e w' => e = .returned (qText B lo s).1.v /\ RqS w' g B (qText B lo s).2 /\ Bv g w.heap.size w w' := by
 have hlt := h.lt
 have HZ : Hid (Blk (w.alloc (.cells #[.int .i64 0, .int .i64 0, .string ⟨#[]⟩] 56)) w.heap.size #[.int .i64 0, .int .i64 0, .string ⟨#[]⟩] 56) := Blk.new _ _ _
 have HN : Hid (Calls Tryz.prog 87 #[.pointer (some ⟨g, 0, none⟩), .int .i64 lo, .int .i64 64] (w.alloc (.cells #[.int .i64 0, .int .i64 0, .string ⟨#[]⟩] 56)) fun e w' => e = .returned (.int .i64 (qSmall B lo 64 s).1) /\ RqS w' g B (qSmall B lo 64 s).2 /\ Bv g (w.alloc (.cells #[.int .i64 0, .int .i64 0, .string ⟨#[]⟩] 56)).heap.size (w.alloc (.cells #[.int .i64 0, .int .i64 0, .string ⟨#[]⟩] 56)) w') := qsmall_any lo 64 g B s _ (h.below (below1 _ _))
 have HL : Hid (Bv g w.heap.size w (w.alloc (.cells #[.int .i64 0, .int .i64 0, .string ⟨#[]⟩] 56))) := Bv.of (below1 _ _)
 obtain ⟨h0, h9⟩ := qSmall_rng h.1 (lo := lo) (hi := 64) (s := s)
 unfold qText
 simp only
 generalize qSmall B lo 64 s = q at *
 obtain ⟨n, s1⟩ := q
 simp only at *
 have hy := (qTake_facts h.1 n.toNat s1).1
 have HT : Hid (∀ X, RqS X g B s1 -> Calls Tryz.prog 85 #[.pointer (some ⟨g, 0, none⟩), .int .i64 n] X fun e w' => ∃ v, e = .returned v /\ Bn w' v (qTake B n.toNat s1).1 /\ RqS w' g B (qTake B n.toNat s1).2 /\ Bv g X.heap.size X w') := fun X hX => by
  have := qtake_any n.toNat (by omega) g B s1 X hX
  rwa [Int.toNat_of_nonneg h0] at this
 generalize qTake B n.toNat s1 = q at *
 obtain ⟨m, s2⟩ := q
 simp only at *
 have HY : Hid (byt m) := hy
 clear h hy
 go_enter Tryz.func122, Tryz.ntmps122
 go_wp2_with (first
  | (go_at_call 87; refine HN.out.mono ?_; rintro e w1 ⟨rfl, hs, hb⟩; have HB : Hid (Bv g w.heap.size w w1) := HL.out.step hb; have HS : Hid (RqS w1 g B s1) := hs; have HK : Hid (Blk w1 _ _ _) := HZ.out.bl hb (by omega); clear hs hb)
  | (go_at_call 85; refine (HT.out _ HS.out).mono ?_; rintro e w2 ⟨v2, rfl, hn, hs, hb⟩; have HB2 : Hid (Bv g w.heap.size w w2) := HB.out.step hb; have HS2 : Hid (RqS w2 g B s2) := hs; have hcv := conv_bn hn HY.out; obtain ⟨r0, r1, r2, f0, f1, f2⟩ := three (HK.out.bl hb (by omega)); clear hs hb hn))
 exact bodyPost_ret (v := Tm.v ⟨2, 0, ofL m⟩) (by simp [results, Tryz.results122, go_sem, r0, r1, r2]) rfl ⟨rfl, ((HS2.out.off hlt).off hlt).off hlt, bset3V HB2.out (Nat.le_refl _)⟩
set_option maxRecDepth 20000 in
set_option maxHeartbeats 4000000 in
theorem qqual_any (g : Nat) (B : List Int) (s : Qs) (w : World) (h : RqS w g B s) :
  Calls Tryz.prog 88 #[.pointer (some ⟨g, 0, none⟩), .bool true, .bool false, .bool true] w fun e w' => e = .returned (qTerm B true false true s).1.v /\ RqS w' g B (qTerm B true false true s).2 /\ Bv g w.heap.size w w' := by
 have hlt := h.lt
 have HZ : Hid (Blk (w.alloc (.cells #[.int .i64 0, .int .i64 0, .string ⟨#[]⟩] 56)) w.heap.size #[.int .i64 0, .int .i64 0, .string ⟨#[]⟩] 56) := Blk.new _ _ _
 have HN : Hid (Calls Tryz.prog 87 #[.pointer (some ⟨g, 0, none⟩), .int .i64 0, .int .i64 3] (w.alloc (.cells #[.int .i64 0, .int .i64 0, .string ⟨#[]⟩] 56)) fun e w' => e = .returned (.int .i64 (qSmall B 0 3 s).1) /\ RqS w' g B (qSmall B 0 3 s).2 /\ Bv g (w.alloc (.cells #[.int .i64 0, .int .i64 0, .string ⟨#[]⟩] 56)).heap.size (w.alloc (.cells #[.int .i64 0, .int .i64 0, .string ⟨#[]⟩] 56)) w') := qsmall_any 0 3 g B s _ (h.below (below1 _ _))
 have HL : Hid (Bv g w.heap.size w (w.alloc (.cells #[.int .i64 0, .int .i64 0, .string ⟨#[]⟩] 56))) := Bv.of (below1 _ _)
 have hin := qSmall_in (B := B) (lo := 0) (hi := 3) (s := s)
 unfold qTerm
 generalize qSmall B 0 3 s = q at *
 obtain ⟨k, ⟨at_, er⟩⟩ := q
 simp only at *
 clear h
 by_cases he : er = 0
 ·subst he
  obtain ⟨hk0, hk3⟩ := hin rfl
  clear hin
  have hk : k = 0 ∨ k = 1 ∨ k = 2 ∨ k = 3 := by omega
  clear hk0 hk3
  rcases hk with rfl | rfl | rfl | rfl
  ·have e : qTermK B true false true 0 ⟨at_, 0⟩ = (zt, ⟨at_, 0⟩) := by simp [qTermK]
   rw [e]
   clear e
   go_enter Tryz.func88, Tryz.ntmps88
   go_wp2_with (go_at_call 87; refine HN.out.mono ?_; rintro e w1 ⟨rfl, hs, hb⟩; have HB : Hid (Bv g w.heap.size w w1) := HL.out.step hb; have HS : Hid (RqS w1 g B ⟨at_, 0⟩) := hs; obtain ⟨sa, scap, s0, s1, s2⟩ : ∃ a cap, w1.cell? ⟨g, 0, none⟩ = some (.slice a B.length cap) /\ w1.cell? ⟨g, 1, none⟩ = some (.int .i64 at_) /\ w1.cell? ⟨g, 2, none⟩ = some (.int .i64 0) := (by obtain ⟨a, cap, c0, c1, c2, -, -⟩ := hs.cells; exact ⟨a, cap, c0, c1, c2⟩); have HK : Hid (Blk w1 _ _ _) := HZ.out.bl hb (by omega); obtain ⟨r0, r1, r2, f0, f1, f2⟩ := three (HZ.out.bl hb (by omega)); clear hs hb)
   exact bodyPost_ret (v := Tm.v zt) (by simp [results, Tryz.results88, go_sem, zt, r0, r1, r2]) rfl ⟨rfl, ((HS.out.off hlt).off hlt).off hlt, bset3V HB.out (Nat.le_refl _)⟩
  ·have e : qTermK B true false true 1 ⟨at_, 0⟩ = (zt, ⟨at_, 63⟩) := by simp [qTermK, stp]
   rw [e]
   clear e
   have HST : Hid (∀ X, RqS X g B ⟨at_, 0⟩ -> Calls Tryz.prog 53 #[.pointer (some ⟨g, 0, none⟩), .int .i64 63] X fun e w' => e = .returned (.tuple #[]) /\ RqS w' g B ⟨at_, 63⟩ /\ Bv g X.heap.size X w') := fun X hX => qstop_any 63 g B ⟨at_, 0⟩ X hX
   go_enter Tryz.func88, Tryz.ntmps88
   go_wp2_with (first
    | (go_at_call 87; refine HN.out.mono ?_; rintro e w1 ⟨rfl, hs, hb⟩; have HB : Hid (Bv g w.heap.size w w1) := HL.out.step hb; have HS : Hid (RqS w1 g B ⟨at_, 0⟩) := hs; obtain ⟨sa, scap, s0, s1, s2⟩ : ∃ a cap, w1.cell? ⟨g, 0, none⟩ = some (.slice a B.length cap) /\ w1.cell? ⟨g, 1, none⟩ = some (.int .i64 at_) /\ w1.cell? ⟨g, 2, none⟩ = some (.int .i64 0) := (by obtain ⟨a, cap, c0, c1, c2, -, -⟩ := hs.cells; exact ⟨a, cap, c0, c1, c2⟩); have HK : Hid (Blk w1 _ _ _) := HZ.out.bl hb (by omega); obtain ⟨r0, r1, r2, f0, f1, f2⟩ := three (HZ.out.bl hb (by omega)); clear hs hb)
    | (go_at_call 53; refine (HST.out _ HS.out).mono ?_; rintro e w2 ⟨rfl, hs, hb⟩; have HB2 : Hid (Bv g w.heap.size w w2) := HB.out.step hb; have HS2 : Hid (RqS w2 g B ⟨at_, 63⟩) := hs; clear r0 r1 r2 f0 f1 f2; obtain ⟨r0, r1, r2, f0, f1, f2⟩ := three (HK.out.bl hb (by omega)); clear hs hb))
   exact bodyPost_ret (v := Tm.v zt) (by simp [results, Tryz.results88, go_sem, zt, r0, r1, r2]) rfl ⟨rfl, ((HS2.out.off hlt).off hlt).off hlt, bset3V HB2.out (Nat.le_refl _)⟩
  ·have e : qTermK B true false true 2 ⟨at_, 0⟩ = qText B 1 ⟨at_, 0⟩ := by simp [qTermK]
   rw [e]
   clear e
   have HC : Hid (∀ X, RqS X g B ⟨at_, 0⟩ -> Calls Tryz.prog 122 #[.pointer (some ⟨g, 0, none⟩), .int .i64 1] X fun e w' => e = .returned ((qText B 1 ⟨at_, 0⟩).1.v) /\ RqS w' g B (qText B 1 ⟨at_, 0⟩).2 /\ Bv g X.heap.size X w') := fun X hX => qtext_any 1 g B ⟨at_, 0⟩ X hX
   generalize qText B 1 ⟨at_, 0⟩ = q at *
   obtain ⟨z, s2'⟩ := q
   simp only at *
   obtain ⟨zk, zn, zs⟩ := z
   go_enter Tryz.func88, Tryz.ntmps88
   go_wp2_with (first
    | (go_at_call 87; refine HN.out.mono ?_; rintro e w1 ⟨rfl, hs, hb⟩; have HB : Hid (Bv g w.heap.size w w1) := HL.out.step hb; have HS : Hid (RqS w1 g B ⟨at_, 0⟩) := hs; obtain ⟨sa, scap, s0, s1, s2⟩ : ∃ a cap, w1.cell? ⟨g, 0, none⟩ = some (.slice a B.length cap) /\ w1.cell? ⟨g, 1, none⟩ = some (.int .i64 at_) /\ w1.cell? ⟨g, 2, none⟩ = some (.int .i64 0) := (by obtain ⟨a, cap, c0, c1, c2, -, -⟩ := hs.cells; exact ⟨a, cap, c0, c1, c2⟩); have HK : Hid (Blk w1 _ _ _) := HZ.out.bl hb (by omega); obtain ⟨r0, r1, r2, f0, f1, f2⟩ := three (HZ.out.bl hb (by omega)); clear hs hb)
    | (go_at_call 122; refine (HC.out _ HS.out).mono ?_; rintro e w2 ⟨rfl, hs, hb⟩; have HB2 : Hid (Bv g w.heap.size w w2) := HB.out.step hb; have HS2 : Hid (RqS w2 g B s2') := hs; clear r0 r1 r2 f0 f1 f2; obtain ⟨r0, r1, r2, f0, f1, f2⟩ := three (HK.out.bl hb (by omega)); clear hs hb))
   exact bodyPost_ret (v := Tm.v ⟨zk, zn, zs⟩) (by simp [results, Tryz.results88, go_sem, r0, r1, r2]) rfl ⟨rfl, ((HS2.out.off hlt).off hlt).off hlt, bset3V HB2.out (Nat.le_refl _)⟩
  ·have e : qTermK B true false true 3 ⟨at_, 0⟩ = (⟨3, (qNat B ⟨at_, 0⟩).1, ⟨#[]⟩⟩, (qNat B ⟨at_, 0⟩).2) := by simp [qTermK]
   rw [e]
   clear e
   have HC : Hid (∀ X, RqS X g B ⟨at_, 0⟩ -> Calls Tryz.prog 89 #[.pointer (some ⟨g, 0, none⟩)] X fun e w' => e = .returned (.int .i64 (qNat B ⟨at_, 0⟩).1) /\ RqS w' g B (qNat B ⟨at_, 0⟩).2 /\ Bv g X.heap.size X w') := fun X hX => qnatural_any g B ⟨at_, 0⟩ X hX
   generalize qNat B ⟨at_, 0⟩ = q at *
   obtain ⟨z, s2'⟩ := q
   simp only at *
   go_enter Tryz.func88, Tryz.ntmps88
   go_wp2_with (first
    | (go_at_call 87; refine HN.out.mono ?_; rintro e w1 ⟨rfl, hs, hb⟩; have HB : Hid (Bv g w.heap.size w w1) := HL.out.step hb; have HS : Hid (RqS w1 g B ⟨at_, 0⟩) := hs; obtain ⟨sa, scap, s0, s1, s2⟩ : ∃ a cap, w1.cell? ⟨g, 0, none⟩ = some (.slice a B.length cap) /\ w1.cell? ⟨g, 1, none⟩ = some (.int .i64 at_) /\ w1.cell? ⟨g, 2, none⟩ = some (.int .i64 0) := (by obtain ⟨a, cap, c0, c1, c2, -, -⟩ := hs.cells; exact ⟨a, cap, c0, c1, c2⟩); have HK : Hid (Blk w1 _ _ _) := HZ.out.bl hb (by omega); obtain ⟨r0, r1, r2, f0, f1, f2⟩ := three (HZ.out.bl hb (by omega)); clear hs hb)
    | (go_at_call 89; refine (HC.out _ HS.out).mono ?_; rintro e w2 ⟨rfl, hs, hb⟩; have HB2 : Hid (Bv g w.heap.size w w2) := HB.out.step hb; have HS2 : Hid (RqS w2 g B s2') := hs; clear r0 r1 r2 f0 f1 f2; obtain ⟨r0, r1, r2, f0, f1, f2⟩ := three (HK.out.bl hb (by omega)); clear hs hb))
   exact bodyPost_ret (v := Tm.v ⟨3, z, ⟨#[]⟩⟩) (by simp [results, Tryz.results88, go_sem, r0, r1, r2]) rfl ⟨rfl, ((HS2.out.off hlt).off hlt).off hlt, bset3V HB2.out (Nat.le_refl _)⟩
 ·have hne : (er != 0) = true := by simpa using he
  rw [qTermK_ne he]
  clear hin
  go_enter Tryz.func88, Tryz.ntmps88
  go_wp2_with (go_at_call 87; refine HN.out.mono ?_; rintro e w1 ⟨rfl, hs, hb⟩; have HB : Hid (Bv g w.heap.size w w1) := HL.out.step hb; have HS : Hid (RqS w1 g B ⟨at_, er⟩) := hs; obtain ⟨sa, scap, s0, s1, s2⟩ : ∃ a cap, w1.cell? ⟨g, 0, none⟩ = some (.slice a B.length cap) /\ w1.cell? ⟨g, 1, none⟩ = some (.int .i64 at_) /\ w1.cell? ⟨g, 2, none⟩ = some (.int .i64 er) := (by obtain ⟨a, cap, c0, c1, c2, -, -⟩ := hs.cells; exact ⟨a, cap, c0, c1, c2⟩); have HK : Hid (Blk w1 _ _ _) := HZ.out.bl hb (by omega); obtain ⟨r0, r1, r2, f0, f1, f2⟩ := three (HZ.out.bl hb (by omega)); clear hs hb)
  exact bodyPost_ret (v := Tm.v zt) (by simp [results, Tryz.results88, go_sem, zt, r0, r1, r2]) rfl ⟨rfl, ((HS.out.off hlt).off hlt).off hlt, bset3V HB.out (Nat.le_refl _)⟩
set_option maxRecDepth 20000 in
set_option maxHeartbeats 4000000 in
theorem qarg_any (g : Nat) (B : List Int) (s : Qs) (w : World) (h : RqS w g B s) :
  Calls Tryz.prog 88 #[.pointer (some ⟨g, 0, none⟩), .bool false, .bool true, .bool true] w fun e w' => e = .returned (qTerm B false true true s).1.v /\ RqS w' g B (qTerm B false true true s).2 /\ Bv g w.heap.size w w' := by
 have hlt := h.lt
 have HZ : Hid (Blk (w.alloc (.cells #[.int .i64 0, .int .i64 0, .string ⟨#[]⟩] 56)) w.heap.size #[.int .i64 0, .int .i64 0, .string ⟨#[]⟩] 56) := Blk.new _ _ _
 have HN : Hid (Calls Tryz.prog 87 #[.pointer (some ⟨g, 0, none⟩), .int .i64 0, .int .i64 3] (w.alloc (.cells #[.int .i64 0, .int .i64 0, .string ⟨#[]⟩] 56)) fun e w' => e = .returned (.int .i64 (qSmall B 0 3 s).1) /\ RqS w' g B (qSmall B 0 3 s).2 /\ Bv g (w.alloc (.cells #[.int .i64 0, .int .i64 0, .string ⟨#[]⟩] 56)).heap.size (w.alloc (.cells #[.int .i64 0, .int .i64 0, .string ⟨#[]⟩] 56)) w') := qsmall_any 0 3 g B s _ (h.below (below1 _ _))
 have HL : Hid (Bv g w.heap.size w (w.alloc (.cells #[.int .i64 0, .int .i64 0, .string ⟨#[]⟩] 56))) := Bv.of (below1 _ _)
 have hin := qSmall_in (B := B) (lo := 0) (hi := 3) (s := s)
 unfold qTerm
 generalize qSmall B 0 3 s = q at *
 obtain ⟨k, ⟨at_, er⟩⟩ := q
 simp only at *
 clear h
 by_cases he : er = 0
 ·subst he
  obtain ⟨hk0, hk3⟩ := hin rfl
  clear hin
  have hk : k = 0 ∨ k = 1 ∨ k = 2 ∨ k = 3 := by omega
  clear hk0 hk3
  rcases hk with rfl | rfl | rfl | rfl
  ·have e : qTermK B false true true 0 ⟨at_, 0⟩ = (zt, ⟨at_, 63⟩) := by simp [qTermK, stp]
   rw [e]
   clear e
   have HST : Hid (∀ X, RqS X g B ⟨at_, 0⟩ -> Calls Tryz.prog 53 #[.pointer (some ⟨g, 0, none⟩), .int .i64 63] X fun e w' => e = .returned (.tuple #[]) /\ RqS w' g B ⟨at_, 63⟩ /\ Bv g X.heap.size X w') := fun X hX => qstop_any 63 g B ⟨at_, 0⟩ X hX
   go_enter Tryz.func88, Tryz.ntmps88
   go_wp2_with (first
    | (go_at_call 87; refine HN.out.mono ?_; rintro e w1 ⟨rfl, hs, hb⟩; have HB : Hid (Bv g w.heap.size w w1) := HL.out.step hb; have HS : Hid (RqS w1 g B ⟨at_, 0⟩) := hs; obtain ⟨sa, scap, s0, s1, s2⟩ : ∃ a cap, w1.cell? ⟨g, 0, none⟩ = some (.slice a B.length cap) /\ w1.cell? ⟨g, 1, none⟩ = some (.int .i64 at_) /\ w1.cell? ⟨g, 2, none⟩ = some (.int .i64 0) := (by obtain ⟨a, cap, c0, c1, c2, -, -⟩ := hs.cells; exact ⟨a, cap, c0, c1, c2⟩); have HK : Hid (Blk w1 _ _ _) := HZ.out.bl hb (by omega); obtain ⟨r0, r1, r2, f0, f1, f2⟩ := three (HZ.out.bl hb (by omega)); clear hs hb)
    | (go_at_call 53; refine (HST.out _ HS.out).mono ?_; rintro e w2 ⟨rfl, hs, hb⟩; have HB2 : Hid (Bv g w.heap.size w w2) := HB.out.step hb; have HS2 : Hid (RqS w2 g B ⟨at_, 63⟩) := hs; clear r0 r1 r2 f0 f1 f2; obtain ⟨r0, r1, r2, f0, f1, f2⟩ := three (HK.out.bl hb (by omega)); clear hs hb))
   exact bodyPost_ret (v := Tm.v zt) (by simp [results, Tryz.results88, go_sem, zt, r0, r1, r2]) rfl ⟨rfl, ((HS2.out.off hlt).off hlt).off hlt, bset3V HB2.out (Nat.le_refl _)⟩
  ·have e : qTermK B false true true 1 ⟨at_, 0⟩ = (⟨1, wrap64 (qNum B 8 ⟨at_, 0⟩).1, ⟨#[]⟩⟩, (qNum B 8 ⟨at_, 0⟩).2) := by simp [qTermK]
   rw [e]
   clear e
   have HC : Hid (∀ X, RqS X g B ⟨at_, 0⟩ -> Calls Tryz.prog 41 #[.pointer (some ⟨g, 0, none⟩), .int .i64 8] X fun e w' => e = .returned (.int .u64 (qNum B 8 ⟨at_, 0⟩).1) /\ RqS w' g B (qNum B 8 ⟨at_, 0⟩).2 /\ Bv g X.heap.size X w') := fun X hX => qnumber_any 8 (by omega) g B ⟨at_, 0⟩ X hX
   generalize qNum B 8 ⟨at_, 0⟩ = q at *
   obtain ⟨z, s2'⟩ := q
   simp only at *
   go_enter Tryz.func88, Tryz.ntmps88
   go_wp2_with (first
    | (go_at_call 87; refine HN.out.mono ?_; rintro e w1 ⟨rfl, hs, hb⟩; have HB : Hid (Bv g w.heap.size w w1) := HL.out.step hb; have HS : Hid (RqS w1 g B ⟨at_, 0⟩) := hs; obtain ⟨sa, scap, s0, s1, s2⟩ : ∃ a cap, w1.cell? ⟨g, 0, none⟩ = some (.slice a B.length cap) /\ w1.cell? ⟨g, 1, none⟩ = some (.int .i64 at_) /\ w1.cell? ⟨g, 2, none⟩ = some (.int .i64 0) := (by obtain ⟨a, cap, c0, c1, c2, -, -⟩ := hs.cells; exact ⟨a, cap, c0, c1, c2⟩); have HK : Hid (Blk w1 _ _ _) := HZ.out.bl hb (by omega); obtain ⟨r0, r1, r2, f0, f1, f2⟩ := three (HZ.out.bl hb (by omega)); clear hs hb)
    | (go_at_call 41; refine (HC.out _ HS.out).mono ?_; rintro e w2 ⟨rfl, hs, hb⟩; have HB2 : Hid (Bv g w.heap.size w w2) := HB.out.step hb; have HS2 : Hid (RqS w2 g B s2') := hs; clear r0 r1 r2 f0 f1 f2; obtain ⟨r0, r1, r2, f0, f1, f2⟩ := three (HK.out.bl hb (by omega)); clear hs hb))
   exact bodyPost_ret (v := Tm.v ⟨1, wrap64 z, ⟨#[]⟩⟩) (by simp [results, Tryz.results88, go_sem, r0, r1, r2]) rfl ⟨rfl, ((HS2.out.off hlt).off hlt).off hlt, bset3V HB2.out (Nat.le_refl _)⟩
  ·have e : qTermK B false true true 2 ⟨at_, 0⟩ = qText B 0 ⟨at_, 0⟩ := by simp [qTermK]
   rw [e]
   clear e
   have HC : Hid (∀ X, RqS X g B ⟨at_, 0⟩ -> Calls Tryz.prog 122 #[.pointer (some ⟨g, 0, none⟩), .int .i64 0] X fun e w' => e = .returned ((qText B 0 ⟨at_, 0⟩).1.v) /\ RqS w' g B (qText B 0 ⟨at_, 0⟩).2 /\ Bv g X.heap.size X w') := fun X hX => qtext_any 0 g B ⟨at_, 0⟩ X hX
   generalize qText B 0 ⟨at_, 0⟩ = q at *
   obtain ⟨z, s2'⟩ := q
   simp only at *
   obtain ⟨zk, zn, zs⟩ := z
   go_enter Tryz.func88, Tryz.ntmps88
   go_wp2_with (first
    | (go_at_call 87; refine HN.out.mono ?_; rintro e w1 ⟨rfl, hs, hb⟩; have HB : Hid (Bv g w.heap.size w w1) := HL.out.step hb; have HS : Hid (RqS w1 g B ⟨at_, 0⟩) := hs; obtain ⟨sa, scap, s0, s1, s2⟩ : ∃ a cap, w1.cell? ⟨g, 0, none⟩ = some (.slice a B.length cap) /\ w1.cell? ⟨g, 1, none⟩ = some (.int .i64 at_) /\ w1.cell? ⟨g, 2, none⟩ = some (.int .i64 0) := (by obtain ⟨a, cap, c0, c1, c2, -, -⟩ := hs.cells; exact ⟨a, cap, c0, c1, c2⟩); have HK : Hid (Blk w1 _ _ _) := HZ.out.bl hb (by omega); obtain ⟨r0, r1, r2, f0, f1, f2⟩ := three (HZ.out.bl hb (by omega)); clear hs hb)
    | (go_at_call 122; refine (HC.out _ HS.out).mono ?_; rintro e w2 ⟨rfl, hs, hb⟩; have HB2 : Hid (Bv g w.heap.size w w2) := HB.out.step hb; have HS2 : Hid (RqS w2 g B s2') := hs; clear r0 r1 r2 f0 f1 f2; obtain ⟨r0, r1, r2, f0, f1, f2⟩ := three (HK.out.bl hb (by omega)); clear hs hb))
   exact bodyPost_ret (v := Tm.v ⟨zk, zn, zs⟩) (by simp [results, Tryz.results88, go_sem, r0, r1, r2]) rfl ⟨rfl, ((HS2.out.off hlt).off hlt).off hlt, bset3V HB2.out (Nat.le_refl _)⟩
  ·have e : qTermK B false true true 3 ⟨at_, 0⟩ = (⟨3, (qNat B ⟨at_, 0⟩).1, ⟨#[]⟩⟩, (qNat B ⟨at_, 0⟩).2) := by simp [qTermK]
   rw [e]
   clear e
   have HC : Hid (∀ X, RqS X g B ⟨at_, 0⟩ -> Calls Tryz.prog 89 #[.pointer (some ⟨g, 0, none⟩)] X fun e w' => e = .returned (.int .i64 (qNat B ⟨at_, 0⟩).1) /\ RqS w' g B (qNat B ⟨at_, 0⟩).2 /\ Bv g X.heap.size X w') := fun X hX => qnatural_any g B ⟨at_, 0⟩ X hX
   generalize qNat B ⟨at_, 0⟩ = q at *
   obtain ⟨z, s2'⟩ := q
   simp only at *
   go_enter Tryz.func88, Tryz.ntmps88
   go_wp2_with (first
    | (go_at_call 87; refine HN.out.mono ?_; rintro e w1 ⟨rfl, hs, hb⟩; have HB : Hid (Bv g w.heap.size w w1) := HL.out.step hb; have HS : Hid (RqS w1 g B ⟨at_, 0⟩) := hs; obtain ⟨sa, scap, s0, s1, s2⟩ : ∃ a cap, w1.cell? ⟨g, 0, none⟩ = some (.slice a B.length cap) /\ w1.cell? ⟨g, 1, none⟩ = some (.int .i64 at_) /\ w1.cell? ⟨g, 2, none⟩ = some (.int .i64 0) := (by obtain ⟨a, cap, c0, c1, c2, -, -⟩ := hs.cells; exact ⟨a, cap, c0, c1, c2⟩); have HK : Hid (Blk w1 _ _ _) := HZ.out.bl hb (by omega); obtain ⟨r0, r1, r2, f0, f1, f2⟩ := three (HZ.out.bl hb (by omega)); clear hs hb)
    | (go_at_call 89; refine (HC.out _ HS.out).mono ?_; rintro e w2 ⟨rfl, hs, hb⟩; have HB2 : Hid (Bv g w.heap.size w w2) := HB.out.step hb; have HS2 : Hid (RqS w2 g B s2') := hs; clear r0 r1 r2 f0 f1 f2; obtain ⟨r0, r1, r2, f0, f1, f2⟩ := three (HK.out.bl hb (by omega)); clear hs hb))
   exact bodyPost_ret (v := Tm.v ⟨3, z, ⟨#[]⟩⟩) (by simp [results, Tryz.results88, go_sem, r0, r1, r2]) rfl ⟨rfl, ((HS2.out.off hlt).off hlt).off hlt, bset3V HB2.out (Nat.le_refl _)⟩
 ·have hne : (er != 0) = true := by simpa using he
  rw [qTermK_ne he]
  clear hin
  go_enter Tryz.func88, Tryz.ntmps88
  go_wp2_with (go_at_call 87; refine HN.out.mono ?_; rintro e w1 ⟨rfl, hs, hb⟩; have HB : Hid (Bv g w.heap.size w w1) := HL.out.step hb; have HS : Hid (RqS w1 g B ⟨at_, er⟩) := hs; obtain ⟨sa, scap, s0, s1, s2⟩ : ∃ a cap, w1.cell? ⟨g, 0, none⟩ = some (.slice a B.length cap) /\ w1.cell? ⟨g, 1, none⟩ = some (.int .i64 at_) /\ w1.cell? ⟨g, 2, none⟩ = some (.int .i64 er) := (by obtain ⟨a, cap, c0, c1, c2, -, -⟩ := hs.cells; exact ⟨a, cap, c0, c1, c2⟩); have HK : Hid (Blk w1 _ _ _) := HZ.out.bl hb (by omega); obtain ⟨r0, r1, r2, f0, f1, f2⟩ := three (HZ.out.bl hb (by omega)); clear hs hb)
  exact bodyPost_ret (v := Tm.v zt) (by simp [results, Tryz.results88, go_sem, zt, r0, r1, r2]) rfl ⟨rfl, ((HS.out.off hlt).off hlt).off hlt, bset3V HB.out (Nat.le_refl _)⟩
end Go.Proofs.YtmbmchbninlhpaaGreatDoor
