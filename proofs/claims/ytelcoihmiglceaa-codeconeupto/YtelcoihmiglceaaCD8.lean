/-
  The codec reads: termOf, qualifier, argument, name.
-/
import Derived.Test.YtelcoihmiglceaaCD7
import Derived.Test.YtelcoihmiglceaaW2
namespace Go.Proofs.Ytelcoihmiglceaa
open Go.RowKit

set_option maxRecDepth 20000 in
set_option maxHeartbeats 2000000 in
theorem termOf_any (k lo : Int) (hk : k = 0 ∨ k = 1 ∨ k = 2 ∨ k = 3) (g : Nat) (l : List Int) (w : World) (h : RdS w g l) :
    Calls Try.prog 94 #[.pointer (some ⟨g, 0, none⟩), .int .i64 k, .int .i64 lo] w (RdP g w (fun t v _ => v = t.v) (rTermOf k lo l)) := by
  have hlt := h.lt
  have HA : Hid (RdS (w.alloc (.cells #[.int .i64 0, .int .i64 0, .string ⟨#[]⟩] 31)) g l) := h.below (below1 _ _)
  have HB : Hid (Blk (w.alloc (.cells #[.int .i64 0, .int .i64 0, .string ⟨#[]⟩] 31)) w.heap.size #[.int .i64 0, .int .i64 0, .string ⟨#[]⟩] 31) := Blk.new _ _ _
  have HL : Hid (Bv g w.heap.size w (w.alloc (.cells #[.int .i64 0, .int .i64 0, .string ⟨#[]⟩] 31))) := Bv.of (below1 _ _)
  clear h
  unfold rTermOf
  rcases hk with rfl | rfl | rfl | rfl
  · simp only [show ¬ (0 : Int) = 1 by omega, show ¬ (0 : Int) = 2 by omega, show ¬ (0 : Int) = 3 by omega, if_false]
    go_enter Try.func94, Try.ntmps94
    go_wp2
    exact bodyPost_ret (v := Tm.v zt) (by simp [results, Try.results94, go_sem, zt]) rfl ⟨HL.out, _, rfl, rfl, HA.out⟩
  · simp only [if_true]
    have hN := fun X hX => number_any 8 (by omega) g l X hX
    rcases hr : rNum 8 l with c | ⟨n, r⟩
    · have HN : Hid (∀ X, RdS X g l → Calls Try.prog 87 #[.pointer (some ⟨g, 0, none⟩), .int .i64 8] X fun e w' => e = .panicked [pE c] ∧ Bv g X.heap.size X w') := fun X hX => RdP.err (hN X hX) hr
      simp only [Rd.and]
      clear hN
      go_enter Try.func94, Try.ntmps94
      go_wp2_with (go_at_call 87; refine (HN.out _ HA.out).mono ?_; rintro e w1 ⟨rfl, hb⟩)
      exact ⟨rfl, HL.out.step hb, rfl⟩
    · have HN : Hid (∀ X, RdS X g l → Calls Try.prog 87 #[.pointer (some ⟨g, 0, none⟩), .int .i64 8] X fun e w' => ∃ v, e = .returned v ∧ (v = .int .u64 n ∧ 0 ≤ n ∧ n < (256 : Int) ^ 8) ∧ RdS w' g r ∧ Bv g X.heap.size X w') := fun X hX => RdP.ok (hN X hX) hr
      simp only [Rd.and]
      clear hN
      go_enter Try.func94, Try.ntmps94
      go_wp2_with (go_at_call 87; refine (HN.out _ HA.out).mono ?_; rintro e w1 ⟨v1, rfl, ⟨rfl, h0, h9⟩, hs, hb⟩; obtain ⟨r0, r1, r2, f0, f1, f2⟩ := three (HB.out.bl hb (by omega)); have HB1 : Hid (Bv g w.heap.size w w1) := HL.out.step hb; have HS : Hid (RdS w1 g r) := hs; clear h9 hs hb)
      exact bodyPost_ret (v := Tm.v ⟨1, wrap64 n, ⟨#[]⟩⟩) (by simp [results, Try.results94, go_sem, r0, r1, r2]) rfl ⟨bset3V HB1.out (Nat.le_refl _), _, rfl, rfl, ((HS.out.off hlt).off hlt).off hlt⟩
  · simp only [show ¬ (2 : Int) = 1 by omega, if_false, if_true]
    have hN := fun X hX => rtext_any lo 64 g l X hX
    rcases hr : rText lo 64 l with c | ⟨n, r⟩
    · have HN : Hid (∀ X, RdS X g l → Calls Try.prog 95 #[.pointer (some ⟨g, 0, none⟩), .int .i64 lo, .int .i64 64] X fun e w' => e = .panicked [pE c] ∧ Bv g X.heap.size X w') := fun X hX => RdP.err (hN X hX) hr
      simp only [Rd.and]
      clear hN
      go_enter Try.func94, Try.ntmps94
      go_wp2_with (go_at_call 95; refine (HN.out _ HA.out).mono ?_; rintro e w1 ⟨rfl, hb⟩)
      exact ⟨rfl, HL.out.step hb, rfl⟩
    · have HN : Hid (∀ X, RdS X g l → Calls Try.prog 95 #[.pointer (some ⟨g, 0, none⟩), .int .i64 lo, .int .i64 64] X fun e w' => ∃ v, e = .returned v ∧ (v = .string n) ∧ RdS w' g r ∧ Bv g X.heap.size X w') := fun X hX => RdP.ok (hN X hX) hr
      simp only [Rd.and]
      clear hN
      go_enter Try.func94, Try.ntmps94
      go_wp2_with (go_at_call 95; refine (HN.out _ HA.out).mono ?_; rintro e w1 ⟨v1, rfl, rfl, hs, hb⟩; obtain ⟨r0, r1, r2, f0, f1, f2⟩ := three (HB.out.bl hb (by omega)); have HB1 : Hid (Bv g w.heap.size w w1) := HL.out.step hb; have HS : Hid (RdS w1 g r) := hs; clear hs hb)
      exact bodyPost_ret (v := Tm.v ⟨2, 0, n⟩) (by simp [results, Try.results94, go_sem, r0, r1, r2]) rfl ⟨bset3V HB1.out (Nat.le_refl _), _, rfl, rfl, ((HS.out.off hlt).off hlt).off hlt⟩
  · simp only [show ¬ (3 : Int) = 1 by omega, show ¬ (3 : Int) = 2 by omega, if_false, if_true]
    have hN := fun X hX => natural_any g l X hX
    rcases hr : rNat l with c | ⟨n, r⟩
    · have HN : Hid (∀ X, RdS X g l → Calls Try.prog 103 #[.pointer (some ⟨g, 0, none⟩)] X fun e w' => e = .panicked [pE c] ∧ Bv g X.heap.size X w') := fun X hX => RdP.err (hN X hX) hr
      simp only [Rd.and]
      clear hN
      go_enter Try.func94, Try.ntmps94
      go_wp2_with (go_at_call 103; refine (HN.out _ HA.out).mono ?_; rintro e w1 ⟨rfl, hb⟩)
      exact ⟨rfl, HL.out.step hb, rfl⟩
    · have HN : Hid (∀ X, RdS X g l → Calls Try.prog 103 #[.pointer (some ⟨g, 0, none⟩)] X fun e w' => ∃ v, e = .returned v ∧ (v = .int .i64 n) ∧ RdS w' g r ∧ Bv g X.heap.size X w') := fun X hX => RdP.ok (hN X hX) hr
      simp only [Rd.and]
      clear hN
      go_enter Try.func94, Try.ntmps94
      go_wp2_with (go_at_call 103; refine (HN.out _ HA.out).mono ?_; rintro e w1 ⟨v1, rfl, rfl, hs, hb⟩; obtain ⟨r0, r1, r2, f0, f1, f2⟩ := three (HB.out.bl hb (by omega)); have HB1 : Hid (Bv g w.heap.size w w1) := HL.out.step hb; have HS : Hid (RdS w1 g r) := hs; clear hs hb)
      exact bodyPost_ret (v := Tm.v ⟨3, n, ⟨#[]⟩⟩) (by simp [results, Try.results94, go_sem, r0, r1, r2]) rfl ⟨bset3V HB1.out (Nat.le_refl _), _, rfl, rfl, ((HS.out.off hlt).off hlt).off hlt⟩
set_option maxRecDepth 20000 in
set_option maxHeartbeats 2000000 in
theorem qual8_any (g : Nat) (l : List Int) (w : World) (h : RdS w g l) :
    Calls Try.prog 75 #[.pointer (some ⟨g, 0, none⟩)] w (RdP g w (fun t v _ => v = t.v) (rQual l)) := by
  have hlt := h.lt
  have HA : Hid (RdS ((w.alloc (.cells #[.int .i64 0, .int .i64 0, .string ⟨#[]⟩] 31)).alloc (.cells #[.int .i64 0, .int .i64 2, .int .i64 3] 3)) g l) := h.below (below2 _ _ _)
  have HB : Hid (Blk ((w.alloc (.cells #[.int .i64 0, .int .i64 0, .string ⟨#[]⟩] 31)).alloc (.cells #[.int .i64 0, .int .i64 2, .int .i64 3] 3)) w.heap.size #[.int .i64 0, .int .i64 0, .string ⟨#[]⟩] 31) := Blk.old _ _ _ _
  have HL : Hid (Bv g w.heap.size w ((w.alloc (.cells #[.int .i64 0, .int .i64 0, .string ⟨#[]⟩] 31)).alloc (.cells #[.int .i64 0, .int .i64 2, .int .i64 3] 3))) := Bv.of (below2 _ _ _)
  have HC : Blk ((w.alloc (.cells #[.int .i64 0, .int .i64 0, .string ⟨#[]⟩] 31)).alloc (.cells #[.int .i64 0, .int .i64 2, .int .i64 3] 3)) (w.heap.size + 1) #[.int .i64 0, .int .i64 2, .int .i64 3] 3 := Blk.new2 _ _ _ _
  have HO := oneOf_any [0, 2, 3] (.slice (some ⟨w.heap.size + 1, 0, none⟩) 3 3) g l _ HA.out (fun X hX => ⟨w.heap.size + 1, 3, rfl, by simp, fun i x hx => by
    have hB := HC.bl hX (by omega)
    have hi := (List.getElem?_eq_some_iff.1 hx).1
    have : w.heap.size + 1 < X.heap.size := hB.lt
    rcases (show i = 0 ∨ i = 1 ∨ i = 2 by simp at hi; omega) with rfl | rfl | rfl
    all_goals (simp only [List.getElem?_cons_zero, List.getElem?_cons_succ, Option.some.injEq] at hx; subst hx; exact cell_of_row _ _ _ _ _ _ hB)⟩)
  clear h HC
  unfold rQual
  rcases hr : rOne [0, 2, 3] l with c | ⟨n, r⟩
  · have HN : Hid (Calls Try.prog 88 #[.pointer (some ⟨g, 0, none⟩), .slice (some ⟨w.heap.size + 1, 0, none⟩) 3 3] _ fun e w' => e = .panicked [pE c] ∧ Bv g _ _ w') := RdP.err HO hr
    simp only [Rd.and]
    clear HO
    go_enter Try.func75, Try.ntmps75
    go_wp2_with (go_at_call 88; refine HN.out.mono ?_; rintro e w1 ⟨rfl, hb⟩)
    exact ⟨rfl, HL.out.step hb, rfl⟩
  · have HN : Hid (Calls Try.prog 88 #[.pointer (some ⟨g, 0, none⟩), .slice (some ⟨w.heap.size + 1, 0, none⟩) 3 3] _ fun e w' => ∃ v, e = .returned v ∧ (v = .int .i64 n ∧ n ∈ [0, 2, 3]) ∧ RdS w' g r ∧ Bv g _ _ w') := RdP.ok HO hr
    simp only [Rd.and]
    clear HO
    have hN := fun X hX hk => termOf_any n 1 hk g r X hX
    rcases hr2 : rTermOf n 1 r with c | ⟨t, r2⟩
    · have HT : Hid (∀ X, RdS X g r → (n = 0 ∨ n = 1 ∨ n = 2 ∨ n = 3) → Calls Try.prog 94 #[.pointer (some ⟨g, 0, none⟩), .int .i64 n, .int .i64 1] X fun e w' => e = .panicked [pE c] ∧ Bv g X.heap.size X w') := fun X hX hk => RdP.err (hN X hX hk) hr2
      clear hN
      go_enter Try.func75, Try.ntmps75
      go_wp2_with (first
        | (go_at_call 88; refine HN.out.mono ?_; rintro e w1 ⟨v1, rfl, ⟨rfl, hm⟩, hs, hb⟩; have HM : Hid (n ∈ [0, 2, 3]) := hm; have HB1 : Hid (Bv g w.heap.size w w1) := HL.out.step hb; have HS : Hid (RdS w1 g r) := hs; clear hm hs hb)
        | (go_at_call 94; refine (HT.out _ HS.out (by have := HM.out; simp at this; omega)).mono ?_; rintro e w2 ⟨rfl, hb⟩))
      exact ⟨rfl, HB1.out.step hb, rfl⟩
    · have HT : Hid (∀ X, RdS X g r → (n = 0 ∨ n = 1 ∨ n = 2 ∨ n = 3) → Calls Try.prog 94 #[.pointer (some ⟨g, 0, none⟩), .int .i64 n, .int .i64 1] X fun e w' => ∃ v, e = .returned v ∧ (v = t.v) ∧ RdS w' g r2 ∧ Bv g X.heap.size X w') := fun X hX hk => RdP.ok (hN X hX hk) hr2
      clear hN
      obtain ⟨tk, tn, ts⟩ := t
      go_enter Try.func75, Try.ntmps75
      go_wp2_with (first
        | (go_at_call 88; refine HN.out.mono ?_; rintro e w1 ⟨v1, rfl, ⟨rfl, hm⟩, hs, hb⟩; have HM : Hid (n ∈ [0, 2, 3]) := hm; have HB1 : Hid (Bv g w.heap.size w w1) := HL.out.step hb; have HS : Hid (RdS w1 g r) := hs; have HK1 : Hid (Blk w1 _ _ _) := HB.out.bl hb (by omega); clear hm hs hb)
        | (go_at_call 94; refine (HT.out _ HS.out (by have := HM.out; simp at this; omega)).mono ?_; rintro e w2 ⟨v2, rfl, rfl, hs, hb⟩; obtain ⟨r0, r1, r2, f0, f1, f2⟩ := three (HK1.out.bl hb (by omega)); have HB2 : Hid (Bv g w.heap.size w w2) := HB1.out.step hb; have HS2 : Hid (RdS w2 g _) := hs; clear hs hb))
      exact bodyPost_ret (v := Tm.v ⟨tk, tn, ts⟩) (by simp [results, Try.results75, go_sem, r0, r1, r2]) rfl ⟨bset3V HB2.out (Nat.le_refl _), _, rfl, rfl, ((HS2.out.off hlt).off hlt).off hlt⟩
set_option maxRecDepth 20000 in
set_option maxHeartbeats 2000000 in
theorem arg8_any (g : Nat) (l : List Int) (w : World) (h : RdS w g l) :
    Calls Try.prog 78 #[.pointer (some ⟨g, 0, none⟩)] w (RdP g w (fun t v _ => v = t.v) (rArg l)) := by
  have hlt := h.lt
  have HA : Hid (RdS ((w.alloc (.cells #[.int .i64 0, .int .i64 0, .string ⟨#[]⟩] 31)).alloc (.cells #[.int .i64 1, .int .i64 2, .int .i64 3] 3)) g l) := h.below (below2 _ _ _)
  have HB : Hid (Blk ((w.alloc (.cells #[.int .i64 0, .int .i64 0, .string ⟨#[]⟩] 31)).alloc (.cells #[.int .i64 1, .int .i64 2, .int .i64 3] 3)) w.heap.size #[.int .i64 0, .int .i64 0, .string ⟨#[]⟩] 31) := Blk.old _ _ _ _
  have HL : Hid (Bv g w.heap.size w ((w.alloc (.cells #[.int .i64 0, .int .i64 0, .string ⟨#[]⟩] 31)).alloc (.cells #[.int .i64 1, .int .i64 2, .int .i64 3] 3))) := Bv.of (below2 _ _ _)
  have HC : Blk ((w.alloc (.cells #[.int .i64 0, .int .i64 0, .string ⟨#[]⟩] 31)).alloc (.cells #[.int .i64 1, .int .i64 2, .int .i64 3] 3)) (w.heap.size + 1) #[.int .i64 1, .int .i64 2, .int .i64 3] 3 := Blk.new2 _ _ _ _
  have HO := oneOf_any [1, 2, 3] (.slice (some ⟨w.heap.size + 1, 0, none⟩) 3 3) g l _ HA.out (fun X hX => ⟨w.heap.size + 1, 3, rfl, by simp, fun i x hx => by
    have hB := HC.bl hX (by omega)
    have hi := (List.getElem?_eq_some_iff.1 hx).1
    have : w.heap.size + 1 < X.heap.size := hB.lt
    rcases (show i = 0 ∨ i = 1 ∨ i = 2 by simp at hi; omega) with rfl | rfl | rfl
    all_goals (simp only [List.getElem?_cons_zero, List.getElem?_cons_succ, Option.some.injEq] at hx; subst hx; exact cell_of_row _ _ _ _ _ _ hB)⟩)
  clear h HC
  unfold rArg
  rcases hr : rOne [1, 2, 3] l with c | ⟨n, r⟩
  · have HN : Hid (Calls Try.prog 88 #[.pointer (some ⟨g, 0, none⟩), .slice (some ⟨w.heap.size + 1, 0, none⟩) 3 3] _ fun e w' => e = .panicked [pE c] ∧ Bv g _ _ w') := RdP.err HO hr
    simp only [Rd.and]
    clear HO
    go_enter Try.func78, Try.ntmps78
    go_wp2_with (go_at_call 88; refine HN.out.mono ?_; rintro e w1 ⟨rfl, hb⟩)
    exact ⟨rfl, HL.out.step hb, rfl⟩
  · have HN : Hid (Calls Try.prog 88 #[.pointer (some ⟨g, 0, none⟩), .slice (some ⟨w.heap.size + 1, 0, none⟩) 3 3] _ fun e w' => ∃ v, e = .returned v ∧ (v = .int .i64 n ∧ n ∈ [1, 2, 3]) ∧ RdS w' g r ∧ Bv g _ _ w') := RdP.ok HO hr
    simp only [Rd.and]
    clear HO
    have hN := fun X hX hk => termOf_any n 0 hk g r X hX
    rcases hr2 : rTermOf n 0 r with c | ⟨t, r2⟩
    · have HT : Hid (∀ X, RdS X g r → (n = 0 ∨ n = 1 ∨ n = 2 ∨ n = 3) → Calls Try.prog 94 #[.pointer (some ⟨g, 0, none⟩), .int .i64 n, .int .i64 0] X fun e w' => e = .panicked [pE c] ∧ Bv g X.heap.size X w') := fun X hX hk => RdP.err (hN X hX hk) hr2
      clear hN
      go_enter Try.func78, Try.ntmps78
      go_wp2_with (first
        | (go_at_call 88; refine HN.out.mono ?_; rintro e w1 ⟨v1, rfl, ⟨rfl, hm⟩, hs, hb⟩; have HM : Hid (n ∈ [1, 2, 3]) := hm; have HB1 : Hid (Bv g w.heap.size w w1) := HL.out.step hb; have HS : Hid (RdS w1 g r) := hs; clear hm hs hb)
        | (go_at_call 94; refine (HT.out _ HS.out (by have := HM.out; simp at this; omega)).mono ?_; rintro e w2 ⟨rfl, hb⟩))
      exact ⟨rfl, HB1.out.step hb, rfl⟩
    · have HT : Hid (∀ X, RdS X g r → (n = 0 ∨ n = 1 ∨ n = 2 ∨ n = 3) → Calls Try.prog 94 #[.pointer (some ⟨g, 0, none⟩), .int .i64 n, .int .i64 0] X fun e w' => ∃ v, e = .returned v ∧ (v = t.v) ∧ RdS w' g r2 ∧ Bv g X.heap.size X w') := fun X hX hk => RdP.ok (hN X hX hk) hr2
      clear hN
      obtain ⟨tk, tn, ts⟩ := t
      go_enter Try.func78, Try.ntmps78
      go_wp2_with (first
        | (go_at_call 88; refine HN.out.mono ?_; rintro e w1 ⟨v1, rfl, ⟨rfl, hm⟩, hs, hb⟩; have HM : Hid (n ∈ [1, 2, 3]) := hm; have HB1 : Hid (Bv g w.heap.size w w1) := HL.out.step hb; have HS : Hid (RdS w1 g r) := hs; have HK1 : Hid (Blk w1 _ _ _) := HB.out.bl hb (by omega); clear hm hs hb)
        | (go_at_call 94; refine (HT.out _ HS.out (by have := HM.out; simp at this; omega)).mono ?_; rintro e w2 ⟨v2, rfl, rfl, hs, hb⟩; obtain ⟨r0, r1, r2, f0, f1, f2⟩ := three (HK1.out.bl hb (by omega)); have HB2 : Hid (Bv g w.heap.size w w2) := HB1.out.step hb; have HS2 : Hid (RdS w2 g _) := hs; clear hs hb))
      exact bodyPost_ret (v := Tm.v ⟨tk, tn, ts⟩) (by simp [results, Try.results78, go_sem, r0, r1, r2]) rfl ⟨bset3V HB2.out (Nat.le_refl _), _, rfl, rfl, ((HS2.out.off hlt).off hlt).off hlt⟩
end Go.Proofs.Ytelcoihmiglceaa
