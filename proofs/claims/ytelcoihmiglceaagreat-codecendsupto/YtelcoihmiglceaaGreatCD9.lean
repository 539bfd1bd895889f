import Derived.Test.YtelcoihmiglceaaGreatCD7
import Derived.Test.YtelcoihmiglceaaGreatW2
import Derived.Test.YtelcoihmiglceaaGreatW3
namespace Go.Proofs.YtelcoihmiglceaaGreat
open Go.RowKit

set_option maxRecDepth 20000 in
set_option maxHeartbeats 2000000 in
theorem termOf_any (k lo : Int) (hk : k = 0 ∨ k = 1 ∨ k = 2 ∨ k = 3) (g : Nat) (l : List Int) (w : World) (h : RdS w g l) :
  Calls Tryz.prog 163 #[.pointer (some ⟨g, 0, none⟩), .int .i64 k, .int .i64 lo] w (RdP g w (fun t v _ => v = t.v) (rTermOf k lo l)) := by
 have hlt := h.lt
 have HA : Hid (RdS (w.alloc (.cells #[.int .i64 0, .int .i64 0, .string ⟨#[]⟩] 23)) g l) := h.below (below1 _ _)
 have HB : Hid (Blk (w.alloc (.cells #[.int .i64 0, .int .i64 0, .string ⟨#[]⟩] 23)) w.heap.size #[.int .i64 0, .int .i64 0, .string ⟨#[]⟩] 23) := Blk.new _ _ _
 have HL : Hid (Bv g w.heap.size w (w.alloc (.cells #[.int .i64 0, .int .i64 0, .string ⟨#[]⟩] 23))) := Bv.of (below1 _ _)
 clear h
 unfold rTermOf
 rcases hk with rfl | rfl | rfl | rfl
 ·simp only [show ¬ (0 : Int) = 1 by omega, show ¬ (0 : Int) = 2 by omega, show ¬ (0 : Int) = 3 by omega, if_false]
  go_enter Tryz.func163, Tryz.ntmps163
  go_wp2
  exact bodyPost_ret (v := Tm.v zt) (by simp [results, Tryz.results163, go_sem, zt]) rfl ⟨HL.out, _, rfl, rfl, HA.out⟩
 ·simp only [if_true]
  have hN := fun X hX => number_any 8 (by omega) g l X hX
  rcases hr : rNum 8 l with c | ⟨n, r⟩
  ·have HN : Hid (∀ X, RdS X g l -> Calls Tryz.prog 132 #[.pointer (some ⟨g, 0, none⟩), .int .i64 8] X fun e w' => e = .panicked [pE c] /\ Bv g X.heap.size X w') := fun X hX => RdP.err (hN X hX) hr
   simp only [Rd.and]
   clear hN
   go_enter Tryz.func163, Tryz.ntmps163
   go_wp2_with (go_at_call 132; refine (HN.out _ HA.out).mono ?_; rintro e w1 ⟨rfl, hb⟩)
   exact ⟨rfl, HL.out.step hb, rfl⟩
  ·have HN : Hid (∀ X, RdS X g l -> Calls Tryz.prog 132 #[.pointer (some ⟨g, 0, none⟩), .int .i64 8] X fun e w' => ∃ v, e = .returned v /\ (v = .int .u64 n /\ 0 <= n /\ n < (256 : Int) ^ 8) /\ RdS w' g r /\ Bv g X.heap.size X w') := fun X hX => RdP.ok (hN X hX) hr
   simp only [Rd.and]
   clear hN
   go_enter Tryz.func163, Tryz.ntmps163
   go_wp2_with (go_at_call 132; refine (HN.out _ HA.out).mono ?_; rintro e w1 ⟨v1, rfl, ⟨rfl, h0, h9⟩, hs, hb⟩; obtain ⟨r0, r1, r2, f0, f1, f2⟩ := three (HB.out.bl hb (by omega)); have HB1 : Hid (Bv g w.heap.size w w1) := HL.out.step hb; have HS : Hid (RdS w1 g r) := hs; clear h9 hs hb)
   exact bodyPost_ret (v := Tm.v ⟨1, wrap64 n, ⟨#[]⟩⟩) (by simp [results, Tryz.results163, go_sem, r0, r1, r2]) rfl ⟨bset3V HB1.out (Nat.le_refl _), _, rfl, rfl, ((HS.out.off hlt).off hlt).off hlt⟩
 ·simp only [show ¬ (2 : Int) = 1 by omega, if_false, if_true]
  have hN := fun X hX => rtext_any lo 64 g l X hX
  rcases hr : rText lo 64 l with c | ⟨n, r⟩
  ·have HN : Hid (∀ X, RdS X g l -> Calls Tryz.prog 164 #[.pointer (some ⟨g, 0, none⟩), .int .i64 lo, .int .i64 64] X fun e w' => e = .panicked [pE c] /\ Bv g X.heap.size X w') := fun X hX => RdP.err (hN X hX) hr
   simp only [Rd.and]
   clear hN
   go_enter Tryz.func163, Tryz.ntmps163
   go_wp2_with (go_at_call 164; refine (HN.out _ HA.out).mono ?_; rintro e w1 ⟨rfl, hb⟩)
   exact ⟨rfl, HL.out.step hb, rfl⟩
  ·have HN : Hid (∀ X, RdS X g l -> Calls Tryz.prog 164 #[.pointer (some ⟨g, 0, none⟩), .int .i64 lo, .int .i64 64] X fun e w' => ∃ v, e = .returned v /\ (v = .string n) /\ RdS w' g r /\ Bv g X.heap.size X w') := fun X hX => RdP.ok (hN X hX) hr
   simp only [Rd.and]
   clear hN
   go_enter Tryz.func163, Tryz.ntmps163
   go_wp2_with (go_at_call 164; refine (HN.out _ HA.out).mono ?_; rintro e w1 ⟨v1, rfl, rfl, hs, hb⟩; obtain ⟨r0, r1, r2, f0, f1, f2⟩ := three (HB.out.bl hb (by omega)); have HB1 : Hid (Bv g w.heap.size w w1) := HL.out.step hb; have HS : Hid (RdS w1 g r) := hs; clear hs hb)
   exact bodyPost_ret (v := Tm.v ⟨2, 0, n⟩) (by simp [results, Tryz.results163, go_sem, r0, r1, r2]) rfl ⟨bset3V HB1.out (Nat.le_refl _), _, rfl, rfl, ((HS.out.off hlt).off hlt).off hlt⟩
 ·simp only [show ¬ (3 : Int) = 1 by omega, show ¬ (3 : Int) = 2 by omega, if_false, if_true]
  have hN := fun X hX => natural_any g l X hX
  rcases hr : rNat l with c | ⟨n, r⟩
  ·have HN : Hid (∀ X, RdS X g l -> Calls Tryz.prog 133 #[.pointer (some ⟨g, 0, none⟩)] X fun e w' => e = .panicked [pE c] /\ Bv g X.heap.size X w') := fun X hX => RdP.err (hN X hX) hr
   simp only [Rd.and]
   clear hN
   go_enter Tryz.func163, Tryz.ntmps163
   go_wp2_with (go_at_call 133; refine (HN.out _ HA.out).mono ?_; rintro e w1 ⟨rfl, hb⟩)
   exact ⟨rfl, HL.out.step hb, rfl⟩
  ·have HN : Hid (∀ X, RdS X g l -> Calls Tryz.prog 133 #[.pointer (some ⟨g, 0, none⟩)] X fun e w' => ∃ v, e = .returned v /\ (v = .int .i64 n) /\ RdS w' g r /\ Bv g X.heap.size X w') := fun X hX => RdP.ok (hN X hX) hr
   simp only [Rd.and]
   clear hN
   go_enter Tryz.func163, Tryz.ntmps163
   go_wp2_with (go_at_call 133; refine (HN.out _ HA.out).mono ?_; rintro e w1 ⟨v1, rfl, rfl, hs, hb⟩; obtain ⟨r0, r1, r2, f0, f1, f2⟩ := three (HB.out.bl hb (by omega)); have HB1 : Hid (Bv g w.heap.size w w1) := HL.out.step hb; have HS : Hid (RdS w1 g r) := hs; clear hs hb)
   exact bodyPost_ret (v := Tm.v ⟨3, n, ⟨#[]⟩⟩) (by simp [results, Tryz.results163, go_sem, r0, r1, r2]) rfl ⟨bset3V HB1.out (Nat.le_refl _), _, rfl, rfl, ((HS.out.off hlt).off hlt).off hlt⟩
set_option maxRecDepth 20000 in
set_option maxHeartbeats 2000000 in
theorem qual8_any (g : Nat) (l : List Int) (w : World) (h : RdS w g l) :
  Calls Tryz.prog 123 #[.pointer (some ⟨g, 0, none⟩)] w (RdP g w (fun t v _ => v = t.v) (rQual l)) := by
 have hlt := h.lt
 have HA : Hid (RdS ((w.alloc (.cells #[.int .i64 0, .int .i64 0, .string ⟨#[]⟩] 23)).alloc (.cells #[.int .i64 0, .int .i64 2, .int .i64 3] 3)) g l) := h.below (below2 _ _ _)
 have HB : Hid (Blk ((w.alloc (.cells #[.int .i64 0, .int .i64 0, .string ⟨#[]⟩] 23)).alloc (.cells #[.int .i64 0, .int .i64 2, .int .i64 3] 3)) w.heap.size #[.int .i64 0, .int .i64 0, .string ⟨#[]⟩] 23) := Blk.old _ _ _ _
 have HL : Hid (Bv g w.heap.size w ((w.alloc (.cells #[.int .i64 0, .int .i64 0, .string ⟨#[]⟩] 23)).alloc (.cells #[.int .i64 0, .int .i64 2, .int .i64 3] 3))) := Bv.of (below2 _ _ _)
 have HC : Blk ((w.alloc (.cells #[.int .i64 0, .int .i64 0, .string ⟨#[]⟩] 23)).alloc (.cells #[.int .i64 0, .int .i64 2, .int .i64 3] 3)) (w.heap.size + 1) #[.int .i64 0, .int .i64 2, .int .i64 3] 3 := Blk.new2 _ _ _ _
 have HO := oneOf_any [0, 2, 3] (.slice (some ⟨w.heap.size + 1, 0, none⟩) 3 3) g l _ HA.out (fun X hX => ⟨w.heap.size + 1, 3, rfl, by simp, fun i x hx => by
  have hB := HC.bl hX (by omega)
  have hi := (List.getElem?_eq_some_iff.1 hx).1
  have : w.heap.size + 1 < X.heap.size := hB.lt
  rcases (show i = 0 ∨ i = 1 ∨ i = 2 by simp at hi; omega) with rfl | rfl | rfl
  all_goals (simp only [List.getElem?_cons_zero, List.getElem?_cons_succ, Option.some.injEq] at hx; subst hx; exact cell_of_row _ _ _ _ _ _ hB)⟩)
 clear h HC
 unfold rQual
 rcases hr : rOne [0, 2, 3] l with c | ⟨n, r⟩
 ·have HN : Hid (Calls Tryz.prog 162 #[.pointer (some ⟨g, 0, none⟩), .slice (some ⟨w.heap.size + 1, 0, none⟩) 3 3] _ fun e w' => e = .panicked [pE c] /\ Bv g _ _ w') := RdP.err HO hr
  simp only [Rd.and]
  clear HO
  go_enter Tryz.func123, Tryz.ntmps123
  go_wp2_with (go_at_call 162; refine HN.out.mono ?_; rintro e w1 ⟨rfl, hb⟩)
  exact ⟨rfl, HL.out.step hb, rfl⟩
 ·have HN : Hid (Calls Tryz.prog 162 #[.pointer (some ⟨g, 0, none⟩), .slice (some ⟨w.heap.size + 1, 0, none⟩) 3 3] _ fun e w' => ∃ v, e = .returned v /\ (v = .int .i64 n /\ n ∈ [0, 2, 3]) /\ RdS w' g r /\ Bv g _ _ w') := RdP.ok HO hr
  simp only [Rd.and]
  clear HO
  have hN := fun X hX hk => termOf_any n 1 hk g r X hX
  rcases hr2 : rTermOf n 1 r with c | ⟨t, r2⟩
  ·have HT : Hid (∀ X, RdS X g r -> (n = 0 ∨ n = 1 ∨ n = 2 ∨ n = 3) -> Calls Tryz.prog 163 #[.pointer (some ⟨g, 0, none⟩), .int .i64 n, .int .i64 1] X fun e w' => e = .panicked [pE c] /\ Bv g X.heap.size X w') := fun X hX hk => RdP.err (hN X hX hk) hr2
   clear hN
   go_enter Tryz.func123, Tryz.ntmps123
   go_wp2_with (first
    | (go_at_call 162; refine HN.out.mono ?_; rintro e w1 ⟨v1, rfl, ⟨rfl, hm⟩, hs, hb⟩; have HM : Hid (n ∈ [0, 2, 3]) := hm; have HB1 : Hid (Bv g w.heap.size w w1) := HL.out.step hb; have HS : Hid (RdS w1 g r) := hs; clear hm hs hb)
    | (go_at_call 163; refine (HT.out _ HS.out (by have := HM.out; simp at this; omega)).mono ?_; rintro e w2 ⟨rfl, hb⟩))
   exact ⟨rfl, HB1.out.step hb, rfl⟩
  ·have HT : Hid (∀ X, RdS X g r -> (n = 0 ∨ n = 1 ∨ n = 2 ∨ n = 3) -> Calls Tryz.prog 163 #[.pointer (some ⟨g, 0, none⟩), .int .i64 n, .int .i64 1] X fun e w' => ∃ v, e = .returned v /\ (v = t.v) /\ RdS w' g r2 /\ Bv g X.heap.size X w') := fun X hX hk => RdP.ok (hN X hX hk) hr2
   clear hN
   obtain ⟨tk, tn, ts⟩ := t
   go_enter Tryz.func123, Tryz.ntmps123
   go_wp2_with (first
    | (go_at_call 162; refine HN.out.mono ?_; rintro e w1 ⟨v1, rfl, ⟨rfl, hm⟩, hs, hb⟩; have HM : Hid (n ∈ [0, 2, 3]) := hm; have HB1 : Hid (Bv g w.heap.size w w1) := HL.out.step hb; have HS : Hid (RdS w1 g r) := hs; have HK1 : Hid (Blk w1 _ _ _) := HB.out.bl hb (by omega); clear hm hs hb)
    | (go_at_call 163; refine (HT.out _ HS.out (by have := HM.out; simp at this; omega)).mono ?_; rintro e w2 ⟨v2, rfl, rfl, hs, hb⟩; obtain ⟨r0, r1, r2, f0, f1, f2⟩ := three (HK1.out.bl hb (by omega)); have HB2 : Hid (Bv g w.heap.size w w2) := HB1.out.step hb; have HS2 : Hid (RdS w2 g _) := hs; clear hs hb))
   exact bodyPost_ret (v := Tm.v ⟨tk, tn, ts⟩) (by simp [results, Tryz.results123, go_sem, r0, r1, r2]) rfl ⟨bset3V HB2.out (Nat.le_refl _), _, rfl, rfl, ((HS2.out.off hlt).off hlt).off hlt⟩
set_option maxRecDepth 20000 in
set_option maxHeartbeats 2000000 in
theorem arg8_any (g : Nat) (l : List Int) (w : World) (h : RdS w g l) :
  Calls Tryz.prog 127 #[.pointer (some ⟨g, 0, none⟩)] w (RdP g w (fun t v _ => v = t.v) (rArg l)) := by
 have hlt := h.lt
 have HA : Hid (RdS ((w.alloc (.cells #[.int .i64 0, .int .i64 0, .string ⟨#[]⟩] 23)).alloc (.cells #[.int .i64 1, .int .i64 2, .int .i64 3] 3)) g l) := h.below (below2 _ _ _)
 have HB : Hid (Blk ((w.alloc (.cells #[.int .i64 0, .int .i64 0, .string ⟨#[]⟩] 23)).alloc (.cells #[.int .i64 1, .int .i64 2, .int .i64 3] 3)) w.heap.size #[.int .i64 0, .int .i64 0, .string ⟨#[]⟩] 23) := Blk.old _ _ _ _
 have HL : Hid (Bv g w.heap.size w ((w.alloc (.cells #[.int .i64 0, .int .i64 0, .string ⟨#[]⟩] 23)).alloc (.cells #[.int .i64 1, .int .i64 2, .int .i64 3] 3))) := Bv.of (below2 _ _ _)
 have HC : Blk ((w.alloc (.cells #[.int .i64 0, .int .i64 0, .string ⟨#[]⟩] 23)).alloc (.cells #[.int .i64 1, .int .i64 2, .int .i64 3] 3)) (w.heap.size + 1) #[.int .i64 1, .int .i64 2, .int .i64 3] 3 := Blk.new2 _ _ _ _
 have HO := oneOf_any [1, 2, 3] (.slice (some ⟨w.heap.size + 1, 0, none⟩) 3 3) g l _ HA.out (fun X hX => ⟨w.heap.size + 1, 3, rfl, by simp, fun i x hx => by
  have hB := HC.bl hX (by omega)
  have hi := (List.getElem?_eq_some_iff.1 hx).1
  have : w.heap.size + 1 < X.heap.size := hB.lt
  rcases (show i = 0 ∨ i = 1 ∨ i = 2 by simp at hi; omega) with rfl | rfl | rfl
  all_goals (simp only [List.getElem?_cons_zero, List.getElem?_cons_succ, Option.some.injEq] at hx; subst hx; exact cell_of_row _ _ _ _ _ _ hB)⟩)
 clear h HC
 unfold rArg
 rcases hr : rOne [1, 2, 3] l with c | ⟨n, r⟩
 ·have HN : Hid (Calls Tryz.prog 162 #[.pointer (some ⟨g, 0, none⟩), .slice (some ⟨w.heap.size + 1, 0, none⟩) 3 3] _ fun e w' => e = .panicked [pE c] /\ Bv g _ _ w') := RdP.err HO hr
  simp only [Rd.and]
  clear HO
  go_enter Tryz.func127, Tryz.ntmps127
  go_wp2_with (go_at_call 162; refine HN.out.mono ?_; rintro e w1 ⟨rfl, hb⟩)
  exact ⟨rfl, HL.out.step hb, rfl⟩
 ·have HN : Hid (Calls Tryz.prog 162 #[.pointer (some ⟨g, 0, none⟩), .slice (some ⟨w.heap.size + 1, 0, none⟩) 3 3] _ fun e w' => ∃ v, e = .returned v /\ (v = .int .i64 n /\ n ∈ [1, 2, 3]) /\ RdS w' g r /\ Bv g _ _ w') := RdP.ok HO hr
  simp only [Rd.and]
  clear HO
  have hN := fun X hX hk => termOf_any n 0 hk g r X hX
  rcases hr2 : rTermOf n 0 r with c | ⟨t, r2⟩
  ·have HT : Hid (∀ X, RdS X g r -> (n = 0 ∨ n = 1 ∨ n = 2 ∨ n = 3) -> Calls Tryz.prog 163 #[.pointer (some ⟨g, 0, none⟩), .int .i64 n, .int .i64 0] X fun e w' => e = .panicked [pE c] /\ Bv g X.heap.size X w') := fun X hX hk => RdP.err (hN X hX hk) hr2
   clear hN
   go_enter Tryz.func127, Tryz.ntmps127
   go_wp2_with (first
    | (go_at_call 162; refine HN.out.mono ?_; rintro e w1 ⟨v1, rfl, ⟨rfl, hm⟩, hs, hb⟩; have HM : Hid (n ∈ [1, 2, 3]) := hm; have HB1 : Hid (Bv g w.heap.size w w1) := HL.out.step hb; have HS : Hid (RdS w1 g r) := hs; clear hm hs hb)
    | (go_at_call 163; refine (HT.out _ HS.out (by have := HM.out; simp at this; omega)).mono ?_; rintro e w2 ⟨rfl, hb⟩))
   exact ⟨rfl, HB1.out.step hb, rfl⟩
  ·have HT : Hid (∀ X, RdS X g r -> (n = 0 ∨ n = 1 ∨ n = 2 ∨ n = 3) -> Calls Tryz.prog 163 #[.pointer (some ⟨g, 0, none⟩), .int .i64 n, .int .i64 0] X fun e w' => ∃ v, e = .returned v /\ (v = t.v) /\ RdS w' g r2 /\ Bv g X.heap.size X w') := fun X hX hk => RdP.ok (hN X hX hk) hr2
   clear hN
   obtain ⟨tk, tn, ts⟩ := t
   go_enter Tryz.func127, Tryz.ntmps127
   go_wp2_with (first
    | (go_at_call 162; refine HN.out.mono ?_; rintro e w1 ⟨v1, rfl, ⟨rfl, hm⟩, hs, hb⟩; have HM : Hid (n ∈ [1, 2, 3]) := hm; have HB1 : Hid (Bv g w.heap.size w w1) := HL.out.step hb; have HS : Hid (RdS w1 g r) := hs; have HK1 : Hid (Blk w1 _ _ _) := HB.out.bl hb (by omega); clear hm hs hb)
    | (go_at_call 163; refine (HT.out _ HS.out (by have := HM.out; simp at this; omega)).mono ?_; rintro e w2 ⟨v2, rfl, rfl, hs, hb⟩; obtain ⟨r0, r1, r2, f0, f1, f2⟩ := three (HK1.out.bl hb (by omega)); have HB2 : Hid (Bv g w.heap.size w w2) := HB1.out.step hb; have HS2 : Hid (RdS w2 g _) := hs; clear hs hb))
   exact bodyPost_ret (v := Tm.v ⟨tk, tn, ts⟩) (by simp [results, Tryz.results127, go_sem, r0, r1, r2]) rfl ⟨bset3V HB2.out (Nat.le_refl _), _, rfl, rfl, ((HS2.out.off hlt).off hlt).off hlt⟩
end Go.Proofs.YtelcoihmiglceaaGreat
namespace Go.Proofs.YtelcoihmiglceaaGreat
open Go.RowKit

theorem ts_nil (w : World) : Ts w (.slice none 0 0) [] := ⟨none, 0, rfl, by simp, Or.inl rfl⟩
theorem err_name (s : ByteArray) : At.err ⟨zt, s, []⟩ = if nameOk s = true then 0 else 21 := by
 unfold At.err
 cases h : nameOk s
 ·simp
 ·simp [qualOk]
set_option maxRecDepth 20000 in
set_option maxHeartbeats 2000000 in
theorem name8_any (g : Nat) (l : List Int) (w : World) (h : RdS w g l) :
  Calls Tryz.prog 124 #[.pointer (some ⟨g, 0, none⟩)] w (RdP g w (fun s v _ => v = .string s) (rName l)) := by
 have hN := rtext_any 1 32 g l w h
 unfold rName
 rcases hr : rText 1 32 l with c | ⟨s, r⟩
 ·have HN : Hid (Calls Tryz.prog 164 #[.pointer (some ⟨g, 0, none⟩), .int .i64 1, .int .i64 32] w fun e w' => e = .panicked [pE c] /\ Bv g w.heap.size w w') := RdP.err hN hr
  clear hN h
  simp only [Rd.and]
  go_enter Tryz.func124, Tryz.ntmps124
  go_wp2_with (go_at_call 164; refine HN.out.mono ?_; rintro e w1 ⟨rfl, hb⟩)
  exact ⟨rfl, hb, rfl⟩
 ·have HN : Hid (Calls Tryz.prog 164 #[.pointer (some ⟨g, 0, none⟩), .int .i64 1, .int .i64 32] w fun e w' => ∃ v, e = .returned v /\ (v = .string s) /\ RdS w' g r /\ Bv g w.heap.size w w') := RdP.ok hN hr
  have HC : Hid (∀ X, Calls Tryz.prog 41 #[.agg #[.int .i64 0, .int .i64 0, .string ⟨#[]⟩, .string s, .slice none 0 0]] X fun e w' => e = .returned (.int .i64 (if nameOk s = true then 0 else 21)) /\ Below X.heap.size X w') := fun X => by
   have := chk_any ⟨zt, s, []⟩ (.slice none 0 0) X (ts_nil X)
   rw [err_name] at this
   exact this
  clear hN h
  simp only [Rd.and]
  cases hn : nameOk s
  ·rw [hn] at HC
   simp only [Bool.false_eq_true, if_false] at HC ⊢
   go_enter Tryz.func124, Tryz.ntmps124
   go_wp2_with (first
    | (go_at_call 164; refine HN.out.mono ?_; rintro e w1 ⟨v1, rfl, rfl, hs, hb⟩; have HB1 : Hid (Bv g w.heap.size w w1) := hb; clear hs hb)
    | (go_at_call 41; refine (HC.out _).mono ?_; rintro e w2 ⟨rfl, hb2⟩; have HB2 : Hid (Bv g w.heap.size w w2) := HB1.out.step (Bv.of hb2); clear hb2)
    | (go_at_call 91; refine (giveUp_any 63 _).mono ?_; rintro e w3 ⟨rfl, rfl⟩))
   exact ⟨rfl, HB2.out, rfl⟩
  ·rw [hn] at HC
   simp only [if_true] at HC ⊢
   go_enter Tryz.func124, Tryz.ntmps124
   go_wp2_with (first
    | (go_at_call 164; refine HN.out.mono ?_; rintro e w1 ⟨v1, rfl, rfl, hs, hb⟩; have HB1 : Hid (Bv g w.heap.size w w1) := hb; have HS : Hid (RdS w1 g r) := hs; clear hs hb)
    | (go_at_call 41; refine (HC.out _).mono ?_; rintro e w2 ⟨rfl, hb2⟩; have HB2 : Hid (Bv g w.heap.size w w2) := HB1.out.step (Bv.of hb2); have HS2 : Hid (RdS w2 g r) := HS.out.below hb2; clear hb2))
   go_ret
   exact ⟨HB2.out, _, rfl, rfl, HS2.out⟩
theorem OwnT.blM {g base : Nat} {w w' : World} {v : Value} {l : List Tm} (h : OwnT w base v l) (hb : Bv g w.heap.size w w') (hg : g < base) : OwnT w' base v l := by
 refine ⟨h.1, ?_⟩
 rcases h.2 with hn | ⟨k, cap, cur, hv, hbb, hk, rest⟩
 ·exact Or.inl hn
 ·exact Or.inr ⟨k, cap, cur, hv, hbb, (hb.block k (Array.getElem?_eq_some_iff.1 hk).1 (by omega)).trans hk, rest⟩
theorem ownT_form8 {w : World} {base : Nat} {v : Value} {l : List Tm} (h : OwnT w base v l) : ∃ a n cap, v = .slice a n cap := by
 rcases h.2 with ⟨hv, -⟩ | ⟨k, cap, cur, hv, -⟩
 ·exact ⟨_, _, _, hv⟩
 ·exact ⟨_, _, _, hv⟩
theorem RdS.low {w w' : World} {g B : Nat} {l : List Int} (h : RdS w g l) (hb : Below B w w') (hg : g < B) : RdS w' g l := by
 obtain ⟨hy, v, h1, b, o, cap, rfl, h0, h2, h3, h4, h5⟩ := h
 refine ⟨hy, _, (hb.block g hg).trans h1, b, o, cap, rfl, h0, h2, h3, Nat.lt_of_lt_of_le h4 hb.size, fun j x hx => ?_⟩
 rw [hb.cell (p := ⟨b, _, none⟩) (by show b < B; omega)]
 exact h5 j x hx
theorem rMany_no {α : Type} {one : List Int -> Rd α} {k : Nat} {l : List Int} {c : Int} (h : one l = .error c) : rMany one (k + 1) l = .error c := by simp [rMany, h, Rd.and]
theorem rMany_ok {α : Type} {one : List Int -> Rd α} {k : Nat} {l r : List Int} {a : α} (h : one l = .ok (a, r)) : rMany one (k + 1) l = (rMany one k r).and fun ts r => .ok (a :: ts, r) := by simp [rMany, h, Rd.and]
def Mny {α : Type} (one : List Int -> Rd α) (n : Nat) (l : List Int) (k : Nat) (ts : List α) (l' : List Int) : Prop := rMany one n l = (rMany one k l').and fun m r => .ok (ts ++ m, r)
theorem Mny.start {α : Type} (one : List Int -> Rd α) (n : Nat) (l : List Int) : Mny one n l n [] l := by
 unfold Mny
 rcases rMany one n l with c | ⟨m, r⟩ <;> rfl
theorem Mny.no {α : Type} {one : List Int -> Rd α} {n k : Nat} {l l' : List Int} {ts : List α} {c : Int} (h : Mny one n l (k + 1) ts l') (hc : one l' = .error c) : rMany one n l = .error c := by
 unfold Mny at h
 rw [h, rMany_no hc]; rfl
theorem Mny.next {α : Type} {one : List Int -> Rd α} {n k : Nat} {l l' r : List Int} {ts : List α} {a : α} (h : Mny one n l (k + 1) ts l') (hc : one l' = .ok (a, r)) : Mny one n l k (ts ++ [a]) r := by
 unfold Mny at h ⊢
 rw [h, rMany_ok hc]
 rcases rMany one k r with c | ⟨m, r⟩
 ·rfl
 ·simp [Rd.and]
theorem Mny.done {α : Type} {one : List Int -> Rd α} {n : Nat} {l l' : List Int} {ts : List α} (h : Mny one n l 0 ts l') : rMany one n l = .ok (ts, l') := by
 unfold Mny at h
 rw [h]; simp [rMany, Rd.and]
set_option maxRecDepth 20000 in
set_option maxHeartbeats 2000000 in
theorem listT_any (n : Nat) (hn : n <= 255) (g : Nat) (l : List Int) (w : World) (h : RdS w g l) :
  Calls Tryz.prog 125 #[.int .i64 n, .func (.func 127) #[.pointer (some ⟨g, 0, none⟩)] #[]] w (RdP g w (fun ts v w' => OwnT w' w.heap.size v ts) (rMany rArg n l)) := by
 have hlt := h.lt
 have HS0 : Hid (RdS w g l) := h
 clear h
 go_enter Tryz.func125, Tryz.ntmps125
 go_wp2
 go_loopg [5, 7] n (fun k u i wr => ∃ (j : Nat) (ts : List Tm) (l' : List Int), j + k = n /\ i = .int .i64 j /\ ts.length = j /\ OwnT wr w.heap.size u ts /\ RdS wr g l' /\ Bv g w.heap.size w wr /\ Mny rArg n l k ts l')
 case atStart => exact ⟨0, [], l, by omega, rfl, rfl, ownT_nil _ _, HS0.out, Bv.refl _ _ _, Mny.start _ _ _⟩
 case round =>
  obtain ⟨j, ts, l', hj, rfl, hts, ho, hs, hb, hm⟩ := hrel
  have HO : Hid (OwnT wr w.heap.size u5 ts) := ho
  have HB : Hid (Bv g w.heap.size w wr) := hb
  have HS : Hid (RdS wr g l') := hs
  have hsz := hb.size
  cases gk with
  | succ k =>
   have HM : Hid (Mny rArg n l (k + 1) ts l') := hm
   have i1 : (j : Int) < (n : Int) := by omega
   have hN := arg8_any g l' wr hs
   clear ho hs hb hm
   rcases hr : rArg l' with c | ⟨t, r⟩
   ·have HN : Hid (Calls Tryz.prog 127 #[.pointer (some ⟨g, 0, none⟩)] wr fun e w' => e = .panicked [pE c] /\ Bv g wr.heap.size wr w') := RdP.err hN hr
    have HE : Hid (rMany rArg n l = .error c) := HM.out.no hr
    clear hN hr
    go_wp2_with (go_at_call 127; refine HN.out.mono ?_; rintro e w1 ⟨rfl, hb⟩)
    refine ⟨rfl, ?_⟩
    rw [HE.out]
    exact ⟨HB.out.step hb, rfl⟩
   ·have HN : Hid (Calls Tryz.prog 127 #[.pointer (some ⟨g, 0, none⟩)] wr fun e w' => ∃ v, e = .returned v /\ (v = t.v) /\ RdS w' g r /\ Bv g wr.heap.size wr w') := RdP.ok hN hr
    have HM2 : Hid (Mny rArg n l k (ts ++ [t]) r) := HM.out.next hr
    clear hN hr
    obtain ⟨tk, tn, tt⟩ := t
    go_wp2_with (first
     | (go_at_call 127; refine HN.out.mono ?_; rintro e w1 ⟨v1, rfl, rfl, hs1, hb1⟩; have HB1 : Hid (Bv g w.heap.size w w1) := HB.out.step hb1; have HS1 : Hid (RdS w1 g r) := hs1; have HO1 : Hid (OwnT w1 w.heap.size u5 ts) := HO.out.blM hb1 hlt; have hz1 := HB1.out.size; clear hs1 hb1)
     | (at_builtin; refine app_terms rfl _ _ rfl w.heap.size u5 ts rfl (HO1.out.later (below1 _ _)) (.slice (some ⟨w1.heap.size, 0, none⟩) 1 1) [⟨tk, tn, tt⟩] rfl (TsP.one (t := ⟨tk, tn, tt⟩) (CBlk.new _ _ _)) (by simp only [List.length_cons, List.length_nil]; omega) (by simp; omega) ?_; intro v2 w2 ho2 hb2 hg2; have HO2 : Hid (OwnT w2 w.heap.size v2 (ts ++ [⟨tk, tn, tt⟩])) := ho2; have HB2 : Hid (Below w.heap.size w1 w2) := ((below1 _ _).mono hz1).trans hb2; clear ho2 hb2 hg2))
    go_roundg k
    case measure => omega
    case rel => exact ⟨j + 1, ts ++ [⟨tk, tn, tt⟩], r, by omega, by go_num, by simp; omega, HO2.out, HS1.out.low HB2.out hlt, HB1.out.trans (Bv.of HB2.out), HM2.out⟩
  | zero =>
   obtain rfl : j = n := by omega
   have hz : ¬ ((j : Int) < (j : Int)) := by omega
   have HE : Hid (rMany rArg j l = .ok (ts, l')) := hm.done
   clear ho hs hb hm
   go_wp2
   go_ret
   rw [HE.out]
   exact ⟨HB.out, _, rfl, HO.out, HS.out⟩
end Go.Proofs.YtelcoihmiglceaaGreat
