/-
  The codec reads: an atom. (Written by CD10.py.)
-/
import Derived.Test.YtjnipcakjoiplaaDoorCD9
namespace Go.Proofs.YtjnipcakjoiplaaDoor
open Go.RowKit

theorem bset5M {m B : Nat} {W V : World} {G : Nat} {a b c d e : Value} (h : Bv m B W V) (hg : B ≤ G) : Bv m B W (((((V.setCell ⟨G, 0, none⟩ a).setCell ⟨G, 1, none⟩ b).setCell ⟨G, 2, none⟩ c).setCell ⟨G, 3, none⟩ d).setCell ⟨G, 4, none⟩ e) :=
  h.trans (Bv.of ((((((Below.refl _ _).setCell (p := ⟨G, 0, none⟩) hg _).setCell (p := ⟨G, 1, none⟩) hg _).setCell (p := ⟨G, 2, none⟩) hg _).setCell (p := ⟨G, 3, none⟩) hg _).setCell (p := ⟨G, 4, none⟩) hg _))
theorem ff5 {w : World} {g : Nat} {c : Array Value} {t : TypeId} (h : Blk w g c t) : w.frozen? ⟨g, 0, none⟩ = false ∧ w.frozen? ⟨g, 1, none⟩ = false ∧ w.frozen? ⟨g, 2, none⟩ = false ∧ w.frozen? ⟨g, 3, none⟩ = false ∧ w.frozen? ⟨g, 4, none⟩ = false :=
  ⟨frozen_of_row _ _ _ _ _ h, frozen_of_row _ _ _ _ _ h, frozen_of_row _ _ _ _ _ h, frozen_of_row _ _ _ _ _ h, frozen_of_row _ _ _ _ _ h⟩
set_option maxRecDepth 20000 in
set_option maxHeartbeats 4000000 in
theorem atom8_any (g : Nat) (l : List Int) (w : World) (h : RdS w g l) :
    Calls Tryd.prog 21 #[.pointer (some ⟨g, 0, none⟩)] w (RdP g w (fun a v w' => ∃ y, v = a.v y ∧ OwnT w' w.heap.size y a.args) (rAtom l)) := by
  have hlt := h.lt
  have hmf : ∀ (fn : Fn) (first cap : Array Value) (w : World), (Instr.makeFunc fn first cap).run Tryd.prog w = .ok (.func fn first cap) w := fun _ _ _ _ => rfl
  have HB : Hid (Blk (w.alloc (.cells #[.int .i64 0, .int .i64 0, .string ⟨#[]⟩, .string ⟨#[]⟩, .slice none 0 0] 26)) w.heap.size #[.int .i64 0, .int .i64 0, .string ⟨#[]⟩, .string ⟨#[]⟩, .slice none 0 0] 26) := Blk.new _ _ _
  have HL : Hid (Bv g w.heap.size w (w.alloc (.cells #[.int .i64 0, .int .i64 0, .string ⟨#[]⟩, .string ⟨#[]⟩, .slice none 0 0] 26))) := Bv.of (below1 _ _)
  have hN1 := qual8_any g l (w.alloc (.cells #[.int .i64 0, .int .i64 0, .string ⟨#[]⟩, .string ⟨#[]⟩, .slice none 0 0] 26)) (h.below (below1 _ _))
  clear h
  unfold rAtom
  rcases hr1 : rQual l with c | ⟨t, r1⟩
  · have HN1 : Hid (Calls Tryd.prog 38 #[.pointer (some ⟨g, 0, none⟩)] (w.alloc (.cells #[.int .i64 0, .int .i64 0, .string ⟨#[]⟩, .string ⟨#[]⟩, .slice none 0 0] 26)) fun e w' => e = .panicked [pE c] ∧ Bv g _ _ w') := RdP.err hN1 hr1
    clear hN1 hr1
    simp only [Rd.and]
    go_enter Tryd.func21, Tryd.ntmps21
    go_wp2_with (go_at_call 38; refine HN1.out.mono ?_; rintro e w1 ⟨rfl, hb⟩)
    exact ⟨rfl, HL.out.step hb, rfl⟩
  · have HN1 : Hid (Calls Tryd.prog 38 #[.pointer (some ⟨g, 0, none⟩)] (w.alloc (.cells #[.int .i64 0, .int .i64 0, .string ⟨#[]⟩, .string ⟨#[]⟩, .slice none 0 0] 26)) fun e w' => ∃ v, e = .returned v ∧ (v = t.v) ∧ RdS w' g r1 ∧ Bv g _ _ w') := RdP.ok hN1 hr1
    clear hN1 hr1
    obtain ⟨tk, tn, tt⟩ := t
    have hN2 := fun X hX => name8_any g r1 X hX
    simp only [Rd.and]
    rcases hr2 : rName r1 with c | ⟨nm, r2⟩
    · have HN2 : Hid (∀ X, RdS X g r1 → Calls Tryd.prog 39 #[.pointer (some ⟨g, 0, none⟩)] X fun e w' => e = .panicked [pE c] ∧ Bv g X.heap.size X w') := fun X hX => RdP.err (hN2 X hX) hr2
      clear hN2 hr2
      go_enter Tryd.func21, Tryd.ntmps21
      go_wp2_with (first
        | (go_at_call 38; refine HN1.out.mono ?_; rintro e w1 ⟨v1, rfl, rfl, hs, hb⟩; have HB1 : Hid (Bv g w.heap.size w (w1.alloc (.cells #[.int .i64 tk, .int .i64 tn, .string tt] 23))) := (HL.out.step hb).step (Bv.of (below1 _ _)); have HS1 : Hid (RdS (w1.alloc (.cells #[.int .i64 tk, .int .i64 tn, .string tt] 23)) g r1) := hs.below (below1 _ _); have HK1 : Hid (Blk (w1.alloc (.cells #[.int .i64 tk, .int .i64 tn, .string tt] 23)) _ _ _) := (HB.out.bl hb (by omega)).later (below1 _ _); have HT1 : Hid (Blk (w1.alloc (.cells #[.int .i64 tk, .int .i64 tn, .string tt] 23)) w1.heap.size #[.int .i64 tk, .int .i64 tn, .string tt] 23) := Blk.new _ _ _; have hz1 : w.heap.size < w1.heap.size := (by have := (HL.out.step hb).size; have := hb.size; simp at this; omega); clear hs hb)
        | (go_at_call 39; refine (HN2.out _ HS1.out).mono ?_; rintro e w2 ⟨rfl, hb⟩))
      exact ⟨rfl, HB1.out.step hb, rfl⟩
    · have HN2 : Hid (∀ X, RdS X g r1 → Calls Tryd.prog 39 #[.pointer (some ⟨g, 0, none⟩)] X fun e w' => ∃ v, e = .returned v ∧ (v = .string nm) ∧ RdS w' g r2 ∧ Bv g X.heap.size X w') := fun X hX => RdP.ok (hN2 X hX) hr2
      clear hN2 hr2
      have hN3 := fun X hX => bounded_any 0 8 g r2 X hX
      simp only
      rcases hr3 : rBnd 0 8 r2 with c | ⟨n, r3⟩
      · have HN3 : Hid (∀ X, RdS X g r2 → Calls Tryd.prog 41 #[.pointer (some ⟨g, 0, none⟩), .int .i64 0, .int .i64 8] X fun e w' => e = .panicked [pE c] ∧ Bv g X.heap.size X w') := fun X hX => RdP.err (hN3 X hX) hr3
        clear hN3 hr3
        go_enter Tryd.func21, Tryd.ntmps21
        go_wp2_with (first
          | (go_at_call 38; refine HN1.out.mono ?_; rintro e w1 ⟨v1, rfl, rfl, hs, hb⟩; have HB1 : Hid (Bv g w.heap.size w (w1.alloc (.cells #[.int .i64 tk, .int .i64 tn, .string tt] 23))) := (HL.out.step hb).step (Bv.of (below1 _ _)); have HS1 : Hid (RdS (w1.alloc (.cells #[.int .i64 tk, .int .i64 tn, .string tt] 23)) g r1) := hs.below (below1 _ _); have HK1 : Hid (Blk (w1.alloc (.cells #[.int .i64 tk, .int .i64 tn, .string tt] 23)) _ _ _) := (HB.out.bl hb (by omega)).later (below1 _ _); have HT1 : Hid (Blk (w1.alloc (.cells #[.int .i64 tk, .int .i64 tn, .string tt] 23)) w1.heap.size #[.int .i64 tk, .int .i64 tn, .string tt] 23) := Blk.new _ _ _; have hz1 : w.heap.size < w1.heap.size := (by have := (HL.out.step hb).size; have := hb.size; simp at this; omega); clear hs hb)
          | (go_at_call 39; refine (HN2.out _ HS1.out).mono ?_; rintro e w2 ⟨v2, rfl, rfl, hs, hb⟩; have HB2 : Hid (Bv g w.heap.size w w2) := HB1.out.step hb; have HS2 : Hid (RdS w2 g r2) := hs; have HK2 : Hid (Blk w2 _ _ _) := HK1.out.bl hb (by omega); have HT2 : Hid (Blk w2 _ _ _) := HT1.out.bl hb (by omega); clear hs hb)
          | (go_at_call 41; refine (HN3.out _ HS2.out).mono ?_; rintro e w3 ⟨rfl, hb⟩))
        exact ⟨rfl, HB2.out.step hb, rfl⟩
      · have HN3 : Hid (∀ X, RdS X g r2 → Calls Tryd.prog 41 #[.pointer (some ⟨g, 0, none⟩), .int .i64 0, .int .i64 8] X fun e w' => ∃ v, e = .returned v ∧ (v = .int .i64 n ∧ 0 ≤ n ∧ n ≤ 8 ∧ 0 ≤ n ∧ n ≤ 255) ∧ RdS w' g r3 ∧ Bv g X.heap.size X w') := fun X hX => RdP.ok (hN3 X hX) hr3
        clear hN3 hr3
        have hN4 : ∀ X, RdS X g r3 → 0 ≤ n → n ≤ 8 → Calls Tryd.prog 40 #[.int .i64 n, .func (.func 42) #[.pointer (some ⟨g, 0, none⟩)] #[]] X (RdP g X (fun ts v w' => OwnT w' X.heap.size v ts) (rMany rArg n.toNat r3)) := fun X hX h0 h8 => by
          have := listT_any n.toNat (by omega) g r3 X hX
          rwa [Int.toNat_of_nonneg h0] at this
        simp only
        rcases hr4 : rMany rArg n.toNat r3 with c | ⟨m, r4⟩
        · have HN4 : Hid (∀ X, RdS X g r3 → 0 ≤ n → n ≤ 8 → Calls Tryd.prog 40 #[.int .i64 n, .func (.func 42) #[.pointer (some ⟨g, 0, none⟩)] #[]] X fun e w' => e = .panicked [pE c] ∧ Bv g X.heap.size X w') := fun X hX h0 h8 => RdP.err (hN4 X hX h0 h8) hr4
          clear hN4 hr4
          go_enter Tryd.func21, Tryd.ntmps21
          go_wp2_with (first
            | (go_at_call 38; refine HN1.out.mono ?_; rintro e w1 ⟨v1, rfl, rfl, hs, hb⟩; have HB1 : Hid (Bv g w.heap.size w (w1.alloc (.cells #[.int .i64 tk, .int .i64 tn, .string tt] 23))) := (HL.out.step hb).step (Bv.of (below1 _ _)); have HS1 : Hid (RdS (w1.alloc (.cells #[.int .i64 tk, .int .i64 tn, .string tt] 23)) g r1) := hs.below (below1 _ _); have HK1 : Hid (Blk (w1.alloc (.cells #[.int .i64 tk, .int .i64 tn, .string tt] 23)) _ _ _) := (HB.out.bl hb (by omega)).later (below1 _ _); have HT1 : Hid (Blk (w1.alloc (.cells #[.int .i64 tk, .int .i64 tn, .string tt] 23)) w1.heap.size #[.int .i64 tk, .int .i64 tn, .string tt] 23) := Blk.new _ _ _; have hz1 : w.heap.size < w1.heap.size := (by have := (HL.out.step hb).size; have := hb.size; simp at this; omega); clear hs hb)
            | (go_at_call 39; refine (HN2.out _ HS1.out).mono ?_; rintro e w2 ⟨v2, rfl, rfl, hs, hb⟩; have HB2 : Hid (Bv g w.heap.size w w2) := HB1.out.step hb; have HS2 : Hid (RdS w2 g r2) := hs; have HK2 : Hid (Blk w2 _ _ _) := HK1.out.bl hb (by omega); have HT2 : Hid (Blk w2 _ _ _) := HT1.out.bl hb (by omega); clear hs hb)
            | (go_at_call 41; refine (HN3.out _ HS2.out).mono ?_; rintro e w3 ⟨v3, rfl, ⟨rfl, -, h8, h0, -⟩, hs, hb⟩; have HB3 : Hid (Bv g w.heap.size w w3) := HB2.out.step hb; have HS3 : Hid (RdS w3 g r3) := hs; have HK3 : Hid (Blk w3 _ _ _) := HK2.out.bl hb (by omega); have HT3 : Hid (Blk w3 _ _ _) := HT2.out.bl hb (by omega); clear hs hb)
            | (go_at_call 40; refine (HN4.out _ HS3.out h0 h8).mono ?_; rintro e w4 ⟨rfl, hb⟩))
          exact ⟨rfl, HB3.out.step hb, rfl⟩
        · have HN4 : Hid (∀ X, RdS X g r3 → 0 ≤ n → n ≤ 8 → Calls Tryd.prog 40 #[.int .i64 n, .func (.func 42) #[.pointer (some ⟨g, 0, none⟩)] #[]] X fun e w' => ∃ v, e = .returned v ∧ (OwnT w' X.heap.size v m) ∧ RdS w' g r4 ∧ Bv g X.heap.size X w') := fun X hX h0 h8 => RdP.ok (hN4 X hX h0 h8) hr4
          clear hN4 hr4
          go_enter Tryd.func21, Tryd.ntmps21
          go_wp2_with (first
            | (go_at_call 38; refine HN1.out.mono ?_; rintro e w1 ⟨v1, rfl, rfl, hs, hb⟩; have HB1 : Hid (Bv g w.heap.size w (w1.alloc (.cells #[.int .i64 tk, .int .i64 tn, .string tt] 23))) := (HL.out.step hb).step (Bv.of (below1 _ _)); have HS1 : Hid (RdS (w1.alloc (.cells #[.int .i64 tk, .int .i64 tn, .string tt] 23)) g r1) := hs.below (below1 _ _); have HK1 : Hid (Blk (w1.alloc (.cells #[.int .i64 tk, .int .i64 tn, .string tt] 23)) _ _ _) := (HB.out.bl hb (by omega)).later (below1 _ _); have HT1 : Hid (Blk (w1.alloc (.cells #[.int .i64 tk, .int .i64 tn, .string tt] 23)) w1.heap.size #[.int .i64 tk, .int .i64 tn, .string tt] 23) := Blk.new _ _ _; have hz1 : w.heap.size < w1.heap.size := (by have := (HL.out.step hb).size; have := hb.size; simp at this; omega); clear hs hb)
            | (go_at_call 39; refine (HN2.out _ HS1.out).mono ?_; rintro e w2 ⟨v2, rfl, rfl, hs, hb⟩; have HB2 : Hid (Bv g w.heap.size w w2) := HB1.out.step hb; have HS2 : Hid (RdS w2 g r2) := hs; have HK2 : Hid (Blk w2 _ _ _) := HK1.out.bl hb (by omega); have HT2 : Hid (Blk w2 _ _ _) := HT1.out.bl hb (by omega); clear hs hb)
            | (go_at_call 41; refine (HN3.out _ HS2.out).mono ?_; rintro e w3 ⟨v3, rfl, ⟨rfl, -, h8, h0, -⟩, hs, hb⟩; have HB3 : Hid (Bv g w.heap.size w w3) := HB2.out.step hb; have HS3 : Hid (RdS w3 g r3) := hs; have HK3 : Hid (Blk w3 _ _ _) := HK2.out.bl hb (by omega); have HT3 : Hid (Blk w3 _ _ _) := HT2.out.bl hb (by omega); clear hs hb)
            | (go_at_call 40; refine (HN4.out _ HS3.out h0 h8).mono ?_; rintro e w4 ⟨v4, rfl, ho, hs, hb⟩; obtain ⟨a4, n4, c4, rfl⟩ := ownT_form8 ho; have HB4 : Hid (Bv g w.heap.size w w4) := HB3.out.step hb; have HS4 : Hid (RdS w4 g r4) := hs; obtain ⟨p0, p1, p2, p3, p4⟩ := five (HK3.out.bl hb (by omega)); obtain ⟨f0, f1, f2, f3, f4⟩ := ff5 (HK3.out.bl hb (by omega)); obtain ⟨t0, t1, t2, -, -, -⟩ := three (HT3.out.bl hb (by omega)); have HO4 : Hid (OwnT w4 w.heap.size (.slice a4 n4 c4) m ∧ ∀ k, (Value.slice a4 n4 c4).ownBlock = some k → w.heap.size < k) := ⟨ho.mono (by have := HB3.out.size; omega), fun k hk => by have := (ho.lt k hk).1; have := HT3.out.lt; omega⟩; clear ho hs hb))
          have hne : ∀ k, (Value.slice a4 n4 c4).ownBlock = some k → k ≠ w.heap.size := fun k hk => by have := HO4.out.2 k hk; omega
          exact bodyPost_ret (v := At.v ⟨⟨tk, tn, tt⟩, nm, m⟩ (.slice a4 n4 c4)) (by simp [results, Tryd.results21, go_sem, p0, p1, p2, p3, p4]) rfl ⟨bset5M HB4.out (Nat.le_refl _), _, rfl, ⟨_, rfl, OwnT.off (OwnT.off (OwnT.off (OwnT.off (OwnT.off HO4.out.1 hne) hne) hne) hne) hne⟩, ((((HS4.out.off hlt).off hlt).off hlt).off hlt).off hlt⟩
end Go.Proofs.YtjnipcakjoiplaaDoor
