/-
  The reference reads: the end; ReadAtom.
-/
import Derived.Test.YtjnipcakjoiplaaDoorCE4
import Derived.Test.YtjnipcakjoiplaaDoorCD11
namespace Go.Proofs.YtjnipcakjoiplaaDoor
open Go.RowKit

def qEnd (B : List Int) (s : Qs) : Qs := if s.at_ < B.length then stp 62 s else s
set_option maxRecDepth 20000 in
set_option maxHeartbeats 2000000 in
theorem qend_any (g : Nat) (B : List Int) (s : Qs) (w : World) (h : RqS w g B s) :
    Calls Tryd.prog 23 #[.pointer (some ⟨g, 0, none⟩)] w fun e w' => e = .returned (.tuple #[]) ∧ RqS w' g B (qEnd B s) ∧ Bv g w.heap.size w w' := by
  have H : Hid (RqS w g B s) := h
  have HST : Hid (∀ X, RqS X g B s → Calls Tryd.prog 46 #[.pointer (some ⟨g, 0, none⟩), .int .i64 62] X fun e w' => e = .returned (.tuple #[]) ∧ RqS w' g B (stp 62 s) ∧ Bv g X.heap.size X w') := fun X hX => qstop_any 62 g B s X hX
  obtain ⟨a, cap, c0, c1, c2, f1, f2⟩ := h.cells
  clear h f1 f2 c2
  unfold qEnd
  by_cases hl : s.at_ < B.length
  · rw [if_pos hl]
    have i1 : (s.at_ : Int) < (B.length : Int) := by omega
    generalize s.at_ = at9 at *
    go_enter Tryd.func23, Tryd.ntmps23
    go_wp2
    go_quiet (fail)
    go_wp2_with (go_at_call 46; refine (HST.out _ (H.out.below (below_drewN (Below.refl _ _) _))).mono ?_; rintro e w1 ⟨rfl, hs1, hb1⟩)
    go_end0
    exact ⟨rfl, hs1, (Bv.of (below_drewN (Below.refl _ _) _)).trans hb1⟩
  · rw [if_neg hl]
    have i1 : ¬ (s.at_ : Int) < (B.length : Int) := by omega
    generalize s.at_ = at9 at *
    go_enter Tryd.func23, Tryd.ntmps23
    go_wp2
    go_quiet (fail)
    go_wp2
    go_end0
    exact ⟨rfl, H.out.below (below_drewN (Below.refl _ _) _), Bv.of (below_drewN (Below.refl _ _) _)⟩
/-- Bytes that are handed in. -/
def Br (w : World) (v : Value) (B : List Int) : Prop := byt B ∧ ∃ a cap, v = .slice a B.length cap ∧ B.length ≤ cap ∧ B.length < 1000000000000000000 ∧ (a = none → cap = 0) ∧ (B = [] ∨ ∃ b o, a = some ⟨b, o, none⟩ ∧ b < w.heap.size ∧ ∀ (i : Nat) (x : Int), B[i]? = some x → w.cell? ⟨b, o + i, none⟩ = some (.int .u8 x))
theorem Br.later {w w' : World} {v : Value} {B : List Int} (h : Br w v B) (hb : Below w.heap.size w w') : Br w' v B := by
  obtain ⟨hy, a, cap, rfl, h0, h1, hn, h⟩ := h
  refine ⟨hy, a, cap, rfl, h0, h1, hn, h.imp id ?_⟩
  rintro ⟨b, o, rfl, h2, h3⟩
  exact ⟨b, o, rfl, Nat.lt_of_lt_of_le h2 hb.size, fun i x hx => cell_step hb h2 (h3 i x hx)⟩
theorem Br.bn {w : World} {v : Value} {B : List Int} (h : Br w v B) : Bn w v B := by
  obtain ⟨hy, a, cap, rfl, h0, h1, -, h⟩ := h
  exact ⟨a, cap, rfl, h0, by omega, h⟩
theorem Br.rq {w : World} {v : Value} {B : List Int} (h : Br w v B) {X : World} (hb : Below w.heap.size w X) : RqS (X.alloc (.cells #[v, .int .i64 0, .int .i64 0] 50)) X.heap.size B ⟨0, 0⟩ := by
  have h2 := (h.later hb).later (below1 X (.cells #[v, .int .i64 0, .int .i64 0] 50))
  obtain ⟨hy, a, cap, rfl, h0, h1, -, h⟩ := h2
  refine ⟨hy, Nat.zero_le _, _, Blk.new _ _ _, a, cap, rfl, h0, h1, ?_⟩
  obtain ⟨-, a', cap', e, -, -, -, hh⟩ := (‹Br w _ B›).later hb
  cases e
  rcases hh with hh | ⟨b, o, rfl, h3, h4⟩
  · exact Or.inl hh
  · rcases h with h | ⟨b', o', e, h5, h6⟩
    · exact Or.inl h
    · cases e
      exact Or.inr ⟨b, o, rfl, h3, h5, h6⟩
/-- Both answer the same. -/
theorem whole_tog {B : List Int} (hy : byt B) :
    (rWhole rAtom B = .ok (qAtom B ⟨0, 0⟩).1 ∧ (qEnd B (qAtom B ⟨0, 0⟩).2).er = 0) ∨ (rWhole rAtom B = .error (qEnd B (qAtom B ⟨0, 0⟩).2).er ∧ (qEnd B (qAtom B ⟨0, 0⟩).2).er ≠ 0) := by
  have ht := tog_atom hy (s := ⟨0, 0⟩) rfl (Nat.zero_le _)
  simp only [List.drop_zero] at ht
  unfold rWhole qEnd
  rcases hr : rAtom B with c | ⟨a, r⟩
  · rw [hr] at ht
    obtain ⟨h1, h2, h3⟩ := ht
    right
    simp only
    split
    · rw [stp_ne (by rw [h1]; exact h2), h1]; exact ⟨rfl, h2⟩
    · rw [h1]; exact ⟨rfl, h2⟩
  · rw [hr] at ht
    obtain ⟨h1, h2, h3, h4⟩ := ht
    simp only
    by_cases hl : (qAtom B ⟨0, 0⟩).2.at_ < B.length
    · have hne : r ≠ [] := by rw [← h4]; intro e; have := congrArg List.length e; simp at this; omega
      right
      rw [if_neg hne, if_pos hl, stp_0 h2]
      exact ⟨rfl, by simp⟩
    · have he : r = [] := by rw [← h4]; exact List.drop_eq_nil_of_le (by omega)
      left
      rw [if_pos he, if_neg hl]
      exact ⟨by rw [h1], h2⟩
set_option maxRecDepth 20000 in
set_option maxHeartbeats 4000000 in
theorem rreadAtom_any (v : Value) (B : List Int) (w : World) (h : Br w v B) :
    Calls Tryd.prog 10 #[v] w (RA w (rWhole rAtom B)) := by
  have HW := whole_tog h.1
  have HR : Hid (RqS ((w.alloc (.cells #[.int .i64 0, .int .i64 0, .string ⟨#[]⟩, .string ⟨#[]⟩, .slice none 0 0] 26)).alloc (.cells #[v, .int .i64 0, .int .i64 0] 50)) (w.heap.size + 1) B ⟨0, 0⟩) := by
    have := h.rq (below1 w (.cells #[.int .i64 0, .int .i64 0, .string ⟨#[]⟩, .string ⟨#[]⟩, .slice none 0 0] 26))
    rwa [show (w.alloc (.cells #[.int .i64 0, .int .i64 0, .string ⟨#[]⟩, .string ⟨#[]⟩, .slice none 0 0] 26)).heap.size = w.heap.size + 1 by simp] at this
  have hN := fun (g : Nat) (X : World) (hX : RqS X g B ⟨0, 0⟩) => qatom_any g B ⟨0, 0⟩ X hX
  generalize qAtom B ⟨0, 0⟩ = q at *
  obtain ⟨⟨⟨tk, tn, tt⟩, nm, m⟩, s1⟩ := q
  simp only at *
  have HN : Hid (∀ (g : Nat) (X : World), RqS X g B ⟨0, 0⟩ → Calls Tryd.prog 22 #[.pointer (some ⟨g, 0, none⟩)] X fun e w' => ∃ y, e = .returned (At.v ⟨⟨tk, tn, tt⟩, nm, m⟩ y) ∧ RqS w' g B s1 ∧ OwnT w' X.heap.size y m ∧ Bv g X.heap.size X w') := hN
  have HE : Hid (∀ (g : Nat) (X : World), RqS X g B s1 → Calls Tryd.prog 23 #[.pointer (some ⟨g, 0, none⟩)] X fun e w' => e = .returned (.tuple #[]) ∧ RqS w' g B (qEnd B s1) ∧ Bv g X.heap.size X w') := fun g X hX => qend_any g B s1 X hX
  obtain ⟨a, cap, rfl⟩ : ∃ a cap, v = .slice a B.length cap := by obtain ⟨-, a, cap, e, -⟩ := h; exact ⟨a, cap, e⟩
  have HB : Hid (Blk ((w.alloc (.cells #[.int .i64 0, .int .i64 0, .string ⟨#[]⟩, .string ⟨#[]⟩, .slice none 0 0] 26)).alloc (.cells #[.slice a B.length cap, .int .i64 0, .int .i64 0] 50)) w.heap.size #[.int .i64 0, .int .i64 0, .string ⟨#[]⟩, .string ⟨#[]⟩, .slice none 0 0] 26) := Blk.old _ _ _ _
  have HL : Hid (Below w.heap.size w ((w.alloc (.cells #[.int .i64 0, .int .i64 0, .string ⟨#[]⟩, .string ⟨#[]⟩, .slice none 0 0] 26)).alloc (.cells #[.slice a B.length cap, .int .i64 0, .int .i64 0] 50))) := below2 _ _ _
  clear h hN
  go_enter Tryd.func10, Tryd.ntmps10
  go_upto_region 4 with (first
    | (go_at_call 22; refine (HN.out _ _ HR.out).mono ?_; rintro e w1 ⟨y, rfl, hs, ho, hb⟩; obtain ⟨a4, n4, c4, rfl⟩ := ownT_form8 ho; have HS1 : Hid (RqS (w1.alloc (.cells #[.int .i64 tk, .int .i64 tn, .string tt, .string nm, .slice a4 n4 c4] 26)) (w.heap.size + 1) B s1) := hs.below (below1 _ _); have HB1 : Hid (Blk (w1.alloc (.cells #[.int .i64 tk, .int .i64 tn, .string tt, .string nm, .slice a4 n4 c4] 26)) w.heap.size _ _) := (HB.out.bl hb (by omega)).later (below1 _ _); have HX1 : Hid (Blk (w1.alloc (.cells #[.int .i64 tk, .int .i64 tn, .string tt, .string nm, .slice a4 n4 c4] 26)) w1.heap.size #[.int .i64 tk, .int .i64 tn, .string tt, .string nm, .slice a4 n4 c4] 26) := Blk.new _ _ _; have HO1 : Hid (OwnT (w1.alloc (.cells #[.int .i64 tk, .int .i64 tn, .string tt, .string nm, .slice a4 n4 c4] 26)) (w.heap.size + 2) (.slice a4 n4 c4) m) := (ho.mono (by simp)).later (below1 _ _); have hz1 : w.heap.size + 2 ≤ w1.heap.size := (by have := hb.size; simp at this; omega); have HL1 : Hid (Below w.heap.size w (w1.alloc (.cells #[.int .i64 tk, .int .i64 tn, .string tt, .string nm, .slice a4 n4 c4] 26))) := below_step (HL.out.trans ((hb.mono (by simp; omega)).below (by omega))) (below1 _ _); clear hs ho hb)
    | (go_at_call 23; refine (HE.out _ _ HS1.out).mono ?_; rintro e w2 ⟨rfl, hs, hb⟩; have HS2 : Hid (RqS w2 (w.heap.size + 1) B (qEnd B s1)) := hs; have HB2 : Hid (Blk w2 w.heap.size _ _) := HB1.out.bl hb (by omega); have HX2 : Hid (Blk w2 w1.heap.size _ _) := HX1.out.bl hb (by omega); have HO2 : Hid (OwnT w2 (w.heap.size + 2) (.slice a4 n4 c4) m) := HO1.out.blM hb (by omega); have HL2 : Hid (Below w.heap.size w w2) := HL1.out.trans ((hb.mono (by simp; omega)).below (by omega)); clear hs hb))
  obtain ⟨p0, p1, p2, p3, p4⟩ := five HB2.out
  obtain ⟨f0, f1, f2, f3, f4⟩ := ff5 HB2.out
  obtain ⟨x0, x1, x2, x3, x4⟩ := five HX2.out
  have e2 : w2.cell? ⟨w.heap.size + 1, 2, none⟩ = some (.int .i64 (qEnd B s1).er) := by obtain ⟨sa, sc, -, -, e, -⟩ := HS2.out.cells; exact e
  generalize (qEnd B s1).er = er at *
  have HF : Hid (∀ (a b c d e : Value) (N : Nat), OwnT ((((((w2.drewN N).setCell ⟨w.heap.size, 0, none⟩ a).setCell ⟨w.heap.size, 1, none⟩ b).setCell ⟨w.heap.size, 2, none⟩ c).setCell ⟨w.heap.size, 3, none⟩ d).setCell ⟨w.heap.size, 4, none⟩ e) w.heap.size (.slice a4 n4 c4) m ∧ Below w.heap.size w ((((((w2.drewN N).setCell ⟨w.heap.size, 0, none⟩ a).setCell ⟨w.heap.size, 1, none⟩ b).setCell ⟨w.heap.size, 2, none⟩ c).setCell ⟨w.heap.size, 3, none⟩ d).setCell ⟨w.heap.size, 4, none⟩ e)) := fun a b c d e N => ⟨((((((HO2.out.later (below_drewN (Below.refl _ _) N)).set (by omega)).set (by omega)).set (by omega)).set (by omega)).set (by omega)).mono (by omega), (((((below_drewN HL2.out N).setCell (p := ⟨w.heap.size, 0, none⟩) (Nat.le_refl _) _).setCell (p := ⟨w.heap.size, 1, none⟩) (Nat.le_refl _) _).setCell (p := ⟨w.heap.size, 2, none⟩) (Nat.le_refl _) _).setCell (p := ⟨w.heap.size, 3, none⟩) (Nat.le_refl _) _).setCell (p := ⟨w.heap.size, 4, none⟩) (Nat.le_refl _) _⟩
  rcases HW with ⟨HW, he⟩ | ⟨HW, he⟩
  · subst he
    have HWW : Hid (rWhole rAtom B = .ok ⟨⟨tk, tn, tt⟩, nm, m⟩) := HW
    clear HW
    go_wp2
    refine bodyPost_ret (v := .tuple #[At.v ⟨⟨tk, tn, tt⟩, nm, m⟩ (.slice a4 n4 c4), .int .i64 0]) (by simp [results, Tryd.results10, go_sem, p0, p1, p2, p3, p4]) rfl ?_
    rw [HWW.out]
    exact ⟨(HF.out _ _ _ _ _ 0).2, _, _, _, rfl, (HF.out _ _ _ _ _ 0).1, rfl, rfl⟩
  · have HWW : Hid (rWhole rAtom B = .error er) := HW
    have hne : (er != 0) = true := by simpa using he
    clear HW
    go_wp2
    go_region
    all_goals
      go_wp2
      refine bodyPost_ret (v := .tuple #[At.v a0 (.slice none 0 0), .int .i64 er]) (by simp [results, Tryd.results10, go_sem, p0, p1, p2, p3, p4, a0, zt]) rfl ?_
      rw [HWW.out]
      exact ⟨(HF.out _ _ _ _ _ 1).2, a0, _, _, rfl, ownT_nil _ _, rfl, rfl⟩
end Go.Proofs.YtjnipcakjoiplaaDoor
