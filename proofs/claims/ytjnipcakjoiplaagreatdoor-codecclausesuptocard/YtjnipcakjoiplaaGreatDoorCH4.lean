import Derived.Test.YtjnipcakjoiplaaGreatDoorCE4
import Derived.Test.YtjnipcakjoiplaaGreatDoorCG4
import Derived.Test.YtjnipcakjoiplaaGreatDoorCH3
import Derived.Deep.RegionHeld3
/-
  The reference reads: the end; ReadAtom.
-/
namespace Go.Proofs.YtjnipcakjoiplaaGreatDoor
open Go.RowKit

def qEnd (B : List Int) (s : Qs) : Qs := if s.at_ < B.length then stp 62 s else s
set_option maxRecDepth 20000 in
set_option maxHeartbeats 2000000 in
theorem qend_any (g : Nat) (B : List Int) (s : Qs) (w : World) (h : RqS w g B s) :
    Calls Tryz.prog 26 #[.pointer (some ⟨g, 0, none⟩)] w fun e w' => e = .returned (.tuple #[]) ∧ RqS w' g B (qEnd B s) ∧ Bv g w.heap.size w w' := by
  have H : Hid (RqS w g B s) := h
  have HST : Hid (∀ X, RqS X g B s → Calls Tryz.prog 57 #[.pointer (some ⟨g, 0, none⟩), .int .i64 62] X fun e w' => e = .returned (.tuple #[]) ∧ RqS w' g B (stp 62 s) ∧ Bv g X.heap.size X w') := fun X hX => qstop_any 62 g B s X hX
  obtain ⟨a, cap, c0, c1, c2, f1, f2⟩ := h.cells
  clear h f1 f2 c2
  unfold qEnd
  by_cases hl : s.at_ < B.length
  · rw [if_pos hl]
    have i1 : (s.at_ : Int) < (B.length : Int) := by omega
    generalize s.at_ = at9 at *
    go_enter Tryz.func26, Tryz.ntmps26
    go_wp2
    go_quiet (fail)
    go_wp2_with (go_at_call 57; refine (HST.out _ (H.out.below (below_drewN (Below.refl _ _) _))).mono ?_; rintro e w1 ⟨rfl, hs1, hb1⟩)
    go_end0
    exact ⟨rfl, hs1, (Bv.of (below_drewN (Below.refl _ _) _)).trans hb1⟩
  · rw [if_neg hl]
    have i1 : ¬ (s.at_ : Int) < (B.length : Int) := by omega
    generalize s.at_ = at9 at *
    go_enter Tryz.func26, Tryz.ntmps26
    go_wp2
    go_quiet (fail)
    go_wp2
    go_end0
    exact ⟨rfl, H.out.below (below_drewN (Below.refl _ _) _), Bv.of (below_drewN (Below.refl _ _) _)⟩
/-- Bytes that are handed in. -/
def Br (w : World) (v : Value) (B : List Int) : Prop := byt B ∧ ∃ a cap, v = .slice a B.length cap ∧ B.length ≤ cap ∧ B.length < 1000000000000000000 ∧ (a = none → cap = 0) ∧ (B = [] ∨ ∃ b o, a = some ⟨b, o, none⟩ ∧ b < w.heap.size ∧ ∀ (i : Nat) (x : Int), B[i]? = some x → w.cell? ⟨b, o + i, none⟩ = some (.int .u8 x))
theorem Br.later {w w' : World} {v : Value} {B : List Int} (h : Br w v B) (hb : Below w.heap.size w w') : Br w' v B := by
  obtain ⟨hy, a, cap, rfl, h0, h1, hn, h⟩ := h
  refine ⟨hy, a, cap, rfl, h0, h1, hn, h.imp id ?_⟩
  rintro ⟨b, o, rfl, h2, h3⟩
  exact ⟨b, o, rfl, Nat.lt_of_lt_of_le h2 hb.size, fun i x hx => cell_step hb h2 (h3 i x hx)⟩
theorem Br.bn {w : World} {v : Value} {B : List Int} (h : Br w v B) : Bn w v B := by
  obtain ⟨hy, a, cap, rfl, h0, h1, -, h⟩ := h
  exact ⟨a, cap, rfl, h0, by omega, h⟩
theorem Br.rq {w : World} {v : Value} {B : List Int} (h : Br w v B) {X : World} (hb : Below w.heap.size w X) : RqS (X.alloc (.cells #[v, .int .i64 0, .int .i64 0] 59)) X.heap.size B ⟨0, 0⟩ := by
  have h2 := (h.later hb).later (below1 X (.cells #[v, .int .i64 0, .int .i64 0] 59))
  obtain ⟨hy, a, cap, rfl, h0, h1, -, h⟩ := h2
  refine ⟨hy, Nat.zero_le _, _, Blk.new _ _ _, a, cap, rfl, h0, h1, ?_⟩
  obtain ⟨-, a', cap', e, -, -, -, hh⟩ := (‹Br w _ B›).later hb
  cases e
  rcases hh with hh | ⟨b, o, rfl, h3, h4⟩
  · exact Or.inl hh
  · rcases h with h | ⟨b', o', e, h5, h6⟩
    · exact Or.inl h
    · cases e
      exact Or.inr ⟨b, o, rfl, h3, h5, h6⟩
end Go.Proofs.YtjnipcakjoiplaaGreatDoor
/-
  The reference reads: ReadClause. (Written by CH4.py.)
-/
namespace Go.Proofs.YtjnipcakjoiplaaGreatDoor
open Go.RowKit

theorem whole_togC {B : List Int} (hy : byt B) :
    (rWhole rClause B = .ok (qClause B ⟨0, 0⟩).1 ∧ (qEnd B (qClause B ⟨0, 0⟩).2).er = 0) ∨ (rWhole rClause B = .error (qEnd B (qClause B ⟨0, 0⟩).2).er ∧ (qEnd B (qClause B ⟨0, 0⟩).2).er ≠ 0) := by
  have ht := tog_clause hy (s := ⟨0, 0⟩) rfl (Nat.zero_le _)
  simp only [List.drop_zero] at ht
  unfold rWhole qEnd
  rcases hr : rClause B with c | ⟨a, r⟩
  · rw [hr] at ht
    obtain ⟨h1, h2, h3⟩ := ht
    right
    simp only
    split
    · rw [stp_ne (by rw [h1]; exact h2), h1]; exact ⟨rfl, h2⟩
    · rw [h1]; exact ⟨rfl, h2⟩
  · rw [hr] at ht
    obtain ⟨h1, h2, h3, h4⟩ := ht
    simp only
    by_cases hl : (qClause B ⟨0, 0⟩).2.at_ < B.length
    · have hne : r ≠ [] := by rw [← h4]; intro e; have := congrArg List.length e; simp at this; omega
      right
      rw [if_neg hne, if_pos hl, stp_0 h2]
      exact ⟨rfl, by simp⟩
    · have he : r = [] := by rw [← h4]; exact List.drop_eq_nil_of_le (by omega)
      left
      rw [if_pos he, if_neg hl]
      exact ⟨by rw [h1], h2⟩
/-- What reading a clause leaves. -/
def RQ8 (w : World) (r : Except Int Ck) (e : Ending) (w' : World) : Prop := Below w.heap.size w w' ∧ ∃ (c : Cm) (er : Int), e = .returned (.tuple #[c.v, .int .i64 er]) ∧ MC8 w.heap.size w' c ∧ SZ c.key ∧ match r with
  | .ok x => c.key = x ∧ er = 0
  | .error d => c.key = c0.key ∧ er = d
theorem cellO {X : World} {g G i j : Nat} {u c : Value} (h : X.cell? ⟨g, i, none⟩ = some u) (hne : G ≠ g) : (X.setCell ⟨G, j, none⟩ c).cell? ⟨g, i, none⟩ = some u := by
  have hn : (⟨G, j, none⟩ : Addr) ≠ ⟨g, i, none⟩ := by intro e; injection e; omega
  rw [World.cell?_setCell_other X ⟨G, j, none⟩ ⟨g, i, none⟩ c hn]; exact h
theorem sz_c0 : SZ c0.key := ⟨by simp [c0, Cm.key], ⟨by simp [c0, Cm.key, fsts], fun a ha => by simp [c0, Cm.key, fsts] at ha⟩, by simp [c0, Cm.key]⟩
set_option maxRecDepth 20000 in
set_option maxHeartbeats 4000000 in
theorem rreadClause_any (v : Value) (B : List Int) (w : World) (h : Br w v B) :
    Calls Tryz.prog 10 #[v] w (RQ8 w (rWhole rClause B)) := by
  have HW := whole_togC h.1
  have HSZ : Hid (SZ (qClause B ⟨0, 0⟩).1) := qClause_sz h.1 _
  have HR : Hid (RqS ((w.alloc (.cells #[.int .i64 0, .int .i64 0, .string ⟨#[]⟩, .string ⟨#[]⟩, .slice none 0 0, .slice none 0 0, .slice none 0 0] 30)).alloc (.cells #[v, .int .i64 0, .int .i64 0] 59)) (w.heap.size + 1) B ⟨0, 0⟩) := by
    have := h.rq (below1 w (.cells #[.int .i64 0, .int .i64 0, .string ⟨#[]⟩, .string ⟨#[]⟩, .slice none 0 0, .slice none 0 0, .slice none 0 0] 30))
    rwa [show (w.alloc (.cells #[.int .i64 0, .int .i64 0, .string ⟨#[]⟩, .string ⟨#[]⟩, .slice none 0 0, .slice none 0 0, .slice none 0 0] 30)).heap.size = w.heap.size + 1 by simp] at this
  have hN := fun (g : Nat) (X : World) (hX : RqS X g B ⟨0, 0⟩) => qclause_any g B ⟨0, 0⟩ X hX
  generalize qClause B ⟨0, 0⟩ = q at *
  obtain ⟨x, s1⟩ := q
  simp only at *
  have HN : Hid (∀ (g : Nat) (X : World), RqS X g B ⟨0, 0⟩ → Calls Tryz.prog 25 #[.pointer (some ⟨g, 0, none⟩)] X fun e w' => ∃ c : Cm, e = .returned c.v ∧ c.key = x ∧ RqS w' g B s1 ∧ MC8 X.heap.size w' c ∧ Bv g X.heap.size X w') := hN
  have HE : Hid (∀ (g : Nat) (X : World), RqS X g B s1 → Calls Tryz.prog 26 #[.pointer (some ⟨g, 0, none⟩)] X fun e w' => e = .returned (.tuple #[]) ∧ RqS w' g B (qEnd B s1) ∧ Bv g X.heap.size X w') := fun g X hX => qend_any g B s1 X hX
  obtain ⟨a, cap, rfl⟩ : ∃ a cap, v = .slice a B.length cap := by obtain ⟨-, a, cap, e, -⟩ := h; exact ⟨a, cap, e⟩
  have HB : Hid (Blk ((w.alloc (.cells #[.int .i64 0, .int .i64 0, .string ⟨#[]⟩, .string ⟨#[]⟩, .slice none 0 0, .slice none 0 0, .slice none 0 0] 30)).alloc (.cells #[.slice a B.length cap, .int .i64 0, .int .i64 0] 59)) w.heap.size #[.int .i64 0, .int .i64 0, .string ⟨#[]⟩, .string ⟨#[]⟩, .slice none 0 0, .slice none 0 0, .slice none 0 0] 30) := Blk.old _ _ _ _
  have HL : Hid (Below w.heap.size w ((w.alloc (.cells #[.int .i64 0, .int .i64 0, .string ⟨#[]⟩, .string ⟨#[]⟩, .slice none 0 0, .slice none 0 0, .slice none 0 0] 30)).alloc (.cells #[.slice a B.length cap, .int .i64 0, .int .i64 0] 59))) := below2 _ _ _
  clear h hN
  go_enter Tryz.func10, Tryz.ntmps10
  go_upto_region 4 with (first
    | (go_at_call 25; refine (HN.out _ _ HR.out).mono ?_; rintro e w1 ⟨⟨⟨⟨⟨tk, tn, tt⟩, nm, m⟩, hv⟩, bo, bv, es, tv⟩, rfl, hkey, hs, ho, hb⟩; obtain ⟨a4, n4, c4, hv'⟩ := ownT_form8 ho.h; obtain ⟨a5, c5, hb'⟩ := OwnA.form ho.b.1; obtain ⟨a6, c6, ht'⟩ := OwnE.form ho.t; simp only at hv' hb' ht'; subst hv' hb' ht'; have HKY : Hid (Cm.key (⟨(⟨⟨tk, tn, tt⟩, nm, m⟩, .slice a4 n4 c4), bo, .slice a5 bo.length c5, es, .slice a6 es.length c6⟩ : Cm) = x) := hkey; have HS1 : Hid (RqS (w1.alloc (.cells #[.int .i64 tk, .int .i64 tn, .string tt, .string nm, .slice a4 n4 c4, .slice a5 bo.length c5, .slice a6 es.length c6] 30)) (w.heap.size + 1) B s1) := hs.below (below1 _ _); have HB1 : Hid (Blk (w1.alloc (.cells #[.int .i64 tk, .int .i64 tn, .string tt, .string nm, .slice a4 n4 c4, .slice a5 bo.length c5, .slice a6 es.length c6] 30)) w.heap.size _ _) := (HB.out.bl hb (by omega)).later (below1 _ _); have HX1 : Hid (Blk (w1.alloc (.cells #[.int .i64 tk, .int .i64 tn, .string tt, .string nm, .slice a4 n4 c4, .slice a5 bo.length c5, .slice a6 es.length c6] 30)) w1.heap.size #[.int .i64 tk, .int .i64 tn, .string tt, .string nm, .slice a4 n4 c4, .slice a5 bo.length c5, .slice a6 es.length c6] 30) := Blk.new _ _ _; have HO1 : Hid (MC8 (w.heap.size + 2) (w1.alloc (.cells #[.int .i64 tk, .int .i64 tn, .string tt, .string nm, .slice a4 n4 c4, .slice a5 bo.length c5, .slice a6 es.length c6] 30)) (⟨(⟨⟨tk, tn, tt⟩, nm, m⟩, .slice a4 n4 c4), bo, .slice a5 bo.length c5, es, .slice a6 es.length c6⟩ : Cm)) := (ho.mono (by simp)).later (below1 _ _); have hz1 : w.heap.size + 2 ≤ w1.heap.size := (by have := hb.size; simp at this; omega); have HL1 : Hid (Below w.heap.size w (w1.alloc (.cells #[.int .i64 tk, .int .i64 tn, .string tt, .string nm, .slice a4 n4 c4, .slice a5 bo.length c5, .slice a6 es.length c6] 30))) := below_step (HL.out.trans ((hb.mono (by simp; omega)).below (by omega))) (below1 _ _); clear hs ho hb hkey)
    | (go_at_call 26; refine (HE.out _ _ HS1.out).mono ?_; rintro e w2 ⟨rfl, hs, hb⟩; have HS2 : Hid (RqS w2 (w.heap.size + 1) B (qEnd B s1)) := hs; have HB2 : Hid (Blk w2 w.heap.size _ _) := HB1.out.bl hb (by omega); have HX2 : Hid (Blk w2 w1.heap.size _ _) := HX1.out.bl hb (by omega); have HO2 : Hid (MC8 (w.heap.size + 2) w2 (⟨(⟨⟨tk, tn, tt⟩, nm, m⟩, .slice a4 n4 c4), bo, .slice a5 bo.length c5, es, .slice a6 es.length c6⟩ : Cm)) := HO1.out.blM hb (by omega); have HL2 : Hid (Below w.heap.size w w2) := HL1.out.trans ((hb.mono (by simp; omega)).below (by omega)); clear hs hb))
  obtain ⟨p0, p1, p2, p3, p4, p5, p6⟩ := cseven HB2.out
  obtain ⟨f0, f1, f2, f3, f4, f5, f6⟩ := ff7 HB2.out
  obtain ⟨x0, x1, x2, x3, x4, x5, x6⟩ := cseven HX2.out
  have e2 : w2.cell? ⟨w.heap.size + 1, 2, none⟩ = some (.int .i64 (qEnd B s1).er) := by obtain ⟨sa, sc, -, -, e, -⟩ := HS2.out.cells; exact e
  generalize (qEnd B s1).er = er at *
  have HF : Hid (∀ (a b c d e f i : Value) (N : Nat), MC8 w.heap.size ((((((((w2.drewN N).setCell ⟨w.heap.size, 0, none⟩ a).setCell ⟨w.heap.size, 1, none⟩ b).setCell ⟨w.heap.size, 2, none⟩ c).setCell ⟨w.heap.size, 3, none⟩ d).setCell ⟨w.heap.size, 4, none⟩ e).setCell ⟨w.heap.size, 5, none⟩ f).setCell ⟨w.heap.size, 6, none⟩ i) (⟨(⟨⟨tk, tn, tt⟩, nm, m⟩, .slice a4 n4 c4), bo, .slice a5 bo.length c5, es, .slice a6 es.length c6⟩ : Cm) ∧ Below w.heap.size w ((((((((w2.drewN N).setCell ⟨w.heap.size, 0, none⟩ a).setCell ⟨w.heap.size, 1, none⟩ b).setCell ⟨w.heap.size, 2, none⟩ c).setCell ⟨w.heap.size, 3, none⟩ d).setCell ⟨w.heap.size, 4, none⟩ e).setCell ⟨w.heap.size, 5, none⟩ f).setCell ⟨w.heap.size, 6, none⟩ i)) := fun a b c d e f i N => ⟨((((((((HO2.out.later (below_drewN (Below.refl _ _) N)).set (by omega)).set (by omega)).set (by omega)).set (by omega)).set (by omega)).set (by omega)).set (by omega)).mono (by omega), (((((((below_drewN HL2.out N).setCell (p := ⟨w.heap.size, 0, none⟩) (Nat.le_refl _) _).setCell (p := ⟨w.heap.size, 1, none⟩) (Nat.le_refl _) _).setCell (p := ⟨w.heap.size, 2, none⟩) (Nat.le_refl _) _).setCell (p := ⟨w.heap.size, 3, none⟩) (Nat.le_refl _) _).setCell (p := ⟨w.heap.size, 4, none⟩) (Nat.le_refl _) _).setCell (p := ⟨w.heap.size, 5, none⟩) (Nat.le_refl _) _).setCell (p := ⟨w.heap.size, 6, none⟩) (Nat.le_refl _) _⟩
  rcases HW with ⟨HW, he⟩ | ⟨HW, he⟩
  · subst he
    have HWW : Hid (rWhole rClause B = .ok x) := HW
    clear HW
    go_wp2
    refine bodyPost_ret (v := .tuple #[Cm.v (⟨(⟨⟨tk, tn, tt⟩, nm, m⟩, .slice a4 n4 c4), bo, .slice a5 bo.length c5, es, .slice a6 es.length c6⟩ : Cm), .int .i64 0]) (by simp [results, Tryz.results10, go_sem, p0, p1, p2, p3, p4, p5, p6]) rfl ?_
    rw [HWW.out]
    exact ⟨(HF.out _ _ _ _ _ _ _ 0).2, (⟨(⟨⟨tk, tn, tt⟩, nm, m⟩, .slice a4 n4 c4), bo, .slice a5 bo.length c5, es, .slice a6 es.length c6⟩ : Cm), _, rfl, (HF.out _ _ _ _ _ _ _ 0).1, by rw [HKY.out]; exact HSZ.out, HKY.out, rfl⟩
  · have HWW : Hid (rWhole rClause B = .error er) := HW
    have hne : (er != 0) = true := by simpa using he
    clear HW
    go_upto_region 5 with fail
    have HBd : Hid (Blk w2.drew w.heap.size #[.int .i64 0, .int .i64 0, .string ⟨#[]⟩, .string ⟨#[]⟩, .slice none 0 0, .slice none 0 0, .slice none 0 0] 30) := HB2.out.later (Below.refl _ _).drew
    have HLd : Hid (Below w.heap.size w w2.drew) := HL2.out.drew
    have e2d : w2.drew.cell? ⟨w.heap.size + 1, 2, none⟩ = some (.int .i64 er) := e2
    clear p0 p1 p2 p3 p4 p5 p6 f0 f1 f2 f3 f4 f5 f6 x0 x1 x2 x3 x4 x5 x6 e2 HF
    refine wp_region_held_drew (S := fun w' => w'.cell? ⟨w.heap.size + 1, 2, none⟩ = some (.int .i64 er)) (by kernel_rfl) e2d (fun hH => ?_)
    clear e2d
    revert hH HBd HLd
    generalize w2.drew = V0
    intro HBd HLd hH
    refine wpAnyH_take (i := 0) (oi := ⟨_, _, _, _, _, _⟩) (v := .agg #[.int .i64 0, .int .i64 0, .string ⟨#[]⟩, .string ⟨#[]⟩, .slice none 0 0, .slice none 0 0, .slice none 0 0]) rfl (by kernel_rfl) (by kernel_rfl) (by kernel_rfl) (fun _ _ _ h => h) (Or.inl ⟨by rfl, fun w' h => by clear h; go_simp⟩) hH ?_
    simp only [Act.put, List.setIfInBounds_toArray, List.set_cons_zero, List.set_cons_succ]
    refine wpAnyH_take (i := 1) (oi := ⟨_, _, _, _, _, _⟩) (v := .pointer (some ⟨w.heap.size + 1, 0, none⟩)) rfl (by kernel_rfl) (by kernel_rfl) (by kernel_rfl) (fun _ _ _ h => h) (Or.inl ⟨by rfl, fun w' h => by clear h; go_simp⟩) hH ?_
    simp only [Act.put, List.setIfInBounds_toArray, List.set_cons_zero, List.set_cons_succ]
    refine wpAnyH_take (i := 2) (oi := ⟨_, _, _, _, _, _⟩) (v := .pointer (some ⟨w.heap.size + 1, 0, none⟩)) rfl (by kernel_rfl) (by kernel_rfl) (by kernel_rfl) (fun _ _ _ h => h) (Or.inl ⟨by rfl, fun w' h => by clear h; go_simp⟩) hH ?_
    simp only [Act.put, List.setIfInBounds_toArray, List.set_cons_zero, List.set_cons_succ]
    refine wpAnyH_take (i := 3) (oi := ⟨_, _, _, _, _, _⟩) (v := .pointer (some ⟨w.heap.size + 1, 2, none⟩)) rfl (by kernel_rfl) (by kernel_rfl) (by kernel_rfl) (fun _ _ _ h => h) (Or.inl ⟨by rfl, fun w' h => by clear h; go_simp⟩) hH ?_
    simp only [Act.put, List.setIfInBounds_toArray, List.set_cons_zero, List.set_cons_succ]
    refine wpAnyH_take (i := 4) (oi := ⟨_, _, _, _, _, _⟩) (v := .int .i64 er) rfl (by kernel_rfl) (by kernel_rfl) (by kernel_rfl) (fun _ _ _ h => h) (Or.inl ⟨by rfl, fun w' h => by go_simp⟩) hH ?_
    simp only [Act.put, List.setIfInBounds_toArray, List.set_cons_zero, List.set_cons_succ]
    refine wpAnyH_ready (rs := [5]) (by kernel_rfl) (by simp) ?_
    refine (AllReadyH.cons (o := ⟨_, _, _, _, _, _⟩) rfl (fun K hK => ?_) AllReadyH.nil)
    have p0 := (cseven HBd.out).1
    have p1 := (cseven HBd.out).2.1
    have p2 := (cseven HBd.out).2.2.1
    have p3 := (cseven HBd.out).2.2.2.1
    have p4 := (cseven HBd.out).2.2.2.2.1
    have p5 := (cseven HBd.out).2.2.2.2.2.1
    have p6 := (cseven HBd.out).2.2.2.2.2.2
    have f0 : V0.frozen? ⟨w.heap.size, 0, none⟩ = false := frozen_of_row _ _ _ _ _ HBd.out
    have f1 : V0.frozen? ⟨w.heap.size, 1, none⟩ = false := frozen_of_row _ _ _ _ _ HBd.out
    have f2 : V0.frozen? ⟨w.heap.size, 2, none⟩ = false := frozen_of_row _ _ _ _ _ HBd.out
    have f3 : V0.frozen? ⟨w.heap.size, 3, none⟩ = false := frozen_of_row _ _ _ _ _ HBd.out
    have f4 : V0.frozen? ⟨w.heap.size, 4, none⟩ = false := frozen_of_row _ _ _ _ _ HBd.out
    have f5 : V0.frozen? ⟨w.heap.size, 5, none⟩ = false := frozen_of_row _ _ _ _ _ HBd.out
    have f6 : V0.frozen? ⟨w.heap.size, 6, none⟩ = false := frozen_of_row _ _ _ _ _ HBd.out
    have HS9 : (((((((V0.setCell ⟨w.heap.size, 0, none⟩ (.int .i64 0)).setCell ⟨w.heap.size, 1, none⟩ (.int .i64 0)).setCell ⟨w.heap.size, 2, none⟩ (.string ⟨#[]⟩)).setCell ⟨w.heap.size, 3, none⟩ (.string ⟨#[]⟩)).setCell ⟨w.heap.size, 4, none⟩ (.slice none 0 0)).setCell ⟨w.heap.size, 5, none⟩ (.slice none 0 0)).setCell ⟨w.heap.size, 6, none⟩ (.slice none 0 0)).cell? ⟨w.heap.size + 1, 2, none⟩ = some (.int .i64 er) := cellO (cellO (cellO (cellO (cellO (cellO (cellO hH (by omega)) (by omega)) (by omega)) (by omega)) (by omega)) (by omega)) (by omega)
    go_simp
    refine hK.out _ _ HS9 (fun hH => ?_)
    clear hK K
    try simp only [Act.put, List.setIfInBounds_toArray, List.set_cons_zero, List.set_cons_succ]
    refine wpAnyH_take (i := 6) (oi := ⟨_, _, _, _, _, _⟩) (v := .int .i64 er) rfl (by kernel_rfl) (by kernel_rfl) (by kernel_rfl) (fun _ _ _ h => h) (Or.inl ⟨by rfl, fun w' h => by clear h; go_simp⟩) hH ?_
    simp only [Act.put, List.setIfInBounds_toArray, List.set_cons_zero, List.set_cons_succ]
    refine wpAnyH_done (by kernel_rfl) ?_ _
    clear hH
    go_wp2_with fail
    refine bodyPost_ret (v := .tuple #[Cm.v c0, .int .i64 er]) (by simp [results, Tryz.results10, go_sem, p0, p1, p2, p3, p4, p5, p6, c0, zt]) rfl ?_
    rw [HWW.out]
    refine ⟨?_, c0, er, rfl, mc_c0 _ _, sz_c0, rfl, rfl⟩
    exact (((((((HLd.out.setCell (p := ⟨w.heap.size, 0, none⟩) (Nat.le_refl _) _).setCell (p := ⟨w.heap.size, 1, none⟩) (Nat.le_refl _) _).setCell (p := ⟨w.heap.size, 2, none⟩) (Nat.le_refl _) _).setCell (p := ⟨w.heap.size, 3, none⟩) (Nat.le_refl _) _).setCell (p := ⟨w.heap.size, 4, none⟩) (Nat.le_refl _) _).setCell (p := ⟨w.heap.size, 5, none⟩) (Nat.le_refl _) _).setCell (p := ⟨w.heap.size, 6, none⟩) (Nat.le_refl _) _)
end Go.Proofs.YtjnipcakjoiplaaGreatDoor
