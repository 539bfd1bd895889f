/-
  script (stage 25): the document's clean.
-/
import Derived.Test.YtdfdnjkeiddfjabDoorSC7
import Derived.Deep.Cut
namespace Go.Proofs.YtdfdnjkeiddfjabDoor
open Go.RowKit
attribute [local go_sem ↓] Go.wp_at_zero Go.wp_at_succ

/-- Is a field that isn't zero one of the row's parts? -/
def okS (z : Bool) (ps : ByteArray) (p : Int) : Bool := z || inS ps p
def clS (ps : ByteArray) (d : SdO) (bn : Nat) : Bool :=
  (okS (decide (d.who = ⟨#[]⟩)) ps 119 && okS (decide (d.too = ⟨#[]⟩)) ps 111 && okS (decide (d.tx = ⟨#[]⟩)) ps 116 && okS (decide (bn = 0)) ps 98) && (okS (decide (d.n = 0)) ps 110 && okS (decide (d.m = 0)) ps 109 && okS (decide (d.q = 0)) ps 107)
theorem strS {s : ByteArray} {ps : ByteArray} {p : Int} : (s.toList = [] ∧ decide (s = ⟨#[]⟩) = true) ∨ (¬ s.toList = [] ∧ decide (s = ⟨#[]⟩) = false ∧ inS ps p = true) ∨ (¬ s.toList = [] ∧ decide (s = ⟨#[]⟩) = false ∧ inS ps p = false) := by
  by_cases h : s = ⟨#[]⟩
  · exact Or.inl ⟨by rw [h]; exact emptyL, by simpa using h⟩
  · have h2 : ¬ s.toList = [] := fun e => h (toList_injK (e.trans emptyL.symm))
    cases hu : inS ps p
    · exact Or.inr (Or.inr ⟨h2, by simpa using h, rfl⟩)
    · exact Or.inr (Or.inl ⟨h2, by simpa using h, rfl⟩)
theorem lenS {bn : Nat} {ps : ByteArray} {p : Int} : (¬ (bn : Int) > 0 ∧ decide (bn = 0) = true) ∨ ((bn : Int) > 0 ∧ decide (bn = 0) = false ∧ inS ps p = true) ∨ ((bn : Int) > 0 ∧ decide (bn = 0) = false ∧ inS ps p = false) := by
  by_cases h : bn = 0
  · exact Or.inl ⟨by omega, by simpa using h⟩
  · cases hu : inS ps p
    · exact Or.inr (Or.inr ⟨by omega, by simpa using h, rfl⟩)
    · exact Or.inr (Or.inl ⟨by omega, by simpa using h, rfl⟩)
theorem intS {n : Int} {ps : ByteArray} {p : Int} : ((n == 0) = true ∧ decide (n = 0) = true) ∨ ((n == 0) = false ∧ decide (n = 0) = false ∧ inS ps p = true) ∨ ((n == 0) = false ∧ decide (n = 0) = false ∧ inS ps p = false) := by
  by_cases h : n = 0
  · exact Or.inl ⟨by simpa using h, by simpa using h⟩
  · cases hu : inS ps p
    · exact Or.inr (Or.inr ⟨by simpa using h, by simpa using h, rfl⟩)
    · exact Or.inr (Or.inl ⟨by simpa using h, by simpa using h, rfl⟩)
set_option maxRecDepth 20000 in
set_option maxHeartbeats 16000000 in
theorem cleanS_any (nm ps : ByteArray) (rk : Int) (hs : ps.size ≤ 9000000) (d : SdO) (a : Option Addr) (bn bc : Nat) (w : World) : Calls Tryd.prog 18 #[.agg #[.string nm, .int .i64 rk, .string ps], d.v a bn bc] w fun e w' => e = .returned (.bool (clS ps d bn)) ∧ Below w.heap.size w w' := by
  obtain ⟨k, who, too, tx, n, m, q⟩ := d
  have HU : Hid (∀ (X : World) (p : Int), Calls Tryd.prog 27 #[.agg #[.string nm, .int .i64 rk, .string ps], .int .u8 p] X fun e w' => e = .returned (.bool (inS ps p)) ∧ Below X.heap.size X w') := fun X p => usedS_any nm ps rk p hs X
  obtain ⟨W1, hW1⟩ : ∃ W, w.alloc (.cells #[.string nm, .int .i64 rk, .string ps] 52) = W := ⟨_, rfl⟩
  obtain ⟨W2, hW2⟩ : ∃ W, W1.alloc (.cells #[.int .i64 k, .string who, .string too, .string tx, .slice a bn bc, .int .i64 n, .int .i64 m, .int .i64 q] 24) = W := ⟨_, rfl⟩
  have hb1 : Below w.heap.size w W1 := by rw [← hW1]; exact below1K w _
  have hb2 : Below W1.heap.size W1 W2 := by rw [← hW2]; exact below1K W1 _
  have z1 : W1.heap.size = w.heap.size + 1 := by rw [← hW1]; simp
  have z2 : W2.heap.size = W1.heap.size + 1 := by rw [← hW2]; simp
  have HB2 : Hid (Below w.heap.size w W2) := hb1.trans (hb2.mono hb1.size)
  have hr : BlkK W2 w.heap.size #[.string nm, .int .i64 rk, .string ps] 52 := by
    refine (hb2.block _ (by omega)).trans ?_
    rw [← hW1]
    exact BlkK.new w _ _
  have hd : BlkK W2 W1.heap.size #[.int .i64 k, .string who, .string too, .string tx, .slice a bn bc, .int .i64 n, .int .i64 m, .int .i64 q] 24 := by rw [← hW2]; exact BlkK.new W1 _ _
  have ecell : ∀ {X : World} {g : Nat} {c : Array Value} {t : TypeId}, BlkK X g c t → ∀ (j : Nat) v, c[j]? = some v → X.cell? ⟨g, j, none⟩ = some v := fun {X g c t} h j v hv => by
    unfold World.cell?
    simp only
    rw [h]
    exact hv
  have hcell : Hid (∀ X, Below W2.heap.size W2 X → (X.cell? ⟨w.heap.size, 0, none⟩ = some (.string nm) ∧ X.cell? ⟨w.heap.size, 1, none⟩ = some (.int .i64 rk) ∧ X.cell? ⟨w.heap.size, 2, none⟩ = some (.string ps)) ∧ (X.cell? ⟨W1.heap.size, 1, none⟩ = some (.string who) ∧ X.cell? ⟨W1.heap.size, 2, none⟩ = some (.string too) ∧ X.cell? ⟨W1.heap.size, 3, none⟩ = some (.string tx) ∧ X.cell? ⟨W1.heap.size, 4, none⟩ = some (.slice a bn bc) ∧ X.cell? ⟨W1.heap.size, 5, none⟩ = some (.int .i64 n) ∧ X.cell? ⟨W1.heap.size, 6, none⟩ = some (.int .i64 m) ∧ X.cell? ⟨W1.heap.size, 7, none⟩ = some (.int .i64 q))) := fun X hX => by
    have h1 : BlkK X w.heap.size _ 52 := (hX.block _ (by omega)).trans hr
    have h2 : BlkK X W1.heap.size _ 24 := (hX.block _ (by omega)).trans hd
    exact ⟨⟨ecell h1 0 _ rfl, ecell h1 1 _ rfl, ecell h1 2 _ rfl⟩, ecell h2 1 _ rfl, ecell h2 2 _ rfl, ecell h2 3 _ rfl, ecell h2 4 _ rfl, ecell h2 5 _ rfl, ecell h2 6 _ rfl, ecell h2 7 _ rfl⟩
  have HC0 : Hid (Below W2.heap.size W2 W2) := Below.refl _ _
  obtain ⟨⟨r0, r1, r2⟩, d1, d2, d3, d4, d5, d6, d7⟩ := hcell.out W2 HC0.out
  clear hb1 hb2 hr hd ecell z1 z2
  obtain ⟨c14, hc14⟩ : ∃ c, (okS (decide (who = ⟨#[]⟩)) ps 119 && okS (decide (too = ⟨#[]⟩)) ps 111 && okS (decide (tx = ⟨#[]⟩)) ps 116 && okS (decide (bn = 0)) ps 98) = c := ⟨_, rfl⟩
  have HC14 : Hid ((okS (decide (who = ⟨#[]⟩)) ps 119 && okS (decide (too = ⟨#[]⟩)) ps 111 && okS (decide (tx = ⟨#[]⟩)) ps 116 && okS (decide (bn = 0)) ps 98) = c14) := hc14
  clear hc14
  go_enter Tryd.func18, Tryd.ntmps18
  go_upto_region 1 with (fail)
  go_cut [43] from 5 (fun s43 wx => s43 = .bool (!c14) ∧ Below W2.heap.size W2 wx)
  case first =>
    rcases strS (s := who) (ps := ps) (p := 119) with ⟨x1, y1⟩ | ⟨x1, y1, u1⟩ | ⟨x1, y1, u1⟩ <;>
    rcases strS (s := too) (ps := ps) (p := 111) with ⟨x2, y2⟩ | ⟨x2, y2, u2⟩ | ⟨x2, y2, u2⟩ <;>
    rcases strS (s := tx) (ps := ps) (p := 116) with ⟨x3, y3⟩ | ⟨x3, y3, u3⟩ | ⟨x3, y3, u3⟩ <;>
    rcases lenS (bn := bn) (ps := ps) (p := 98) with ⟨x4, y4⟩ | ⟨x4, y4, u4⟩ | ⟨x4, y4, u4⟩ <;>
    · have hq : c14 = _ := HC14.out.symm
      simp only [okS, Bool.true_or, Bool.false_or, Bool.and_true, Bool.and_false, *] at hq
      have HQ : Hid (c14 = _) := hq
      clear hq y1 y2 y3 y4
      go_wp2_with (go_at_call 27; refine (HU.out _ _).mono ?_; rintro e X ⟨rfl, hb⟩; have HC0 : Hid (Below W2.heap.size W2 X) := below_stepK HC0.out hb; obtain ⟨⟨r0, r1, r2⟩, d1, d2, d3, d4, d5, d6, d7⟩ := hcell.out X HC0.out; clear hb)
      go_meet
      case rel => exact ⟨by rw [HQ.out]; rfl, HC0.out⟩
  case rest =>
    obtain ⟨rfl, hX⟩ := hcut
    have HC0 : Hid (Below W2.heap.size W2 wc) := hX
    obtain ⟨⟨r0, r1, r2⟩, d1, d2, d3, d4, d5, d6, d7⟩ := hcell.out wc HC0.out
    clear hX
    cases c14 with
    | false =>
      go_wp2
      go_ret
      exact ⟨ret_bS (by unfold clS; simp only; rw [HC14.out]; rfl), HB2.out.trans (HC0.out.mono HB2.out.size)⟩
    | true =>
      rcases intS (n := n) (ps := ps) (p := 110) with ⟨x1, y1⟩ | ⟨x1, y1, u1⟩ | ⟨x1, y1, u1⟩ <;>
      rcases intS (n := m) (ps := ps) (p := 109) with ⟨x2, y2⟩ | ⟨x2, y2, u2⟩ | ⟨x2, y2, u2⟩ <;>
      rcases intS (n := q) (ps := ps) (p := 107) with ⟨x3, y3⟩ | ⟨x3, y3, u3⟩ | ⟨x3, y3, u3⟩ <;>
      · have HY1 : Hid (decide (n = 0) = _) := y1
        have HY2 : Hid (decide (m = 0) = _) := y2
        have HY3 : Hid (decide (q = 0) = _) := y3
        clear y1 y2 y3
        go_wp2_with (go_at_call 27; refine (HU.out _ _).mono ?_; rintro e X ⟨rfl, hb⟩; have HC0 : Hid (Below W2.heap.size W2 X) := below_stepK HC0.out hb; obtain ⟨⟨r0, r1, r2⟩, d1, d2, d3, d4, d5, d6, d7⟩ := hcell.out X HC0.out; clear hb)
        go_ret
        exact ⟨ret_bS (by unfold clS okS; simp only; unfold okS at HC14; rw [HC14.out, HY1.out, HY2.out, HY3.out]; simp [*]), HB2.out.trans (HC0.out.mono HB2.out.size)⟩
end Go.Proofs.YtdfdnjkeiddfjabDoor
