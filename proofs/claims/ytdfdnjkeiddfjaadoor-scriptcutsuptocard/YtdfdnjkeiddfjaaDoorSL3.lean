import Derived.Test.YtdfdnjkeiddfjaaDoorSMC
import Derived.Test.YtdfdnjkeiddfjaaDoorSC3
import Derived.Test.YtdfdnjkeiddfjaaDoorK9
import Derived.BigQuiet
import Derived.Lib.AtoiAllCases
import Derived.Test.YtdfdnjkeiddfjaaDoorSC6
import Derived.Test.YtdfdnjkeiddfjaaDoorK13
import Derived.Laws.AppendOwnNone
import Derived.Laws.AppendOwn
import Derived.Test.YtdfdnjkeiddfjaaDoorSMX
import Derived.Test.YtdfdnjkeiddfjaaDoorSML
import Derived.Test.YtdfdnjkeiddfjaaDoorSMQ
import Derived.Test.YtdfdnjkeiddfjaaDoorSL1
import Derived.Test.YtdfdnjkeiddfjaaDoorSC7
/-
  script (stage 25): the program's interface: Lines, Blank (over the mock: proved in SC4, SC7).
-/
namespace Go.Proofs.YtdfdnjkeiddfjaaDoor
open Go.RowKit

theorem aSLinesE_any (s : ByteArray) (hs : s.size ≤ 9000000) (w : World) (_ : EnS w) : Calls Tryd.prog 15 #[.string s] w fun e w' => ∃ v, e = .returned v ∧ OwS w' w.heap.size v (lnS s) ∧ Below w.heap.size w w' := aSLines_any s hs w
theorem bdrewS (w : World) (n : Nat) : Below w.heap.size w (w.drewN n) := ⟨rfl, rfl, rfl, Nat.le_refl _, fun _ _ => rfl⟩
theorem lnF_len (s : ByteArray) (i : Nat) : (lnF s i).1.length ≤ (lnF s i).2 := by
  induction i with
  | zero => exact Nat.le_refl _
  | succ i ih =>
    unfold lnF
    split
    · have := (lnF_le s i).2
      simp; omega
    · exact ih
end Go.Proofs.YtdfdnjkeiddfjaaDoor
/-
  hearsaylaw25: texts; ScriptCuts' walk.
-/
namespace Go.Proofs.YtdfdnjkeiddfjaaDoor
open Go.RowKit
attribute [local go_sem ↓] Go.wp_at_zero Go.wp_at_succ

/-- A list of texts in memory. -/
def LsS (w : World) (v : Value) (l : List ByteArray) : Prop :=
  ∃ a cap, v = .slice a l.length cap ∧ (l = [] ∨ ∃ b o, a = some ⟨b, o, none⟩ ∧ b < w.heap.size ∧ ∀ (i : Nat) (x : ByteArray), l[i]? = some x → w.cell? ⟨b, o + i, none⟩ = some (.string x))
theorem LsS.later {w w' : World} {v : Value} {l : List ByteArray} (h : LsS w v l) (hb : Below w.heap.size w w') : LsS w' v l := by
  obtain ⟨a, cap, rfl, h⟩ := h
  refine ⟨a, cap, rfl, h.imp id ?_⟩
  rintro ⟨b, o, rfl, hlt, hc⟩
  exact ⟨b, o, rfl, Nat.lt_of_lt_of_le hlt hb.size, fun i x hx => by
    rw [World.cell?_of_block (w := w) (a := ⟨b, _, none⟩) (hb.block b hlt)]; exact hc i x hx⟩
theorem OwS.ls {w : World} {base : Nat} {v : Value} {l : List ByteArray} (h : OwS w base v l) : LsS w v l := by
  obtain ⟨a, c, rfl⟩ := h.fm
  refine ⟨a, c, rfl, ?_⟩
  cases l with
  | nil => exact Or.inl rfl
  | cons x l =>
    obtain ⟨g, rfl, -, hg, -⟩ := row7_at (i := 0) h (u := .string x) rfl
    refine Or.inr ⟨g, 0, rfl, hg, fun i y hy => ?_⟩
    obtain ⟨g', e, -, -, hc, -⟩ := row7_at (i := i) h (u := .string y) (by rw [List.getElem?_map, hy]; rfl)
    cases e
    rw [Nat.zero_add]; exact hc
theorem LsS.at_ {w : World} {a : Option Addr} {n cap i : Nat} {l : List ByteArray} (h : LsS w (.slice a n cap) l) (hi : i < l.length) : ∃ x b o, a = some ⟨b, o, none⟩ ∧ l[i]? = some x ∧ w.cell? ⟨b, o + i, none⟩ = some (.string x) := by
  obtain ⟨a', cap', e, h⟩ := h
  simp only [Value.slice.injEq] at e
  obtain ⟨rfl, -, -⟩ := e
  rcases h with rfl | ⟨b, o, rfl, -, hc⟩
  · simp at hi
  · exact ⟨l[i], b, o, rfl, List.getElem?_eq_getElem hi, hc i _ (List.getElem?_eq_getElem hi)⟩
set_option maxRecDepth 20000 in
set_option maxHeartbeats 2000000 in
theorem scuts_any (s : ByteArray) (hs : s.size ≤ 8000000) (w : World) (hE : EnS w) : Calls Tryd.prog 6 #[.string s] w fun e w' => e = .returned (.bool true) ∧ Below w.heap.size w w' := by
  have HE := hm7 hE
  have hln : (lnS s).length ≤ s.size := by
    have := (lnF_le s s.size)
    unfold lnS
    split
    · rename_i hlt
      have h2 := lnF_len s s.size
      rw [List.length_append]; simp; omega
    · exact this.2
  obtain ⟨L, hL⟩ : ∃ L, lnS s = L := ⟨_, rfl⟩
  have HA : Hid (∀ X, EnS X → Calls Tryd.prog 15 #[.string s] X fun e w' => ∃ v, e = .returned v ∧ OwS w' X.heap.size v L ∧ Below X.heap.size X w') := fun X h => by rw [← hL]; exact aSLinesE_any s (by omega) X h
  have HD : Hid (∀ X, Calls Tryd.prog 16 #[.string s] X fun e w' => ∃ v, e = .returned v ∧ OwS w' X.heap.size v L ∧ Below X.heap.size X w') := fun X => by rw [← hL]; exact bSLines_any s (by omega) X
  have HF : Hid (∀ X, EnS X → Calls Tryd.prog 12 #[] X fun e w' => e = .returned (.bool true) ∧ Below X.heap.size X w') := fun X h => first_any X h
  rw [hL] at hln
  obtain ⟨N, hN⟩ : ∃ N, L.length = N := ⟨_, rfl⟩
  have HN := hm7 hN
  rw [hN] at hln
  clear hE hL
  go_enter Tryd.func6, Tryd.ntmps6
  go_upto_region 2 with (go_at_call 15; refine (HA.out _ HE.out).mono ?_; rintro e w1 ⟨v1, rfl, ho1, hb1⟩)
  have H1 := hm7 ho1.ls
  obtain ⟨a, c, rfl⟩ := ho1.fm
  have HB1 := hm7 hb1
  clear ho1 hb1
  go_upto_region 3 with (go_at_call 16; refine (HD.out _).mono ?_; rintro e w2 ⟨v2, rfl, ho2, hb2⟩)
  have H2 := hm7 ho2.ls
  obtain ⟨a2, c2, rfl⟩ := ho2.fm
  have H12 := hm7 (H1.out.later hb2)
  have HB2 := hm7 (below_stepK HB1.out hb2)
  have HE2 := hm7 (HE.out.later HB2.out)
  clear ho2 hb2
  rw [hN] at H12 H2 ⊢
  clear hN
  go_upto_region 6 with (fail)
  go_loopg [5] N (fun gg i wr => ∃ j : Nat, j + gg = N ∧ i = .int .i64 j ∧ Below w2.heap.size w2 wr)
  case atStart => exact ⟨0, by omega, rfl, Below.refl _ _⟩
  case round =>
    obtain ⟨j, hj, rfl, hb⟩ := hrel
    have HB := hm7 hb
    have x1 := (H12.out.later hb).at_ (i := j)
    have x2 := (H2.out.later hb).at_ (i := j)
    clear hb
    cases gk with
    | succ gg =>
      have hlt : (j : Int) < (N : Int) := by omega
      have h0 : (0 : Int) ≤ (j : Int) := by omega
      obtain ⟨x, b, o, rfl, y1, y2⟩ := x1 (by have := HN.out; omega)
      obtain ⟨x', b', o', rfl, z1, z2⟩ := x2 (by have := HN.out; omega)
      rw [y1] at z1
      cases z1
      go_wp2
      go_quiet (fail)
      go_wp2
      go_roundg gg
      case measure => omega
      case rel => exact ⟨j + 1, by omega, by go_num, below_stepK HB.out (bdrewS _ _)⟩
    | zero =>
      have hlt : ¬ (j : Int) < (N : Int) := by omega
      clear x1 x2
      go_wp2_with (go_at_call 12; refine (HF.out _ (HE2.out.later HB.out)).mono ?_; rintro e w4 ⟨rfl, hb4⟩; have HB4 := hm7 hb4; clear hb4)
      go_ret
      exact ⟨rfl, HB2.out.trans ((HB.out.trans (HB4.out.mono HB.out.size)).mono HB2.out.size)⟩
end Go.Proofs.YtdfdnjkeiddfjaaDoor
