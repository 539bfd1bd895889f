import Derived.Test.YtdfdnjkeiddfjaaDoorSMC
import Derived.Test.YtdfdnjkeiddfjaaDoorSC3
import Derived.Test.YtdfdnjkeiddfjaaDoorK9
import Derived.BigQuiet
import Derived.Lib.AtoiAllCases
import Derived.Test.YtdfdnjkeiddfjaaDoorSC6
import Derived.Test.YtdfdnjkeiddfjaaDoorK13
import Derived.Laws.AppendOwnNone
import Derived.Laws.AppendOwn
import Derived.Test.YtdfdnjkeiddfjaaDoorSMX
import Derived.Test.YtdfdnjkeiddfjaaDoorSML
import Derived.Test.YtdfdnjkeiddfjaaDoorSMQ
import Derived.Test.YtdfdnjkeiddfjaaDoorSL2
import Derived.Test.YtdfdnjkeiddfjaaDoorSC7
import Derived.Test.YtdfdnjkeiddfjaaDoorK37
/-
  script (stage 25): the program's interface: Lines, Blank (over the mock: proved in SC4, SC7).
-/
namespace Go.Proofs.YtdfdnjkeiddfjaaDoor
open Go.RowKit

theorem aSLinesE_any (s : ByteArray) (hs : s.size ≤ 9000000) (w : World) (_ : EnS w) : Calls Tryd.prog 15 #[.string s] w fun e w' => ∃ v, e = .returned v ∧ OwS w' w.heap.size v (lnS s) ∧ Below w.heap.size w w' := aSLines_any s hs w
theorem bdrewS (w : World) (n : Nat) : Below w.heap.size w (w.drewN n) := ⟨rfl, rfl, rfl, Nat.le_refl _, fun _ _ => rfl⟩
end Go.Proofs.YtdfdnjkeiddfjaaDoor
/-
  hearsaylaw25: texts; ScriptCuts' walk.
-/
namespace Go.Proofs.YtdfdnjkeiddfjaaDoor
open Go.RowKit
attribute [local go_sem ↓] Go.wp_at_zero Go.wp_at_succ

/-- A list of texts in memory. -/
def LsS (w : World) (v : Value) (l : List ByteArray) : Prop :=
  ∃ a cap, v = .slice a l.length cap ∧ (l = [] ∨ ∃ b o, a = some ⟨b, o, none⟩ ∧ b < w.heap.size ∧ ∀ (i : Nat) (x : ByteArray), l[i]? = some x → w.cell? ⟨b, o + i, none⟩ = some (.string x))
theorem LsS.later {w w' : World} {v : Value} {l : List ByteArray} (h : LsS w v l) (hb : Below w.heap.size w w') : LsS w' v l := by
  obtain ⟨a, cap, rfl, h⟩ := h
  refine ⟨a, cap, rfl, h.imp id ?_⟩
  rintro ⟨b, o, rfl, hlt, hc⟩
  exact ⟨b, o, rfl, Nat.lt_of_lt_of_le hlt hb.size, fun i x hx => by
    rw [World.cell?_of_block (w := w) (a := ⟨b, _, none⟩) (hb.block b hlt)]; exact hc i x hx⟩
theorem OwS.ls {w : World} {base : Nat} {v : Value} {l : List ByteArray} (h : OwS w base v l) : LsS w v l := by
  obtain ⟨a, c, rfl⟩ := h.fm
  refine ⟨a, c, rfl, ?_⟩
  cases l with
  | nil => exact Or.inl rfl
  | cons x l =>
    obtain ⟨g, rfl, -, hg, -⟩ := row7_at (i := 0) h (u := .string x) rfl
    refine Or.inr ⟨g, 0, rfl, hg, fun i y hy => ?_⟩
    obtain ⟨g', e, -, -, hc, -⟩ := row7_at (i := i) h (u := .string y) (by rw [List.getElem?_map, hy]; rfl)
    cases e
    rw [Nat.zero_add]; exact hc
theorem LsS.at_ {w : World} {a : Option Addr} {n cap i : Nat} {l : List ByteArray} (h : LsS w (.slice a n cap) l) (hi : i < l.length) : ∃ x b o, a = some ⟨b, o, none⟩ ∧ l[i]? = some x ∧ w.cell? ⟨b, o + i, none⟩ = some (.string x) := by
  obtain ⟨a', cap', e, h⟩ := h
  simp only [Value.slice.injEq] at e
  obtain ⟨rfl, -, -⟩ := e
  rcases h with rfl | ⟨b, o, rfl, -, hc⟩
  · simp at hi
  · exact ⟨l[i], b, o, rfl, List.getElem?_eq_getElem hi, hc i _ (List.getElem?_eq_getElem hi)⟩
theorem LsS.fm {w : World} {v : Value} {l : List ByteArray} (h : LsS w v l) : ∃ a cap, v = .slice a l.length cap := by
  obtain ⟨a, cap, e, -⟩ := h; exact ⟨a, cap, e⟩
set_option maxRecDepth 20000 in
set_option maxHeartbeats 2000000 in
theorem textsL_any (l : List ByteArray) (v v' : Value) (w : World) (h : LsS w v l) (h' : LsS w v' l) (hl : l.length ≤ 9000000) : Calls Tryd.prog 20 #[v, v'] w fun e w' => e = .returned (.bool true) ∧ Below w.heap.size w w' := by
  have H := hm7 h
  have H' := hm7 h'
  obtain ⟨a, c, rfl⟩ := h.fm
  obtain ⟨a', c', rfl⟩ := h'.fm
  obtain ⟨N, hN⟩ : ∃ N, l.length = N := ⟨_, rfl⟩
  have HN := hm7 hN
  rw [hN] at hl H H' ⊢
  clear h h' hN
  go_enter Tryd.func20, Tryd.ntmps20
  go_upto_region 4 with (fail)
  go_loopg [5] N (fun gg i wr => ∃ j : Nat, j + gg = N ∧ i = .int .i64 j ∧ Below w.heap.size w wr)
  case atStart => exact ⟨0, by omega, rfl, Below.refl _ _⟩
  case round =>
    obtain ⟨j, hj, rfl, hb⟩ := hrel
    have HB := hm7 hb
    have x1 := (H.out.later hb).at_ (i := j)
    have x2 := (H'.out.later hb).at_ (i := j)
    clear hb
    cases gk with
    | succ gg =>
      have hlt : (j : Int) < (N : Int) := by omega
      have h0 : (0 : Int) ≤ (j : Int) := by omega
      obtain ⟨x, b, o, rfl, y1, y2⟩ := x1 (by have := HN.out; omega)
      obtain ⟨x', b', o', rfl, z1, z2⟩ := x2 (by have := HN.out; omega)
      rw [y1] at z1
      cases z1
      go_wp2
      go_quiet (fail)
      go_wp2
      go_roundg gg
      case measure => omega
      case rel => exact ⟨j + 1, by omega, by go_num, below_stepK HB.out (bdrewS _ _)⟩
    | zero =>
      have hlt : ¬ (j : Int) < (N : Int) := by omega
      clear x1 x2
      go_wp2
      go_ret
      exact ⟨rfl, HB.out⟩
end Go.Proofs.YtdfdnjkeiddfjaaDoor
/-
  script (stage 25): PLAIN: lines that are joined are cut again.
-/
namespace Go.Proofs.YtdfdnjkeiddfjaaDoor
open Go.RowKit

theorem at_bl {t : ByteArray} {i : Nat} {x : Int} (h : (blK t)[i]? = some x) : atK_ t i = x := by
  have hi := (List.getElem?_eq_some_iff.1 h).1
  have h2 := hi
  rw [bl_len] at h2
  have := bl_drop h2
  rw [List.drop_eq_getElem_cons hi] at this
  rw [← (List.cons.inj this).1]
  rw [List.getElem?_eq_getElem hi] at h
  exact Option.some.inj h
/-- Lines, a line feed behind each. -/
def jlS (l : List ByteArray) : List Int := l.flatMap fun s => blK s ++ [10]
theorem jlS_cons (s : ByteArray) (l : List ByteArray) : jlS (s :: l) = blK s ++ 10 :: jlS l := by simp [jlS]
theorem jlS_app (l m : List ByteArray) : jlS (l ++ m) = jlS l ++ jlS m := by simp [jlS]
theorem lnF_run (t : ByteArray) (A S B : List Int) (h : blK t = A ++ (S ++ B)) (hs : ∀ x ∈ S, x ≠ 10) (D : List ByteArray) (h0 : lnF t A.length = (D, A.length)) : ∀ i, i ≤ S.length → lnF t (A.length + i) = (D, A.length)
  | 0, _ => h0
  | i + 1, hi => by
    have ih := lnF_run t A S B h hs D h0 i (by omega)
    have hx : (blK t)[A.length + i]? = some S[i] := by
      rw [h, List.getElem?_append_right (by omega), Nat.add_sub_cancel_left, List.getElem?_append_left (by omega), List.getElem?_eq_getElem (by omega)]
    show (if atK_ t (A.length + i) = 10 then _ else lnF t (A.length + i)) = _
    rw [at_bl hx, if_neg (hs _ (List.getElem_mem _)), ih]
theorem lnF_line (t : ByteArray) (A S B : List Int) (h : blK t = A ++ (S ++ 10 :: B)) (hs : ∀ x ∈ S, x ≠ 10) (D : List ByteArray) (h0 : lnF t A.length = (D, A.length)) : lnF t (A.length + (S.length + 1)) = (D ++ [ofL S], A.length + (S.length + 1)) := by
  have h1 := lnF_run t A S (10 :: B) h hs D h0 S.length (Nat.le_refl _)
  have hx : (blK t)[A.length + S.length]? = some 10 := by
    rw [h, List.getElem?_append_right (by omega), Nat.add_sub_cancel_left, List.getElem?_append_right (by omega), Nat.sub_self]
    rfl
  show (if atK_ t (A.length + S.length) = 10 then ((lnF t (A.length + S.length)).1 ++ [t.extract (lnF t (A.length + S.length)).2 (A.length + S.length)], A.length + S.length + 1) else _) = _
  rw [at_bl hx, if_pos rfl, h1]
  simp only
  rw [extract_eq, h, List.drop_left, Nat.add_sub_cancel_left, List.take_left, Nat.add_assoc]
theorem lnF_all (t : ByteArray) (B : List Int) : ∀ (l : List ByteArray) (A : List Int) (D : List ByteArray), blK t = A ++ (jlS l ++ B) → (∀ s ∈ l, ∀ x ∈ blK s, x ≠ 10) → lnF t A.length = (D, A.length) → lnF t (A.length + (jlS l).length) = (D ++ l, A.length + (jlS l).length)
  | [], A, D, _, _, h0 => by simpa [jlS] using h0
  | s :: l, A, D, h, hs, h0 => by
    rw [jlS_cons] at h
    simp only [List.append_assoc, List.cons_append] at h
    have h1 := lnF_line t A (blK s) (jlS l ++ B) h (hs s (List.mem_cons_self ..)) D h0
    have hl : (A ++ (blK s ++ [10])).length = A.length + ((blK s).length + 1) := by simp
    have h2 := lnF_all t B l (A ++ (blK s ++ [10])) (D ++ [ofL (blK s)]) (by rw [h]; simp) (fun r hr => hs r (List.mem_cons_of_mem _ hr)) (by rw [hl]; exact h1)
    rw [hl, ofL_bl] at h2
    have e : A.length + (jlS (s :: l)).length = A.length + ((blK s).length + 1) + (jlS l).length := by rw [jlS_cons]; simp; omega
    rw [e, h2, List.append_assoc]
    rfl
/-- Lines without line feeds, joined by them, are cut again. -/
theorem ln_join {t : ByteArray} {l : List ByteArray} (h : blK t = jlS l) (hs : ∀ s ∈ l, ∀ x ∈ blK s, x ≠ 10) : lnS t = l := by
  have h1 := lnF_all t [] l [] [] (by simpa using h) hs rfl
  simp only [List.length_nil, Nat.zero_add, List.nil_append] at h1
  have hz : t.size = (jlS l).length := by rw [← bl_len, h]
  unfold lnS
  rw [hz, h1]
  simp
/-- With no line feed behind the last one, it is the same, unless that one is empty. -/
theorem ln_joinCut {t s : ByteArray} {l : List ByteArray} (h : blK t = jlS l ++ blK s) (hs : ∀ s ∈ l, ∀ x ∈ blK s, x ≠ 10) (hn : ∀ x ∈ blK s, x ≠ 10) (h0 : s.size ≠ 0) : lnS t = l ++ [s] := by
  have h1 := lnF_all t (blK s) l [] [] (by simpa using h) hs rfl
  simp only [List.length_nil, Nat.zero_add, List.nil_append] at h1
  have h2 := lnF_run t (jlS l) (blK s) [] (by simpa using h) hn l h1 s.size (by rw [bl_len]; exact Nat.le_refl _)
  have hz : t.size = (jlS l).length + s.size := by rw [← bl_len, h, List.length_append, bl_len]
  unfold lnS
  rw [hz, h2]
  simp only
  rw [if_pos (by omega), extract_eq, h, List.drop_left, Nat.add_sub_cancel_left, ← bl_len, List.take_length, ofL_bl]
end Go.Proofs.YtdfdnjkeiddfjaaDoor
