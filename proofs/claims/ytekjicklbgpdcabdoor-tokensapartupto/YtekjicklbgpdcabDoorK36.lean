/-
  Arguments opened: a list of tokens.
-/
import Derived.Test.YtekjicklbgpdcabDoorK34
import Derived.Test.YtekjicklbgpdcabDoorRows
import Derived.Deep.Slices
import Derived.Deep.Strs
namespace Go.Proofs.YtekjicklbgpdcabDoor
open Go.ChangeShapes Go.WideShapes Go.ChangeAt Go.RowKit Go.Deep

theorem trod_struct5 {H : Type} {enc : TypeId × Value → H} {P : Program} {w : World} {base : Nat} {spare : Nat → Bool} {held : Bool} {t : TypeId} {f0 f1 f2 f3 f4 : Field} {fuel : Nat} {cs : List Value} {x : DataW H × List MemPlace} (ht : P.underlying t = some (.struct #[f0, f1, f2, f3, f4])) (h : DataW.trod enc P w base spare held fuel t cs = some x) :
    ∃ y0 y1 y2 y3 y4 n, x.1 = .agg [y0.1, y1.1, y2.1, y3.1, y4.1] ∧ DataW.trod enc P w base spare held n f0.type ((cs.drop f0.offset).take (P.cellsOf f0.type)) = some y0 ∧
      DataW.trod enc P w base spare held n f1.type ((cs.drop f1.offset).take (P.cellsOf f1.type)) = some y1 ∧ DataW.trod enc P w base spare held n f2.type ((cs.drop f2.offset).take (P.cellsOf f2.type)) = some y2 ∧
      DataW.trod enc P w base spare held n f3.type ((cs.drop f3.offset).take (P.cellsOf f3.type)) = some y3 ∧ DataW.trod enc P w base spare held n f4.type ((cs.drop f4.offset).take (P.cellsOf f4.type)) = some y4 := by
  obtain ⟨xs, n, _, rfl, hl, hlen, hf⟩ := DataW.trod_struct ht h
  match xs, hlen with
  | [y0, y1, y2, y3, y4], _ => exact ⟨y0, y1, y2, y3, y4, n, by simp, by simpa using hf 0 f0 rfl, by simpa using hf 1 f1 rfl, by simpa using hf 2 f2 rfl, by simpa using hf 3 f3 rfl, by simpa using hf 4 f4 rfl⟩
theorem klist5 {α : Type} {l : List α} (h : l.length = 5) : ∃ a b c d e, l = [a, b, c, d, e] := by
  match l, h with
  | [a, b, c, d, e], _ => exact ⟨a, b, c, d, e, rfl⟩
theorem Tryd.kcellsInt : Tryd.prog.cellsOf 3 = 1 := by kernel_rfl
theorem Tryd.kcellsString : Tryd.prog.cellsOf 9 = 1 := by kernel_rfl
theorem Tryd.kcellsTok : Tryd.prog.cellsOf 37 = 5 := by kernel_rfl
theorem tok_of_cells {H : Type} {enc : TypeId × Value → H} {W : World} {base : Nat} {spare : Nat → Bool} {held : Bool} {fuel : Nat} {cs : List Value} {x : DataW H × List MemPlace}
    (h : DataW.trod enc Tryd.prog W base spare held fuel 37 cs = some x) (hl : cs.length = 5) : ∃ t : Tk, cs = [.int .i64 t.k, .string t.x, .int .i64 t.n, .int .i64 t.a, .int .i64 t.e] ∧ (-9223372036854775808 ≤ t.n ∧ t.n ≤ 9223372036854775807) ∧ Rows.uptoBulk x.1 = t.x.size + 6 := by
  obtain ⟨c0, c1, c2, c3, c4, rfl⟩ := klist5 hl
  obtain ⟨y0, y1, y2, y3, y4, n, hx, h0, h1, h2, h3, h4⟩ := trod_struct5 Tryd.underlying37 h
  rw [Tryd.kcellsInt] at h0 h2 h3 h4
  rw [Tryd.kcellsString] at h1
  obtain ⟨k, e0, f0, -⟩ := DataW.trod_int Tryd.underlying3 h0
  obtain ⟨s, e1, f1, -⟩ := DataW.trod_string Tryd.underlying9 h1
  obtain ⟨m, e2, f2, hm⟩ := DataW.trod_int Tryd.underlying3 h2
  obtain ⟨a, e3, f3, -⟩ := DataW.trod_int Tryd.underlying3 h3
  obtain ⟨b, e4, f4, -⟩ := DataW.trod_int Tryd.underlying3 h4
  simp at e0 e1 e2 e3 e4
  subst e0 e1 e2 e3 e4
  simp only [Lit.wf, Bool.and_eq_true, decide_eq_true_eq] at hm
  refine ⟨⟨k, s, m, a, b⟩, rfl, hm, ?_⟩
  rw [hx, f0, f1, f2, f3, f4]
  simp only [Rows.uptoBulk, Rows.uptoBulkAll, Array.length_toList]
  have : s.size = s.data.size := rfl
  omega
theorem bulkAll_sum {H : Type} (l : List (DataW H)) : Rows.uptoBulkAll l = (l.map Rows.uptoBulk).sum := by
  induction l with
  | nil => simp [Rows.uptoBulkAll]
  | cons d r ih => simp only [Rows.uptoBulkAll, ih, List.map_cons, List.sum_cons]
/-- A list of tokens, with how much there is of it. -/
theorem open_toks {H : Type} {enc : TypeId × Value → H} {W : World} {base : Nat} {spare : Nat → Bool} {held : Bool} {fuel : Nat} {cs : List Value} {x : DataW H × List MemPlace}
    (h : DataW.trod enc Tryd.prog W base spare held fuel 22 cs = some x) (hbk : Rows.uptoBulk x.1 ≤ 1048576) : ∃ v l, cs = [v] ∧ KsO W v l ∧ (∀ t ∈ l, -9223372036854775808 ≤ t.n ∧ t.n ≤ 9223372036854775807) ∧ (l.map fun t => t.x.size + 6).sum ≤ 1048576 := by
  rcases open_slice Tryd.underlying22 h with ⟨rfl, -⟩ | ⟨a, len, cap, m, n, D, Pl, rfl, hba, hlc, hcm, hm, hx, hel⟩
  · exact ⟨_, [], rfl, Or.inl ⟨rfl, rfl⟩, by simp, by simp⟩
  · rw [Tryd.kcellsTok] at hel
    have hlm : len ≤ m := by rw [hm]; split <;> omega
    have key : ∀ i : Nat, ∃ t : Tk, i < len → (W.cell? (a.add (i * 5)) = some (.int .i64 t.k) ∧ W.cell? ((a.add (i * 5)).add 1) = some (.string t.x) ∧ W.cell? ((a.add (i * 5)).add 2) = some (.int .i64 t.n) ∧ W.cell? ((a.add (i * 5)).add 3) = some (.int .i64 t.a) ∧ W.cell? ((a.add (i * 5)).add 4) = some (.int .i64 t.e)) ∧ (-9223372036854775808 ≤ t.n ∧ t.n ≤ 9223372036854775807) ∧ Rows.uptoBulk (D i) = t.x.size + 6 := fun i => by
      by_cases hi : i < len
      · obtain ⟨cs', h1, h2⟩ := hel i (by omega)
        obtain ⟨-, hl, hc⟩ := World.cells?_some h1
        obtain ⟨t, rfl, hn, hb⟩ := tok_of_cells h2 hl
        exact ⟨t, fun _ => ⟨⟨hc 0 (by omega), hc 1 (by omega), hc 2 (by omega), hc 3 (by omega), hc 4 (by omega)⟩, hn, hb⟩⟩
      · exact ⟨⟨0, ⟨#[]⟩, 0, 0, 0⟩, fun h => absurd h hi⟩
    obtain ⟨f, hf⟩ := Classical.axiomOfChoice key
    have hsum : (((List.range len).map f).map fun t => t.x.size + 6).sum ≤ 1048576 := by
      have e : ((List.range len).map f).map (fun t => t.x.size + 6) = ((List.range len).map D).map Rows.uptoBulk := by
        rw [List.map_map, List.map_map]
        refine List.map_congr_left fun i hi => ?_
        exact (hf i (List.mem_range.1 hi)).2.2.symm
      rw [e, ← bulkAll_sum]
      rw [hx] at hbk
      simp only [Rows.uptoBulk] at hbk
      omega
    have hll : ∀ (l : List Tk), l.length ≤ (l.map fun t => t.x.size + 6).sum := fun l => by
      induction l with
      | nil => simp
      | cons t l ih => simp only [List.length_cons, List.map_cons, List.sum_cons]; omega
    have hlen := hll ((List.range len).map f)
    have hlr : ((List.range len).map f).length = len := by simp
    refine ⟨_, (List.range len).map f, rfl, Or.inr ⟨a, cap, by rw [hlr], by omega, ?_⟩, fun t ht => by
      obtain ⟨i, hi, rfl⟩ := List.mem_map.1 ht
      exact (hf i (List.mem_range.1 hi)).2.1, hsum⟩
    rcases Nat.eq_zero_or_pos len with h0 | h0
    · left; subst h0; rfl
    · right
      obtain ⟨b, off, spot⟩ := a
      have hspot : spot = none := by simpa [Addr.add] using World.cell?_spot (hf 0 h0).1.1
      subst hspot
      refine ⟨b, off, rfl, ?_, fun i t ht => ?_⟩
      · exact World.block_lt_of_cell? W _ (by have := (hf 0 h0).1.1; simpa [Addr.add] using this)
      · have hi : i < len := by have := (List.getElem?_eq_some_iff.1 ht).1; simpa using this
        have e : t = f i := by
          rw [List.getElem?_map, List.getElem?_range hi] at ht; simpa using ht.symm
        subst e
        have := (hf i hi).1
        simp only [Addr.add_mid] at this
        exact this
theorem toks_ok {l : List Tk} (h : ∀ t ∈ l, -9223372036854775808 ≤ t.n ∧ t.n ≤ 9223372036854775807) (hs : (l.map fun t => t.x.size + 6).sum ≤ 1048576) : (∀ t ∈ l, okt t) ∧ wts l ≤ 6291456 ∧ l.length ≤ 174762 := by
  have h1 : ∀ (l : List Tk), wts l ≤ 6 * (l.map fun t => t.x.size + 6).sum ∧ 6 * l.length ≤ (l.map fun t => t.x.size + 6).sum ∧ ∀ t ∈ l, t.x.size ≤ (l.map fun t => t.x.size + 6).sum := fun l => by
    induction l with
    | nil => simp [wts]
    | cons t l ih =>
      simp only [wts, wt, List.map_cons, List.sum_cons, List.length_cons] at ih ⊢
      refine ⟨by omega, by omega, fun u hu => ?_⟩
      rcases List.mem_cons.1 hu with rfl | hu
      · omega
      · have := ih.2.2 u hu; omega
  obtain ⟨a, b, c⟩ := h1 l
  exact ⟨fun t ht => ⟨by have := c t ht; omega, (h t ht).1, (h t ht).2⟩, by omega, by omega⟩
end Go.Proofs.YtekjicklbgpdcabDoor
