/-
  Arguments opened: a binding, a list of terms, an atom; the variables late and mark.
-/
import Derived.Test.YtnaiecemmhioeaaDoorR1
import Derived.Test.YtnaiecemmhioeaaDoorRows
import Derived.Test.YtnaiecemmhioeaaDoorT5
import Derived.Test.YtnaiecemmhioeaaDoorL1
import Derived.Deep.Slices
import Derived.Deep.Strs
import Derived.SizedLaws
import Derived.LaidMore
import Derived.Stop.Joined
namespace Go.Proofs.YtnaiecemmhioeaaDoor
open Go.ChangeShapes Go.WideShapes Go.ChangeAt Go.RowKit Go.Joins Go.Deep

theorem bulk_pos {H : Type} (d : DataW H) : 1 ≤ Rows.uptoBulk d := by
  cases d with
  | lit l => cases l <;> simp [Rows.uptoBulk]
  | _ => simp [Rows.uptoBulk]
theorem bulk_len {H : Type} (l : List (DataW H)) : l.length ≤ Rows.uptoBulkAll l := by
  induction l with
  | nil => simp
  | cons d r ih => have := bulk_pos d; simp only [Rows.uptoBulkAll, List.length_cons]; omega
theorem bulk_slice {H : Type} (l r : List (DataW H)) : l.length ≤ Rows.uptoBulk (.slice l r) := by
  have := bulk_len l; simp only [Rows.uptoBulk]; omega
theorem Tryd.cellsAtom : Tryd.prog.cellsOf 26 = 5 := by kernel_rfl
theorem Tryd.cellsTerms : Tryd.prog.cellsOf 24 = 1 := by kernel_rfl
theorem Tryd.bytesTerm : Tryd.prog.bytesOf 23 = 32 := by kernel_rfl
theorem list5 {α : Type} {l : List α} (h : l.length = 5) : ∃ a b c d e, l = [a, b, c, d, e] := by
  match l, h with
  | [a, b, c, d, e], _ => exact ⟨a, b, c, d, e, rfl⟩
theorem Tryd.cellsInt : Tryd.prog.cellsOf 3 = 1 := by kernel_rfl
theorem Tryd.cellsString : Tryd.prog.cellsOf 9 = 1 := by kernel_rfl
theorem Tryd.cellsBind : Tryd.prog.cellsOf 43 = 4 := by kernel_rfl
theorem Tryd.bytesBind : Tryd.prog.bytesOf 43 = 40 := by kernel_rfl
theorem list3 {α : Type} {l : List α} (h : l.length = 3) : ∃ a b c, l = [a, b, c] := by
  match l, h with
  | [a, b, c], _ => exact ⟨a, b, c, rfl⟩
theorem list4 {α : Type} {l : List α} (h : l.length = 4) : ∃ a b c d, l = [a, b, c, d] := by
  match l, h with
  | [a, b, c, d], _ => exact ⟨a, b, c, d, rfl⟩
theorem term_of_cells {H : Type} {enc : TypeId × Value → H} {W : World} {base : Nat} {spare : Nat → Bool} {held : Bool} {fuel : Nat} {cs : List Value} {x : DataW H × List MemPlace}
    (h : DataW.trod enc Tryd.prog W base spare held fuel 23 cs = some x) (hl : cs.length = 3) : ∃ t : Tm, cs = [.int .i64 t.k, .int .i64 t.n, .string t.s] ∧ t.s.size ≤ maxLen ∧ x.1 = .agg [.lit (.int .i64 t.k), .lit (.int .i64 t.n), .lit (.string t.s.data.toList)] := by
  obtain ⟨c0, c1, c2, rfl⟩ := list3 hl
  obtain ⟨y0, y1, y2, n, hx, -, h0, h1, h2⟩ := trod_struct3 Tryd.underlying23 h
  rw [Tryd.cellsInt] at h0 h1
  rw [Tryd.cellsString] at h2
  obtain ⟨k, e0, f0, -⟩ := DataW.trod_int Tryd.underlying3 h0
  obtain ⟨m, e1, f1, -⟩ := DataW.trod_int Tryd.underlying3 h1
  obtain ⟨s, e2, f2, hs⟩ := DataW.trod_string Tryd.underlying9 h2
  simp at e0 e1 e2
  subst e0 e1 e2
  refine ⟨⟨k, m, s⟩, rfl, hs, ?_⟩
  rw [hx, f0, f1, f2]
theorem bind_of_cells {H : Type} {enc : TypeId × Value → H} {W : World} {base : Nat} {spare : Nat → Bool} {held : Bool} {fuel : Nat} {cs : List Value} {x : DataW H × List MemPlace}
    (h : DataW.trod enc Tryd.prog W base spare held fuel 43 cs = some x) (hl : cs.length = 4) : ∃ d : Bd, cs = d.cs ∧ d.to.s.size ≤ maxLen ∧ x.1 = .agg [.lit (.int .i64 d.x), .agg [.lit (.int .i64 d.to.k), .lit (.int .i64 d.to.n), .lit (.string d.to.s.data.toList)]] := by
  obtain ⟨c0, c1, c2, c3, rfl⟩ := list4 hl
  obtain ⟨y0, y1, n, hx, -, h0, h1⟩ := trod_struct2 Tryd.underlying43 h
  rw [Tryd.cellsInt] at h0
  rw [Tryd.cellsTerm] at h1
  obtain ⟨k, e0, f0, -⟩ := DataW.trod_int Tryd.underlying3 h0
  obtain ⟨t, e1, hts, f1⟩ := term_of_cells h1 (by simp)
  simp at e0 e1
  subst e0
  obtain ⟨rfl, rfl, rfl⟩ := e1
  refine ⟨⟨k, t⟩, rfl, hts, ?_⟩
  rw [hx, f0]
  simp only [f1]
theorem open_binds {H : Type} {enc : TypeId × Value → H} {W : World} {base : Nat} {spare : Nat → Bool} {held : Bool} {fuel : Nat} {cs : List Value} {x : DataW H × List MemPlace}
    (h : DataW.trod enc Tryd.prog W base spare held fuel 28 cs = some x) (hw : ∀ n ∈ x.1.weights Tryd.prog 28, n ≤ reachBytes) : ∃ v l, cs = [v] ∧ BsO W v l ∧ (∀ d ∈ l, d.to.s.size ≤ maxLen) ∧ l.length ≤ Rows.uptoBulk x.1 := by
  rcases open_slice Tryd.underlying28 h with ⟨rfl, -⟩ | ⟨a, len, cap, m, n, D, Pl, rfl, hba, hlc, hcm, hm, hx, hel⟩
  · exact ⟨_, [], rfl, Or.inl ⟨rfl, rfl⟩, by simp, by simp⟩
  · have hlen : len * 40 ≤ 140737488351232 := by
      have := hw ((((List.range len).map D).length + ((List.range (m - len)).map fun j => D (len + j)).length) * Tryd.prog.bytesOf 43) (by rw [hx]; simp [DataW.weights, Tryd.underlying28])
      rw [Tryd.bytesBind] at this
      simp only [List.length_map, List.length_range, reachBytes] at this
      omega
    rw [Tryd.cellsBind] at hel
    have hlm : len ≤ m := by rw [hm]; split <;> omega
    have key : ∀ i : Nat, ∃ t : Bd, i < len → W.cell? (a.add (i * 4)) = some (.int .i64 t.x) ∧ W.cell? ((a.add (i * 4)).add 1) = some (.int .i64 t.to.k) ∧ W.cell? ((a.add (i * 4)).add 2) = some (.int .i64 t.to.n) ∧ W.cell? ((a.add (i * 4)).add 3) = some (.string t.to.s) ∧ t.to.s.size ≤ maxLen := fun i => by
      by_cases hi : i < len
      · obtain ⟨cs', h1, h2⟩ := hel i (by omega)
        obtain ⟨-, hl, hc⟩ := World.cells?_some h1
        obtain ⟨t, rfl, hts, -⟩ := bind_of_cells h2 hl
        exact ⟨t, fun _ => ⟨hc 0 (by omega), hc 1 (by omega), hc 2 (by omega), hc 3 (by omega), hts⟩⟩
      · exact ⟨late, fun h => absurd h hi⟩
    obtain ⟨f, hf⟩ := Classical.axiomOfChoice key
    refine ⟨_, (List.range len).map f, rfl, Or.inr ⟨a, cap, by simp, by simpa using hlen, ?_⟩, fun t ht => by
      obtain ⟨i, hi, rfl⟩ := List.mem_map.1 ht
      exact (hf i (List.mem_range.1 hi)).2.2.2.2, by rw [hx]; simpa using bulk_slice ((List.range len).map D) _⟩
    rcases Nat.eq_zero_or_pos len with h0 | h0
    · left; subst h0; rfl
    · right
      obtain ⟨b, off, spot⟩ := a
      have hspot : spot = none := by simpa [Addr.add] using World.cell?_spot (hf 0 h0).1
      subst hspot
      refine ⟨b, off, rfl, ?_, fun i t ht => ?_⟩
      · exact World.block_lt_of_cell? W _ (by have := (hf 0 h0).1; simpa [Addr.add] using this)
      · have hi : i < len := by have := (List.getElem?_eq_some_iff.1 ht).1; simpa using this
        have e : t = f i := by
          rw [List.getElem?_map, List.getElem?_range hi] at ht; simpa using ht.symm
        subst e
        have := hf i hi
        rw [add_plain, add_plain, add_plain, add_plain] at this
        exact ⟨this.1, this.2.1, this.2.2.1, this.2.2.2.1⟩
theorem open_terms {H : Type} {enc : TypeId × Value → H} {W : World} {base : Nat} {spare : Nat → Bool} {held : Bool} {fuel : Nat} {cs : List Value} {x : DataW H × List MemPlace}
    (h : DataW.trod enc Tryd.prog W base spare held fuel 24 cs = some x) (hw : ∀ n ∈ x.1.weights Tryd.prog 24, n ≤ reachBytes) : ∃ v l, cs = [v] ∧ TsO W v l ∧ (∀ t ∈ l, t.s.size ≤ maxLen) ∧ l.length ≤ Rows.uptoBulk x.1 := by
  rcases open_slice Tryd.underlying24 h with ⟨rfl, -⟩ | ⟨a, len, cap, m, n, D, Pl, rfl, hba, hlc, hcm, hm, hx, hel⟩
  · exact ⟨_, [], rfl, Or.inl ⟨rfl, rfl⟩, by simp, by simp⟩
  · have hlen : len * 32 ≤ 140737488351232 := by
      have := hw ((((List.range len).map D).length + ((List.range (m - len)).map fun j => D (len + j)).length) * Tryd.prog.bytesOf 23) (by rw [hx]; simp [DataW.weights, Tryd.underlying24])
      rw [Tryd.bytesTerm] at this
      simp only [List.length_map, List.length_range, reachBytes] at this
      omega
    rw [Tryd.cellsTerm] at hel
    have hlm : len ≤ m := by rw [hm]; split <;> omega
    have key : ∀ i : Nat, ∃ t : Tm, i < len → W.cell? (a.add (i * 3)) = some (.int .i64 t.k) ∧ W.cell? ((a.add (i * 3)).add 1) = some (.int .i64 t.n) ∧ W.cell? ((a.add (i * 3)).add 2) = some (.string t.s) ∧ t.s.size ≤ maxLen := fun i => by
      by_cases hi : i < len
      · obtain ⟨cs', h1, h2⟩ := hel i (by omega)
        obtain ⟨-, hl, hc⟩ := World.cells?_some h1
        obtain ⟨t, rfl, hts, -⟩ := term_of_cells h2 hl
        exact ⟨t, fun _ => ⟨hc 0 (by omega), hc 1 (by omega), hc 2 (by omega), hts⟩⟩
      · exact ⟨zt, fun h => absurd h hi⟩
    obtain ⟨f, hf⟩ := Classical.axiomOfChoice key
    refine ⟨_, (List.range len).map f, rfl, Or.inr ⟨a, cap, by simp, by simpa using hlen, ?_⟩, fun t ht => by
      obtain ⟨i, hi, rfl⟩ := List.mem_map.1 ht
      exact (hf i (List.mem_range.1 hi)).2.2.2, by rw [hx]; simpa using bulk_slice ((List.range len).map D) _⟩
    rcases Nat.eq_zero_or_pos len with h0 | h0
    · left; subst h0; rfl
    · right
      obtain ⟨b, off, spot⟩ := a
      have hspot : spot = none := by simpa [Addr.add] using World.cell?_spot (hf 0 h0).1
      subst hspot
      refine ⟨b, off, rfl, ?_, fun i t ht => ?_⟩
      · exact World.block_lt_of_cell? W _ (by have := (hf 0 h0).1; simpa [Addr.add] using this)
      · have hi : i < len := by have := (List.getElem?_eq_some_iff.1 ht).1; simpa using this
        have e : t = f i := by
          rw [List.getElem?_map, List.getElem?_range hi] at ht; simpa using ht.symm
        subst e
        have := hf i hi
        rw [add_plain, add_plain, add_plain] at this
        exact ⟨this.1, this.2.1, this.2.2.1⟩
set_option maxRecDepth 100000 in
theorem open_atom {H : Type} {enc : TypeId × Value → H} {W : World} {r : Reach} {b0 base : Nat} {spare : Nat → Bool} {held : Bool} {v : Value} {d : DataW H} {p : List MemPlace}
    (hv : Value.okWide Tryd.prog W r b0 26 v) (h : DataW.Trod enc Tryd.prog W base spare held 26 v d p) (hw : ∀ n ∈ d.weights Tryd.prog 26, n ≤ reachBytes) : ∃ (a : At) (x : Value), v = a.v x ∧ TsO W x a.args ∧ (∀ t ∈ a.pl, t.s.size ≤ maxLen) ∧ a.name.size ≤ maxLen ∧ a.args.length ≤ Rows.uptoBulk d := by
  obtain ⟨cs, rfl, hsz⟩ := okWide_struct Tryd.underlying26 hv
  rw [Tryd.cellsAtom] at hsz
  obtain ⟨fuel, hf⟩ := h
  obtain ⟨l⟩ := cs
  obtain ⟨c0, c1, c2, c3, c4, rfl⟩ := list5 (by simpa using hsz)
  obtain ⟨y0, y1, y2, n, hd, -, h0, h1, h2⟩ := trod_struct3 Tryd.underlying26 hf
  rw [Tryd.cellsTerm] at h0
  rw [Tryd.cellsString] at h1
  rw [Tryd.cellsTerms] at h2
  obtain ⟨t, e0, ht, -⟩ := term_of_cells h0 (by simp [Value.cells])
  obtain ⟨s, e1, -, hs⟩ := DataW.trod_string Tryd.underlying9 h1
  obtain ⟨x, l, e2, hx, hxs, hbk⟩ := open_terms h2 (fun m hm => by
    simp only [Prod.mk.injEq] at hd
    refine hw m ?_
    rw [hd.1, DataW.weights, Tryd.underlying26]
    exact DataW.weights_mem_each (j := 2) rfl rfl m hm)
  simp [Value.cells] at e0 e1 e2
  obtain ⟨rfl, rfl, rfl⟩ := e0
  subst e1 e2
  refine ⟨⟨t, s, l⟩, c4, rfl, hx, fun u hu => ?_, hs, ?_⟩
  · rcases List.mem_cons.1 hu with rfl | hu
    · exact ht
    · exact hxs u hu
  · simp only [Prod.mk.injEq] at hd
    rw [hd.1]
    simp only [Rows.uptoBulk, Rows.uptoBulkAll]
    try simp only at hbk ⊢
    omega
theorem Tryd.gLate : Tryd.prog.globalNamed "hearsay/hearsaylaw02.late" = some 1 := by kernel_rfl
theorem Tryd.tLate : (Tryd.prog.globals[1]?).map (·.type) = some 43 := by kernel_rfl
theorem Tryd.gMark : Tryd.prog.globalNamed "hearsay/hearsaylaw02.mark" = some 0 := by kernel_rfl
theorem Tryd.tMark : (Tryd.prog.globals[0]?).map (·.type) = some 23 := by kernel_rfl
set_option maxRecDepth 100000 in
theorem marks_of_laid {W : World} (h : laidMetH Tryd.prog [("hearsay/hearsaylaw02.mark", Rows.laid_hearsay_hearsaylaw02_mark), ("hearsay/hearsaylaw02.late", Rows.laid_hearsay_hearsaylaw02_late)] W) : MarkOk W ∧ LateOk W := by
  rw [MakeChecks.laidMetH_plain _ _ _ (by kernel_rfl)] at h
  obtain ⟨ps, ⟨g1, t1, cs1, f1, p1, q1, hg1, ht1, hv1, hd1, ⟨g0, t0, cs0, f0, p0, q0, hg0, ht0, hv0, hd0, _, _⟩, _⟩, _, _⟩ := h
  obtain rfl := Option.some.inj (Tryd.gLate.symm.trans hg0)
  obtain rfl := Option.some.inj (Tryd.tLate.symm.trans ht0)
  obtain rfl := Option.some.inj (Tryd.gMark.symm.trans hg1)
  obtain rfl := Option.some.inj (Tryd.tMark.symm.trans ht1)
  refine ⟨?_, ?_⟩
  · obtain ⟨y0, y1, y2, n, -, hl, -, -, -⟩ := trod_struct3 Tryd.underlying23 hd1
    rw [Tryd.cellsTerm] at hl
    obtain ⟨d, e, -, hx⟩ := term_of_cells hd1 hl
    have hc : ∀ i, W.cell? ⟨0, i, none⟩ = d.cs[i]? := fun i => by
      have := World.var?_cell hg1 hv1 i
      rw [Tm.cs, ← e]; simpa using this
    simp only [Rows.laid_hearsay_hearsaylaw02_mark, DataW.agg.injEq, List.cons.injEq, DataW.lit.injEq, Lit.int.injEq, Lit.string.injEq, true_and, and_true] at hx
    have hs : d.s = ⟨#[109, 97, 114, 107]⟩ := ByteArray.ext (Array.toList_inj.1 hx.2.2.symm)
    have h0 := hc 0; have h1 := hc 1; have h2 := hc 2
    simp only [Tm.cs, ← hx.1, ← hx.2.1, hs] at h0 h1 h2
    exact ⟨World.block_lt_of_cell? W _ h0, h0, h1, h2⟩
  · obtain ⟨y0, y1, n, -, hl, -, -⟩ := trod_struct2 Tryd.underlying43 hd0
    rw [Tryd.cellsBind] at hl
    obtain ⟨d, e, -, hx⟩ := bind_of_cells hd0 hl
    have hc : ∀ i, W.cell? ⟨1, i, none⟩ = d.cs[i]? := fun i => by
      have := World.var?_cell hg0 hv0 i
      rw [← e]; simpa using this
    simp only [Rows.laid_hearsay_hearsaylaw02_late, DataW.agg.injEq, List.cons.injEq, DataW.lit.injEq, Lit.int.injEq, Lit.string.injEq, true_and, and_true] at hx
    have hs : d.to.s = ⟨#[108, 97, 116, 101]⟩ := ByteArray.ext (Array.toList_inj.1 hx.2.2.2.symm)
    have h0 := hc 0; have h1 := hc 1; have h2 := hc 2; have h3 := hc 3
    simp only [Bd.cs, ← hx.1, ← hx.2.1, ← hx.2.2.1, hs] at h0 h1 h2 h3
    exact ⟨World.block_lt_of_cell? W _ h0, h0, h1, h2, h3⟩
end Go.Proofs.YtnaiecemmhioeaaDoor
