/-
  Arguments opened: bytes, an atom; the variable behindTerm alone.
-/
import Derived.Test.YtjnipcakjoiplaaDoorCF2
import Derived.Test.YtjnipcakjoiplaaDoorCK2
namespace Go.Proofs.YtjnipcakjoiplaaDoor
open Go.ChangeShapes Go.WideShapes Go.ChangeAt Go.RowKit Go.Joins Go.Deep

theorem Tryd.cellsU8 : Tryd.prog.cellsOf 5 = 1 := by kernel_rfl
theorem bulk_one {H : Type} (d : DataW H) : 0 < Rows.uptoBulk d := by
  cases d with
  | lit l => cases l <;> simp [Rows.uptoBulk]
  | _ => simp [Rows.uptoBulk]
theorem bulk_many {H : Type} (l : List (DataW H)) : l.length ≤ Rows.uptoBulkAll l := by
  induction l with
  | nil => simp
  | cons d r ih => have := bulk_one d; simp only [Rows.uptoBulkAll, List.length_cons]; omega
theorem open_bytes8 {H : Type} {enc : TypeId × Value → H} {W : World} {base fuel : Nat} {spare : Nat → Bool} {held : Bool} {a0 : Option Addr} {len cap : Nat} {d : DataW H} {p : List MemPlace}
    (h : DataW.trod enc Tryd.prog W base spare held fuel 27 (Value.slice a0 len cap).cells.toList = some (d, p)) (hk : Rows.uptoBulk d ≤ 1048576) : ∃ l, Br W (.slice a0 len cap) l ∧ l.length ≤ 1048576 := by
  rcases open_ints Tryd.underlying27 Tryd.underlying5 Tryd.cellsU8 h with ⟨hcs, -⟩ | ⟨a, n, c, zs, hcs, -, hl, -, hzl, hx, hcell, hwf⟩
  · simp [Value.cells] at hcs
    obtain ⟨rfl, rfl, rfl⟩ := hcs
    exact ⟨[], ⟨fun x hx => by simp at hx, none, 0, rfl, Nat.le_refl _, by simp, fun _ => rfl, Or.inl rfl⟩, by simp⟩
  · simp [Value.cells] at hcs
    obtain ⟨rfl, rfl, rfl⟩ := hcs
    have hz : len ≤ zs.length := by rw [hzl]; split <;> omega
    have htl : (zs.take len).length = len := by rw [List.length_take]; omega
    have hlb : len ≤ 1048576 := by
      have e : d = .slice (lits .u8 (zs.take len)) (lits .u8 (zs.drop len)) := congrArg Prod.fst hx
      rw [e] at hk
      have := bulk_many (lits (H := H) .u8 (zs.take len))
      have hll : (lits (H := H) .u8 (zs.take len)).length = len := by unfold lits; rw [List.length_map]; exact htl
      simp only [Rows.uptoBulk] at hk; omega
    refine ⟨zs.take len, ⟨fun x hx => ?_, some a, cap, by rw [htl], by omega, by omega, fun e => (by cases e), ?_⟩, by omega⟩
    · have := hwf x (List.mem_of_mem_take hx)
      simp [Lit.wf] at this
      have e1 : IntKind.u8.min = 0 := by decide
      have e2 : IntKind.u8.max = 255 := by decide
      omega
    · rcases Nat.eq_zero_or_pos len with h0 | h0
      · left; rw [h0]; rfl
      · right
        obtain ⟨b, o, spot⟩ := a
        have c0 := hcell 0 (by omega)
        have hspot : spot = none := by simpa [Addr.add] using World.cell?_spot c0
        subst hspot
        refine ⟨b, o, rfl, World.block_lt_of_cell? W _ c0, fun i x hi => ?_⟩
        have hil : i < len := by have := (List.getElem?_eq_some_iff.1 hi).1; omega
        have hc := hcell i (by omega)
        rw [Addr.add_mid] at hc
        rw [hc]
        rw [List.getElem?_take_of_lt hil] at hi
        simp [List.getD, hi]
set_option maxRecDepth 100000 in
theorem open_atomQ {H : Type} {enc : TypeId × Value → H} {W : World} {r : Reach} {b0 base : Nat} {spare : Nat → Bool} {held : Bool} {v : Value} {d : DataW H} {p : List MemPlace}
    (hv : Value.okWide Tryd.prog W r b0 26 v) (h : DataW.Trod enc Tryd.prog W base spare held 26 v d p) (hw : ∀ n ∈ d.weights Tryd.prog 26, n ≤ reachBytes) : ∃ (a : At) (x : Value), v = a.v x ∧ TsP W x a.args ∧ a.args.length ≤ Rows.uptoBulk d := by
  obtain ⟨cs, rfl, hsz⟩ := okWide_struct Tryd.underlying26 hv
  rw [Tryd.cellsAtom] at hsz
  obtain ⟨fuel, hf⟩ := h
  obtain ⟨l⟩ := cs
  obtain ⟨c0, c1, c2, c3, c4, rfl⟩ := list5 (by simpa using hsz)
  obtain ⟨x, e0, hx, hb, -⟩ := atom_of_cellsP hf (by simp [Value.cells]) hw
  simp [Value.cells] at e0
  obtain ⟨rfl, rfl, rfl, rfl, rfl⟩ := e0
  exact ⟨x.1, x.2, rfl, hx.2, by simp only [At.pl, List.length_cons] at hb; omega⟩
set_option maxRecDepth 100000 in
theorem behA_of_laid {W : World} (h : laidMetH Tryd.prog [("hearsay/hearsayref03.behindTerm", Rows.laid_hearsay_hearsayref03_behindTerm)] W) : BehA W := by
  rw [MakeChecks.laidMetH_plain _ _ _ (by kernel_rfl)] at h
  obtain ⟨ps, ⟨g1, t1, cs1, f1, p1, q1, hg1, ht1, hv1, hd1, _, _⟩, _, _⟩ := h
  obtain rfl := Option.some.inj (Tryd.gBT.symm.trans hg1)
  obtain rfl := Option.some.inj (Tryd.tBT.symm.trans ht1)
  obtain ⟨y0, y1, y2, n, -, hl, -, -, -⟩ := trod_struct3 Tryd.underlying23 hd1
  rw [Tryd.cellsTerm] at hl
  obtain ⟨d, e, hx⟩ := terms_lits hd1 hl
  have hc : ∀ i, W.cell? ⟨0, i, none⟩ = d.cs[i]? := fun i => by
    have := World.var?_cell hg1 hv1 i
    rw [Tm.cs, ← e]; simpa using this
  simp only [Rows.laid_hearsay_hearsayref03_behindTerm, DataW.agg.injEq, List.cons.injEq, DataW.lit.injEq, Lit.int.injEq, Lit.string.injEq, true_and, and_true] at hx
  have hs : d.s = ⟨#[98, 101, 104, 105, 110, 100]⟩ := ByteArray.ext (Array.toList_inj.1 hx.2.2.symm)
  have h0 := hc 0; have h1 := hc 1; have h2 := hc 2
  simp only [Tm.cs, ← hx.1, ← hx.2.1, hs] at h0 h1 h2
  exact ⟨World.block_lt_of_cell? W _ h0, trivial, h0, h1, h2, trivial⟩
end Go.Proofs.YtjnipcakjoiplaaDoor
