import Derived.Test.YtechceagghcipaaGreatDoorEK6
import Derived.Test.YtechceagghcipaaGreatDoorEH4
import Derived.Deep.DeepHandedRow
import Derived.LaidMore
namespace Go.Proofs.YtechceagghcipaaGreatDoor
open Go.ChangeShapes Go.WideShapes Go.ChangeAt Go.RowKit Go.Joins Go.Deep

theorem Tryz.gBT8 : Tryz.prog.globalNamed "hearsay/hearsayref03.behindTerm" = some 0 := by kernel_rfl
theorem Tryz.tBT8 : (Tryz.prog.globals[0]?).map (·.type) = some 24 := by kernel_rfl
theorem terms_lits8 {H : Type} {enc : TypeId × Value -> H} {W : World} {base : Nat} {spare : Nat -> Bool} {held : Bool} {fuel : Nat} {cs : List Value} {x : DataW H × List MemPlace}
  (h : DataW.trod enc Tryz.prog W base spare held fuel 24 cs = some x) (hl : cs.length = 3) : ∃ t : Tm, cs = [.int .i64 t.k, .int .i64 t.n, .string t.s] /\ x.1 = .agg [.lit (.int .i64 t.k), .lit (.int .i64 t.n), .lit (.string t.s.data.toList)] := by
 obtain ⟨c0, c1, c2, rfl⟩ := list3 hl
 obtain ⟨y0, y1, y2, n, hd, -, h0, h1, h2⟩ := trod_struct3 Tryz.underlying24 h
 rw [Tryz.cellsInt] at h0 h1
 rw [Tryz.cellsString] at h2
 obtain ⟨k, e0, f0, -⟩ := DataW.trod_int Tryz.underlying3 h0
 obtain ⟨m, e1, f1, -⟩ := DataW.trod_int Tryz.underlying3 h1
 obtain ⟨s, e2, f2, -⟩ := DataW.trod_string Tryz.underlying9 h2
 simp at e0 e1 e2
 subst e0 e1 e2
 refine ⟨⟨k, m, s⟩, rfl, ?_⟩
 rw [hd, f0, f1, f2]
set_option maxRecDepth 100000 in
theorem behA_of_laid {W : World} (h : laidMetH Tryz.prog [("hearsay/hearsayref03.behindTerm", Rows.laid_hearsay_hearsayref03_behindTerm)] W) : BehA W := by
 rw [MakeChecks.laidMetH_plain _ _ _ (by kernel_rfl)] at h
 obtain ⟨ps, ⟨g1, t1, cs1, f1, p1, q1, hg1, ht1, hv1, hd1, _, _⟩, _, _⟩ := h
 obtain rfl := Option.some.inj (Tryz.gBT8.symm.trans hg1)
 obtain rfl := Option.some.inj (Tryz.tBT8.symm.trans ht1)
 obtain ⟨y0, y1, y2, n, -, hl, -, -, -⟩ := trod_struct3 Tryz.underlying24 hd1
 rw [Tryz.cellsTerm] at hl
 obtain ⟨d, e, hx⟩ := terms_lits8 hd1 hl
 have hc : ∀ i, W.cell? ⟨0, i, none⟩ = d.cs[i]? := fun i => by
  have := World.var?_cell hg1 hv1 i
  rw [Tm.cs, <- e]; simpa using this
 simp only [Rows.laid_hearsay_hearsayref03_behindTerm, DataW.agg.injEq, List.cons.injEq, DataW.lit.injEq, Lit.int.injEq, Lit.string.injEq, true_and, and_true] at hx
 have hs : d.s = ⟨#[98, 101, 104, 105, 110, 100]⟩ := ByteArray.ext (Array.toList_inj.1 hx.2.2.symm)
 have h0 := hc 0; have h1 := hc 1; have h2 := hc 2
 simp only [Tm.cs, <- hx.1, <- hx.2.1, hs] at h0 h1 h2
 exact ⟨World.block_lt_of_cell? W _ h0, trivial, h0, h1, h2, trivial⟩
end Go.Proofs.YtechceagghcipaaGreatDoor
