/-
  ref's tables, as the rows lay them.
-/
import Derived.Test.YtekjicklbgpdcabDoorK14
import Derived.Test.YtekjicklbgpdcabDoorKR4
namespace Go.Proofs.YtekjicklbgpdcabDoor
open Go.ChangeShapes Go.WideShapes Go.ChangeAt Go.RowKit

theorem Tryd.gQS : Tryd.prog.globalNamed "hearsay/hearsayref04.signs" = some 0 := by kernel_rfl
theorem Tryd.tQS : (Tryd.prog.globals[0]?).map (·.type) = some 60 := by kernel_rfl
theorem Tryd.gQK : Tryd.prog.globalNamed "hearsay/hearsayref04.kinds" = some 1 := by kernel_rfl
theorem Tryd.tQK : (Tryd.prog.globals[1]?).map (·.type) = some 61 := by kernel_rfl
theorem Tryd.qcellsInt : Tryd.prog.cellsOf 3 = 1 := by kernel_rfl
theorem qsigns_of_trod {H : Type} {enc : TypeId × Value → H} {W : World} {base f0 : Nat} {spare : Nat → Bool} {held : Bool} {cs0 : List Value} {p0 : List MemPlace}
    (h : DataW.trod enc Tryd.prog W base spare held f0 60 cs0 = some (Rows.laid_hearsay_hearsayref04_signs, p0)) (i : Nat) (t : ByteArray) (ht : qsL[i]? = some t) : cs0[i]? = some (.string t) := by
  obtain ⟨xs, m, -, hx, hl, hn, hel⟩ := DataW.trod_array Tryd.underlying60 h
  have hi : i < 11 := by have := (List.getElem?_eq_some_iff.1 ht).1; simpa [qsL] using this
  have he := hel i hi
  rw [Tryd.cellsStr, Nat.mul_one] at he
  have hxs : xs[i]? = some xs[i] := List.getElem?_eq_getElem (by omega)
  rw [hxs] at he
  obtain ⟨s, e1, e2, -⟩ := DataW.trod_string Tryd.underlying9 he
  have hx1 : xs.map (·.1) = qsL.map (fun b => DataW.lit (.string b.data.toList)) := by
    have := congrArg Prod.fst hx
    simp only [Rows.laid_hearsay_hearsayref04_signs, DataW.agg.injEq] at this
    rw [← this]; rfl
  have h2 : (xs.map (·.1))[i]? = some (DataW.lit (.string t.data.toList)) := by rw [hx1, List.getElem?_map, ht]; rfl
  rw [List.getElem?_map, hxs, e2] at h2
  simp only [Option.map_some, Option.some.injEq, DataW.lit.injEq, Lit.string.injEq] at h2
  obtain rfl : s = t := ByteArray.ext (Array.toList_inj.1 h2)
  have h3 : ((cs0.drop i).take 1)[0]? = some (.string s) := by rw [e1]; rfl
  rw [List.getElem?_take_of_lt (by omega), List.getElem?_drop] at h3
  simpa using h3
theorem qkinds_of_trod {H : Type} {enc : TypeId × Value → H} {W : World} {base f0 : Nat} {spare : Nat → Bool} {held : Bool} {cs0 : List Value} {p0 : List MemPlace}
    (h : DataW.trod enc Tryd.prog W base spare held f0 61 cs0 = some (Rows.laid_hearsay_hearsayref04_kinds, p0)) (i : Nat) (k : Int) (ht : qkL[i]? = some k) : cs0[i]? = some (.int .i64 k) := by
  obtain ⟨xs, m, -, hx, hl, hn, hel⟩ := DataW.trod_array Tryd.underlying61 h
  have hi : i < 11 := by have := (List.getElem?_eq_some_iff.1 ht).1; simpa [qkL] using this
  have he := hel i hi
  rw [Tryd.qcellsInt, Nat.mul_one] at he
  have hxs : xs[i]? = some xs[i] := List.getElem?_eq_getElem (by omega)
  rw [hxs] at he
  obtain ⟨s, e1, e2, -⟩ := DataW.trod_int Tryd.underlying3 he
  have hx1 : xs.map (·.1) = qkL.map (fun b => DataW.lit (.int .i64 b)) := by
    have := congrArg Prod.fst hx
    simp only [Rows.laid_hearsay_hearsayref04_kinds, DataW.agg.injEq] at this
    rw [← this]; rfl
  have h2 : (xs.map (·.1))[i]? = some (DataW.lit (.int .i64 k)) := by rw [hx1, List.getElem?_map, ht]; rfl
  rw [List.getElem?_map, hxs, e2] at h2
  simp only [Option.map_some, Option.some.injEq, DataW.lit.injEq, Lit.int.injEq, true_and] at h2
  subst h2
  have h3 : ((cs0.drop i).take 1)[0]? = some (.int .i64 s) := by rw [e1]; rfl
  rw [List.getElem?_take_of_lt (by omega), List.getElem?_drop] at h3
  simpa using h3
abbrev laid8 : List (String × DataW Unit) := ("hearsay/hearsayref04.signs", Rows.laid_hearsay_hearsayref04_signs) :: ("hearsay/hearsayref04.kinds", Rows.laid_hearsay_hearsayref04_kinds) :: laid6
set_option maxRecDepth 100000 in
theorem env8_of_laid {W : World} (h : laidMetH Tryd.prog laid8 W) : EnvOk W ∧ QOk W := by
  have h0 : laidMet Tryd.prog laid8 W := noHandle rfl h
  have h1 := h0.tail
  have hE : EnvOk W := env_of_laid h1.tail
  refine ⟨hE, ?_, ?_⟩
  · obtain ⟨ps, ⟨g0, t0, cs0, f0, p0, q0, hg0, ht0, hv0, hd0, _⟩, _⟩ := h0
    obtain rfl := Option.some.inj (Tryd.gQS.symm.trans hg0)
    obtain rfl := Option.some.inj (Tryd.tQS.symm.trans ht0)
    intro i t ht
    have := World.var?_cell hg0 hv0 i
    rw [show W.cell? ⟨0, i, none⟩ = cs0[i]? by simpa using this]
    simpa using qsigns_of_trod hd0 i t ht
  · obtain ⟨ps, ⟨g0, t0, cs0, f0, p0, q0, hg0, ht0, hv0, hd0, _⟩, _⟩ := h1
    obtain rfl := Option.some.inj (Tryd.gQK.symm.trans hg0)
    obtain rfl := Option.some.inj (Tryd.tQK.symm.trans ht0)
    intro i k hk
    have := World.var?_cell hg0 hv0 i
    rw [show W.cell? ⟨1, i, none⟩ = cs0[i]? by simpa using this]
    simpa using qkinds_of_trod hd0 i k hk
end Go.Proofs.YtekjicklbgpdcabDoor
