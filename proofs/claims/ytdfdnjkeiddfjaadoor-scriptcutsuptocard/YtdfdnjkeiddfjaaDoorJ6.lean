/-
  The table of signs, as it is laid.
-/
import Derived.Test.YtdfdnjkeiddfjaaDoorJ2
import Derived.Test.YtdfdnjkeiddfjaaDoorRows
import Derived.Deep.Slices
import Derived.Deep.Strs
import Derived.SizedLaws
import Derived.LaidMore
import Derived.Stop.Joined
import Derived.ProofKit
import Derived.OpenShut
import Derived.ShutString
import Derived.ChangeOld
namespace Go.Proofs.YtdfdnjkeiddfjaaDoor
open Go.ChangeShapes Go.WideShapes Go.ChangeAt Go.RowKit

def signL : List ByteArray := [⟨#[]⟩, ⟨#[]⟩, ⟨#[]⟩, ⟨#[]⟩, ⟨#[]⟩, ⟨#[115, 97, 121, 115]⟩, ⟨#[40]⟩, ⟨#[41]⟩, ⟨#[44]⟩, ⟨#[59]⟩, ⟨#[46]⟩, ⟨#[58, 45]⟩, ⟨#[63]⟩, ⟨#[61]⟩, ⟨#[33, 61]⟩, ⟨#[60]⟩, ⟨#[60, 61]⟩]
/-- The table of signs as a value. -/
def signV : Array Value := (signL.map Value.string).toArray
def SignsOk (w : World) : Prop := (∃ t fr, w.heap[1]? = some (.cells signV t fr)) ∧ ∀ (i : Nat) (t : ByteArray), signL[i]? = some t → w.cell? ⟨1, i, none⟩ = some (.string t)
theorem SignsOk.says {w : World} (h : SignsOk w) : SaysOk w := h.2 5 _ rfl
theorem SignsOk.lt {w : World} (h : SignsOk w) : 1 < w.heap.size := World.block_lt_of_cell? w _ (h.2 5 _ rfl)
theorem SignsOk.later {w w' : World} (h : SignsOk w) (hb : Below w.heap.size w w') : SignsOk w' :=
  ⟨h.1.imp fun _ ⟨fr, e⟩ => ⟨fr, (hb.block _ h.lt).trans e⟩, fun i t ht => by
    rw [hb.cell (p := ⟨1, i, none⟩) h.lt]
    exact h.2 i t ht⟩
theorem Tryd.own : ownKnob Tryd.prog.godebug = none := by kernel_rfl
theorem Tryd.gSigns : Tryd.prog.globalNamed "hearsay/tokens.signs" = some 1 := by kernel_rfl
theorem Tryd.tSigns : (Tryd.prog.globals[1]?).map (·.type) = some 102 := by kernel_rfl
theorem Tryd.cellsSigns : Tryd.prog.cellsOf 102 = 17 := by kernel_rfl
theorem Tryd.cellsStr : Tryd.prog.cellsOf 9 = 1 := by kernel_rfl
theorem signs_of_trod {H : Type} {enc : TypeId × Value → H} {W : World} {base f0 : Nat} {spare : Nat → Bool} {held : Bool} {cs0 : List Value} {p0 : List MemPlace}
    (h : DataW.trod enc Tryd.prog W base spare held f0 102 cs0 = some (Rows.laid_hearsay_tokens_signs, p0)) (i : Nat) (t : ByteArray) (ht : signL[i]? = some t) : cs0[i]? = some (.string t) ∧ cs0.length = 17 := by
  obtain ⟨xs, m, -, hx, hl, hn, hel⟩ := DataW.trod_array Tryd.underlying102 h
  have hi : i < 17 := by have := (List.getElem?_eq_some_iff.1 ht).1; simpa [signL] using this
  have he := hel i hi
  rw [Tryd.cellsStr, Nat.mul_one] at he
  have hxs : xs[i]? = some xs[i] := List.getElem?_eq_getElem (by omega)
  rw [hxs] at he
  obtain ⟨s, e1, e2, -⟩ := DataW.trod_string Tryd.underlying9 he
  have hx1 : xs.map (·.1) = signL.map (fun b => DataW.lit (.string b.data.toList)) := by
    have := congrArg Prod.fst hx
    simp only [Rows.laid_hearsay_tokens_signs, DataW.agg.injEq] at this
    rw [← this]; rfl
  have h2 : (xs.map (·.1))[i]? = some (DataW.lit (.string t.data.toList)) := by rw [hx1, List.getElem?_map, ht]; rfl
  rw [List.getElem?_map, hxs, e2] at h2
  simp only [Option.map_some, Option.some.injEq, DataW.lit.injEq, Lit.string.injEq] at h2
  obtain rfl : s = t := ByteArray.ext (Array.toList_inj.1 h2)
  have h3 : ((cs0.drop i).take 1)[0]? = some (.string s) := by rw [e1]; rfl
  rw [List.getElem?_take_of_lt (by omega), List.getElem?_drop] at h3
  exact ⟨by simpa using h3, by rw [hl, Tryd.cellsSigns]⟩
set_option maxRecDepth 100000 in
theorem signs_of_laid {W : World} (h : laidMetH Tryd.prog [("hearsay/tokens.signs", Rows.laid_hearsay_tokens_signs)] W) : SignsOk W := by
  rw [MakeChecks.laidMetH_plain _ _ _ (by kernel_rfl)] at h
  obtain ⟨ps, ⟨g0, t0, cs0, f0, p0, q0, hg0, ht0, hv0, hd0, _, _⟩, _, _⟩ := h
  obtain rfl := Option.some.inj (Tryd.gSigns.symm.trans hg0)
  obtain rfl := Option.some.inj (Tryd.tSigns.symm.trans ht0)
  have hc : ∀ (i : Nat) (t : ByteArray), signL[i]? = some t → cs0[i]? = some (.string t) := fun i t ht => by simpa using (signs_of_trod hd0 i t ht).1
  have hl : cs0.size = 17 := by simpa using (signs_of_trod hd0 5 _ rfl).2
  refine ⟨?_, fun i t ht => ?_⟩
  · have e : cs0 = signV := by
      apply Array.ext_getElem?
      intro i
      rcases Nat.lt_or_ge i 17 with h | h
      · have hs : i < signL.length := h
        rw [hc i _ (List.getElem?_eq_getElem hs)]
        simp [signV, hs]
      · rw [Array.getElem?_eq_none (by omega), Array.getElem?_eq_none (by show signV.size ≤ i; exact h)]
    subst e
    unfold World.var? at hv0
    rw [hg0] at hv0
    simp only [Option.bind_some] at hv0
    split at hv0
    · rename_i cs t fr he
      cases hv0
      exact ⟨t, fr, he⟩
    · cases hv0
  · have := World.var?_cell hg0 hv0 i
    rw [show W.cell? ⟨1, i, none⟩ = cs0[i]? by simpa using this]
    exact hc i t ht
end Go.Proofs.YtdfdnjkeiddfjaaDoor
