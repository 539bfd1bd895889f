/-
  ref's Fact, ints of the laws, ref's CompareAtoms.
-/
import Derived.Test.YtnaiecemmhioeaaDoorW3
import Derived.Test.YtnaiecemmhioeaaDoorO1
import Derived.Deep.CutRange
import Derived.Test.YtnaiecemmhioeaaDoorTO1
import Derived.Test.YtnaiecemmhioeaaDoorD1
import Derived.Test.YtnaiecemmhioeaaDoorV2
import Derived.Test.YtnaiecemmhioeaaDoorL1
import Derived.Laws.AppendOwn
import Derived.Laws.AppendOwnNone
import Derived.Test.YtnaiecemmhioeaaDoorB2
namespace Go.Proofs.YtnaiecemmhioeaaDoor
open Go.RowKit
attribute [local go_sem ↓] Go.wp_at_zero Go.wp_at_succ

set_option maxHeartbeats 1000000 in
theorem lints_same (l : List Int) (v v' : Value) (b b' : Nat) (w : World) (h : OwnI w b v l) (h' : OwnI w b' v' l) (hl : l.length < 1000000000000000000) :
    Calls Tryd.prog 21 #[v, v'] w fun e w' => e = .returned (.bool true) ∧ Below w.heap.size w w' := by
  have HO : Hid (OwnI w b v l) := h
  have HO' : Hid (OwnI w b' v' l) := h'
  obtain ⟨ad, cap, rfl⟩ := ownI_len h
  obtain ⟨ad', cap', rfl⟩ := ownI_len h'
  clear h h'
  go_enter Tryd.func21, Tryd.ntmps21
  go_wp2
  go_loopg [5] l.length (fun g i wr => ∃ j : Nat, j + g = l.length ∧ i = .int .i64 j ∧ Below w.heap.size w wr)
  case atStart => exact ⟨0, by omega, rfl, Below.refl _ _⟩
  case round =>
    obtain ⟨j, hj, rfl, hbr⟩ := hrel
    cases gk with
    | succ g =>
      have hlt : j < l.length := by omega
      obtain ⟨e, he⟩ : ∃ e, l[j]? = some e := ⟨_, List.getElem?_eq_getElem hlt⟩
      obtain ⟨gg, cc, hv, -, hg2⟩ := ownI_form HO.out (by omega)
      simp only [Value.slice.injEq, true_and] at hv
      obtain ⟨rfl, rfl⟩ := hv
      obtain ⟨gg', cc', hv, -, hg2'⟩ := ownI_form HO'.out (by omega)
      simp only [Value.slice.injEq, true_and] at hv
      obtain ⟨rfl, rfl⟩ := hv
      have e0 := cell_step hbr hg2 (ownI_cells HO.out j e he)
      have e1 := cell_step hbr hg2' (ownI_cells HO'.out j e he)
      clear he
      have j1 : (0 : Int) ≤ (j : Int) := by omega
      have j2 : (j : Int) < (l.length : Int) := by omega
      go_wp2
      go_quiet (fail)
      go_wp2
      go_roundg g
      case measure => omega
      case rel => exact ⟨j + 1, by omega, by go_num, below_drewN hbr _⟩
    | zero =>
      obtain rfl : j = l.length := by omega
      have hz : ¬ ((l.length : Int) < (l.length : Int)) := by omega
      go_wp2
      go_ret
      exact ⟨ret_b rfl, hbr⟩
/-- What is left of the comparing. -/
def left (c : Int) (l l' : List Tm) : Int := if c = 0 then cmpL l l' else c
end Go.Proofs.YtnaiecemmhioeaaDoor
