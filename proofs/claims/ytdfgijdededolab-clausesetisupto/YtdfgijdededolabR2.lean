import Derived.Test.YtdfgijdededolabB4
import Derived.ProofKit
import Derived.OpenShut
import Derived.ShutString
import Derived.ChangeOld
import Derived.Below
import Derived.Lib.SmallJoins
import Derived.Deep.Slices
import Derived.Deep.Strs
import Derived.SizedLaws
/-
  Arguments opened: a term, a list of terms, an atom, a binding.
-/
namespace Go.Proofs.Ytdfgijdededolab
open Go.ChangeShapes Go.WideShapes Go.ChangeAt Go.RowKit Go.Joins
open Go.ChangeMaps (open_string shut_string)

theorem Try.own : ownKnob Try.prog.godebug = none := by kernel_rfl
theorem Try.laidOut : laidOutB Try.prog = true := by kernel_rfl
theorem Try.cellsTerm : Try.prog.cellsOf 23 = 3 := by kernel_rfl

set_option maxRecDepth 100000 in
theorem open_term {H : Type} {enc : TypeId × Value → H} {W : World} {r : Reach} {b0 base : Nat} {spare : Nat → Bool} {held : Bool} {v : Value} {d : DataW H} {p : List MemPlace}
    (hv : Value.okWide Try.prog W r b0 23 v) (h : DataW.Trod enc Try.prog W base spare held 23 v d p) : ∃ t : Tm, v = t.v ∧ t.s.size ≤ maxLen := by
  obtain ⟨c0, c1, c2, y0, y1, y2, m, rfl, -, -, h0, h1, h2⟩ := open_agg3 Try.underlying23 (by kernel_rfl) Try.cellsTerm hv h
  obtain ⟨k, e0, -, -⟩ := DataW.trod_int Try.underlying3 h0
  obtain ⟨n, e1, -, -⟩ := DataW.trod_int Try.underlying3 h1
  obtain ⟨s, e2, -, hs⟩ := DataW.trod_string Try.underlying9 h2
  simp at e0 e1 e2
  subst e0 e1 e2
  exact ⟨⟨k, n, s⟩, rfl, hs⟩
end Go.Proofs.Ytdfgijdededolab
/-
  Arguments opened: a list of terms, an atom.
-/
namespace Go.Proofs.Ytdfgijdededolab
open Go.ChangeShapes Go.WideShapes Go.ChangeAt Go.RowKit Go.Joins Go.Deep

theorem Try.cellsAtom : Try.prog.cellsOf 26 = 5 := by kernel_rfl
theorem Try.cellsInt : Try.prog.cellsOf 3 = 1 := by kernel_rfl
theorem Try.cellsString : Try.prog.cellsOf 9 = 1 := by kernel_rfl
theorem Try.cellsTerms : Try.prog.cellsOf 24 = 1 := by kernel_rfl
theorem Try.bytesTerm : Try.prog.bytesOf 23 = 32 := by kernel_rfl
theorem list3 {α : Type} {l : List α} (h : l.length = 3) : ∃ a b c, l = [a, b, c] := by
  match l, h with
  | [a, b, c], _ => exact ⟨a, b, c, rfl⟩
theorem list5 {α : Type} {l : List α} (h : l.length = 5) : ∃ a b c d e, l = [a, b, c, d, e] := by
  match l, h with
  | [a, b, c, d, e], _ => exact ⟨a, b, c, d, e, rfl⟩
theorem term_of_cells {H : Type} {enc : TypeId × Value → H} {W : World} {base : Nat} {spare : Nat → Bool} {held : Bool} {fuel : Nat} {cs : List Value} {x : DataW H × List MemPlace}
    (h : DataW.trod enc Try.prog W base spare held fuel 23 cs = some x) (hl : cs.length = 3) : ∃ t : Tm, cs = [.int .i64 t.k, .int .i64 t.n, .string t.s] ∧ t.s.size ≤ maxLen := by
  obtain ⟨c0, c1, c2, rfl⟩ := list3 hl
  obtain ⟨y0, y1, y2, n, -, -, h0, h1, h2⟩ := trod_struct3 Try.underlying23 h
  rw [Try.cellsInt] at h0 h1
  rw [Try.cellsString] at h2
  obtain ⟨k, e0, -, -⟩ := DataW.trod_int Try.underlying3 h0
  obtain ⟨m, e1, -, -⟩ := DataW.trod_int Try.underlying3 h1
  obtain ⟨s, e2, -, hs⟩ := DataW.trod_string Try.underlying9 h2
  simp at e0 e1 e2
  subst e0 e1 e2
  exact ⟨⟨k, m, s⟩, rfl, hs⟩
theorem open_terms {H : Type} {enc : TypeId × Value → H} {W : World} {base : Nat} {spare : Nat → Bool} {held : Bool} {fuel : Nat} {cs : List Value} {x : DataW H × List MemPlace}
    (h : DataW.trod enc Try.prog W base spare held fuel 24 cs = some x) (hw : ∀ n ∈ x.1.weights Try.prog 24, n ≤ reachBytes) : ∃ v l, cs = [v] ∧ Ts W v l := by
  rcases open_slice Try.underlying24 h with ⟨rfl, -⟩ | ⟨a, len, cap, m, n, D, Pl, rfl, hba, hlc, hcm, hm, hx, hel⟩
  · exact ⟨_, [], rfl, none, 0, rfl, by simp, Or.inl rfl⟩
  · have hlen : len < 1000000000000000000 := by
      have := hw ((((List.range len).map D).length + ((List.range (m - len)).map fun j => D (len + j)).length) * Try.prog.bytesOf 23) (by rw [hx]; simp [DataW.weights, Try.underlying24])
      rw [Try.bytesTerm] at this
      simp only [List.length_map, List.length_range, reachBytes] at this
      omega
    rw [Try.cellsTerm] at hel
    have hlm : len ≤ m := by rw [hm]; split <;> omega
    have key : ∀ i : Nat, ∃ t : Tm, i < len → W.cell? (a.add (i * 3)) = some (.int .i64 t.k) ∧ W.cell? ((a.add (i * 3)).add 1) = some (.int .i64 t.n) ∧ W.cell? ((a.add (i * 3)).add 2) = some (.string t.s) := fun i => by
      by_cases hi : i < len
      · obtain ⟨cs', h1, h2⟩ := hel i (by omega)
        obtain ⟨-, hl, hc⟩ := World.cells?_some h1
        obtain ⟨t, rfl, -⟩ := term_of_cells h2 hl
        exact ⟨t, fun _ => ⟨hc 0 (by omega), hc 1 (by omega), hc 2 (by omega)⟩⟩
      · exact ⟨zt, fun h => absurd h hi⟩
    obtain ⟨f, hf⟩ := Classical.axiomOfChoice key
    refine ⟨_, (List.range len).map f, rfl, some a, cap, by simp, by simpa using hlen, ?_⟩
    rcases Nat.eq_zero_or_pos len with h0 | h0
    · left; subst h0; rfl
    · right
      obtain ⟨b, off, spot⟩ := a
      have hspot : spot = none := by simpa [Addr.add] using World.cell?_spot (hf 0 h0).1
      subst hspot
      refine ⟨b, off, rfl, ?_, fun i t ht => ?_⟩
      · exact World.block_lt_of_cell? W _ (by have := (hf 0 h0).1; simpa [Addr.add] using this)
      · have hi : i < len := by have := (List.getElem?_eq_some_iff.1 ht).1; simpa using this
        have e : t = f i := by
          rw [List.getElem?_map, List.getElem?_range hi] at ht; simpa using ht.symm
        subst e
        have := hf i hi
        rw [add_plain, add_plain, add_plain] at this
        exact this
set_option maxRecDepth 100000 in
theorem open_atom {H : Type} {enc : TypeId × Value → H} {W : World} {r : Reach} {b0 base : Nat} {spare : Nat → Bool} {held : Bool} {v : Value} {d : DataW H} {p : List MemPlace}
    (hv : Value.okWide Try.prog W r b0 26 v) (h : DataW.Trod enc Try.prog W base spare held 26 v d p) (hw : ∀ n ∈ d.weights Try.prog 26, n ≤ reachBytes) : ∃ (a : At) (x : Value), v = a.v x ∧ Ts W x a.args ∧ a.by_.s.size ≤ maxLen ∧ a.name.size ≤ maxLen := by
  obtain ⟨cs, rfl, hsz⟩ := okWide_struct Try.underlying26 hv
  rw [Try.cellsAtom] at hsz
  obtain ⟨fuel, hf⟩ := h
  obtain ⟨l⟩ := cs
  obtain ⟨c0, c1, c2, c3, c4, rfl⟩ := list5 (by simpa using hsz)
  obtain ⟨y0, y1, y2, n, hd, -, h0, h1, h2⟩ := trod_struct3 Try.underlying26 hf
  rw [Try.cellsTerm] at h0
  rw [Try.cellsString] at h1
  rw [Try.cellsTerms] at h2
  obtain ⟨t, e0, ht⟩ := term_of_cells h0 (by simp [Value.cells])
  obtain ⟨s, e1, -, hs⟩ := DataW.trod_string Try.underlying9 h1
  obtain ⟨x, l, e2, hx⟩ := open_terms h2 (fun m hm => by
    simp only [Prod.mk.injEq] at hd
    refine hw m ?_
    rw [hd.1, DataW.weights, Try.underlying26]
    exact DataW.weights_mem_each (j := 2) rfl rfl m hm)
  simp [Value.cells] at e0 e1 e2
  obtain ⟨rfl, rfl, rfl⟩ := e0
  subst e1 e2
  exact ⟨⟨t, s, l⟩, c4, rfl, hx, ht, hs⟩
end Go.Proofs.Ytdfgijdededolab
