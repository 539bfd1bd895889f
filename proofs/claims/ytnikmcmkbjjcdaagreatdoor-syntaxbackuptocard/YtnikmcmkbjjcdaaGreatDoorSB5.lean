import Derived.Test.YtnikmcmkbjjcdaaGreatDoorB4
import Derived.ProofKit
import Derived.OpenShut
import Derived.ShutString
import Derived.ChangeOld
import Derived.Below
import Derived.Lib.SmallJoins
import Derived.Deep.Slices
import Derived.Deep.Strs
import Derived.SizedLaws
import Derived.Test.YtnikmcmkbjjcdaaGreatDoorCL2
import Derived.Test.YtnikmcmkbjjcdaaGreatDoorCL17
import Derived.Test.YtnikmcmkbjjcdaaGreatDoorRows
import Derived.Test.YtnikmcmkbjjcdaaGreatDoorSV3
import Derived.Test.YtnikmcmkbjjcdaaGreatDoorK4
import Derived.Stop.LaidErr
import Derived.Test.YtnikmcmkbjjcdaaGreatDoorSY2
import Derived.Test.YtnikmcmkbjjcdaaGreatDoorSB3
import Derived.Test.YtnikmcmkbjjcdaaGreatDoorCards
import Derived.Test.YtnikmcmkbjjcdaaGreatDoorTie
import Derived.SevenTiedAt
import Derived.Deep.DeepHandedRow
import Derived.JoinedCond
import Derived.ChangeMaps5
/-
  Arguments opened: a term, a list of terms, an atom, a binding.
-/
namespace Go.Proofs.YtnikmcmkbjjcdaaGreatDoor
open Go.ChangeShapes Go.WideShapes Go.ChangeAt Go.RowKit Go.Joins
open Go.ChangeMaps (open_string shut_string)

theorem Tryz.laidOut : laidOutB Tryz.prog = true := by kernel_rfl
theorem Tryz.cellsTerm : Tryz.prog.cellsOf 30 = 3 := by kernel_rfl

end Go.Proofs.YtnikmcmkbjjcdaaGreatDoor
/-
  Arguments opened: a list of terms, an atom.
-/
namespace Go.Proofs.YtnikmcmkbjjcdaaGreatDoor
open Go.ChangeShapes Go.WideShapes Go.ChangeAt Go.RowKit Go.Joins Go.Deep

theorem Tryz.cellsAtom : Tryz.prog.cellsOf 33 = 5 := by kernel_rfl
theorem Tryz.cellsInt : Tryz.prog.cellsOf 3 = 1 := by kernel_rfl
theorem Tryz.cellsString : Tryz.prog.cellsOf 9 = 1 := by kernel_rfl
theorem Tryz.cellsTerms : Tryz.prog.cellsOf 31 = 1 := by kernel_rfl
theorem Tryz.bytesTerm : Tryz.prog.bytesOf 30 = 32 := by kernel_rfl
theorem list3 {α : Type} {l : List α} (h : l.length = 3) : ∃ a b c, l = [a, b, c] := by
  match l, h with
  | [a, b, c], _ => exact ⟨a, b, c, rfl⟩
theorem lst5z {α : Type} {l : List α} (h : l.length = 5) : ∃ a b c d e, l = [a, b, c, d, e] := by
  match l, h with
  | [a, b, c, d, e], _ => exact ⟨a, b, c, d, e, rfl⟩
end Go.Proofs.YtnikmcmkbjjcdaaGreatDoor
/-
  Arguments opened: a clause.
-/
namespace Go.Proofs.YtnikmcmkbjjcdaaGreatDoor
open Go.ChangeShapes Go.WideShapes Go.ChangeAt Go.RowKit Go.Joins Go.Deep

theorem weights_mem_all {H : Type} {P : Program} {e : TypeId} {d : DataW H} {n : Nat} (hn : n ∈ d.weights P e) : ∀ {ds : List (DataW H)}, d ∈ ds → n ∈ DataW.weightsAll P e ds
  | x :: r, h => by
    rw [DataW.weightsAll, List.mem_append]
    rcases List.mem_cons.1 h with rfl | h
    · exact Or.inl hn
    · exact Or.inr (weights_mem_all hn h)
theorem Tryz.cellsTest3 : Tryz.prog.cellsOf 81 = 7 := by kernel_rfl
theorem Tryz.cellsClause : Tryz.prog.cellsOf 37 = 7 := by kernel_rfl
theorem Tryz.cellsAtoms : Tryz.prog.cellsOf 34 = 1 := by kernel_rfl
theorem Tryz.cellsTests : Tryz.prog.cellsOf 35 = 1 := by kernel_rfl
theorem Tryz.bytesAtom : Tryz.prog.bytesOf 33 = 72 := by kernel_rfl
theorem Tryz.bytesTest : Tryz.prog.bytesOf 81 = 72 := by kernel_rfl
theorem clist7 {α : Type} {l : List α} (h : l.length = 7) : ∃ a b c d e f g, l = [a, b, c, d, e, f, g] := by
  match l, h with
  | [a, b, c, d, e, f, g], _ => exact ⟨a, b, c, d, e, f, g, rfl⟩
end Go.Proofs.YtnikmcmkbjjcdaaGreatDoor
/-
  A clause opened, with its bulk and with the numbers of its terms. (Written by NB4.py, out of R2 and CL24.)
-/
namespace Go.Proofs.YtnikmcmkbjjcdaaGreatDoor
open Go.ChangeShapes Go.WideShapes Go.ChangeAt Go.RowKit Go.Joins Go.Deep

def WfT (t : Tm) : Prop := (Lit.int .i64 t.n).wf = true
theorem bulkN_pos {H : Type} (d : DataW H) : 1 ≤ Rows.uptoBulk d := by
  cases d with
  | lit l => cases l <;> simp [Rows.uptoBulk]
  | _ => simp [Rows.uptoBulk]
theorem bulkN_len {H : Type} (l : List (DataW H)) : l.length ≤ Rows.uptoBulkAll l := by
  induction l with
  | nil => simp
  | cons d r ih => have := bulkN_pos d; simp only [Rows.uptoBulkAll, List.length_cons]; omega
theorem bulkN_slice {H : Type} (l r : List (DataW H)) : l.length ≤ Rows.uptoBulk (.slice l r) := by
  have := bulkN_len l; simp only [Rows.uptoBulk]; omega
theorem bulkN_sum {H α : Type} (g : Nat → List α) (D : Nat → DataW H) : ∀ l : List Nat, (∀ i ∈ l, (g i).length ≤ Rows.uptoBulk (D i)) → (l.flatMap g).length ≤ Rows.uptoBulkAll (l.map D)
  | [], _ => by simp
  | i :: l, h => by
    have h1 := h i (by simp)
    have h2 := bulkN_sum g D l fun j hj => h j (by simp [hj])
    rw [List.flatMap_cons, List.length_append, List.map_cons]
    simp only [Rows.uptoBulkAll]
    omega
set_option maxRecDepth 100000 in
theorem term_of_cellsB {H : Type} {enc : TypeId × Value → H} {W : World} {base : Nat} {spare : Nat → Bool} {held : Bool} {fuel : Nat} {cs : List Value} {x : DataW H × List MemPlace}
    (h : DataW.trod enc Tryz.prog W base spare held fuel 30 cs = some x) (hl : cs.length = 3) : ∃ t : Tm, cs = [.int .i64 t.k, .int .i64 t.n, .string t.s] ∧ WfT t := by
  obtain ⟨c0, c1, c2, rfl⟩ := list3 hl
  obtain ⟨y0, y1, y2, n, -, -, h0, h1, h2⟩ := trod_struct3 Tryz.underlying30 h
  rw [Tryz.cellsInt] at h0 h1
  rw [Tryz.cellsString] at h2
  obtain ⟨k, e0, -, -⟩ := DataW.trod_int Tryz.underlying3 h0
  obtain ⟨m, e1, -, hwf⟩ := DataW.trod_int Tryz.underlying3 h1
  obtain ⟨s, e2, -, -⟩ := DataW.trod_string Tryz.underlying9 h2
  simp at e0 e1 e2
  subst e0 e1 e2
  exact ⟨⟨k, m, s⟩, rfl, hwf⟩
set_option maxRecDepth 100000 in
theorem open_termsB {H : Type} {enc : TypeId × Value → H} {W : World} {base : Nat} {spare : Nat → Bool} {held : Bool} {fuel : Nat} {cs : List Value} {x : DataW H × List MemPlace}
    (h : DataW.trod enc Tryz.prog W base spare held fuel 31 cs = some x) (hw : ∀ n ∈ x.1.weights Tryz.prog 31, n ≤ reachBytes) : ∃ v l, cs = [v] ∧ Ts W v l ∧ l.length ≤ Rows.uptoBulk x.1 ∧ ∀ t ∈ l, WfT t := by
  rcases open_slice Tryz.underlying31 h with ⟨rfl, -⟩ | ⟨a, len, cap, m, n, D, Pl, rfl, hba, hlc, hcm, hm, hx, hel⟩
  · exact ⟨_, [], rfl, ⟨none, 0, rfl, by simp, Or.inl rfl⟩, by simp, fun t ht => by cases ht⟩
  · have hlen : len < 1000000000000000000 := by
      have := hw ((((List.range len).map D).length + ((List.range (m - len)).map fun j => D (len + j)).length) * Tryz.prog.bytesOf 30) (by rw [hx]; simp [DataW.weights, Tryz.underlying31])
      rw [Tryz.bytesTerm] at this
      simp only [List.length_map, List.length_range, reachBytes] at this
      omega
    rw [Tryz.cellsTerm] at hel
    have hlm : len ≤ m := by rw [hm]; split <;> omega
    have key : ∀ i : Nat, ∃ t : Tm, i < len → WfT t ∧ W.cell? (a.add (i * 3)) = some (.int .i64 t.k) ∧ W.cell? ((a.add (i * 3)).add 1) = some (.int .i64 t.n) ∧ W.cell? ((a.add (i * 3)).add 2) = some (.string t.s) := fun i => by
      by_cases hi : i < len
      · obtain ⟨cs', h1, h2⟩ := hel i (by omega)
        obtain ⟨-, hl, hc⟩ := World.cells?_some h1
        obtain ⟨t, rfl, hwf⟩ := term_of_cellsB h2 hl
        exact ⟨t, fun _ => ⟨hwf, hc 0 (by omega), hc 1 (by omega), hc 2 (by omega)⟩⟩
      · exact ⟨zt, fun h => absurd h hi⟩
    obtain ⟨f, hf⟩ := Classical.axiomOfChoice key
    refine ⟨_, (List.range len).map f, rfl, ⟨some a, cap, by simp, by simpa using hlen, ?_⟩, by rw [hx]; simpa using bulkN_slice ((List.range len).map D) _, fun t ht => by obtain ⟨i, hi, rfl⟩ := List.mem_map.1 ht; exact (hf i (List.mem_range.1 hi)).1⟩
    rcases Nat.eq_zero_or_pos len with h0 | h0
    · left; subst h0; rfl
    · right
      obtain ⟨b, off, spot⟩ := a
      have hspot : spot = none := by simpa [Addr.add] using World.cell?_spot (hf 0 h0).2.1
      subst hspot
      refine ⟨b, off, rfl, ?_, fun i t ht => ?_⟩
      · exact World.block_lt_of_cell? W _ (by have := (hf 0 h0).2.1; simpa [Addr.add] using this)
      · have hi : i < len := by have := (List.getElem?_eq_some_iff.1 ht).1; simpa using this
        have e : t = f i := by
          rw [List.getElem?_map, List.getElem?_range hi] at ht; simpa using ht.symm
        subst e
        have := (hf i hi).2
        rw [add_plain, add_plain, add_plain] at this
        exact this
set_option maxRecDepth 100000 in
theorem atom_of_cellsB {H : Type} {enc : TypeId × Value → H} {W : World} {base : Nat} {spare : Nat → Bool} {held : Bool} {fuel : Nat} {cs : List Value} {x : DataW H × List MemPlace}
    (hf : DataW.trod enc Tryz.prog W base spare held fuel 33 cs = some x) (hl : cs.length = 5) (hw : ∀ n ∈ x.1.weights Tryz.prog 33, n ≤ reachBytes) : ∃ a : At × Value, cs = [.int .i64 a.1.by_.k, .int .i64 a.1.by_.n, .string a.1.by_.s, .string a.1.name, a.2] ∧ Ts W a.2 a.1.args ∧ a.1.pl.length ≤ Rows.uptoBulk x.1 ∧ ∀ t ∈ a.1.pl, WfT t := by
  obtain ⟨c0, c1, c2, c3, c4, rfl⟩ := lst5z hl
  obtain ⟨y0, y1, y2, n, hd, -, h0, h1, h2⟩ := trod_struct3 Tryz.underlying33 hf
  rw [Tryz.cellsTerm] at h0
  rw [Tryz.cellsString] at h1
  rw [Tryz.cellsTerms] at h2
  obtain ⟨t, e0, ht⟩ := term_of_cellsB h0 (by simp)
  obtain ⟨s, e1, -, hs⟩ := DataW.trod_string Tryz.underlying9 h1
  obtain ⟨v, l, e2, hx, hbk, hwl⟩ := open_termsB h2 (fun m hm => by
    refine hw m ?_
    rw [hd, DataW.weights, Tryz.underlying33]
    exact DataW.weights_mem_each (j := 2) rfl rfl m hm)
  simp at e0 e1 e2
  obtain ⟨rfl, rfl, rfl⟩ := e0
  subst e1 e2
  refine ⟨(⟨t, s, l⟩, c4), rfl, hx, ?_, fun u hu => ?_⟩
  · rw [hd]
    have := bulkN_pos y0.1
    simp only [Rows.uptoBulk, Rows.uptoBulkAll, At.pl, List.length_cons]
    omega
  · rcases List.mem_cons.1 hu with rfl | hu
    · exact ht
    · exact hwl u hu
set_option maxRecDepth 100000 in
theorem test_of_cellsB {H : Type} {enc : TypeId × Value → H} {W : World} {base : Nat} {spare : Nat → Bool} {held : Bool} {fuel : Nat} {cs : List Value} {x : DataW H × List MemPlace}
    (hf : DataW.trod enc Tryz.prog W base spare held fuel 81 cs = some x) (hl : cs.length = 7) : ∃ t : Te, cs = [.int .i64 t.op, .int .i64 t.l.k, .int .i64 t.l.n, .string t.l.s, .int .i64 t.r.k, .int .i64 t.r.n, .string t.r.s] ∧ 2 ≤ Rows.uptoBulk x.1 ∧ WfT t.l ∧ WfT t.r := by
  obtain ⟨c0, c1, c2, c3, c4, c5, c6, rfl⟩ := clist7 hl
  obtain ⟨y0, y1, y2, n, hd, -, h0, h1, h2⟩ := trod_struct3 Tryz.underlying81 hf
  rw [Tryz.cellsInt] at h0
  rw [Tryz.cellsTerm] at h1 h2
  obtain ⟨k, e0, -, -⟩ := DataW.trod_int Tryz.underlying3 h0
  obtain ⟨t, e1, w1⟩ := term_of_cellsB h1 (by simp)
  obtain ⟨u, e2, w2⟩ := term_of_cellsB h2 (by simp)
  simp at e0 e1 e2
  subst e0
  obtain ⟨rfl, rfl, rfl⟩ := e1
  obtain ⟨rfl, rfl, rfl⟩ := e2
  refine ⟨⟨k, t, u⟩, rfl, ?_, w1, w2⟩
  rw [hd]
  have := bulkN_pos y1.1
  have := bulkN_pos y2.1
  simp only [Rows.uptoBulk, Rows.uptoBulkAll]
  omega
set_option maxRecDepth 100000 in
theorem open_atomsB {H : Type} {enc : TypeId × Value → H} {W : World} {base : Nat} {spare : Nat → Bool} {held : Bool} {fuel : Nat} {cs : List Value} {x : DataW H × List MemPlace}
    (h : DataW.trod enc Tryz.prog W base spare held fuel 34 cs = some x) (hw : ∀ n ∈ x.1.weights Tryz.prog 34, n ≤ reachBytes) : ∃ v l, cs = [v] ∧ As W v l ∧ ((fsts l).flatMap At.pl).length ≤ Rows.uptoBulk x.1 ∧ ∀ t ∈ (fsts l).flatMap At.pl, WfT t := by
  rcases open_slice Tryz.underlying34 h with ⟨rfl, -⟩ | ⟨a, len, cap, m, n, D, Pl, rfl, hba, hlc, hcm, hm, hx, hel⟩
  · exact ⟨_, [], rfl, ⟨none, 0, rfl, by simp, Or.inl rfl, fun x hx => by cases hx⟩, by simp [fsts], fun t ht => by simp [fsts] at ht⟩
  · have hlen : len < 1000000000000000000 := by
      have := hw ((((List.range len).map D).length + ((List.range (m - len)).map fun j => D (len + j)).length) * Tryz.prog.bytesOf 33) (by rw [hx]; simp [DataW.weights, Tryz.underlying34])
      rw [Tryz.bytesAtom] at this
      simp only [List.length_map, List.length_range, reachBytes] at this
      omega
    rw [Tryz.cellsAtom] at hel
    have hlm : len ≤ m := by rw [hm]; split <;> omega
    have key : ∀ i : Nat, ∃ t : At × Value, i < len → (W.cell? (a.add (i * 5)) = some (.int .i64 t.1.by_.k) ∧ W.cell? ((a.add (i * 5)).add 1) = some (.int .i64 t.1.by_.n) ∧ W.cell? ((a.add (i * 5)).add 2) = some (.string t.1.by_.s) ∧ W.cell? ((a.add (i * 5)).add 3) = some (.string t.1.name) ∧ W.cell? ((a.add (i * 5)).add 4) = some t.2) ∧ Ts W t.2 t.1.args ∧ t.1.pl.length ≤ Rows.uptoBulk (D i) ∧ ∀ u ∈ t.1.pl, WfT u := fun i => by
      by_cases hi : i < len
      · obtain ⟨cs', h1, h2⟩ := hel i (by omega)
        obtain ⟨-, hl, hc⟩ := World.cells?_some h1
        obtain ⟨t, rfl, hts, hbk, hwf⟩ := atom_of_cellsB h2 hl (fun n hn => hw n (by
          rw [hx, DataW.weights, Tryz.underlying34]
          exact List.mem_cons_of_mem _ (List.mem_append.2 (Or.inl (weights_mem_all hn (List.mem_map.2 ⟨i, List.mem_range.2 hi, rfl⟩))))))
        exact ⟨t, fun _ => ⟨⟨hc 0 (by omega), hc 1 (by omega), hc 2 (by omega), hc 3 (by omega), hc 4 (by omega)⟩, hts, hbk, hwf⟩⟩
      · exact ⟨(⟨zt, ⟨#[]⟩, []⟩, .slice none 0 0), fun h => absurd h hi⟩
    obtain ⟨f, hf⟩ := Classical.axiomOfChoice key
    have efl : (fsts ((List.range len).map f)).flatMap At.pl = (List.range len).flatMap fun i => (f i).1.pl := by simp [fsts, List.flatMap_map]
    refine ⟨_, (List.range len).map f, rfl, ⟨some a, cap, by simp, by simpa using hlen, ?_, fun x hx => ?_⟩, ?_, fun t ht => ?_⟩
    rotate_left 2
    · rw [hx, efl]
      have := bulkN_sum (fun i => (f i).1.pl) D (List.range len) fun i hi => (hf i (List.mem_range.1 hi)).2.2.1
      simp only [Rows.uptoBulk]
      omega
    · rw [efl] at ht
      obtain ⟨i, hi, ht⟩ := List.mem_flatMap.1 ht
      exact (hf i (List.mem_range.1 hi)).2.2.2 t ht
    · rcases Nat.eq_zero_or_pos len with h0 | h0
      · left; subst h0; rfl
      · right
        obtain ⟨b, off, spot⟩ := a
        have hspot : spot = none := by simpa [Addr.add] using World.cell?_spot (hf 0 h0).1.1
        subst hspot
        refine ⟨b, off, rfl, ?_, fun i t ht => ?_⟩
        · exact World.block_lt_of_cell? W _ (by have := (hf 0 h0).1.1; simpa [Addr.add] using this)
        · have hi : i < len := by have := (List.getElem?_eq_some_iff.1 ht).1; simpa using this
          have e : t = f i := by
            rw [List.getElem?_map, List.getElem?_range hi] at ht; simpa using ht.symm
          subst e
          have := (hf i hi).1
          rw [add_plain, add_plain, add_plain, add_plain, add_plain] at this
          exact this
    · obtain ⟨i, hi, rfl⟩ := List.mem_map.1 hx
      exact (hf i (List.mem_range.1 hi)).2.1
set_option maxRecDepth 100000 in
theorem open_testsB {H : Type} {enc : TypeId × Value → H} {W : World} {base : Nat} {spare : Nat → Bool} {held : Bool} {fuel : Nat} {cs : List Value} {x : DataW H × List MemPlace}
    (h : DataW.trod enc Tryz.prog W base spare held fuel 35 cs = some x) (hw : ∀ n ∈ x.1.weights Tryz.prog 35, n ≤ reachBytes) : ∃ v l, cs = [v] ∧ Es W v l ∧ (tls l).length ≤ Rows.uptoBulk x.1 ∧ ∀ t ∈ tls l, WfT t := by
  rcases open_slice Tryz.underlying35 h with ⟨rfl, -⟩ | ⟨a, len, cap, m, n, D, Pl, rfl, hba, hlc, hcm, hm, hx, hel⟩
  · exact ⟨_, [], rfl, ⟨none, 0, rfl, by simp, Or.inl rfl⟩, by simp [tls], fun t ht => by simp [tls] at ht⟩
  · have hlen : len < 1000000000000000000 := by
      have := hw ((((List.range len).map D).length + ((List.range (m - len)).map fun j => D (len + j)).length) * Tryz.prog.bytesOf 81) (by rw [hx]; simp [DataW.weights, Tryz.underlying35])
      rw [Tryz.bytesTest] at this
      simp only [List.length_map, List.length_range, reachBytes] at this
      omega
    rw [Tryz.cellsTest3] at hel
    have hlm : len ≤ m := by rw [hm]; split <;> omega
    have key : ∀ i : Nat, ∃ t : Te, i < len → (2 ≤ Rows.uptoBulk (D i) ∧ WfT t.l ∧ WfT t.r) ∧ W.cell? (a.add (i * 7)) = some (.int .i64 t.op) ∧ W.cell? ((a.add (i * 7)).add 1) = some (.int .i64 t.l.k) ∧ W.cell? ((a.add (i * 7)).add 2) = some (.int .i64 t.l.n) ∧ W.cell? ((a.add (i * 7)).add 3) = some (.string t.l.s) ∧ W.cell? ((a.add (i * 7)).add 4) = some (.int .i64 t.r.k) ∧ W.cell? ((a.add (i * 7)).add 5) = some (.int .i64 t.r.n) ∧ W.cell? ((a.add (i * 7)).add 6) = some (.string t.r.s) := fun i => by
      by_cases hi : i < len
      · obtain ⟨cs', h1, h2⟩ := hel i (by omega)
        obtain ⟨-, hl, hc⟩ := World.cells?_some h1
        obtain ⟨t, rfl, hbk⟩ := test_of_cellsB h2 hl
        exact ⟨t, fun _ => ⟨hbk, hc 0 (by omega), hc 1 (by omega), hc 2 (by omega), hc 3 (by omega), hc 4 (by omega), hc 5 (by omega), hc 6 (by omega)⟩⟩
      · exact ⟨⟨0, zt, zt⟩, fun h => absurd h hi⟩
    obtain ⟨f, hf⟩ := Classical.axiomOfChoice key
    have efl : tls ((List.range len).map f) = (List.range len).flatMap fun i => [(f i).l, (f i).r] := by simp [tls, List.flatMap_map]
    refine ⟨_, (List.range len).map f, rfl, ⟨some a, cap, by simp, by simpa using hlen, ?_⟩, ?_, fun t ht => ?_⟩
    rotate_left 1
    · rw [hx, efl]
      have := bulkN_sum (fun i => [(f i).l, (f i).r]) D (List.range len) fun i hi => (hf i (List.mem_range.1 hi)).1.1
      simp only [Rows.uptoBulk]
      omega
    · rw [efl] at ht
      obtain ⟨i, hi, ht⟩ := List.mem_flatMap.1 ht
      simp only [List.mem_cons, List.not_mem_nil, or_false] at ht
      rcases ht with rfl | rfl
      · exact (hf i (List.mem_range.1 hi)).1.2.1
      · exact (hf i (List.mem_range.1 hi)).1.2.2
    rcases Nat.eq_zero_or_pos len with h0 | h0
    · left; subst h0; rfl
    · right
      obtain ⟨b, off, spot⟩ := a
      have hspot : spot = none := by simpa [Addr.add] using World.cell?_spot (hf 0 h0).2.1
      subst hspot
      refine ⟨b, off, rfl, ?_, fun i t ht => ?_⟩
      · exact World.block_lt_of_cell? W _ (by have := (hf 0 h0).2.1; simpa [Addr.add] using this)
      · have hi : i < len := by have := (List.getElem?_eq_some_iff.1 ht).1; simpa using this
        have e : t = f i := by
          rw [List.getElem?_map, List.getElem?_range hi] at ht; simpa using ht.symm
        subst e
        have := (hf i hi).2
        rw [add_plain, add_plain, add_plain, add_plain, add_plain, add_plain, add_plain] at this
        exact this
end Go.Proofs.YtnikmcmkbjjcdaaGreatDoor
/-
  Arguments opened: a list of clauses, an atom, with the ranges of their numbers. (Written by SB4.py, out of SD8.)
-/
namespace Go.Proofs.YtnikmcmkbjjcdaaGreatDoor
open Go.ChangeShapes Go.WideShapes Go.ChangeAt Go.RowKit Go.Joins Go.Deep

theorem bulkW_mem {H : Type} {d : DataW H} : ∀ {l : List (DataW H)}, d ∈ l → Rows.uptoBulk d ≤ Rows.uptoBulkAll l
  | x :: r, h => by
    simp only [Rows.uptoBulkAll]
    rcases List.mem_cons.1 h with rfl | h
    · omega
    · have := bulkW_mem h; omega
set_option maxRecDepth 100000 in
theorem clause_of_cellsW {H : Type} {enc : TypeId × Value → H} {W : World} {base : Nat} {spare : Nat → Bool} {held : Bool} {fuel : Nat} {cs : List Value} {x : DataW H × List MemPlace}
    (hf : DataW.trod enc Tryz.prog W base spare held fuel 37 cs = some x) (hl : cs.length = 7) (hw : ∀ n ∈ x.1.weights Tryz.prog 37, n ≤ reachBytes) : ∃ c : Cm, cs = cc5 c ∧ c.ok W ∧ (Ck.terms c.key).length ≤ Rows.uptoBulk x.1 ∧ ∀ t ∈ Ck.terms c.key, WfT t := by
  obtain ⟨c0, c1, c2, c3, c4, c5, c6, rfl⟩ := clist7 hl
  obtain ⟨y0, y1, y2, n, hd, -, h0, h1, h2⟩ := trod_struct3 Tryz.underlying37 hf
  rw [Tryz.cellsAtom] at h0
  rw [Tryz.cellsAtoms] at h1
  rw [Tryz.cellsTests] at h2
  have hwe : ∀ (j : Nat) (t : TypeId) (y : DataW H), [33, 34, 35][j]? = some t → [y0.1, y1.1, y2.1][j]? = some y → ∀ m ∈ y.weights Tryz.prog t, m ≤ reachBytes := fun j t y ht hy m hm => by
    refine hw m ?_
    rw [hd, DataW.weights, Tryz.underlying37]
    exact DataW.weights_mem_each (j := j) ht hy m hm
  obtain ⟨x, e0, hx, b0, w0⟩ := atom_of_cellsB h0 (by simp) (hwe 0 _ _ rfl rfl)
  obtain ⟨vb, lb, e1, hb, b1, w1⟩ := open_atomsB h1 (hwe 1 _ _ rfl rfl)
  obtain ⟨vt, lt, e2, ht, b2, w2⟩ := open_testsB h2 (hwe 2 _ _ rfl rfl)
  simp at e0 e1 e2
  obtain ⟨rfl, rfl, rfl, rfl, rfl⟩ := e0
  subst e1 e2
  have ek : Ck.terms (Cm.key ⟨x, lb, c5, lt, c6⟩) = x.1.pl ++ ((fsts lb).flatMap At.pl ++ tls lt) := rfl
  refine ⟨⟨x, lb, _, lt, _⟩, rfl, ⟨hx, hb, ht⟩, ?_, fun t hm => ?_⟩
  · rw [ek, List.length_append, List.length_append, hd]
    simp only [Rows.uptoBulk, Rows.uptoBulkAll]
    omega
  · rw [ek] at hm
    rcases List.mem_append.1 hm with hm | hm
    · exact w0 t hm
    · rcases List.mem_append.1 hm with hm | hm
      · exact w1 t hm
      · exact w2 t hm
set_option maxRecDepth 100000 in
theorem open_clausesW {H : Type} {enc : TypeId × Value → H} {W : World} {base : Nat} {spare : Nat → Bool} {held : Bool} {fuel : Nat} {cs : List Value} {x : DataW H × List MemPlace}
    (h : DataW.trod enc Tryz.prog W base spare held fuel 23 cs = some x) (hw : ∀ n ∈ x.1.weights Tryz.prog 23, n ≤ reachBytes) : ∃ v l, cs = [v] ∧ Cx5 W v l ∧ l.length ≤ Rows.uptoBulk x.1 ∧ ∀ c ∈ l, (Ck.terms c.key).length ≤ Rows.uptoBulk x.1 ∧ ∀ t ∈ Ck.terms c.key, WfT t := by
  rcases open_slice Tryz.underlying23 h with ⟨rfl, -⟩ | ⟨a, len, cap, m, n, D, Pl, rfl, hba, hlc, hcm, hm, hx, hel⟩
  · exact ⟨_, [], rfl, ⟨⟨none, 0, rfl, Or.inl rfl⟩, fun c hc => by cases hc⟩, by simp, fun c hc => by cases hc⟩
  · rw [Tryz.cellsClause] at hel
    have hlm : len ≤ m := by rw [hm]; split <;> omega
    have key : ∀ i : Nat, ∃ c : Cm, i < len → (∀ k u, (cc5 c)[k]? = some u → W.cell? ((a.add (i * 7)).add k) = some u) ∧ c.ok W ∧ (Ck.terms c.key).length ≤ Rows.uptoBulk (D i) ∧ ∀ t ∈ Ck.terms c.key, WfT t := fun i => by
      by_cases hi : i < len
      · obtain ⟨cs', h1, h2⟩ := hel i (by omega)
        obtain ⟨-, hl, hc⟩ := World.cells?_some h1
        obtain ⟨c, rfl, hok, hbk⟩ := clause_of_cellsW h2 hl (fun n hn => hw n (by
          rw [hx, DataW.weights, Tryz.underlying23]
          exact List.mem_cons_of_mem _ (List.mem_append.2 (Or.inl (weights_mem_all hn (List.mem_map.2 ⟨i, List.mem_range.2 hi, rfl⟩))))))
        refine ⟨c, fun _ => ⟨fun k u hu => ?_, hok, hbk⟩⟩
        rw [← hu]
        exact hc k (List.getElem?_eq_some_iff.1 hu).1
      · exact ⟨⟨(⟨zt, ⟨#[]⟩, []⟩, .slice none 0 0), [], .slice none 0 0, [], .slice none 0 0⟩, fun h => absurd h hi⟩
    obtain ⟨f, hf⟩ := Classical.axiomOfChoice key
    refine ⟨_, (List.range len).map f, rfl, ⟨⟨some a, cap, by simp, ?_⟩, fun c hc => ?_⟩, by rw [hx]; simpa using bulkN_slice ((List.range len).map D) _, fun c hc => ?_⟩
    · rcases Nat.eq_zero_or_pos len with h0 | h0
      · left; subst h0; rfl
      · right
        obtain ⟨b, off, spot⟩ := a
        have h00 := (hf 0 h0).1 0 _ rfl
        have hspot : spot = none := by simpa [Addr.add] using World.cell?_spot h00
        subst hspot
        refine ⟨b, off, rfl, World.block_lt_of_cell? W _ (by simpa [Addr.add] using h00), fun i c hc => ?_⟩
        have hi : i < len := by have := (List.getElem?_eq_some_iff.1 hc).1; simpa using this
        have e : c = f i := by
          rw [List.getElem?_map, List.getElem?_range hi] at hc; simpa using hc.symm
        subst e
        have hk : ∀ k u, (cc5 (f i))[k]? = some u → W.cell? ⟨b, off + i * 7 + k, none⟩ = some u := fun k u hu => by
          have := (hf i hi).1 k u hu
          rw [add_plain, add_plain] at this
          exact this
        exact ⟨hk 0 _ rfl, hk 1 _ rfl, hk 2 _ rfl, hk 3 _ rfl, hk 4 _ rfl, hk 5 _ rfl, hk 6 _ rfl⟩
    · obtain ⟨i, hi, rfl⟩ := List.mem_map.1 hc
      exact (hf i (List.mem_range.1 hi)).2.1
    · obtain ⟨i, hi, rfl⟩ := List.mem_map.1 hc
      have h1 := (hf i (List.mem_range.1 hi)).2.2
      have h2 : Rows.uptoBulk (D i) ≤ Rows.uptoBulkAll ((List.range len).map D) := bulkW_mem (List.mem_map.2 ⟨i, hi, rfl⟩)
      refine ⟨?_, h1.2⟩
      rw [hx]
      simp only [Rows.uptoBulk]
      omega
set_option maxRecDepth 100000 in
theorem open_atomW {H : Type} {enc : TypeId × Value → H} {W : World} {r : Reach} {b0 base : Nat} {spare : Nat → Bool} {held : Bool} {v : Value} {d : DataW H} {p : List MemPlace}
    (hv : Value.okWide Tryz.prog W r b0 33 v) (h : DataW.Trod enc Tryz.prog W base spare held 33 v d p) (hw : ∀ n ∈ d.weights Tryz.prog 33, n ≤ reachBytes) : ∃ (a : At) (x : Value), v = a.v x ∧ Ts W x a.args ∧ ∀ t ∈ a.pl, WfT t := by
  obtain ⟨cs, rfl, hsz⟩ := okWide_struct Tryz.underlying33 hv
  rw [Tryz.cellsAtom] at hsz
  obtain ⟨fuel, hf⟩ := h
  obtain ⟨l⟩ := cs
  obtain ⟨a, e, ho, -, hw⟩ := atom_of_cellsB hf (by simpa [Value.cells] using hsz) hw
  refine ⟨a.1, a.2, ?_, ho, hw⟩
  have e' : l = _ := e
  rw [e']
theorem wf_n64 {t : Tm} (h : WfT t) : N64 t.n := by
  have h : (Lit.int .i64 t.n).wf = true := h
  simp only [Lit.wf, IntKind.min, IntKind.max, Bool.and_eq_true] at h
  simp [IntKind.signed, IntKind.bits] at h
  unfold N64
  omega
end Go.Proofs.YtnikmcmkbjjcdaaGreatDoor
/-
  What the rows lay, as it is read.
-/
namespace Go.Proofs.YtnikmcmkbjjcdaaGreatDoor
open Go.RowKit

theorem Tryz.gES : Tryz.prog.globalNamed "strconv.ErrSyntax" = some 3 := by kernel_rfl
theorem Tryz.gEST : (Tryz.prog.globals[3]?).map (·.type) = some 102 := by kernel_rfl
theorem Tryz.gER : Tryz.prog.globalNamed "strconv.ErrRange" = some 4 := by kernel_rfl
theorem Tryz.gERT : (Tryz.prog.globals[4]?).map (·.type) = some 102 := by kernel_rfl
theorem Tryz.gPW : Tryz.prog.globalNamed "internal/strconv.uint64pow10" = some 5 := by kernel_rfl
theorem Tryz.gPWT : (Tryz.prog.globals[5]?).map (·.type) = some 198 := by kernel_rfl
theorem Tryz.cellsES : Tryz.prog.cellsOf 206 = 1 := by kernel_rfl
theorem Tryz.cellsU64 : Tryz.prog.cellsOf 185 = 1 := by kernel_rfl
theorem Tryz.cellsPow : Tryz.prog.cellsOf 198 = 20 := by kernel_rfl
theorem Tryz.star : "*" ++ "errors.errorString" = "*errors.errorString" := by decide
theorem Tryz.rowES (u : TypeId) (h : Tryz.prog.typeName? 3 u = some "*errors.errorString") : u = 204 :=
  typeName_ptr_named (nm := "errors.errorString") (by rw [Tryz.star]; kernel_rfl) (by kernel_rfl) (by decide) u (by rw [Tryz.star]; exact h)
theorem noHandle {W : World} {l : List (String × DataW Unit)} (hl : (l.filter fun x => x.2.handleName?.isSome) = []) (h : laidMetH Tryz.prog l W) : laidMet Tryz.prog l W := by
  unfold laidMetH at h
  rw [hl] at h
  exact h
end Go.Proofs.YtnikmcmkbjjcdaaGreatDoor
/-
  What the rows of stage 5 lay, as it is read.
-/
namespace Go.Proofs.YtnikmcmkbjjcdaaGreatDoor
open Go.RowKit

theorem Tryz.gOps : Tryz.prog.globalNamed "hearsay/syntax.operators" = some 1 := by kernel_rfl
theorem Tryz.tOps : (Tryz.prog.globals[1]?).map (·.type) = some 133 := by kernel_rfl
theorem Tryz.cellsOps : Tryz.prog.cellsOf 133 = 12 := by kernel_rfl
theorem Tryz.cellsOpE : Tryz.prog.cellsOf 132 = 3 := by kernel_rfl
theorem Tryz.cellsInt5 : Tryz.prog.cellsOf 3 = 1 := by kernel_rfl
theorem ope_trod {H : Type} {enc : TypeId × Value → H} {W : World} {base f0 : Nat} {spare : Nat → Bool} {held : Bool} {c3 : List Value} {x : DataW H × List MemPlace} {a b : Int} {s : ByteArray}
    (h : DataW.trod enc Tryz.prog W base spare held f0 132 c3 = some x) (hx : x.1 = .agg [.lit (.int .i64 a), .lit (.int .i64 b), .lit (.string s.data.toList)]) : c3 = [.int .i64 a, .int .i64 b, .string s] := by
  obtain ⟨y0, y1, y2, n, rfl, hl, h0, h1, h2⟩ := Go.Deep.trod_struct3 Tryz.underlying132 h
  rw [Tryz.cellsOpE] at hl
  dsimp only at h0 h1 h2 hx
  rw [Tryz.cellsInt5] at h0 h1
  rw [Tryz.cellsStr] at h2
  obtain ⟨n0, e0, f0, -⟩ := DataW.trod_int Tryz.underlying3 h0
  obtain ⟨n1, e1, f1, -⟩ := DataW.trod_int Tryz.underlying3 h1
  obtain ⟨t2, e2, f2, -⟩ := DataW.trod_string Tryz.underlying9 h2
  rw [f0, f1, f2] at hx
  simp only [DataW.agg.injEq, List.cons.injEq, DataW.lit.injEq, Lit.int.injEq, Lit.string.injEq, true_and, and_true] at hx
  obtain ⟨rfl, rfl, hs⟩ := hx
  obtain rfl : t2 = s := ByteArray.ext (Array.toList_inj.1 hs)
  match c3, hl, e0, e1, e2 with
  | [u, v, z], _, e0, e1, e2 =>
    simp at e0 e1 e2
    rw [e0, e1, e2]
set_option maxRecDepth 100000 in
theorem ops_of_trod {H : Type} {enc : TypeId × Value → H} {W : World} {base f0 : Nat} {spare : Nat → Bool} {held : Bool} {cs0 : List Value} {p0 : List MemPlace}
    (h : DataW.trod enc Tryz.prog W base spare held f0 133 cs0 = some (Rows.laid_hearsay_syntax_operators, p0)) : cs0 = opsV.toList := by
  obtain ⟨xs, m, -, hx, hl, hn, hel⟩ := DataW.trod_array Tryz.underlying133 h
  rw [Tryz.cellsOps] at hl
  have hx1 : xs.map (·.1) = [.agg [.lit (.int .i64 13), .lit (.int .i64 1), .lit (.string (⟨#[61]⟩ : ByteArray).data.toList)], .agg [.lit (.int .i64 14), .lit (.int .i64 2), .lit (.string (⟨#[33, 61]⟩ : ByteArray).data.toList)], .agg [.lit (.int .i64 15), .lit (.int .i64 3), .lit (.string (⟨#[60]⟩ : ByteArray).data.toList)], .agg [.lit (.int .i64 16), .lit (.int .i64 4), .lit (.string (⟨#[60, 61]⟩ : ByteArray).data.toList)]] := by
    have := congrArg Prod.fst hx
    simp only [Rows.laid_hearsay_syntax_operators, DataW.agg.injEq] at this
    rw [← this]
  clear hx h
  match xs, hn, hel, hx1 with
  | [x0, x1, x2, x3], _, hel, hx1 =>
    simp only [List.map_cons, List.map_nil, List.cons.injEq, and_true] at hx1
    obtain ⟨g0, g1, g2, g3⟩ := hx1
    have k0 := ope_trod (s := ⟨#[61]⟩) (hel 0 (by omega)) g0
    have k1 := ope_trod (s := ⟨#[33, 61]⟩) (hel 1 (by omega)) g1
    have k2 := ope_trod (s := ⟨#[60]⟩) (hel 2 (by omega)) g2
    have k3 := ope_trod (s := ⟨#[60, 61]⟩) (hel 3 (by omega)) g3
    rw [Tryz.cellsOpE] at k0 k1 k2 k3
    match cs0, hl, k0, k1, k2, k3 with
    | [a, b, c, d, e, f, g, i, j, k, l, n], _, k0, k1, k2, k3 =>
      simp at k0 k1 k2 k3
      obtain ⟨rfl, rfl, rfl⟩ := k0
      obtain ⟨rfl, rfl, rfl⟩ := k1
      obtain ⟨rfl, rfl, rfl⟩ := k2
      obtain ⟨rfl, rfl, rfl⟩ := k3
      rfl
set_option maxRecDepth 100000 in
theorem ops_of_laid {W : World} (h : laidMet Tryz.prog [("hearsay/syntax.operators", Rows.laid_hearsay_syntax_operators)] W) : OpsOk W := by
  obtain ⟨ps, ⟨g0, t0, cs0, f0, p0, q0, hg0, ht0, hv0, hd0, _, _⟩, _, _⟩ := h
  obtain rfl := Option.some.inj (Tryz.gOps.symm.trans hg0)
  obtain rfl := Option.some.inj (Tryz.tOps.symm.trans ht0)
  have e : cs0 = opsV := Array.toList_inj.1 (ops_of_trod hd0)
  subst e
  unfold World.var? at hv0
  rw [hg0] at hv0
  simp only [Option.bind_some] at hv0
  split at hv0
  · rename_i cs t fr he
    cases hv0
    exact ⟨t, fr, he⟩
  · cases hv0
set_option maxRecDepth 100000 in
theorem signs_of_head {W : World} {l : List (String × DataW Unit)} (h : laidMet Tryz.prog (("hearsay/tokens.signs", Rows.laid_hearsay_tokens_signs) :: l) W) : SignsOk W := by
  obtain ⟨ps, ⟨g0, t0, cs0, f0, p0, q0, hg0, ht0, hv0, hd0, _, _⟩, _, _⟩ := h
  obtain rfl := Option.some.inj (Tryz.gSigns.symm.trans hg0)
  obtain rfl := Option.some.inj (Tryz.tSigns.symm.trans ht0)
  have hc : ∀ (i : Nat) (t : ByteArray), signL[i]? = some t → cs0[i]? = some (.string t) := fun i t ht => by simpa using (signs_of_trod hd0 i t ht).1
  have hl : cs0.size = 17 := by simpa using (signs_of_trod hd0 5 _ rfl).2
  refine ⟨?_, fun i t ht => ?_⟩
  · have e : cs0 = signV := by
      apply Array.ext_getElem?
      intro i
      rcases Nat.lt_or_ge i 17 with h | h
      · have hs : i < signL.length := h
        rw [hc i _ (List.getElem?_eq_getElem hs)]
        simp [signV, hs]
      · rw [Array.getElem?_eq_none (by omega), Array.getElem?_eq_none (by show signV.size ≤ i; exact h)]
    subst e
    unfold World.var? at hv0
    rw [hg0] at hv0
    simp only [Option.bind_some] at hv0
    split at hv0
    · rename_i cs t fr he
      cases hv0
      exact ⟨t, fr, he⟩
    · cases hv0
  · have := World.var?_cell hg0 hv0 i
    rw [show W.cell? ⟨0, i, none⟩ = cs0[i]? by simpa using this]
    exact hc i t ht
abbrev laid7 : List (String × DataW Unit) := [("math/bits.deBruijn32tab", Rows.laid_math_bits_deBruijn32tab), ("math/bits.deBruijn64tab", Rows.laid_math_bits_deBruijn64tab), ("internal/strconv.uint64pow10", Rows.laid_internal_strconv_uint64pow10), ("strconv.ErrRange", Rows.laid_strconv_ErrRange), ("strconv.ErrSyntax", Rows.laid_strconv_ErrSyntax), ("hearsay/tokens.signs", Rows.laid_hearsay_tokens_signs), ("hearsay/syntax.operators", Rows.laid_hearsay_syntax_operators)]
set_option maxRecDepth 100000 in
theorem env_of_laid7 {W : World} (h : laidMetH Tryz.prog laid7 W) : EnvOk W ∧ OpsOk W := by
  have h0 : laidMet Tryz.prog laid7 W := noHandle rfl h
  have hp : laidMet Tryz.prog (("internal/strconv.uint64pow10", Lib.tabData .u64 Lib.pow10Tab) :: [("strconv.ErrRange", Rows.laid_strconv_ErrRange), ("strconv.ErrSyntax", Rows.laid_strconv_ErrSyntax), ("hearsay/tokens.signs", Rows.laid_hearsay_tokens_signs), ("hearsay/syntax.operators", Rows.laid_hearsay_syntax_operators)]) W := h0.tail.tail
  have hr := hp.tail
  have hs := hr.tail
  have hg := hs.tail
  obtain ⟨a1, s1, hv1, -, -, -⟩ := laid_sentinel hr Tryz.gER Tryz.gERT Tryz.underlying102 Tryz.rowES Tryz.underlying204 Tryz.underlying206 rfl rfl Tryz.underlying9 Tryz.cellsES Tryz.cellsStr
  obtain ⟨a2, s2, hv2, -, -, -⟩ := laid_sentinel hs Tryz.gES Tryz.gEST Tryz.underlying102 Tryz.rowES Tryz.underlying204 Tryz.underlying206 rfl rfl Tryz.underlying9 Tryz.cellsES Tryz.cellsStr
  exact ⟨⟨signs_of_head hg, ⟨_, _, hv2⟩, ⟨_, _, hv1⟩, Lib.tabIs_of_head Tryz.gPW Tryz.gPWT Tryz.underlying198 Tryz.underlying185 Tryz.cellsU64 Tryz.cellsPow hp⟩, ops_of_laid hg.tail⟩
end Go.Proofs.YtnikmcmkbjjcdaaGreatDoor
/-
  The statement on hearsaylaw05.SyntaxBack, and its card.
-/
namespace Go.Proofs.YtnikmcmkbjjcdaaGreatDoor
open Go.ChangeShapes Go.WideShapes Go.ChangeAt Go.RowKit

theorem backc_met (os : Os) (args : Array Value) : laidMetH Tryz.prog laid7 ((World.doorLaid Tryz.prog 2000 os).forCall (fun _ _ => 0) ⟨#[], args, []⟩).memory :=
  laidMetH_of_parts3 (fuel := 8) (laidMet_of_run' 8 (by kernel_rfl) (by kernel_rfl)) (by kernel_rfl) (by kernel_rfl)
theorem backc_reads (os : Os) {H : Type} (enc : TypeId × Value → H) : ∃ places, DataW.whole enc Tryz.prog ((World.doorLaid Tryz.prog 2000 os).forCall (fun _ _ => 0) ⟨#[], #[.slice none 0 0, .agg #[.int .i64 0, .int .i64 0, .string ⟨#[]⟩, .string ⟨#[]⟩, .slice none 0 0]], []⟩).memory Tryz.f8.params.toList Rows.syntaxBackSpec.vars false #[.slice none 0 0, .agg #[.int .i64 0, .int .i64 0, .string ⟨#[]⟩, .string ⟨#[]⟩, .slice none 0 0]].toList 8 = some ([.nil, .agg [.agg [.lit (.int .i64 0), .lit (.int .i64 0), .lit (.string [])], .lit (.string []), .nil]], [], places) :=
  ⟨[], by kernel_rfl⟩
set_option maxRecDepth 100000 in
theorem backc_lifted (os : Os) (started : os.Started) (H : Type) (enc : TypeId × Value → H) (F : Stop.Interp) :
    ReturnsInHanded {} Tryz.checked os 8 .any ((Rows.OpenSpec.upto Rows.syntaxBackSpec).preRow enc Tryz.prog Tryz.f8 Rows.syntaxBackUptoRow.domain false Rows.syntaxBackUptoRow.laid) (((Rows.OpenSpec.upto Rows.syntaxBackSpec).at F).post enc Tryz.prog Tryz.f8 false true false false) := by
  obtain ⟨places, hx⟩ := backc_reads os enc
  refine returnsInHanded_of_row (C := Tryz.checked) (s := Rows.OpenSpec.upto Rows.syntaxBackSpec) Tryz.own started (by kernel_rfl) Tryz.func8
    (witness_row_at (enc := enc) (C := Tryz.checked) false (World.doorLaid Tryz.prog 2000 os) #[.slice none 0 0, .agg #[.int .i64 0, .int .i64 0, .string ⟨#[]⟩, .string ⟨#[]⟩, .slice none 0 0]] rfl (by kernel_rfl) (by kernel_rfl) (by kernel_rfl)
      (OpenSpec.preRow_of_cond 8 hx (by kernel_rfl) (fun k hk => by cases hk; kernel_rfl) (by kernel_rfl) (backc_met os _))) ?_
  intro W base args ds gs before hval0 hW _ hcond hsz0 hL0 _ _
  have hk : Rows.uptoSmall H (ds ++ gs) = true := hcond _ rfl
  have hL : laidMetH Tryz.prog laid7 W := hL0
  have hval : ∀ (j : Nat) t v, Tryz.f8.params[j]? = some t → args[j]? = some v → Value.okWide Tryz.prog W .any base t v := hval0
  have hsz : (DataW.weightsEach Tryz.prog (Tryz.f8.params.toList ++ Rows.syntaxBackSpec.plain.varTypes Tryz.prog) (ds ++ gs)).all (· ≤ reachBytes) = true := hsz0
  have hW' := hW
  obtain ⟨p, q, hA0, hV, rfl, hfz, hnd⟩ := hW
  have hA : DataW.TrodAll enc Tryz.prog W 0 (fun _ => true) true Tryz.f8.params.toList args.toList ds p := hA0
  rw [Tryz.params8] at hA hval hsz
  obtain ⟨v0, vs0, d0, ds0, p0, q0, hargs, rfl, rfl, h0, r0⟩ := trodAll_cons hA
  obtain ⟨v1, vs1, d1, ds1, p1, q1, rfl, rfl, rfl, h1, r1⟩ := trodAll_cons r0
  obtain ⟨rfl, rfl, rfl⟩ := trodAll_nil r1
  obtain rfl : args = #[v0, v1] := by cases args; simp_all
  obtain ⟨rfl, rfl⟩ := trodVars_none hV
  have k0 := h0
  have lt0 : ∀ x ∈ p0, x.block < W.heap.size := by obtain ⟨m, hm⟩ := k0; exact DataW.trod_lt m _ _ _ hm
  have k1 := h1
  have lt1 : ∀ x ∈ p1, x.block < W.heap.size := by obtain ⟨m, hm⟩ := k1; exact DataW.trod_lt m _ _ _ hm
  have sz : ∀ n ∈ DataW.weightsEach Tryz.prog _ _, n ≤ reachBytes := fun n hn => by simpa using List.all_eq_true.1 hsz n hn
  obtain ⟨a, y, rfl, hy, hwa⟩ := open_atomW (hval 1 33 v1 rfl rfl) h1 (fun n hn => sz n (DataW.weights_mem_each (j := 1) rfl rfl n hn))
  obtain ⟨a0, len, cap, rfl⟩ := okWide_slice Tryz.underlying23 (hval 0 23 v0 rfl rfl)
  obtain ⟨fuel, hf⟩ := h0
  obtain ⟨v, l, e, hcs, hll, hlt⟩ := open_clausesW hf (fun n hn => sz n (DataW.weights_mem_each (j := 0) rfl rfl n hn))
  simp [Value.cells] at e
  subst e
  simp only at hll hlt
  have hbk : Rows.uptoBulkAll ([d0, d1] ++ []) ≤ 1048576 := of_decide_eq_true hk
  simp only [List.cons_append, List.nil_append, Rows.uptoBulkAll] at hbk
  clear hA0 hval0
  obtain ⟨hE, hO⟩ := env_of_laid7 hL
  have hnw : ∀ c ∈ l, Nw5 c := fun c hc => ⟨⟨fun t ht _ => (hlt c hc).2 t (by rw [key_terms] at ht; exact ht), by rw [key_terms]; have := (hlt c hc).1; omega⟩, fun t ht => wf_n64 ((hlt c hc).2 t (by rw [key_terms] at ht; exact ht))⟩
  refine (back5_any l _ a y W hcs (by omega) hnw hy (fun t ht => wf_n64 (hwa t ht)) hE hO).mono fun e W' ⟨he, bel⟩ => ?_
  subst he
  exact ⟨_, rfl, _, _, _, [], _, [], hW', trodAll_mk1 (shut_bool Tryz.underlying4 _), (trodAll_cons_mk (Below.trod Tryz.laidOut (by kernel_rfl) (of_decide_eq_true (by kernel_rfl)) k0 bel lt0) (trodAll_cons_mk (Below.trod Tryz.laidOut (by kernel_rfl) (of_decide_eq_true (by kernel_rfl)) k1 bel lt1) trodAll_mk0)), rfl, bel.frame _, fun h => by cases h⟩
theorem syntaxBack_row : Rows.SyntaxBackUptoSaid :=
  OpenClaim.holds_of_cond 8 Tryz.f8 rfl rfl rfl rfl rfl rfl rfl ⟨rfl, rfl, rfl, rfl, rfl⟩ rfl rfl rfl rfl rfl (by kernel_rfl) Tryz.func8 (by kernel_rfl)
    (of_decide_eq_true (by kernel_rfl)) (by unfold Func.isWrapper; first | (rw [if_pos (by decide +kernel)]; kernel_rfl) | (rw [if_neg (by decide +kernel)]; exact ⟨rfl, rfl⟩))
    (fun os started H enc _ F => by rw [OpenClaim.pre_eq_preRow]; exact backc_lifted os started H enc F)
theorem syntaxBack_holds : Rows.SyntaxBackUptoCardSaid :=
  Claim7.holds_tied_plain_at .later [] _ _ _ _
    syntaxBack_row (fun _ h => by cases h) (by kernel_rfl) (fun _ h => by cases h) syntaxBackUpto_row_tie rfl ⟨rfl, rfl⟩ (by kernel_rfl) rfl
    (fun f fn hf hfn => by
      obtain rfl : f = 8 := Option.some.inj ((show Tryz.prog.funcNamed "hearsay/hearsaylaw05.SyntaxBack" = some 8 by kernel_rfl).symm.trans hf) |>.symm
      obtain rfl : fn = Tryz.f8 := (Option.some.inj (Tryz.func8.symm.trans hfn)).symm
      exact ⟨by kernel_rfl, fun j t ht => by
        rw [Tryz.params8] at ht
        have h3 : t = 23 ∨ t = 33 := by
          rcases j with _ | _ | j
          · left; simpa using ht.symm
          · right; simpa using ht.symm
          · simp at ht
        rcases h3 with h3 | h3
        · rw [h3]; exact (show Tryz.prog.wantsStandIn 23 = false by kernel_rfl)
        · rw [h3]; exact (show Tryz.prog.wantsStandIn 33 = false by kernel_rfl)⟩)
    (by kernel_rfl)
#print axioms syntaxBack_holds
end Go.Proofs.YtnikmcmkbjjcdaaGreatDoor
