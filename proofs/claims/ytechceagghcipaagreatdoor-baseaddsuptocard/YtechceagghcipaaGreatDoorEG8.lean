import Derived.Test.YtechceagghcipaaGreatDoorRows
import Derived.Deep.Slices
import Derived.Deep.Strs
import Derived.SizedLaws
import Derived.ChangeSame
import Derived.ChangeSlices
import Derived.ProofKit
import Derived.OpenShut
import Derived.ShutString
import Derived.ChangeOld
import Derived.Below
import Derived.Lib.SmallJoins
import Derived.ChangeMaps5
import Derived.Test.YtechceagghcipaaGreatDoorEG6
namespace Go.Proofs.YtechceagghcipaaGreatDoor
open Go.ChangeShapes Go.WideShapes Go.ChangeAt Go.RowKit Go.Joins Go.Deep

theorem list3 {α : Type} {l : List α} (h : l.length = 3) : ∃ a b c, l = [a, b, c] := by
 match l, h with
 | [a, b, c], _ => exact ⟨a, b, c, rfl⟩
theorem list5 {α : Type} {l : List α} (h : l.length = 5) : ∃ a b c d e, l = [a, b, c, d, e] := by
 match l, h with
 | [a, b, c, d, e], _ => exact ⟨a, b, c, d, e, rfl⟩
theorem Tryz.cellsInt : Tryz.prog.cellsOf 3 = 1 := by kernel_rfl
theorem Tryz.cellsString : Tryz.prog.cellsOf 9 = 1 := by kernel_rfl
theorem Tryz.cellsTerms : Tryz.prog.cellsOf 25 = 1 := by kernel_rfl
theorem Tryz.cellsAtom : Tryz.prog.cellsOf 27 = 5 := by kernel_rfl
theorem Tryz.bytesTerm : Tryz.prog.bytesOf 24 = 32 := by kernel_rfl
theorem weights_mem_all {H : Type} {P : Program} {e : TypeId} {d : DataW H} {n : Nat} (hn : n ∈ d.weights P e) : ∀ {ds : List (DataW H)}, d ∈ ds -> n ∈ DataW.weightsAll P e ds
 | x :: r, h => by
  rw [DataW.weightsAll, List.mem_append]
  rcases List.mem_cons.1 h with rfl | h
  ·exact Or.inl hn
  ·exact Or.inr (weights_mem_all hn h)
theorem bulkN_pos {H : Type} (d : DataW H) : 1 <= Rows.uptoBulk d := by
 cases d with
 | lit l => cases l <;> simp [Rows.uptoBulk]
 | _ => simp [Rows.uptoBulk]
theorem bulkN_len {H : Type} (l : List (DataW H)) : l.length <= Rows.uptoBulkAll l := by
 induction l with
 | nil => simp
 | cons d r ih => have := bulkN_pos d; simp only [Rows.uptoBulkAll, List.length_cons]; omega
theorem bulkN_slice {H : Type} (l r : List (DataW H)) : l.length <= Rows.uptoBulk (.slice l r) := by
 have := bulkN_len l; simp only [Rows.uptoBulk]; omega
theorem bulk7_pos {H : Type} (d : DataW H) : 1 <= Rows.uptoBulk d := by
 cases d with
 | lit l => cases l <;> simp [Rows.uptoBulk]
 | _ => simp [Rows.uptoBulk]
theorem bulk7_len {H : Type} (l : List (DataW H)) : l.length <= Rows.uptoBulkAll l := by
 induction l with
 | nil => simp
 | cons d r ih => have := bulk7_pos d; simp only [Rows.uptoBulkAll, List.length_cons]; omega
theorem bulk7_slice {H : Type} (l r : List (DataW H)) : l.length <= Rows.uptoBulk (.slice l r) := by
 have := bulk7_len l; simp only [Rows.uptoBulk]; omega
theorem bulk7_sum {H : Type} (g : Nat -> Nat) (D : Nat -> DataW H) : ∀ l : List Nat, (∀ i ∈ l, g i <= Rows.uptoBulk (D i)) -> (l.map g).sum <= Rows.uptoBulkAll (l.map D)
 | [], _ => by simp
 | i :: l, h => by
  have h1 := h i (by simp)
  have h2 := bulk7_sum g D l fun j hj => h j (by simp [hj])
  rw [List.map_cons, List.map_cons, List.sum_cons]
  simp only [Rows.uptoBulkAll]
  omega
theorem Tryz.cellsInt7 : Tryz.prog.cellsOf 3 = 1 := by kernel_rfl
theorem term_of_cellsY {H : Type} {enc : TypeId × Value -> H} {W : World} {base : Nat} {spare : Nat -> Bool} {held : Bool} {fuel : Nat} {cs : List Value} {x : DataW H × List MemPlace}
  (h : DataW.trod enc Tryz.prog W base spare held fuel 24 cs = some x) (hl : cs.length = 3) : ∃ t : Tm, cs = [.int .i64 t.k, .int .i64 t.n, .string t.s] /\ KeyT t := by
 obtain ⟨c0, c1, c2, rfl⟩ := list3 hl
 obtain ⟨y0, y1, y2, n, -, -, h0, h1, h2⟩ := trod_struct3 Tryz.underlying24 h
 rw [Tryz.cellsInt] at h0 h1
 rw [Tryz.cellsString] at h2
 obtain ⟨k, e0, -, hwk⟩ := DataW.trod_int Tryz.underlying3 h0
 obtain ⟨m, e1, -, hwn⟩ := DataW.trod_int Tryz.underlying3 h1
 obtain ⟨s, e2, -, hwf⟩ := DataW.trod_string Tryz.underlying9 h2
 simp at e0 e1 e2
 subst e0 e1 e2
 exact ⟨⟨k, m, s⟩, rfl, hwk, hwn, hwf⟩
set_option maxRecDepth 100000 in
theorem open_termsY {H : Type} {enc : TypeId × Value -> H} {W : World} {base : Nat} {spare : Nat -> Bool} {held : Bool} {fuel : Nat} {cs : List Value} {x : DataW H × List MemPlace}
  (h : DataW.trod enc Tryz.prog W base spare held fuel 25 cs = some x) (hw : ∀ n ∈ x.1.weights Tryz.prog 25, n <= reachBytes) : ∃ v l, cs = [v] /\ (Ts W v l /\ TsP W v l) /\ l.length <= Rows.uptoBulk x.1 /\ ∀ t ∈ l, KeyT t := by
 rcases open_slice Tryz.underlying25 h with ⟨rfl, -⟩ | ⟨a, len, cap, m, n, D, Pl, rfl, hba, hlc, hcm, hm, hx, hel⟩
 ·exact ⟨_, [], rfl, ⟨⟨none, 0, rfl, by simp, Or.inl rfl⟩, Or.inl ⟨rfl, rfl⟩⟩, by simp, fun t ht => by cases ht⟩
 ·have hlen : len < 1000000000000000000 := by
   have := hw ((((List.range len).map D).length + ((List.range (m - len)).map fun j => D (len + j)).length) * Tryz.prog.bytesOf 24) (by rw [hx]; simp [DataW.weights, Tryz.underlying25])
   rw [Tryz.bytesTerm] at this
   simp only [List.length_map, List.length_range, reachBytes] at this
   omega
  rw [Tryz.cellsTerm] at hel
  have hlm : len <= m := by rw [hm]; split <;> omega
  have key : ∀ i : Nat, ∃ t : Tm, i < len -> KeyT t /\ W.cell? (a.add (i * 3)) = some (.int .i64 t.k) /\ W.cell? ((a.add (i * 3)).add 1) = some (.int .i64 t.n) /\ W.cell? ((a.add (i * 3)).add 2) = some (.string t.s) := fun i => by
   by_cases hi : i < len
   ·obtain ⟨cs', h1, h2⟩ := hel i (by omega)
    obtain ⟨-, hl, hc⟩ := World.cells?_some h1
    obtain ⟨t, rfl, hwf⟩ := term_of_cellsY h2 hl
    exact ⟨t, fun _ => ⟨hwf, hc 0 (by omega), hc 1 (by omega), hc 2 (by omega)⟩⟩
   ·exact ⟨zt, fun h => absurd h hi⟩
  obtain ⟨f, hf⟩ := Classical.axiomOfChoice key
  have hgo : (List.range len).map f = [] ∨ ∃ b o, a = ⟨b, o, none⟩ /\ TRow W b o ((List.range len).map f) := by
   rcases Nat.eq_zero_or_pos len with h0 | h0
   ·left; subst h0; rfl
   ·right
    obtain ⟨b, off, spot⟩ := a
    have hspot : spot = none := by simpa [Addr.add] using World.cell?_spot (hf 0 h0).2.1
    subst hspot
    refine ⟨b, off, rfl, ?_, fun i t ht => ?_⟩
    ·exact World.block_lt_of_cell? W _ (by have := (hf 0 h0).2.1; simpa [Addr.add] using this)
    ·have hi : i < len := by have := (List.getElem?_eq_some_iff.1 ht).1; simpa using this
     have e : t = f i := by
      rw [List.getElem?_map, List.getElem?_range hi] at ht; simpa using ht.symm
     subst e
     have := (hf i hi).2
     rw [add_plain, add_plain, add_plain] at this
     exact this
  refine ⟨_, (List.range len).map f, rfl, ⟨⟨some a, cap, by simp, by simpa using hlen, ?_⟩, Or.inr ⟨a, cap, by simp, hgo⟩⟩, by rw [hx]; simpa using bulkN_slice ((List.range len).map D) _, fun t ht => by obtain ⟨i, hi, rfl⟩ := List.mem_map.1 ht; exact (hf i (List.mem_range.1 hi)).1⟩
  rcases hgo with hq | ⟨b, o, rfl, hq⟩
  ·exact Or.inl hq
  ·exact Or.inr ⟨b, o, rfl, hq⟩
set_option maxRecDepth 100000 in
theorem atom_of_cellsY {H : Type} {enc : TypeId × Value -> H} {W : World} {base : Nat} {spare : Nat -> Bool} {held : Bool} {fuel : Nat} {cs : List Value} {x : DataW H × List MemPlace}
  (hf : DataW.trod enc Tryz.prog W base spare held fuel 27 cs = some x) (hl : cs.length = 5) (hw : ∀ n ∈ x.1.weights Tryz.prog 27, n <= reachBytes) : ∃ a : At × Value, cs = [.int .i64 a.1.by_.k, .int .i64 a.1.by_.n, .string a.1.by_.s, .string a.1.name, a.2] /\ (Ts W a.2 a.1.args /\ TsP W a.2 a.1.args) /\ a.1.pl.length <= Rows.uptoBulk x.1 /\ (∀ t ∈ a.1.pl, KeyT t) /\ a.1.name.size <= maxLen := by
 obtain ⟨c0, c1, c2, c3, c4, rfl⟩ := list5 hl
 obtain ⟨y0, y1, y2, n, hd, -, h0, h1, h2⟩ := trod_struct3 Tryz.underlying27 hf
 rw [Tryz.cellsTerm] at h0
 rw [Tryz.cellsString] at h1
 rw [Tryz.cellsTerms] at h2
 obtain ⟨t, e0, ht⟩ := term_of_cellsY h0 (by simp)
 obtain ⟨s, e1, -, hs⟩ := DataW.trod_string Tryz.underlying9 h1
 obtain ⟨v, l, e2, hx, hbk, hwl⟩ := open_termsY h2 (fun m hm => by
  refine hw m ?_
  rw [hd, DataW.weights, Tryz.underlying27]
  exact DataW.weights_mem_each (j := 2) rfl rfl m hm)
 simp at e0 e1 e2
 obtain ⟨rfl, rfl, rfl⟩ := e0
 subst e1 e2
 refine ⟨(⟨t, s, l⟩, c4), rfl, hx, ?_, fun u hu => ?_, hs⟩
 ·rw [hd]
  have := bulkN_pos y0.1
  simp only [Rows.uptoBulk, Rows.uptoBulkAll, At.pl, List.length_cons]
  omega
 ·rcases List.mem_cons.1 hu with rfl | hu
  ·exact ht
  ·exact hwl u hu
theorem pd8_key {a : At} (h : a.name.size <= maxLen) (hl : a.args.length <= 1000000000) : KeyP a.pd8 := ⟨h, wfI8 (by show _ <= (a.args.length : Int); omega) (by show (a.args.length : Int) <= _; omega)⟩
end Go.Proofs.YtechceagghcipaaGreatDoor
