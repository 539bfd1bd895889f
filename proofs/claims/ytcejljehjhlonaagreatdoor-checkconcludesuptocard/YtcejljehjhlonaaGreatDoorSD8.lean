import Derived.Test.YtcejljehjhlonaaGreatDoorB5
import Derived.ProofKit
import Derived.OpenShut
import Derived.ShutString
import Derived.ChangeOld
import Derived.Below
import Derived.Lib.SmallJoins
import Derived.Deep.Slices
import Derived.Deep.Strs
import Derived.SizedLaws
import Derived.Test.YtcejljehjhlonaaGreatDoorCL2
import Derived.Test.YtcejljehjhlonaaGreatDoorL1
import Derived.Test.YtcejljehjhlonaaGreatDoorRows
import Derived.Test.YtcejljehjhlonaaGreatDoorCP0
import Derived.Deep.DeepHandedRow
import Derived.LaidMore
namespace Go.Proofs.YtcejljehjhlonaaGreatDoor
open Go.ChangeShapes Go.WideShapes Go.ChangeAt Go.RowKit Go.Joins
open Go.ChangeMaps (open_string shut_string)

theorem Tryz.own : ownKnob Tryz.prog.godebug = none := by kernel_rfl
theorem Tryz.laidOut : laidOutB Tryz.prog = true := by kernel_rfl
theorem Tryz.cellsTerm : Tryz.prog.cellsOf 36 = 3 := by kernel_rfl

end Go.Proofs.YtcejljehjhlonaaGreatDoor
namespace Go.Proofs.YtcejljehjhlonaaGreatDoor
open Go.ChangeShapes Go.WideShapes Go.ChangeAt Go.RowKit Go.Joins Go.Deep

theorem Tryz.cellsAtom : Tryz.prog.cellsOf 39 = 5 := by kernel_rfl
theorem Tryz.cellsInt : Tryz.prog.cellsOf 3 = 1 := by kernel_rfl
theorem Tryz.cellsString : Tryz.prog.cellsOf 9 = 1 := by kernel_rfl
theorem Tryz.cellsTerms : Tryz.prog.cellsOf 37 = 1 := by kernel_rfl
theorem Tryz.bytesTerm : Tryz.prog.bytesOf 36 = 32 := by kernel_rfl
theorem list3 {α : Type} {l : List α} (h : l.length = 3) : ∃ a b c, l = [a, b, c] := by
 match l, h with
 | [a, b, c], _ => exact ⟨a, b, c, rfl⟩
theorem list5 {α : Type} {l : List α} (h : l.length = 5) : ∃ a b c d e, l = [a, b, c, d, e] := by
 match l, h with
 | [a, b, c, d, e], _ => exact ⟨a, b, c, d, e, rfl⟩
end Go.Proofs.YtcejljehjhlonaaGreatDoor
namespace Go.Proofs.YtcejljehjhlonaaGreatDoor
open Go.ChangeShapes Go.WideShapes Go.ChangeAt Go.RowKit Go.Joins Go.Deep

theorem weights_mem_all {H : Type} {P : Program} {e : TypeId} {d : DataW H} {n : Nat} (hn : n ∈ d.weights P e) : ∀ {ds : List (DataW H)}, d ∈ ds -> n ∈ DataW.weightsAll P e ds
 | x :: r, h => by
  rw [DataW.weightsAll, List.mem_append]
  rcases List.mem_cons.1 h with rfl | h
  ·exact Or.inl hn
  ·exact Or.inr (weights_mem_all hn h)
theorem Tryz.cellsTest3 : Tryz.prog.cellsOf 73 = 7 := by kernel_rfl
theorem Tryz.cellsClause : Tryz.prog.cellsOf 60 = 7 := by kernel_rfl
theorem Tryz.cellsAtoms : Tryz.prog.cellsOf 27 = 1 := by kernel_rfl
theorem Tryz.cellsTests : Tryz.prog.cellsOf 58 = 1 := by kernel_rfl
theorem Tryz.bytesAtom : Tryz.prog.bytesOf 39 = 72 := by kernel_rfl
theorem Tryz.bytesTest : Tryz.prog.bytesOf 73 = 72 := by kernel_rfl
theorem clist7 {α : Type} {l : List α} (h : l.length = 7) : ∃ a b c d e f g, l = [a, b, c, d, e, f, g] := by
 match l, h with
 | [a, b, c, d, e, f, g], _ => exact ⟨a, b, c, d, e, f, g, rfl⟩
end Go.Proofs.YtcejljehjhlonaaGreatDoor
namespace Go.Proofs.YtcejljehjhlonaaGreatDoor
open Go.ChangeShapes Go.WideShapes Go.ChangeAt Go.RowKit Go.Joins Go.Deep

def WfT (t : Tm) : Prop := (Lit.int .i64 t.n).wf = true
theorem bulkN_pos {H : Type} (d : DataW H) : 1 <= Rows.uptoBulk d := by
 cases d with
 | lit l => cases l <;> simp [Rows.uptoBulk]
 | _ => simp [Rows.uptoBulk]
theorem bulkN_len {H : Type} (l : List (DataW H)) : l.length <= Rows.uptoBulkAll l := by
 induction l with
 | nil => simp
 | cons d r ih => have := bulkN_pos d; simp only [Rows.uptoBulkAll, List.length_cons]; omega
theorem bulkN_slice {H : Type} (l r : List (DataW H)) : l.length <= Rows.uptoBulk (.slice l r) := by
 have := bulkN_len l; simp only [Rows.uptoBulk]; omega
theorem bulkN_sum {H α : Type} (g : Nat -> List α) (D : Nat -> DataW H) : ∀ l : List Nat, (∀ i ∈ l, (g i).length <= Rows.uptoBulk (D i)) -> (l.flatMap g).length <= Rows.uptoBulkAll (l.map D)
 | [], _ => by simp
 | i :: l, h => by
  have h1 := h i (by simp)
  have h2 := bulkN_sum g D l fun j hj => h j (by simp [hj])
  rw [List.flatMap_cons, List.length_append, List.map_cons]
  simp only [Rows.uptoBulkAll]
  omega
set_option maxRecDepth 100000 in
theorem term_of_cellsB {H : Type} {enc : TypeId × Value -> H} {W : World} {base : Nat} {spare : Nat -> Bool} {held : Bool} {fuel : Nat} {cs : List Value} {x : DataW H × List MemPlace}
  (h : DataW.trod enc Tryz.prog W base spare held fuel 36 cs = some x) (hl : cs.length = 3) : ∃ t : Tm, cs = [.int .i64 t.k, .int .i64 t.n, .string t.s] /\ WfT t := by
 obtain ⟨c0, c1, c2, rfl⟩ := list3 hl
 obtain ⟨y0, y1, y2, n, -, -, h0, h1, h2⟩ := trod_struct3 Tryz.underlying36 h
 rw [Tryz.cellsInt] at h0 h1
 rw [Tryz.cellsString] at h2
 obtain ⟨k, e0, -, -⟩ := DataW.trod_int Tryz.underlying3 h0
 obtain ⟨m, e1, -, hwf⟩ := DataW.trod_int Tryz.underlying3 h1
 obtain ⟨s, e2, -, -⟩ := DataW.trod_string Tryz.underlying9 h2
 simp at e0 e1 e2
 subst e0 e1 e2
 exact ⟨⟨k, m, s⟩, rfl, hwf⟩
end Go.Proofs.YtcejljehjhlonaaGreatDoor
namespace Go.Proofs.YtcejljehjhlonaaGreatDoor
open Go.ChangeShapes Go.WideShapes Go.ChangeAt Go.RowKit Go.Joins Go.Deep

set_option maxRecDepth 100000 in
theorem open_termsP {H : Type} {enc : TypeId × Value -> H} {W : World} {base : Nat} {spare : Nat -> Bool} {held : Bool} {fuel : Nat} {cs : List Value} {x : DataW H × List MemPlace}
  (h : DataW.trod enc Tryz.prog W base spare held fuel 37 cs = some x) (hw : ∀ n ∈ x.1.weights Tryz.prog 37, n <= reachBytes) : ∃ v l, cs = [v] /\ (Ts W v l /\ TsP W v l) /\ l.length <= Rows.uptoBulk x.1 /\ ∀ t ∈ l, WfT t := by
 rcases open_slice Tryz.underlying37 h with ⟨rfl, -⟩ | ⟨a, len, cap, m, n, D, Pl, rfl, hba, hlc, hcm, hm, hx, hel⟩
 ·exact ⟨_, [], rfl, ⟨⟨none, 0, rfl, by simp, Or.inl rfl⟩, Or.inl ⟨rfl, rfl⟩⟩, by simp, fun t ht => by cases ht⟩
 ·have hlen : len < 1000000000000000000 := by
   have := hw ((((List.range len).map D).length + ((List.range (m - len)).map fun j => D (len + j)).length) * Tryz.prog.bytesOf 36) (by rw [hx]; simp [DataW.weights, Tryz.underlying37])
   rw [Tryz.bytesTerm] at this
   simp only [List.length_map, List.length_range, reachBytes] at this
   omega
  rw [Tryz.cellsTerm] at hel
  have hlm : len <= m := by rw [hm]; split <;> omega
  have key : ∀ i : Nat, ∃ t : Tm, i < len -> WfT t /\ W.cell? (a.add (i * 3)) = some (.int .i64 t.k) /\ W.cell? ((a.add (i * 3)).add 1) = some (.int .i64 t.n) /\ W.cell? ((a.add (i * 3)).add 2) = some (.string t.s) := fun i => by
   by_cases hi : i < len
   ·obtain ⟨cs', h1, h2⟩ := hel i (by omega)
    obtain ⟨-, hl, hc⟩ := World.cells?_some h1
    obtain ⟨t, rfl, hwf⟩ := term_of_cellsB h2 hl
    exact ⟨t, fun _ => ⟨hwf, hc 0 (by omega), hc 1 (by omega), hc 2 (by omega)⟩⟩
   ·exact ⟨zt, fun h => absurd h hi⟩
  obtain ⟨f, hf⟩ := Classical.axiomOfChoice key
  have hgo : (List.range len).map f = [] ∨ ∃ b o, a = ⟨b, o, none⟩ /\ TRow W b o ((List.range len).map f) := by
   rcases Nat.eq_zero_or_pos len with h0 | h0
   ·left; subst h0; rfl
   ·right
    obtain ⟨b, off, spot⟩ := a
    have hspot : spot = none := by simpa [Addr.add] using World.cell?_spot (hf 0 h0).2.1
    subst hspot
    refine ⟨b, off, rfl, ?_, fun i t ht => ?_⟩
    ·exact World.block_lt_of_cell? W _ (by have := (hf 0 h0).2.1; simpa [Addr.add] using this)
    ·have hi : i < len := by have := (List.getElem?_eq_some_iff.1 ht).1; simpa using this
     have e : t = f i := by
      rw [List.getElem?_map, List.getElem?_range hi] at ht; simpa using ht.symm
     subst e
     have := (hf i hi).2
     rw [add_plain, add_plain, add_plain] at this
     exact this
  refine ⟨_, (List.range len).map f, rfl, ⟨⟨some a, cap, by simp, by simpa using hlen, ?_⟩, Or.inr ⟨a, cap, by simp, hgo⟩⟩, by rw [hx]; simpa using bulkN_slice ((List.range len).map D) _, fun t ht => by obtain ⟨i, hi, rfl⟩ := List.mem_map.1 ht; exact (hf i (List.mem_range.1 hi)).1⟩
  rcases hgo with hq | ⟨b, o, rfl, hq⟩
  ·exact Or.inl hq
  ·exact Or.inr ⟨b, o, rfl, hq⟩
theorem Tryz.gBT : Tryz.prog.globalNamed "hearsay/hearsayref03.behindTerm" = some 0 := by kernel_rfl
theorem Tryz.tBT : (Tryz.prog.globals[0]?).map (·.type) = some 36 := by kernel_rfl
theorem Tryz.gBE : Tryz.prog.globalNamed "hearsay/hearsayref03.behindTest" = some 1 := by kernel_rfl
theorem Tryz.tBE : (Tryz.prog.globals[1]?).map (·.type) = some 73 := by kernel_rfl
theorem terms_lits {H : Type} {enc : TypeId × Value -> H} {W : World} {base : Nat} {spare : Nat -> Bool} {held : Bool} {fuel : Nat} {cs : List Value} {x : DataW H × List MemPlace}
  (h : DataW.trod enc Tryz.prog W base spare held fuel 36 cs = some x) (hl : cs.length = 3) : ∃ t : Tm, cs = [.int .i64 t.k, .int .i64 t.n, .string t.s] /\ x.1 = .agg [.lit (.int .i64 t.k), .lit (.int .i64 t.n), .lit (.string t.s.data.toList)] := by
 obtain ⟨c0, c1, c2, rfl⟩ := list3 hl
 obtain ⟨y0, y1, y2, n, hd, -, h0, h1, h2⟩ := trod_struct3 Tryz.underlying36 h
 rw [Tryz.cellsInt] at h0 h1
 rw [Tryz.cellsString] at h2
 obtain ⟨k, e0, f0, -⟩ := DataW.trod_int Tryz.underlying3 h0
 obtain ⟨m, e1, f1, -⟩ := DataW.trod_int Tryz.underlying3 h1
 obtain ⟨s, e2, f2, -⟩ := DataW.trod_string Tryz.underlying9 h2
 simp at e0 e1 e2
 subst e0 e1 e2
 refine ⟨⟨k, m, s⟩, rfl, ?_⟩
 rw [hd, f0, f1, f2]
theorem tests_lits {H : Type} {enc : TypeId × Value -> H} {W : World} {base : Nat} {spare : Nat -> Bool} {held : Bool} {fuel : Nat} {cs : List Value} {x : DataW H × List MemPlace}
  (hf : DataW.trod enc Tryz.prog W base spare held fuel 73 cs = some x) (hl : cs.length = 7) : ∃ t : Te, cs = [.int .i64 t.op, .int .i64 t.l.k, .int .i64 t.l.n, .string t.l.s, .int .i64 t.r.k, .int .i64 t.r.n, .string t.r.s] /\ x.1 = .agg [.lit (.int .i64 t.op), .agg [.lit (.int .i64 t.l.k), .lit (.int .i64 t.l.n), .lit (.string t.l.s.data.toList)], .agg [.lit (.int .i64 t.r.k), .lit (.int .i64 t.r.n), .lit (.string t.r.s.data.toList)]] := by
 obtain ⟨c0, c1, c2, c3, c4, c5, c6, rfl⟩ := clist7 hl
 obtain ⟨y0, y1, y2, n, hd, -, h0, h1, h2⟩ := trod_struct3 Tryz.underlying73 hf
 rw [Tryz.cellsInt] at h0
 rw [Tryz.cellsTerm] at h1 h2
 obtain ⟨k, e0, f0, -⟩ := DataW.trod_int Tryz.underlying3 h0
 obtain ⟨t, e1, f1⟩ := terms_lits h1 (by simp)
 obtain ⟨u, e2, f2⟩ := terms_lits h2 (by simp)
 simp at e0 e1 e2
 subst e0
 obtain ⟨rfl, rfl, rfl⟩ := e1
 obtain ⟨rfl, rfl, rfl⟩ := e2
 refine ⟨⟨k, t, u⟩, rfl, ?_⟩
 rw [hd, f0, f1, f2]
set_option maxRecDepth 100000 in
theorem beh_of_laid {W : World} (h : laidMetH Tryz.prog [("hearsay/hearsayref03.behindTerm", Rows.laid_hearsay_hearsayref03_behindTerm), ("hearsay/hearsayref03.behindTest", Rows.laid_hearsay_hearsayref03_behindTest)] W) : BehOk W := by
 rw [MakeChecks.laidMetH_plain _ _ _ (by kernel_rfl)] at h
 obtain ⟨ps, ⟨g1, t1, cs1, f1, p1, q1, hg1, ht1, hv1, hd1, ⟨g0, t0, cs0, f0, p0, q0, hg0, ht0, hv0, hd0, _, _⟩, _⟩, _, _⟩ := h
 obtain rfl := Option.some.inj (Tryz.gBE.symm.trans hg0)
 obtain rfl := Option.some.inj (Tryz.tBE.symm.trans ht0)
 obtain rfl := Option.some.inj (Tryz.gBT.symm.trans hg1)
 obtain rfl := Option.some.inj (Tryz.tBT.symm.trans ht1)
 obtain ⟨y0, y1, y2, n, -, hl, -, -, -⟩ := trod_struct3 Tryz.underlying36 hd1
 rw [Tryz.cellsTerm] at hl
 obtain ⟨d, e, hx⟩ := terms_lits hd1 hl
 have hc : ∀ i, W.cell? ⟨0, i, none⟩ = d.cs[i]? := fun i => by
  have := World.var?_cell hg1 hv1 i
  rw [Tm.cs, <- e]; simpa using this
 simp only [Rows.laid_hearsay_hearsayref03_behindTerm, DataW.agg.injEq, List.cons.injEq, DataW.lit.injEq, Lit.int.injEq, Lit.string.injEq, true_and, and_true] at hx
 have hs : d.s = ⟨#[98, 101, 104, 105, 110, 100]⟩ := ByteArray.ext (Array.toList_inj.1 hx.2.2.symm)
 have h0 := hc 0; have h1 := hc 1; have h2 := hc 2
 simp only [Tm.cs, <- hx.1, <- hx.2.1, hs] at h0 h1 h2
 obtain ⟨z0, z1, z2, n', -, hl', -, -, -⟩ := trod_struct3 Tryz.underlying73 hd0
 rw [Tryz.cellsTest3] at hl'
 obtain ⟨d', e', hx'⟩ := tests_lits hd0 hl'
 have hc' : ∀ i, W.cell? ⟨1, i, none⟩ = (ecell d')[i]? := fun i => by
  have := World.var?_cell hg0 hv0 i
  rw [ecell, <- e']; simpa using this
 simp only [Rows.laid_hearsay_hearsayref03_behindTest, DataW.agg.injEq, List.cons.injEq, DataW.lit.injEq, Lit.int.injEq, Lit.string.injEq, true_and, and_true] at hx'
 have hs1 : d'.l.s = ⟨#[]⟩ := ByteArray.ext (Array.toList_inj.1 hx'.2.1.2.2.symm)
 have hs2 : d'.r.s = ⟨#[]⟩ := ByteArray.ext (Array.toList_inj.1 hx'.2.2.2.2.symm)
 have k0 := hc' 0; have k1 := hc' 1; have k2 := hc' 2; have k3 := hc' 3; have k4 := hc' 4; have k5 := hc' 5; have k6 := hc' 6
 simp only [ecell, <- hx'.1, <- hx'.2.1.1, <- hx'.2.1.2.1, <- hx'.2.2.1, <- hx'.2.2.2.1, hs1, hs2] at k0 k1 k2 k3 k4 k5 k6
 exact ⟨World.block_lt_of_cell? W _ h0, World.block_lt_of_cell? W _ k0, h0, h1, h2, k0, k1, k2, k3, k4, k5, k6⟩
end Go.Proofs.YtcejljehjhlonaaGreatDoor
namespace Go.Proofs.YtcejljehjhlonaaGreatDoor
open Go.ChangeShapes Go.WideShapes Go.ChangeAt Go.RowKit Go.Joins Go.Deep

theorem bulkN_mem {H : Type} {d : DataW H} : ∀ {l : List (DataW H)}, d ∈ l -> Rows.uptoBulk d <= Rows.uptoBulkAll l
 | x :: r, h => by
  simp only [Rows.uptoBulkAll]
  rcases List.mem_cons.1 h with rfl | h
  ·omega
  ·have := bulkN_mem h; omega
end Go.Proofs.YtcejljehjhlonaaGreatDoor
