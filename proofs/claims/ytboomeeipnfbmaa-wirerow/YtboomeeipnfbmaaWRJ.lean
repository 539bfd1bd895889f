/-
  wire: what comes in, opened: bytes, calls, scripts.
-/
import Derived.Test.YtboomeeipnfbmaaWRS
import Derived.Test.YtboomeeipnfbmaaRows
import Derived.Deep.Slices
import Derived.Deep.Strs
import Derived.SizedLaws
import Derived.ChangeSame
import Derived.ChangeSlices
import Derived.ProofKit
import Derived.OpenShut
import Derived.ShutString
import Derived.ChangeOld
import Derived.Below
import Derived.Lib.SmallJoins
import Derived.ChangeMaps5
namespace Go.Proofs.Ytboomeeipnfbmaa
open Go.ChangeShapes Go.WideShapes Go.ChangeAt Go.RowKit Go.Joins Go.Deep

theorem weightsW_mem {H : Type} {P : Program} {e : TypeId} {d : DataW H} {n : Nat} (hn : n ∈ d.weights P e) : ∀ {ds : List (DataW H)}, d ∈ ds → n ∈ DataW.weightsAll P e ds
  | y :: r, h => by
    rw [DataW.weightsAll, List.mem_append]
    rcases List.mem_cons.1 h with rfl | h
    · exact Or.inl hn
    · exact Or.inr (weightsW_mem hn h)
theorem Try.cellsIntW : Try.prog.cellsOf 3 = 1 := by kernel_rfl
theorem Try.cellsU8W : Try.prog.cellsOf 5 = 1 := by kernel_rfl
theorem Try.bytesU8W : Try.prog.bytesOf 5 = 1 := by kernel_rfl
theorem Try.cellsBytesW : Try.prog.cellsOf 24 = 1 := by kernel_rfl
theorem Try.cellsOpW : Try.prog.cellsOf 42 = 5 := by kernel_rfl
theorem wfu8W {n : Int} (h : (Lit.int .u8 n).wf = true) : 0 ≤ n ∧ n ≤ 255 := by
  simp only [Lit.wf, Bool.and_eq_true, decide_eq_true_eq] at h
  exact h
theorem open_byW {H : Type} {enc : TypeId × Value → H} {W : World} {base fuel : Nat} {spare : Nat → Bool} {held : Bool} {cs : List Value} {x : DataW H × List MemPlace}
    (h : DataW.trod enc Try.prog W base spare held fuel 24 cs = some x) (hw : ∀ n ∈ x.1.weights Try.prog 24, n ≤ reachBytes) : ∃ v l, cs = [v] ∧ LbW (fun b => b < W.heap.size) W v l ∧ l.length ≤ 140737488351232 := by
  rcases open_ints Try.underlying24 Try.underlying5 Try.cellsU8W h with ⟨rfl, -⟩ | ⟨a, n, c, zs, rfl, -, hl, hcm, hzl, hx, hcell, hwf⟩
  · exact ⟨_, [], rfl, LbW.nil _ _, by simp⟩
  · have hz : n ≤ zs.length := by rw [hzl]; split <;> omega
    have htl : (zs.take n).length = n := by rw [List.length_take]; omega
    have hlen : n ≤ 140737488351232 := by
      have := hw (((lits (H := H) .u8 (zs.take n)).length + (lits (H := H) .u8 (zs.drop n)).length) * Try.prog.bytesOf 5) (by rw [hx]; simp [DataW.weights, Try.underlying24])
      rw [Try.bytesU8W] at this
      simp only [lits, List.length_map, htl, reachBytes] at this
      omega
    refine ⟨_, zs.take n, rfl, ⟨some a, c, by rw [htl], by omega, by unfold maxLen at hcm; omega, fun m hm => wfu8W (hwf m (List.mem_of_mem_take hm)), ?_⟩, by omega⟩
    rcases Nat.eq_zero_or_pos n with h0 | h0
    · left; rw [h0]; exact ⟨rfl, fun e => by cases e⟩
    · right
      obtain ⟨b, o, spot⟩ := a
      have c0 := hcell 0 (by omega)
      have hspot : spot = none := by simpa [Addr.add] using World.cell?_spot c0
      subst hspot
      have hb := World.block_lt_of_cell? W _ c0
      refine ⟨b, o, rfl, hb, hb, fun i x hi => ?_⟩
      have hil : i < n := by have := (List.getElem?_eq_some_iff.1 hi).1; omega
      have hc := hcell i (by omega)
      rw [Addr.add_mid] at hc
      rw [List.getElem?_take_of_lt hil] at hi
      rw [hc]
      simp [List.getD_eq_getElem?_getD, hi]
def csW (p : OvW × Value) : List Value := [.int .i64 p.1.k, .int .i64 p.1.n, .int .i64 p.1.m, .int .i64 p.1.q, p.2]
def okW (W : World) (p : OvW × Value) : Prop := LbW (fun b => b < W.heap.size) W p.2 p.1.b ∧ p.1.b.length ≤ 140737488351232
set_option maxRecDepth 100000 in
theorem open_opW {H : Type} {enc : TypeId × Value → H} {W : World} {base fuel : Nat} {spare : Nat → Bool} {held : Bool} {cs : List Value} {x : DataW H × List MemPlace}
    (h : DataW.trod enc Try.prog W base spare held fuel 42 cs = some x) (hw : ∀ n ∈ x.1.weights Try.prog 42, n ≤ reachBytes) : ∃ p : OvW × Value, cs = csW p ∧ okW W p := by
  obtain ⟨xs, n, e0, rfl, hl, hlen, hf⟩ := DataW.trod_struct Try.underlying42 h
  rw [Try.cellsOpW] at hl
  match xs, hlen with
  | [y0, y1, y2, y3, y4], _ =>
    match cs, hl with
    | [c0, c1, c2, c3, c4], _ =>
      have h0 := hf 0 _ rfl
      have h1 := hf 1 _ rfl
      have h2 := hf 2 _ rfl
      have h3 := hf 3 _ rfl
      have h4 := hf 4 _ rfl
      simp [Try.cellsIntW, Try.cellsBytesW] at h0 h1 h2 h3 h4
      obtain ⟨k, e0, -, -⟩ := DataW.trod_int Try.underlying3 h0
      obtain ⟨p, e1, -, -⟩ := DataW.trod_int Try.underlying3 h1
      obtain ⟨q, e2, -, -⟩ := DataW.trod_int Try.underlying3 h2
      obtain ⟨r, e3, -, -⟩ := DataW.trod_int Try.underlying3 h3
      obtain ⟨bv, b, e4, hb, bl⟩ := open_byW h4 (fun m hm => hw m (by
        simp only [List.map]
        rw [DataW.weights, Try.underlying42]
        exact DataW.weights_mem_each (j := 4) rfl rfl m hm))
      simp at e0 e1 e2 e3 e4
      subst e0 e1 e2 e3 e4
      exact ⟨(⟨k, p, q, r, b⟩, _), rfl, hb, bl⟩
set_option maxRecDepth 100000 in
theorem open_opsW {H : Type} {enc : TypeId × Value → H} {W : World} {base fuel : Nat} {spare : Nat → Bool} {held : Bool} {cs : List Value} {x : DataW H × List MemPlace}
    (h : DataW.trod enc Try.prog W base spare held fuel 38 cs = some x) (hw : ∀ n ∈ x.1.weights Try.prog 38, n ≤ reachBytes) : ∃ v L, cs = [v] ∧ ScW (fun b => b < W.heap.size) W v L := by
  rcases open_slice Try.underlying38 h with ⟨rfl, -⟩ | ⟨a, len, cap, m, n, D, Pl, rfl, hba, hlc, hcm, hm, hx, hel'⟩
  · exact ⟨_, [], rfl, ⟨⟨none, 0, rfl, by simp, Or.inl rfl⟩, by simp⟩⟩
  · rw [Try.cellsOpW] at hel'
    have hlm : len ≤ m := by rw [hm]; split <;> omega
    have key : ∀ i : Nat, ∃ p : OvW × Value, i < len → (∀ (j : Nat) (c : Value), (csW p)[j]? = some c → W.cell? (a.add (i * 5 + j)) = some c) ∧ okW W p := fun i => by
      by_cases hi : i < len
      · obtain ⟨cs', h1, h2⟩ := hel' i (by omega)
        obtain ⟨-, hl, hc⟩ := World.cells?_some h1
        obtain ⟨p, rfl, hok⟩ := open_opW h2 (fun q hq => hw q (by
          rw [hx, DataW.weights, Try.underlying38]
          exact List.mem_cons_of_mem _ (List.mem_append.2 (Or.inl (weightsW_mem hq (List.mem_map.2 ⟨i, List.mem_range.2 hi, rfl⟩))))))
        refine ⟨p, fun _ => ⟨fun j c hj => ?_, hok⟩⟩
        have hj5 : j < 5 := (List.getElem?_eq_some_iff.1 hj).1
        have h5 := hc j hj5
        rw [hj] at h5
        by_cases j1 : j = 0
        · by_cases i1 : i = 0
          · simpa [Addr.add, j1, i1] using h5
          · have i2 : ¬ i * 5 = 0 := by omega
            simpa [Addr.add, j1, i1, i2] using h5
        · by_cases i1 : i = 0
          · simpa [Addr.add, j1, i1] using h5
          · have i2 : ¬ i * 5 = 0 := by omega
            simpa [Addr.add, j1, i1, i2, Nat.add_assoc] using h5
      · exact ⟨(⟨0, 0, 0, 0, []⟩, .slice none 0 0), fun h => absurd h hi⟩
    obtain ⟨f, hf⟩ := Classical.axiomOfChoice key
    refine ⟨_, (List.range len).map f, rfl, ⟨⟨some a, cap, by simp, by rw [List.length_map, List.length_range]; unfold maxLen at hcm; omega, ?_⟩, fun c hc => ?_⟩⟩
    · rcases Nat.eq_zero_or_pos len with h0 | h0
      · left; subst h0; rfl
      · right
        obtain ⟨b, off, spot⟩ := a
        have h00 := (hf 0 h0).1 0 _ rfl
        have hspot : spot = none := by simpa [Addr.add] using World.cell?_spot h00
        subst hspot
        have hb := World.block_lt_of_cell? W ⟨b, off, none⟩ (by simpa [Addr.add] using h00)
        refine ⟨b, off, rfl, hb, hb, fun i c hc => ?_⟩
        have hi : i < len := by have := (List.getElem?_eq_some_iff.1 hc).1; simpa using this
        have e : c = f i := by
          rw [List.getElem?_map, List.getElem?_range hi] at hc; simpa using hc.symm
        subst e
        have get : ∀ (j : Nat) (u : Value), (csW (f i))[j]? = some u → W.cell? ⟨b, off + (i * 5 + j), none⟩ = some u := fun j u hu => by
          have := (hf i hi).1 j u hu
          rw [add_plain] at this
          exact this
        exact ⟨get 0 _ rfl, get 1 _ rfl, get 2 _ rfl, get 3 _ rfl, get 4 _ rfl⟩
    · obtain ⟨i, hi, rfl⟩ := List.mem_map.1 hc
      exact (hf i (List.mem_range.1 hi)).2
end Go.Proofs.Ytboomeeipnfbmaa
