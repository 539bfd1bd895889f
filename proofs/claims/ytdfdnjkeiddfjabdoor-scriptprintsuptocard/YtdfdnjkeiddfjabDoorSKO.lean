/-
  hearsaylaw25: what comes in, opened: a step.
-/
import Derived.Test.YtdfdnjkeiddfjabDoorRows
import Derived.Deep.Slices
import Derived.Deep.Strs
import Derived.SizedLaws
import Derived.ChangeSame
import Derived.ChangeSlices
import Derived.ProofKit
import Derived.OpenShut
import Derived.ShutString
import Derived.ChangeOld
import Derived.Below
import Derived.Lib.SmallJoins
import Derived.ChangeMaps5
import Derived.Test.YtdfdnjkeiddfjabDoorSMX
import Derived.Test.YtdfdnjkeiddfjabDoorSML
import Derived.Test.YtdfdnjkeiddfjabDoorSMQ
namespace Go.Proofs.YtdfdnjkeiddfjabDoor
open Go.ChangeShapes Go.WideShapes Go.ChangeAt Go.RowKit Go.Joins Go.Deep

theorem bulkS_pos {H : Type} (d : DataW H) : 1 ≤ Rows.uptoBulk d := by
  cases d with
  | lit l => cases l <;> simp [Rows.uptoBulk]
  | _ => simp [Rows.uptoBulk]
theorem bulkS_len {H : Type} (l : List (DataW H)) : l.length ≤ Rows.uptoBulkAll l := by
  induction l with
  | nil => simp
  | cons d r ih => have := bulkS_pos d; simp only [Rows.uptoBulkAll, List.length_cons]; omega
theorem Tryd.cellsIntS : Tryd.prog.cellsOf 3 = 1 := by kernel_rfl
theorem Tryd.cellsStrS : Tryd.prog.cellsOf 9 = 1 := by kernel_rfl
theorem Tryd.cellsU8S : Tryd.prog.cellsOf 5 = 1 := by kernel_rfl
theorem Tryd.cellsBytesS : Tryd.prog.cellsOf 22 = 1 := by kernel_rfl
theorem Tryd.cellsDoS : Tryd.prog.cellsOf 24 = 8 := by kernel_rfl
theorem wfu8S {n : Int} (h : (Lit.int .u8 n).wf = true) : 0 ≤ n ∧ n ≤ 255 := by
  simp only [Lit.wf, Bool.and_eq_true, decide_eq_true_eq] at h
  exact h
theorem wf64S {n : Int} (h : (Lit.int .i64 n).wf = true) : N64S n := by
  simp only [Lit.wf, Bool.and_eq_true, decide_eq_true_eq] at h
  exact h
theorem open_byS {H : Type} {enc : TypeId × Value → H} {W : World} {base fuel : Nat} {spare : Nat → Bool} {held : Bool} {cs : List Value} {x : DataW H × List MemPlace}
    (h : DataW.trod enc Tryd.prog W base spare held fuel 22 cs = some x) : ∃ (b : ByteArray) (a : Option Addr) (c : Nat), cs = [.slice a b.size c] ∧ LbW (fun _ => True) W (.slice a b.size c) (blK b) ∧ b.size ≤ Rows.uptoBulk x.1 := by
  rcases open_ints Tryd.underlying22 Tryd.underlying5 Tryd.cellsU8S h with ⟨rfl, -⟩ | ⟨a, n, c, zs, rfl, -, hl, hcm, hzl, hx, hcell, hwf⟩
  · exact ⟨⟨#[]⟩, none, 0, rfl, LbW.nil _ _, by show (0 : Nat) ≤ _; omega⟩
  · have hz : n ≤ zs.length := by rw [hzl]; split <;> omega
    have htl : (zs.take n).length = n := by rw [List.length_take]; omega
    have hby : byt (zs.take n) := fun m hm => wfu8S (hwf m (List.mem_of_mem_take hm))
    have hbl : blK (ofL (zs.take n)) = zs.take n := bl_ofL hby
    have hsz : (ofL (zs.take n)).size = n := by rw [← bl_len, hbl, htl]
    have hbk : n ≤ Rows.uptoBulk x.1 := by
      rw [hx]
      have := bulkS_len (lits (H := H) .u8 (zs.take n))
      have hll : (lits (H := H) .u8 (zs.take n)).length = n := by unfold lits; rw [List.length_map]; exact htl
      simp only [Rows.uptoBulk]; omega
    refine ⟨ofL (zs.take n), some a, c, by rw [hsz], ?_, by rw [hsz]; exact hbk⟩
    rw [hbl, hsz]
    refine ⟨some a, c, by rw [htl], by omega, by unfold maxLen at hcm; omega, hby, ?_⟩
    rcases Nat.eq_zero_or_pos n with h0 | h0
    · left; rw [h0]; exact ⟨rfl, fun e => by cases e⟩
    · right
      obtain ⟨b, o, spot⟩ := a
      have c0 := hcell 0 (by omega)
      have hspot : spot = none := by simpa [Addr.add] using World.cell?_spot c0
      subst hspot
      have hb := World.block_lt_of_cell? W _ c0
      refine ⟨b, o, rfl, hb, trivial, fun i x hi => ?_⟩
      have hil : i < n := by have := (List.getElem?_eq_some_iff.1 hi).1; omega
      have hc := hcell i (by omega)
      rw [Addr.add_mid] at hc
      rw [List.getElem?_take_of_lt hil] at hi
      rw [hc]
      simp [List.getD_eq_getElem?_getD, hi]
theorem list8 {l : List Value} (h : l.length = 8) : ∃ c0 c1 c2 c3 c4 c5 c6 c7, l = [c0, c1, c2, c3, c4, c5, c6, c7] := by
  match l, h with
  | [c0, c1, c2, c3, c4, c5, c6, c7], _ => exact ⟨_, _, _, _, _, _, _, _, rfl⟩
set_option maxRecDepth 100000 in
theorem open_doS {H : Type} {enc : TypeId × Value → H} {W : World} {r : Reach} {b0 base : Nat} {spare : Nat → Bool} {held : Bool} {v : Value} {d : DataW H} {p : List MemPlace}
    (hv : Value.okWide Tryd.prog W r b0 24 v) (h : DataW.Trod enc Tryd.prog W base spare held 24 v d p) (hbk : Rows.uptoBulk d ≤ 1048576) : ∃ (x : SdO) (b : ByteArray) (a : Option Addr) (c : Nat), v = x.v a b.size c ∧ LbW (fun _ => True) W (.slice a b.size c) (blK b) ∧ OkS x b := by
  obtain ⟨cs, rfl, hsz⟩ := okWide_struct Tryd.underlying24 hv
  rw [Tryd.cellsDoS] at hsz
  obtain ⟨fuel, hf⟩ := h
  obtain ⟨l⟩ := cs
  obtain ⟨c0, c1, c2, c3, c4, c5, c6, c7, rfl⟩ := list8 (by simpa using hsz)
  obtain ⟨xs, n, e0, hx, hl, hlen, hf⟩ := DataW.trod_struct Tryd.underlying24 hf
  match xs, hlen with
  | [y0, y1, y2, y3, y4, y5, y6, y7], _ =>
    have h0 := hf 0 _ rfl
    have h1 := hf 1 _ rfl
    have h2 := hf 2 _ rfl
    have h3 := hf 3 _ rfl
    have h4 := hf 4 _ rfl
    have h5 := hf 5 _ rfl
    have h6 := hf 6 _ rfl
    have h7 := hf 7 _ rfl
    simp [Tryd.cellsIntS, Tryd.cellsBytesS, Tryd.cellsStrS, Value.cells] at h0 h1 h2 h3 h4 h5 h6 h7
    have hd : d = .agg [y0.1, y1.1, y2.1, y3.1, y4.1, y5.1, y6.1, y7.1] := congrArg Prod.fst hx
    rw [hd] at hbk
    simp only [Rows.uptoBulk, Rows.uptoBulkAll] at hbk
    obtain ⟨k, e0, f0, w0⟩ := DataW.trod_int Tryd.underlying3 h0
    obtain ⟨s1, e1, f1, -⟩ := DataW.trod_string Tryd.underlying9 h1
    obtain ⟨s2, e2, f2, -⟩ := DataW.trod_string Tryd.underlying9 h2
    obtain ⟨s3, e3, f3, -⟩ := DataW.trod_string Tryd.underlying9 h3
    obtain ⟨b, a, c, e4, hlb, hb4⟩ := open_byS h4
    obtain ⟨n5, e5, f5, w5⟩ := DataW.trod_int Tryd.underlying3 h5
    obtain ⟨n6, e6, f6, w6⟩ := DataW.trod_int Tryd.underlying3 h6
    obtain ⟨n7, e7, f7, w7⟩ := DataW.trod_int Tryd.underlying3 h7
    have g1 : Rows.uptoBulk y1.1 = s1.data.size + 1 := by rw [show y1.1 = .lit (.string s1.data.toList) from congrArg Prod.fst f1]; simp [Rows.uptoBulk]
    have g2 : Rows.uptoBulk y2.1 = s2.data.size + 1 := by rw [show y2.1 = .lit (.string s2.data.toList) from congrArg Prod.fst f2]; simp [Rows.uptoBulk]
    have g3 : Rows.uptoBulk y3.1 = s3.data.size + 1 := by rw [show y3.1 = .lit (.string s3.data.toList) from congrArg Prod.fst f3]; simp [Rows.uptoBulk]
    have q1 : s1.size = s1.data.size := rfl
    have q2 : s2.size = s2.data.size := rfl
    have q3 : s3.size = s3.data.size := rfl
    simp at e0 e1 e2 e3 e4 e5 e6 e7
    subst e0 e1 e2 e3 e4 e5 e6 e7
    exact ⟨⟨k, s1, s2, s3, n5, n6, n7⟩, b, a, c, rfl, hlb, ⟨by show s1.size ≤ _; omega, by show s2.size ≤ _; omega, by show s3.size ≤ _; omega, by omega, wf64S w0, wf64S w5, wf64S w6, wf64S w7⟩⟩
end Go.Proofs.YtdfdnjkeiddfjabDoor
