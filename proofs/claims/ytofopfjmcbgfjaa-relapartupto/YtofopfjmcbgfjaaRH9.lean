import Derived.Test.YtofopfjmcbgfjaaRA31
import Derived.Test.YtofopfjmcbgfjaaRows
import Derived.Deep.Slices
import Derived.Deep.Strs
import Derived.SizedLaws
import Derived.ChangeSame
import Derived.ChangeSlices
import Derived.ProofKit
import Derived.OpenShut
import Derived.ShutString
import Derived.ChangeOld
import Derived.Below
import Derived.Lib.SmallJoins
import Derived.ChangeMaps5
import Derived.Test.YtofopfjmcbgfjaaRH8
import Derived.Deep.CondSized
/-
  law 7: what comes in, opened.
-/
namespace Go.Proofs.Ytofopfjmcbgfjaa
open Go.ChangeShapes Go.WideShapes Go.ChangeAt Go.RowKit Go.Joins Go.Deep

theorem bulk7_pos {H : Type} (d : DataW H) : 1 ≤ Rows.uptoBulk d := by
  cases d with
  | lit l => cases l <;> simp [Rows.uptoBulk]
  | _ => simp [Rows.uptoBulk]
theorem bulk7_len {H : Type} (l : List (DataW H)) : l.length ≤ Rows.uptoBulkAll l := by
  induction l with
  | nil => simp
  | cons d r ih => have := bulk7_pos d; simp only [Rows.uptoBulkAll, List.length_cons]; omega
theorem bulk7_slice {H : Type} (l r : List (DataW H)) : l.length ≤ Rows.uptoBulk (.slice l r) := by
  have := bulk7_len l; simp only [Rows.uptoBulk]; omega
theorem bulk7_sum {H : Type} (g : Nat → Nat) (D : Nat → DataW H) : ∀ l : List Nat, (∀ i ∈ l, g i ≤ Rows.uptoBulk (D i)) → (l.map g).sum ≤ Rows.uptoBulkAll (l.map D)
  | [], _ => by simp
  | i :: l, h => by
    have h1 := h i (by simp)
    have h2 := bulk7_sum g D l fun j hj => h j (by simp [hj])
    rw [List.map_cons, List.map_cons, List.sum_cons]
    simp only [Rows.uptoBulkAll]
    omega
theorem Try.cellsInt7 : Try.prog.cellsOf 3 = 1 := by kernel_rfl
theorem Try.cellsInts7 : Try.prog.cellsOf 23 = 1 := by kernel_rfl
theorem Try.cellsIntss7 : Try.prog.cellsOf 29 = 1 := by kernel_rfl
theorem Try.cellsBatch7 : Try.prog.cellsOf 43 = 1 := by kernel_rfl
theorem open_li7 {H : Type} {enc : TypeId × Value → H} {W : World} {base fuel : Nat} {spare : Nat → Bool} {held : Bool} {cs : List Value} {x : DataW H × List MemPlace}
    (h : DataW.trod enc Try.prog W base spare held fuel 23 cs = some x) : ∃ v l, cs = [v] ∧ Li Any W v l := by
  rcases open_ints Try.underlying23 Try.underlying3 Try.cellsInt7 h with ⟨rfl, -⟩ | ⟨a, n, c, zs, rfl, -, hl, hcm, hzl, hx, hcell, hwf⟩
  · exact ⟨_, [], rfl, Li.nil _ _⟩
  · have hz : n ≤ zs.length := by rw [hzl]; split <;> omega
    have htl : (zs.take n).length = n := by rw [List.length_take]; omega
    refine ⟨_, zs.take n, rfl, ⟨some a, c, by rw [htl], by omega, by unfold maxLen at hcm; omega, fun m hm => hwf m (List.mem_of_mem_take hm), ?_⟩⟩
    rcases Nat.eq_zero_or_pos n with h0 | h0
    · left; rw [h0]; exact ⟨rfl, fun e => by cases e⟩
    · right
      obtain ⟨b, o, spot⟩ := a
      have c0 := hcell 0 (by omega)
      have hspot : spot = none := by simpa [Addr.add] using World.cell?_spot c0
      subst hspot
      refine ⟨b, o, rfl, World.block_lt_of_cell? W _ c0, trivial, fun i x hi => ?_⟩
      have hil : i < n := by have := (List.getElem?_eq_some_iff.1 hi).1; omega
      have hc := hcell i (by omega)
      rw [Addr.add_mid] at hc
      rw [hc]
      rw [List.getElem?_take_of_lt hil] at hi
      simp [List.getD, hi]
/-- The same with the list's length. -/
theorem open_li8 {H : Type} {enc : TypeId × Value → H} {W : World} {base fuel : Nat} {spare : Nat → Bool} {held : Bool} {cs : List Value} {x : DataW H × List MemPlace}
    (h : DataW.trod enc Try.prog W base spare held fuel 23 cs = some x) : ∃ v l, cs = [v] ∧ Li Any W v l ∧ l.length ≤ Rows.uptoBulk x.1 := by
  obtain ⟨v, l, hcs, hli⟩ := open_li7 h
  refine ⟨v, l, hcs, hli, ?_⟩
  rcases open_ints Try.underlying23 Try.underlying3 Try.cellsInt7 h with ⟨h1, rfl⟩ | ⟨a, n, c, zs, h1, -, hl, hcm, hzl, rfl, hcell, hwf⟩
  · rw [hcs] at h1
    obtain ⟨a', cap, e, -⟩ := hli
    simp [e] at h1
    simp [h1.2.1]
  · rw [hcs] at h1
    obtain ⟨a', cap, e, -⟩ := hli
    simp [e] at h1
    have hz : n ≤ zs.length := by rw [hzl]; split <;> omega
    have h2 := bulk7_slice (H := H) (lits .i64 (zs.take n)) (lits .i64 (zs.drop n))
    have h3 : (lits (H := H) .i64 (zs.take n)).length = n := by unfold lits; rw [List.length_map, List.length_take]; omega
    rw [h3] at h2
    rw [h1.2.1]
    exact h2
/-- A list of things of one cell each, opened. -/
theorem open_list7 {H α : Type} {enc : TypeId × Value → H} {W : World} {base fuel : Nat} {spare : Nat → Bool} {held : Bool} {cs : List Value} {x : DataW H × List MemPlace} {T e : TypeId} (hT : Try.prog.underlying T = some (.slice e)) (hce : Try.prog.cellsOf e = 1)
    (z : α × Value) (Ok : α × Value → Prop) (sz : α → Nat) (hel : ∀ (n : Nat) (cs' : List Value) (y : DataW H × List MemPlace), DataW.trod enc Try.prog W base spare held n e cs' = some y → cs'.length = 1 → ∃ p : α × Value, cs' = [p.2] ∧ Ok p ∧ sz p.1 ≤ Rows.uptoBulk y.1)
    (h : DataW.trod enc Try.prog W base spare held fuel T cs = some x) :
    ∃ (v : Value) (P : List (α × Value)), cs = [v] ∧ (∃ a cap, v = .slice a P.length cap ∧ (P = [] ∨ ∃ b o, a = some ⟨b, o, none⟩ ∧ b < W.heap.size ∧ ∀ (i : Nat) p, P[i]? = some p → W.cell? ⟨b, o + i, none⟩ = some p.2) ∧ ∀ p ∈ P, Ok p) ∧ P.length ≤ Rows.uptoBulk x.1 ∧ (P.map fun p => sz p.1).sum ≤ Rows.uptoBulk x.1 := by
  rcases open_slice hT h with ⟨rfl, -⟩ | ⟨a, len, cap, m, n, D, Pl, rfl, hba, hlc, hcm, hm, hx, hel'⟩
  · exact ⟨_, [], rfl, ⟨none, 0, rfl, Or.inl rfl, fun p hp => by simp at hp⟩, by simp, by simp⟩
  · rw [hce] at hel'
    have hlm : len ≤ m := by rw [hm]; split <;> omega
    have key : ∀ i : Nat, ∃ c : α × Value, i < len → W.cell? (a.add i) = some c.2 ∧ Ok c ∧ sz c.1 ≤ Rows.uptoBulk (D i) := fun i => by
      by_cases hi : i < len
      · obtain ⟨cs', h1, h2⟩ := hel' i (by omega)
        obtain ⟨-, hl, hc⟩ := World.cells?_some h1
        obtain ⟨c, rfl, hok, hbk⟩ := hel n cs' _ h2 hl
        refine ⟨c, fun _ => ⟨?_, hok, hbk⟩⟩
        have := hc 0 (by simp)
        rw [Nat.mul_one] at this
        simpa [Addr.add] using this
      · exact ⟨z, fun h => absurd h hi⟩
    obtain ⟨f, hf⟩ := Classical.axiomOfChoice key
    refine ⟨_, (List.range len).map f, rfl, ⟨some a, cap, by simp, ?_, fun c hc => ?_⟩, by rw [hx]; simpa using bulk7_slice ((List.range len).map D) _, ?_⟩
    · rcases Nat.eq_zero_or_pos len with h0 | h0
      · left; subst h0; rfl
      · right
        obtain ⟨b, off, spot⟩ := a
        have h00 := (hf 0 h0).1
        have hspot : spot = none := by simpa [Addr.add] using World.cell?_spot h00
        subst hspot
        refine ⟨b, off, rfl, World.block_lt_of_cell? W _ (by simpa [Addr.add] using h00), fun i c hc => ?_⟩
        have hi : i < len := by have := (List.getElem?_eq_some_iff.1 hc).1; simpa using this
        have e : c = f i := by
          rw [List.getElem?_map, List.getElem?_range hi] at hc; simpa using hc.symm
        subst e
        have := (hf i hi).1
        rw [add_plain] at this
        exact this
    · obtain ⟨i, hi, rfl⟩ := List.mem_map.1 hc
      exact (hf i (List.mem_range.1 hi)).2.1
    · have h1 := bulk7_sum (fun i => sz (f i).1) D (List.range len) fun i hi => (hf i (List.mem_range.1 hi)).2.2
      rw [List.map_map]
      rw [hx]
      simp only [Rows.uptoBulk]
      have e : (fun p : α × Value => sz p.1) ∘ f = fun i => sz (f i).1 := rfl
      rw [e]
      omega
theorem open_rn7 {H : Type} {enc : TypeId × Value → H} {W : World} {base fuel : Nat} {spare : Nat → Bool} {held : Bool} {cs : List Value} {x : DataW H × List MemPlace}
    (h : DataW.trod enc Try.prog W base spare held fuel 29 cs = some x) : ∃ v P, cs = [v] ∧ Rn7 W v P ∧ P.length ≤ Rows.uptoBulk x.1 := by
  obtain ⟨v, P, h1, h2, h3, -⟩ := open_list7 Try.underlying29 Try.cellsInts7 ([], .slice none 0 0) (fun p : List Int × Value => Li Any W p.2 p.1) (fun _ => 0) (fun n cs' y hy _ => by
    obtain ⟨v, l, e, hl⟩ := open_li7 hy
    exact ⟨(l, v), e, hl, Nat.zero_le _⟩) h
  exact ⟨v, P, h1, h2, h3⟩
set_option maxRecDepth 100000 in
theorem open_bt7 {H : Type} {enc : TypeId × Value → H} {W : World} {base fuel : Nat} {spare : Nat → Bool} {held : Bool} {cs : List Value} {x : DataW H × List MemPlace}
    (h : DataW.trod enc Try.prog W base spare held fuel 22 cs = some x) : ∃ v Bs, cs = [v] ∧ Bt7 W v Bs ∧ Bs.length ≤ Rows.uptoBulk x.1 ∧ tot7 Bs ≤ Rows.uptoBulk x.1 := by
  obtain ⟨v, P, h1, h2, h3, h4⟩ := open_list7 Try.underlying22 Try.cellsBatch7 ([], .slice none 0 0) (fun p : List (List Int × Value) × Value => Rn7 W p.2 p.1) (fun q => q.length) (fun n cs' y hy hl => by
    obtain ⟨y0, n', rfl, -, h0⟩ := trod_struct1 Try.underlying43 hy
    obtain ⟨c0, rfl⟩ : ∃ c, cs' = [c] := by
      match cs', hl with
      | [c], _ => exact ⟨c, rfl⟩
    rw [Try.cellsIntss7] at h0
    obtain ⟨v, P, e, hr, hb⟩ := open_rn7 h0
    simp at e
    subst e
    exact ⟨(P, c0), rfl, hr, by simp only [Rows.uptoBulk, Rows.uptoBulkAll]; omega⟩) h
  exact ⟨v, P, h1, h2, h3, h4⟩
end Go.Proofs.Ytofopfjmcbgfjaa
/-
  law 7: a batch that comes in, opened.
-/
namespace Go.Proofs.Ytofopfjmcbgfjaa
open Go.ChangeShapes Go.WideShapes Go.ChangeAt Go.RowKit Go.Joins Go.Deep

set_option maxRecDepth 100000 in
theorem open_one7 {H : Type} {enc : TypeId × Value → H} {W : World} {r : Reach} {b0 base fuel : Nat} {spare : Nat → Bool} {held : Bool} {v : Value} {x : DataW H × List MemPlace}
    (hf : DataW.trod enc Try.prog W base spare held fuel 43 v.cells.toList = some x) (hv : Value.okWide Try.prog W r b0 43 v) : ∃ u P, v = .agg #[u] ∧ Rn7 W u P ∧ P.length ≤ Rows.uptoBulk x.1 := by
  obtain ⟨cs, rfl, hsz⟩ := okWide_struct Try.underlying43 hv
  rw [Try.cellsBatch7] at hsz
  obtain ⟨l⟩ := cs
  obtain ⟨c0, rfl⟩ : ∃ c, l = [c] := by
    match l, hsz with
    | [c], _ => exact ⟨c, rfl⟩
  obtain ⟨y0, n', rfl, -, h0⟩ := trod_struct1 Try.underlying43 hf
  rw [Try.cellsIntss7] at h0
  obtain ⟨u, P, e, hr, hb⟩ := open_rn7 h0
  simp [Value.cells] at e
  subst e
  exact ⟨c0, P, rfl, hr, by simp only [Rows.uptoBulk, Rows.uptoBulkAll]; omega⟩
end Go.Proofs.Ytofopfjmcbgfjaa
/-
  The statement on hearsaylaw07.RelApart.
-/
namespace Go.Proofs.Ytofopfjmcbgfjaa
open Go.ChangeShapes Go.WideShapes Go.ChangeAt Go.RowKit

theorem Try.own : ownKnob Try.prog.godebug = none := by kernel_rfl
theorem Try.laidOut : laidOutB Try.prog = true := by kernel_rfl
set_option maxRecDepth 100000 in
set_option maxHeartbeats 1000000 in
theorem relApart_lifted (os : Os) (started : os.Started) (H : Type) (enc : TypeId × Value → H) (F : Stop.Interp) :
    ReturnsInHanded {} Try.checked os 6 .any ((Rows.OpenSpec.upto Rows.relApartSpec).pre6 enc Try.prog Try.f6 Rows.relApartUptoRow.domain false) (((Rows.OpenSpec.upto Rows.relApartSpec).at F).post enc Try.prog Try.f6 false true false false) := by
  refine returnsInHanded_of_cond_sized (C := Try.checked) (s := Rows.OpenSpec.upto Rows.relApartSpec) (k := Rows.uptoSmall) rfl Try.own started (by kernel_rfl) Try.func6
    (OpenSpec.witness (enc := enc) (C := Try.checked) (s := Rows.OpenSpec.upto Rows.relApartSpec) (k := Rows.uptoSmall) rfl false ⟨#[], #[.int .i64 0, .slice none 0 0, .agg #[.slice none 0 0]], []⟩ 8 (by kernel_rfl) (by kernel_rfl) (by kernel_rfl)
      (x := ([.lit (.int .i64 0), .nil, .agg [.nil]], [], [])) (by kernel_rfl) rfl (by kernel_rfl)) ?_
  intro W base args ds gs before hval0 hW hcnd hk hsz0 _
  have hval : ∀ (j : Nat) t v, Try.f6.params[j]? = some t → args[j]? = some v → Value.okWide Try.prog W .any base t v := hval0
  have hW' := hW
  obtain ⟨p, q, hA0, hV, rfl, hfz, hnd⟩ := hW
  have hA : DataW.TrodAll enc Try.prog W 0 (fun _ => true) true Try.f6.params.toList args.toList ds p := hA0
  rw [Try.params6] at hA hval
  obtain ⟨v0, vs0, d0, ds0, p0, q0, hargs, rfl, rfl, h0, r0⟩ := trodAll_cons hA
  obtain ⟨v1, vs1, d1, ds1, p1, q1, rfl, rfl, rfl, h1, r1⟩ := trodAll_cons r0
  obtain ⟨v2, vs2, d2, ds2, p2, q2, rfl, rfl, rfl, h2, r2⟩ := trodAll_cons r1
  obtain ⟨rfl, rfl, rfl⟩ := trodAll_nil r2
  obtain rfl : args = #[v0, v1, v2] := by cases args; simp_all
  obtain ⟨rfl, rfl⟩ := trodVars_none hV
  have k0 := h0
  have k1 := h1
  have k2 := h2
  have lt0 : ∀ x ∈ p0, x.block < W.heap.size := by obtain ⟨m, hm⟩ := k0; exact DataW.trod_lt m _ _ _ hm
  have lt1 : ∀ x ∈ p1, x.block < W.heap.size := by obtain ⟨m, hm⟩ := k1; exact DataW.trod_lt m _ _ _ hm
  have lt2 : ∀ x ∈ p2, x.block < W.heap.size := by obtain ⟨m, hm⟩ := k2; exact DataW.trod_lt m _ _ _ hm
  have hbk : Rows.uptoBulkAll ([d0, d1, d2] ++ []) ≤ 1048576 := of_decide_eq_true hk
  obtain ⟨x0, rfl, e1_0, e2_0, -⟩ := open_int Try.underlying3 (hval 0 3 v0 rfl rfl) h0
  obtain ⟨a1, n1, c1, rfl⟩ := okWide_slice Try.underlying22 (hval 1 22 v1 rfl rfl)
  obtain ⟨f1, hf1⟩ := h1
  obtain ⟨w1, Bs1, hcs1, b1, bl1, bt1⟩ := open_bt7 hf1
  simp [Value.cells] at hcs1
  subst hcs1
  obtain ⟨f2, hf2⟩ := h2
  obtain ⟨w2, P2, hcs2, b2, bl2⟩ := open_one7 hf2 (hval 2 43 v2 rfl rfl)
  subst hcs2
  simp only [List.cons_append, List.nil_append, Rows.uptoBulkAll] at hbk
  simp only at bl1 bl2 bt1
  clear hA0 hval0
  refine (relApart7_any x0 Bs1 _ _ P2 W b1 b2 (by omega) (by omega) (by omega)).mono fun e W' ⟨he, bel⟩ => ?_
  subst he
  exact ⟨_, rfl, _, _, _, [], _, [], hW', trodAll_mk1 (shut_bool Try.underlying4 _), (trodAll_cons_mk (Below.trod Try.laidOut (by kernel_rfl) (of_decide_eq_true (by kernel_rfl)) k0 bel lt0) (trodAll_cons_mk (Below.trod Try.laidOut (by kernel_rfl) (of_decide_eq_true (by kernel_rfl)) k1 bel lt1) (trodAll_cons_mk (Below.trod Try.laidOut (by kernel_rfl) (of_decide_eq_true (by kernel_rfl)) k2 bel lt2) trodAll_mk0))), rfl, bel.frame _, fun h => by cases h⟩

theorem relApart_holds : Rows.RelApartUptoSaid :=
  OpenClaim.holds_of_cond 6 Try.f6 rfl rfl rfl rfl rfl rfl rfl ⟨rfl, rfl, rfl, rfl, rfl⟩ rfl rfl rfl rfl rfl (by kernel_rfl) Try.func6 (by kernel_rfl)
    (of_decide_eq_true (by kernel_rfl)) (by unfold Func.isWrapper; first | (rw [if_pos (by decide +kernel)]; kernel_rfl) | (rw [if_neg (by decide +kernel)]; exact ⟨rfl, rfl⟩))
    (fun os started H enc _ F => relApart_lifted os started H enc F)
#print axioms relApart_holds
end Go.Proofs.Ytofopfjmcbgfjaa
