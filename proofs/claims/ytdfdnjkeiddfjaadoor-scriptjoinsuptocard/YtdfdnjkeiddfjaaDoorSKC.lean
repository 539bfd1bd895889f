import Derived.Test.YtdfdnjkeiddfjaaDoorRows
import Derived.Deep.Slices
import Derived.Deep.Strs
import Derived.SizedLaws
import Derived.ChangeSame
import Derived.ChangeSlices
import Derived.ProofKit
import Derived.OpenShut
import Derived.ShutString
import Derived.ChangeOld
import Derived.Below
import Derived.Lib.SmallJoins
import Derived.ChangeMaps5
import Derived.Test.YtdfdnjkeiddfjaaDoorSMX
import Derived.Test.YtdfdnjkeiddfjaaDoorSML
import Derived.Test.YtdfdnjkeiddfjaaDoorSMQ
import Derived.Test.YtdfdnjkeiddfjaaDoorSX4
import Derived.LaidSub
import Derived.Test.YtdfdnjkeiddfjaaDoorSL4
import Derived.Test.YtdfdnjkeiddfjaaDoorCards
import Derived.Test.YtdfdnjkeiddfjaaDoorTie
import Derived.SevenTiedAt
import Derived.Deep.DeepHandedRow
import Derived.JoinedCond
/-
  hearsaylaw25: what comes in, opened: a step.
-/
namespace Go.Proofs.YtdfdnjkeiddfjaaDoor
open Go.ChangeShapes Go.WideShapes Go.ChangeAt Go.RowKit Go.Joins Go.Deep

theorem Tryd.cellsStrS : Tryd.prog.cellsOf 9 = 1 := by kernel_rfl
end Go.Proofs.YtdfdnjkeiddfjaaDoor
/-
  hearsaylaw25: what comes in, opened: texts, a spoiling.
-/
namespace Go.Proofs.YtdfdnjkeiddfjaaDoor
open Go.ChangeShapes Go.WideShapes Go.ChangeAt Go.RowKit Go.Joins Go.Deep

theorem bulkS_sum {H : Type} (l : List (DataW H)) : Rows.uptoBulkAll l = (l.map Rows.uptoBulk).sum := by
  induction l with
  | nil => simp [Rows.uptoBulkAll]
  | cons d r ih => simp only [Rows.uptoBulkAll, ih, List.map_cons, List.sum_cons]
/-- A list of texts, with how much there is of it. -/
theorem open_textsS {H : Type} {enc : TypeId × Value → H} {W : World} {base : Nat} {spare : Nat → Bool} {held : Bool} {fuel : Nat} {cs : List Value} {x : DataW H × List MemPlace}
    (h : DataW.trod enc Tryd.prog W base spare held fuel 45 cs = some x) (hbk : Rows.uptoBulk x.1 ≤ 1048576) : ∃ v l, cs = [v] ∧ LsS W v l ∧ (l.map fun s => s.size + 1).sum ≤ 1048576 := by
  rcases open_slice Tryd.underlying45 h with ⟨rfl, -⟩ | ⟨a, len, cap, m, n, D, Pl, rfl, hba, hlc, hcm, hm, hx, hel⟩
  · exact ⟨_, [], rfl, ⟨none, 0, rfl, Or.inl rfl⟩, by simp⟩
  · rw [Tryd.cellsStrS] at hel
    have hlm : len ≤ m := by rw [hm]; split <;> omega
    have key : ∀ i : Nat, ∃ s : ByteArray, i < len → W.cell? (a.add (i * 1)) = some (.string s) ∧ Rows.uptoBulk (D i) = s.size + 1 := fun i => by
      by_cases hi : i < len
      · obtain ⟨cs', h1, h2⟩ := hel i (by omega)
        obtain ⟨-, hl, hc⟩ := World.cells?_some h1
        obtain ⟨s, e1, f1, -⟩ := DataW.trod_string Tryd.underlying9 h2
        subst e1
        refine ⟨s, fun _ => ⟨hc 0 (by simp), ?_⟩⟩
        have f2 : D i = .lit (.string s.data.toList) := congrArg Prod.fst f1
        rw [f2]
        simp only [Rows.uptoBulk, Array.length_toList]
        rfl
      · exact ⟨⟨#[]⟩, fun h => absurd h hi⟩
    obtain ⟨f, hf⟩ := Classical.axiomOfChoice key
    have hsum : (((List.range len).map f).map fun s => s.size + 1).sum ≤ 1048576 := by
      have e : ((List.range len).map f).map (fun s => s.size + 1) = ((List.range len).map D).map Rows.uptoBulk := by
        rw [List.map_map, List.map_map]
        refine List.map_congr_left fun i hi => ?_
        exact (hf i (List.mem_range.1 hi)).2.symm
      rw [e, ← bulkS_sum]
      rw [hx] at hbk
      simp only [Rows.uptoBulk] at hbk
      omega
    have hlr : ((List.range len).map f).length = len := by simp
    refine ⟨_, (List.range len).map f, rfl, ⟨some a, cap, by rw [hlr], ?_⟩, hsum⟩
    rcases Nat.eq_zero_or_pos len with h0 | h0
    · left; subst h0; rfl
    · right
      obtain ⟨b, off, spot⟩ := a
      have hspot : spot = none := by simpa [Addr.add] using World.cell?_spot (hf 0 h0).1
      subst hspot
      refine ⟨b, off, rfl, ?_, fun i t ht => ?_⟩
      · exact World.block_lt_of_cell? W _ (by have := (hf 0 h0).1; simpa [Addr.add] using this)
      · have hi : i < len := by have := (List.getElem?_eq_some_iff.1 ht).1; simpa using this
        have e : t = f i := by
          rw [List.getElem?_map, List.getElem?_range hi] at ht; simpa using ht.symm
        subst e
        have := (hf i hi).1
        simp only [Addr.add_mid, Nat.mul_one] at this
        exact this
theorem textsS_ok : ∀ (l : List ByteArray), (l.map fun s => s.size + 1).sum ≤ 1048576 → (∀ s ∈ l, s.size ≤ 1048576) ∧ l.length ≤ 1048576 := fun l h => by
  have h1 : ∀ (l : List ByteArray), l.length ≤ (l.map fun s => s.size + 1).sum ∧ ∀ s ∈ l, s.size ≤ (l.map fun s => s.size + 1).sum := fun l => by
    induction l with
    | nil => simp
    | cons t l ih =>
      simp only [List.map_cons, List.sum_cons, List.length_cons]
      refine ⟨by omega, fun s hs => ?_⟩
      rcases List.mem_cons.1 hs with rfl | hs
      · omega
      · have := ih.2 s hs; omega
  exact ⟨fun s hs => by have := (h1 l).2 s hs; omega, by have := (h1 l).1; omega⟩
theorem laidOutS : laidOutB Tryd.prog = true := by kernel_rfl
end Go.Proofs.YtdfdnjkeiddfjaaDoor
/-
  What the rows lay, as it is read (stage 25).
-/
namespace Go.Proofs.YtdfdnjkeiddfjaaDoor
open Go.RowKit

abbrev laid7 : List (String × DataW Unit) := laid6 ++ [("hearsay/script.rows", Rows.laid_hearsay_script_rows)]
set_option maxRecDepth 100000 in
theorem ens_of_laid {W : World} (h : laidMetH Tryd.prog laid7 W) : EnS W := by
  have h2 := h.filter (fun x => x.1 != "hearsay/script.rows")
  rw [show laid7.filter (fun x => x.1 != "hearsay/script.rows") = laid6 from by kernel_rfl] at h2
  have h3 := h.filter (fun x => x.1 == "hearsay/script.rows")
  rw [show laid7.filter (fun x => x.1 == "hearsay/script.rows") = [("hearsay/script.rows", Rows.laid_hearsay_script_rows)] from by kernel_rfl] at h3
  exact ⟨env_of_laid h2, tblA_of_laid h3⟩
end Go.Proofs.YtdfdnjkeiddfjaaDoor
/-
  The statement on hearsaylaw25.ScriptJoins, and its card.
-/
namespace Go.Proofs.YtdfdnjkeiddfjaaDoor
open Go.ChangeShapes Go.WideShapes Go.ChangeAt Go.RowKit
open Go.ChangeMaps (open_string shut_string)

theorem scriptJoins_met (os : Os) (args : Array Value) : laidMetH Tryd.prog laid7 ((World.doorLaid Tryd.prog 2000 os).forCall (fun _ _ => 0) ⟨#[], args, []⟩).memory :=
  laidMetH_of_parts3 (fuel := 8) (laidMet_of_run' 8 (by kernel_rfl) (by kernel_rfl)) (by kernel_rfl) (by kernel_rfl)
theorem scriptJoins_reads (os : Os) {H : Type} (enc : TypeId × Value → H) : ∃ places, DataW.whole enc Tryd.prog ((World.doorLaid Tryd.prog 2000 os).forCall (fun _ _ => 0) ⟨#[], #[.slice none 0 0], []⟩).memory Tryd.f8.params.toList Rows.scriptJoinsSpec.vars false #[.slice none 0 0].toList 8 = some ([.nil], [], places) :=
  ⟨[], by kernel_rfl⟩
set_option maxRecDepth 100000 in
theorem scriptJoins_lifted (os : Os) (started : os.Started) (H : Type) (enc : TypeId × Value → H) (F : Stop.Interp) :
    ReturnsInHanded {} Tryd.checked os 8 .any ((Rows.OpenSpec.upto Rows.scriptJoinsSpec).preRow enc Tryd.prog Tryd.f8 Rows.scriptJoinsUptoRow.domain false Rows.scriptJoinsUptoRow.laid) (((Rows.OpenSpec.upto Rows.scriptJoinsSpec).at F).post enc Tryd.prog Tryd.f8 false true false false) := by
  obtain ⟨places, hx⟩ := scriptJoins_reads os enc
  refine returnsInHanded_of_row (C := Tryd.checked) (s := Rows.OpenSpec.upto Rows.scriptJoinsSpec) Tryd.own started (by kernel_rfl) Tryd.func8
    (witness_row_at (enc := enc) (C := Tryd.checked) false (World.doorLaid Tryd.prog 2000 os) #[.slice none 0 0] rfl (by kernel_rfl) (by kernel_rfl) (by kernel_rfl)
      (OpenSpec.preRow_of_cond 8 hx (by kernel_rfl) (fun k hk => by cases hk; kernel_rfl) (by kernel_rfl) (scriptJoins_met os _))) ?_
  intro W base args ds gs before hval0 hW _ hcond hsz0 hL0 _ _
  have hk : Rows.uptoSmall H (ds ++ gs) = true := hcond _ rfl
  have hL : laidMetH Tryd.prog laid7 W := hL0
  have hval : ∀ (j : Nat) t v, Tryd.f8.params[j]? = some t → args[j]? = some v → Value.okWide Tryd.prog W .any base t v := hval0
  have hW' := hW
  obtain ⟨p, q, hA0, hV, rfl, hfz, hnd⟩ := hW
  have hA : DataW.TrodAll enc Tryd.prog W 0 (fun _ => true) true Tryd.f8.params.toList args.toList ds p := hA0
  rw [Tryd.params8] at hA hval
  obtain ⟨v0, vs0, d0, ds0, p0, q0, hargs, rfl, rfl, h0, r0⟩ := trodAll_cons hA
  obtain ⟨rfl, rfl, rfl⟩ := trodAll_nil r0
  obtain rfl : args = #[v0] := by cases args; simp_all
  obtain ⟨rfl, rfl⟩ := trodVars_none hV
  have k0 := h0
  have lt0 : ∀ x ∈ p0, x.block < W.heap.size := by obtain ⟨m, hm⟩ := k0; exact DataW.trod_lt m _ _ _ hm
  obtain ⟨a0, len, cap, rfl⟩ := okWide_slice Tryd.underlying45 (hval 0 45 v0 rfl rfl)
  obtain ⟨fuel, hf⟩ := h0
  have hbk : Rows.uptoBulkAll ([d0] ++ []) ≤ 1048576 := of_decide_eq_true hk
  simp only [List.append_nil, Rows.uptoBulkAll] at hbk
  obtain ⟨v, l, hcs, hK, hsum⟩ := open_textsS hf (by simp only; omega)
  obtain rfl : Value.slice a0 len cap = v := by simpa [Value.cells] using hcs
  have ho := textsS_ok l hsum
  clear hA0 hval0
  refine (sjoins_any l _ W hK (ens_of_laid hL) hsum ho.2).mono fun e W' ⟨he, bel⟩ => ?_
  subst he
  exact ⟨_, rfl, _, _, _, [], _, [], hW', trodAll_mk1 (shut_bool Tryd.underlying4 _), (trodAll_cons_mk (Below.trod laidOutS (by kernel_rfl) (of_decide_eq_true (by kernel_rfl)) k0 bel lt0) trodAll_mk0), rfl, bel.frame _, fun h => by cases h⟩
theorem scriptJoins_row : Rows.ScriptJoinsUptoSaid :=
  OpenClaim.holds_of_cond 8 Tryd.f8 rfl rfl rfl rfl rfl rfl rfl ⟨rfl, rfl, rfl, rfl, rfl⟩ rfl rfl rfl rfl rfl (by kernel_rfl) Tryd.func8 (by kernel_rfl)
    (of_decide_eq_true (by kernel_rfl)) (by unfold Func.isWrapper; first | (rw [if_pos (by decide +kernel)]; kernel_rfl) | (rw [if_neg (by decide +kernel)]; exact ⟨rfl, rfl⟩))
    (fun os started H enc _ F => by rw [OpenClaim.pre_eq_preRow]; exact scriptJoins_lifted os started H enc F)
theorem scriptJoins_holds : Rows.ScriptJoinsUptoCardSaid :=
  Claim7.holds_tied_plain_at .later [] _ _ _ _
    scriptJoins_row (fun _ h => by cases h) (by kernel_rfl) (fun _ h => by cases h) scriptJoinsUpto_row_tie rfl ⟨rfl, rfl⟩ (by kernel_rfl) rfl
    (fun f fn hf hfn => by
      obtain rfl : f = 8 := Option.some.inj ((show Tryd.prog.funcNamed "hearsay/hearsaylaw25.ScriptJoins" = some 8 by kernel_rfl).symm.trans hf) |>.symm
      obtain rfl : fn = Tryd.f8 := (Option.some.inj (Tryd.func8.symm.trans hfn)).symm
      exact ⟨by kernel_rfl, fun j t ht => by
        rw [Tryd.params8] at ht
        have h3 : t = 45 := by
          rcases j with _ | j
          · simpa using ht.symm
          · simp at ht
        subst h3
        exact (show Tryd.prog.wantsStandIn 45 = false by kernel_rfl)⟩)
    (by kernel_rfl)
#print axioms scriptJoins_holds
end Go.Proofs.YtdfdnjkeiddfjaaDoor
