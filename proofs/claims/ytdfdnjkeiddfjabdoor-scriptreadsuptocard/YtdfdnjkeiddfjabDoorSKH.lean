import Derived.Test.YtdfdnjkeiddfjabDoorRows
import Derived.LaidSub
import Derived.Test.YtdfdnjkeiddfjabDoorSMX
import Derived.Test.YtdfdnjkeiddfjabDoorSML
import Derived.Test.YtdfdnjkeiddfjabDoorSMQ
import Derived.Test.YtdfdnjkeiddfjabDoorSM7
import Derived.Test.YtdfdnjkeiddfjabDoorKR4
import Derived.Test.YtdfdnjkeiddfjabDoorSRG
import Derived.Test.YtdfdnjkeiddfjabDoorCards
import Derived.Test.YtdfdnjkeiddfjabDoorTie
import Derived.SevenTiedAt
import Derived.Deep.DeepHandedRow
import Derived.JoinedCond
/-
  What the rows lay, as it is read (stage 25).
-/
namespace Go.Proofs.YtdfdnjkeiddfjabDoor
open Go.RowKit

abbrev laid7 : List (String × DataW Unit) := laid6 ++ [("hearsay/script.rows", Rows.laid_hearsay_script_rows)]
set_option maxRecDepth 100000 in
theorem ens_of_laid {W : World} (h : laidMetH Tryd.prog laid7 W) : EnS W := by
  have h2 := h.filter (fun x => x.1 != "hearsay/script.rows")
  rw [show laid7.filter (fun x => x.1 != "hearsay/script.rows") = laid6 from by kernel_rfl] at h2
  have h3 := h.filter (fun x => x.1 == "hearsay/script.rows")
  rw [show laid7.filter (fun x => x.1 == "hearsay/script.rows") = [("hearsay/script.rows", Rows.laid_hearsay_script_rows)] from by kernel_rfl] at h3
  exact ⟨env_of_laid h2, tblA_of_laid h3⟩
end Go.Proofs.YtdfdnjkeiddfjabDoor
/-
  ref's tables, as the rows lay them.
-/
namespace Go.Proofs.YtdfdnjkeiddfjabDoor
open Go.ChangeShapes Go.WideShapes Go.ChangeAt Go.RowKit

theorem Tryd.gQS : Tryd.prog.globalNamed "hearsay/hearsayref04.signs" = some 1 := by kernel_rfl
theorem Tryd.tQS : (Tryd.prog.globals[1]?).map (·.type) = some 93 := by kernel_rfl
theorem Tryd.gQK : Tryd.prog.globalNamed "hearsay/hearsayref04.kinds" = some 2 := by kernel_rfl
theorem Tryd.tQK : (Tryd.prog.globals[2]?).map (·.type) = some 94 := by kernel_rfl
theorem Tryd.qcellsInt : Tryd.prog.cellsOf 3 = 1 := by kernel_rfl
theorem qsigns_of_trod {H : Type} {enc : TypeId × Value → H} {W : World} {base f0 : Nat} {spare : Nat → Bool} {held : Bool} {cs0 : List Value} {p0 : List MemPlace}
    (h : DataW.trod enc Tryd.prog W base spare held f0 93 cs0 = some (Rows.laid_hearsay_hearsayref04_signs, p0)) (i : Nat) (t : ByteArray) (ht : qsL[i]? = some t) : cs0[i]? = some (.string t) := by
  obtain ⟨xs, m, -, hx, hl, hn, hel⟩ := DataW.trod_array Tryd.underlying93 h
  have hi : i < 11 := by have := (List.getElem?_eq_some_iff.1 ht).1; simpa [qsL] using this
  have he := hel i hi
  rw [Tryd.cellsStr, Nat.mul_one] at he
  have hxs : xs[i]? = some xs[i] := List.getElem?_eq_getElem (by omega)
  rw [hxs] at he
  obtain ⟨s, e1, e2, -⟩ := DataW.trod_string Tryd.underlying9 he
  have hx1 : xs.map (·.1) = qsL.map (fun b => DataW.lit (.string b.data.toList)) := by
    have := congrArg Prod.fst hx
    simp only [Rows.laid_hearsay_hearsayref04_signs, DataW.agg.injEq] at this
    rw [← this]; rfl
  have h2 : (xs.map (·.1))[i]? = some (DataW.lit (.string t.data.toList)) := by rw [hx1, List.getElem?_map, ht]; rfl
  rw [List.getElem?_map, hxs, e2] at h2
  simp only [Option.map_some, Option.some.injEq, DataW.lit.injEq, Lit.string.injEq] at h2
  obtain rfl : s = t := ByteArray.ext (Array.toList_inj.1 h2)
  have h3 : ((cs0.drop i).take 1)[0]? = some (.string s) := by rw [e1]; rfl
  rw [List.getElem?_take_of_lt (by omega), List.getElem?_drop] at h3
  simpa using h3
theorem qkinds_of_trod {H : Type} {enc : TypeId × Value → H} {W : World} {base f0 : Nat} {spare : Nat → Bool} {held : Bool} {cs0 : List Value} {p0 : List MemPlace}
    (h : DataW.trod enc Tryd.prog W base spare held f0 94 cs0 = some (Rows.laid_hearsay_hearsayref04_kinds, p0)) (i : Nat) (k : Int) (ht : qkL[i]? = some k) : cs0[i]? = some (.int .i64 k) := by
  obtain ⟨xs, m, -, hx, hl, hn, hel⟩ := DataW.trod_array Tryd.underlying94 h
  have hi : i < 11 := by have := (List.getElem?_eq_some_iff.1 ht).1; simpa [qkL] using this
  have he := hel i hi
  rw [Tryd.qcellsInt, Nat.mul_one] at he
  have hxs : xs[i]? = some xs[i] := List.getElem?_eq_getElem (by omega)
  rw [hxs] at he
  obtain ⟨s, e1, e2, -⟩ := DataW.trod_int Tryd.underlying3 he
  have hx1 : xs.map (·.1) = qkL.map (fun b => DataW.lit (.int .i64 b)) := by
    have := congrArg Prod.fst hx
    simp only [Rows.laid_hearsay_hearsayref04_kinds, DataW.agg.injEq] at this
    rw [← this]; rfl
  have h2 : (xs.map (·.1))[i]? = some (DataW.lit (.int .i64 k)) := by rw [hx1, List.getElem?_map, ht]; rfl
  rw [List.getElem?_map, hxs, e2] at h2
  simp only [Option.map_some, Option.some.injEq, DataW.lit.injEq, Lit.int.injEq, true_and] at h2
  subst h2
  have h3 : ((cs0.drop i).take 1)[0]? = some (.int .i64 s) := by rw [e1]; rfl
  rw [List.getElem?_take_of_lt (by omega), List.getElem?_drop] at h3
  simpa using h3
abbrev laid8 : List (String × DataW Unit) := ("hearsay/hearsayref04.signs", Rows.laid_hearsay_hearsayref04_signs) :: ("hearsay/hearsayref04.kinds", Rows.laid_hearsay_hearsayref04_kinds) :: laid6
set_option maxRecDepth 100000 in
theorem env8_of_laid {W : World} (h : laidMetH Tryd.prog laid8 W) : EnvOk W ∧ QOk W := by
  have h0 : laidMet Tryd.prog laid8 W := noHandle rfl h
  have h1 := h0.tail
  have hE : EnvOk W := env_of_laid h1.tail
  refine ⟨hE, ?_, ?_⟩
  · obtain ⟨ps, ⟨g0, t0, cs0, f0, p0, q0, hg0, ht0, hv0, hd0, _⟩, _⟩ := h0
    obtain rfl := Option.some.inj (Tryd.gQS.symm.trans hg0)
    obtain rfl := Option.some.inj (Tryd.tQS.symm.trans ht0)
    intro i t ht
    have := World.var?_cell hg0 hv0 i
    rw [show W.cell? ⟨1, i, none⟩ = cs0[i]? by simpa using this]
    simpa using qsigns_of_trod hd0 i t ht
  · obtain ⟨ps, ⟨g0, t0, cs0, f0, p0, q0, hg0, ht0, hv0, hd0, _⟩, _⟩ := h1
    obtain rfl := Option.some.inj (Tryd.gQK.symm.trans hg0)
    obtain rfl := Option.some.inj (Tryd.tQK.symm.trans ht0)
    intro i k hk
    have := World.var?_cell hg0 hv0 i
    rw [show W.cell? ⟨2, i, none⟩ = cs0[i]? by simpa using this]
    simpa using qkinds_of_trod hd0 i k hk
end Go.Proofs.YtdfdnjkeiddfjabDoor
/-
  What ScriptReads' row lays, as it is read.
-/
namespace Go.Proofs.YtdfdnjkeiddfjabDoor
open Go.RowKit

abbrev laid8S : List (String × DataW Unit) := ("hearsay/hearsayref04.signs", Rows.laid_hearsay_hearsayref04_signs) :: ("hearsay/hearsayref04.kinds", Rows.laid_hearsay_hearsayref04_kinds) :: laid7
set_option maxRecDepth 100000 in
theorem ens8_of_laid {W : World} (h : laidMetH Tryd.prog laid8S W) : EnS W ∧ QOk W := by
  have h1 := h.filter (fun x => x.1 != "hearsay/hearsayref04.signs" && x.1 != "hearsay/hearsayref04.kinds")
  rw [show laid8S.filter (fun x => x.1 != "hearsay/hearsayref04.signs" && x.1 != "hearsay/hearsayref04.kinds") = laid7 from by kernel_rfl] at h1
  have h2 := h.filter (fun x => x.1 != "hearsay/script.rows")
  rw [show laid8S.filter (fun x => x.1 != "hearsay/script.rows") = laid8 from by kernel_rfl] at h2
  exact ⟨ens_of_laid h1, (env8_of_laid h2).2⟩
end Go.Proofs.YtdfdnjkeiddfjabDoor
/-
  The statement on hearsaylaw25.ScriptReads, and its card.
-/
namespace Go.Proofs.YtdfdnjkeiddfjabDoor
open Go.ChangeShapes Go.WideShapes Go.ChangeAt Go.RowKit
open Go.ChangeMaps (open_string shut_string)

theorem scriptReads_met (os : Os) (args : Array Value) : laidMetH Tryd.prog laid8S ((World.doorLaid Tryd.prog 2000 os).forCall (fun _ _ => 0) ⟨#[], args, []⟩).memory :=
  laidMetH_of_parts3 (fuel := 8) (laidMet_of_run' 8 (by kernel_rfl) (by kernel_rfl)) (by kernel_rfl) (by kernel_rfl)
theorem scriptReads_reads (os : Os) {H : Type} (enc : TypeId × Value → H) : ∃ places, DataW.whole enc Tryd.prog ((World.doorLaid Tryd.prog 2000 os).forCall (fun _ _ => 0) ⟨#[], #[.string ⟨#[]⟩], []⟩).memory Tryd.f4.params.toList Rows.scriptReadsSpec.vars false #[.string ⟨#[]⟩].toList 8 = some ([.lit (.string [])], [], places) :=
  ⟨[], by kernel_rfl⟩
set_option maxRecDepth 100000 in
theorem scriptReads_lifted (os : Os) (started : os.Started) (H : Type) (enc : TypeId × Value → H) (F : Stop.Interp) :
    ReturnsInHanded {} Tryd.checked os 4 .any ((Rows.OpenSpec.upto Rows.scriptReadsSpec).preRow enc Tryd.prog Tryd.f4 Rows.scriptReadsUptoRow.domain false Rows.scriptReadsUptoRow.laid) (((Rows.OpenSpec.upto Rows.scriptReadsSpec).at F).post enc Tryd.prog Tryd.f4 false true false false) := by
  obtain ⟨places, hx⟩ := scriptReads_reads os enc
  refine returnsInHanded_of_row (C := Tryd.checked) (s := Rows.OpenSpec.upto Rows.scriptReadsSpec) Tryd.own started (by kernel_rfl) Tryd.func4
    (witness_row_at (enc := enc) (C := Tryd.checked) false (World.doorLaid Tryd.prog 2000 os) #[.string ⟨#[]⟩] rfl (by kernel_rfl) (by kernel_rfl) (by kernel_rfl)
      (OpenSpec.preRow_of_cond 8 hx (by kernel_rfl) (fun k hk => by cases hk; kernel_rfl) (by kernel_rfl) (scriptReads_met os _))) ?_
  intro W base args ds gs before hval0 hW _ hcond hsz0 hL0 _ _
  have hk : Rows.uptoSmall H (ds ++ gs) = true := hcond _ rfl
  have hL : laidMetH Tryd.prog laid8S W := hL0
  have hval : ∀ (j : Nat) t v, Tryd.f4.params[j]? = some t → args[j]? = some v → Value.okWide Tryd.prog W .any base t v := hval0
  have hW' := hW
  obtain ⟨p, q, hA0, hV, rfl, hfz, hnd⟩ := hW
  have hA : DataW.TrodAll enc Tryd.prog W 0 (fun _ => true) true Tryd.f4.params.toList args.toList ds p := hA0
  rw [Tryd.params4] at hA hval
  obtain ⟨v0, vs0, d0, ds0, p0, q0, hargs, rfl, rfl, h0, r0⟩ := trodAll_cons hA
  obtain ⟨rfl, rfl, rfl⟩ := trodAll_nil r0
  obtain rfl : args = #[v0] := by cases args; simp_all
  obtain ⟨rfl, rfl⟩ := trodVars_none hV
  obtain ⟨s, rfl, rfl, rfl, hs⟩ := open_string Tryd.underlying9 (hval 0 9 v0 rfl rfl) h0
  have hbk : Rows.uptoBulkAll ([DataW.lit (.string s.data.toList)] ++ []) ≤ 1048576 := of_decide_eq_true hk
  simp only [List.cons_append, List.nil_append, Rows.uptoBulkAll, Rows.uptoBulk, Array.length_toList] at hbk
  have hsz : s.size = s.data.size := rfl
  clear hA0 hval0
  refine (sreads_any s (by omega) W (ens8_of_laid hL).1 (ens8_of_laid hL).2).mono fun e W' ⟨he, bel⟩ => ?_
  subst he
  exact ⟨_, rfl, _, _, _, [], _, [], hW', trodAll_mk1 (shut_bool Tryd.underlying4 _), (trodAll_cons_mk (shut_string Tryd.underlying9 hs) trodAll_mk0), rfl, bel.frame _, fun h => by cases h⟩
theorem scriptReads_row : Rows.ScriptReadsUptoSaid :=
  OpenClaim.holds_of_cond 4 Tryd.f4 rfl rfl rfl rfl rfl rfl rfl ⟨rfl, rfl, rfl, rfl, rfl⟩ rfl rfl rfl rfl rfl (by kernel_rfl) Tryd.func4 (by kernel_rfl)
    (of_decide_eq_true (by kernel_rfl)) (by unfold Func.isWrapper; first | (rw [if_pos (by decide +kernel)]; kernel_rfl) | (rw [if_neg (by decide +kernel)]; exact ⟨rfl, rfl⟩))
    (fun os started H enc _ F => by rw [OpenClaim.pre_eq_preRow]; exact scriptReads_lifted os started H enc F)
theorem scriptReads_holds : Rows.ScriptReadsUptoCardSaid :=
  Claim7.holds_tied_plain_at .later [] _ _ _ _
    scriptReads_row (fun _ h => by cases h) (by kernel_rfl) (fun _ h => by cases h) scriptReadsUpto_row_tie rfl ⟨rfl, rfl⟩ (by kernel_rfl) rfl
    (fun f fn hf hfn => by
      obtain rfl : f = 4 := Option.some.inj ((show Tryd.prog.funcNamed "hearsay/hearsaylaw25.ScriptReads" = some 4 by kernel_rfl).symm.trans hf) |>.symm
      obtain rfl : fn = Tryd.f4 := (Option.some.inj (Tryd.func4.symm.trans hfn)).symm
      exact ⟨by kernel_rfl, fun j t ht => by
        rw [Tryd.params4] at ht
        have h3 : t = 9 := by
          rcases j with _ | j
          · simpa using ht.symm
          · simp at ht
        subst h3
        exact (show Tryd.prog.wantsStandIn 9 = false by kernel_rfl)⟩)
    (by kernel_rfl)
#print axioms scriptReads_holds
end Go.Proofs.YtdfdnjkeiddfjabDoor
