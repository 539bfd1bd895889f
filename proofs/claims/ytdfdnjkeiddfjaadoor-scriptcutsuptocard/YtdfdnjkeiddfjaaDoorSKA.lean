import Derived.Test.YtdfdnjkeiddfjaaDoorSL2
import Derived.Test.YtdfdnjkeiddfjaaDoorSMC
import Derived.Test.YtdfdnjkeiddfjaaDoorKR9
import Derived.Test.YtdfdnjkeiddfjaaDoorRows
import Derived.LaidSub
import Derived.Test.YtdfdnjkeiddfjaaDoorCards
import Derived.Test.YtdfdnjkeiddfjaaDoorTie
import Derived.SevenTiedAt
import Derived.Deep.DeepHandedRow
import Derived.JoinedCond
/-
  script (stage 25): the program's interface: Lines, Blank (over the mock: proved in SC4, SC7).
-/
namespace Go.Proofs.YtdfdnjkeiddfjaaDoor
open Go.RowKit

theorem aSLinesE_any (s : ByteArray) (hs : s.size ≤ 9000000) (w : World) (_ : EnS w) : Calls Tryd.prog 15 #[.string s] w fun e w' => ∃ v, e = .returned v ∧ OwS w' w.heap.size v (lnS s) ∧ Below w.heap.size w w' := aSLines_any s hs w
theorem aSBlankE_any (s : ByteArray) (hs : s.size ≤ 9000000) (w : World) (hE : EnS w) : Calls Tryd.prog 17 #[.string s] w fun e w' => e = .returned (.bool (blS s)) ∧ Below w.heap.size w w' := aSBlank_any s hs w hE.env
theorem bdrewS (w : World) (n : Nat) : Below w.heap.size w (w.drewN n) := ⟨rfl, rfl, rfl, Nat.le_refl _, fun _ _ => rfl⟩
theorem bdrew1S (w : World) : Below w.heap.size w w.drew := ⟨rfl, rfl, rfl, Nat.le_refl _, fun _ _ => rfl⟩
theorem lnF_len (s : ByteArray) (i : Nat) : (lnF s i).1.length ≤ (lnF s i).2 := by
  induction i with
  | zero => exact Nat.le_refl _
  | succ i ih =>
    unfold lnF
    split
    · have := (lnF_le s i).2
      simp; omega
    · exact ih
end Go.Proofs.YtdfdnjkeiddfjaaDoor
/-
  hearsaylaw25: texts; ScriptCuts' walk.
-/
namespace Go.Proofs.YtdfdnjkeiddfjaaDoor
open Go.RowKit
attribute [local go_sem ↓] Go.wp_at_zero Go.wp_at_succ

/-- A list of texts in memory. -/
def LsS (w : World) (v : Value) (l : List ByteArray) : Prop :=
  ∃ a cap, v = .slice a l.length cap ∧ (l = [] ∨ ∃ b o, a = some ⟨b, o, none⟩ ∧ b < w.heap.size ∧ ∀ (i : Nat) (x : ByteArray), l[i]? = some x → w.cell? ⟨b, o + i, none⟩ = some (.string x))
theorem LsS.later {w w' : World} {v : Value} {l : List ByteArray} (h : LsS w v l) (hb : Below w.heap.size w w') : LsS w' v l := by
  obtain ⟨a, cap, rfl, h⟩ := h
  refine ⟨a, cap, rfl, h.imp id ?_⟩
  rintro ⟨b, o, rfl, hlt, hc⟩
  exact ⟨b, o, rfl, Nat.lt_of_lt_of_le hlt hb.size, fun i x hx => by
    rw [World.cell?_of_block (w := w) (a := ⟨b, _, none⟩) (hb.block b hlt)]; exact hc i x hx⟩
theorem OwS.ls {w : World} {base : Nat} {v : Value} {l : List ByteArray} (h : OwS w base v l) : LsS w v l := by
  obtain ⟨a, c, rfl⟩ := h.fm
  refine ⟨a, c, rfl, ?_⟩
  cases l with
  | nil => exact Or.inl rfl
  | cons x l =>
    obtain ⟨g, rfl, -, hg, -⟩ := row7_at (i := 0) h (u := .string x) rfl
    refine Or.inr ⟨g, 0, rfl, hg, fun i y hy => ?_⟩
    obtain ⟨g', e, -, -, hc, -⟩ := row7_at (i := i) h (u := .string y) (by rw [List.getElem?_map, hy]; rfl)
    cases e
    rw [Nat.zero_add]; exact hc
theorem OwS.later {w w' : World} {base : Nat} {v : Value} {l : List ByteArray} (h : OwS w base v l) (hb : Below w.heap.size w w') : OwS w' base v l := rowS_below h hb
theorem LsS.at_ {w : World} {a : Option Addr} {n cap i : Nat} {l : List ByteArray} (h : LsS w (.slice a n cap) l) (hi : i < l.length) : ∃ x b o, a = some ⟨b, o, none⟩ ∧ l[i]? = some x ∧ w.cell? ⟨b, o + i, none⟩ = some (.string x) := by
  obtain ⟨a', cap', e, h⟩ := h
  simp only [Value.slice.injEq] at e
  obtain ⟨rfl, -, -⟩ := e
  rcases h with rfl | ⟨b, o, rfl, -, hc⟩
  · simp at hi
  · exact ⟨l[i], b, o, rfl, List.getElem?_eq_getElem hi, hc i _ (List.getElem?_eq_getElem hi)⟩
theorem LsS.fm {w : World} {v : Value} {l : List ByteArray} (h : LsS w v l) : ∃ a cap, v = .slice a l.length cap := by
  obtain ⟨a, cap, e, -⟩ := h; exact ⟨a, cap, e⟩
set_option maxRecDepth 20000 in
set_option maxHeartbeats 2000000 in
theorem textsL_any (l : List ByteArray) (v v' : Value) (w : World) (h : LsS w v l) (h' : LsS w v' l) (hl : l.length ≤ 9000000) : Calls Tryd.prog 20 #[v, v'] w fun e w' => e = .returned (.bool true) ∧ Below w.heap.size w w' := by
  have H := hm7 h
  have H' := hm7 h'
  obtain ⟨a, c, rfl⟩ := h.fm
  obtain ⟨a', c', rfl⟩ := h'.fm
  obtain ⟨N, hN⟩ : ∃ N, l.length = N := ⟨_, rfl⟩
  have HN := hm7 hN
  rw [hN] at hl H H' ⊢
  clear h h' hN
  go_enter Tryd.func20, Tryd.ntmps20
  go_upto_region 4 with (fail)
  go_loopg [5] N (fun gg i wr => ∃ j : Nat, j + gg = N ∧ i = .int .i64 j ∧ Below w.heap.size w wr)
  case atStart => exact ⟨0, by omega, rfl, Below.refl _ _⟩
  case round =>
    obtain ⟨j, hj, rfl, hb⟩ := hrel
    have HB := hm7 hb
    have x1 := (H.out.later hb).at_ (i := j)
    have x2 := (H'.out.later hb).at_ (i := j)
    clear hb
    cases gk with
    | succ gg =>
      have hlt : (j : Int) < (N : Int) := by omega
      have h0 : (0 : Int) ≤ (j : Int) := by omega
      obtain ⟨x, b, o, rfl, y1, y2⟩ := x1 (by have := HN.out; omega)
      obtain ⟨x', b', o', rfl, z1, z2⟩ := x2 (by have := HN.out; omega)
      rw [y1] at z1
      cases z1
      go_wp2
      go_quiet (fail)
      go_wp2
      go_roundg gg
      case measure => omega
      case rel => exact ⟨j + 1, by omega, by go_num, below_stepK HB.out (bdrewS _ _)⟩
    | zero =>
      have hlt : ¬ (j : Int) < (N : Int) := by omega
      clear x1 x2
      go_wp2
      go_ret
      exact ⟨rfl, HB.out⟩
set_option maxRecDepth 20000 in
set_option maxHeartbeats 2000000 in
theorem scuts_any (s : ByteArray) (hs : s.size ≤ 8000000) (w : World) (hE : EnS w) : Calls Tryd.prog 6 #[.string s] w fun e w' => e = .returned (.bool true) ∧ Below w.heap.size w w' := by
  have HE := hm7 hE
  have hln : (lnS s).length ≤ s.size := by
    have := (lnF_le s s.size)
    unfold lnS
    split
    · rename_i hlt
      have h2 := lnF_len s s.size
      rw [List.length_append]; simp; omega
    · exact this.2
  obtain ⟨L, hL⟩ : ∃ L, lnS s = L := ⟨_, rfl⟩
  have HA : Hid (∀ X, EnS X → Calls Tryd.prog 15 #[.string s] X fun e w' => ∃ v, e = .returned v ∧ OwS w' X.heap.size v L ∧ Below X.heap.size X w') := fun X h => by rw [← hL]; exact aSLinesE_any s (by omega) X h
  have HD : Hid (∀ X, Calls Tryd.prog 16 #[.string s] X fun e w' => ∃ v, e = .returned v ∧ OwS w' X.heap.size v L ∧ Below X.heap.size X w') := fun X => by rw [← hL]; exact bSLines_any s (by omega) X
  have HF : Hid (∀ X, EnS X → Calls Tryd.prog 12 #[] X fun e w' => e = .returned (.bool true) ∧ Below X.heap.size X w') := fun X h => first_any X h
  rw [hL] at hln
  obtain ⟨N, hN⟩ : ∃ N, L.length = N := ⟨_, rfl⟩
  have HN := hm7 hN
  rw [hN] at hln
  clear hE hL
  go_enter Tryd.func6, Tryd.ntmps6
  go_upto_region 2 with (go_at_call 15; refine (HA.out _ HE.out).mono ?_; rintro e w1 ⟨v1, rfl, ho1, hb1⟩)
  have H1 := hm7 ho1.ls
  obtain ⟨a, c, rfl⟩ := ho1.fm
  have HB1 := hm7 hb1
  clear ho1 hb1
  go_upto_region 3 with (go_at_call 16; refine (HD.out _).mono ?_; rintro e w2 ⟨v2, rfl, ho2, hb2⟩)
  have H2 := hm7 ho2.ls
  obtain ⟨a2, c2, rfl⟩ := ho2.fm
  have H12 := hm7 (H1.out.later hb2)
  have HB2 := hm7 (below_stepK HB1.out hb2)
  have HE2 := hm7 (HE.out.later HB2.out)
  clear ho2 hb2
  rw [hN] at H12 H2 ⊢
  clear hN
  go_upto_region 6 with (fail)
  go_loopg [5] N (fun gg i wr => ∃ j : Nat, j + gg = N ∧ i = .int .i64 j ∧ Below w2.heap.size w2 wr)
  case atStart => exact ⟨0, by omega, rfl, Below.refl _ _⟩
  case round =>
    obtain ⟨j, hj, rfl, hb⟩ := hrel
    have HB := hm7 hb
    have x1 := (H12.out.later hb).at_ (i := j)
    have x2 := (H2.out.later hb).at_ (i := j)
    clear hb
    cases gk with
    | succ gg =>
      have hlt : (j : Int) < (N : Int) := by omega
      have h0 : (0 : Int) ≤ (j : Int) := by omega
      obtain ⟨x, b, o, rfl, y1, y2⟩ := x1 (by have := HN.out; omega)
      obtain ⟨x', b', o', rfl, z1, z2⟩ := x2 (by have := HN.out; omega)
      rw [y1] at z1
      cases z1
      go_wp2
      go_quiet (fail)
      go_wp2
      go_roundg gg
      case measure => omega
      case rel => exact ⟨j + 1, by omega, by go_num, below_stepK HB.out (bdrewS _ _)⟩
    | zero =>
      have hlt : ¬ (j : Int) < (N : Int) := by omega
      clear x1 x2
      go_wp2_with (go_at_call 12; refine (HF.out _ (HE2.out.later HB.out)).mono ?_; rintro e w4 ⟨rfl, hb4⟩; have HB4 := hm7 hb4; clear hb4)
      go_ret
      exact ⟨rfl, HB2.out.trans ((HB.out.trans (HB4.out.mono HB.out.size)).mono HB2.out.size)⟩
end Go.Proofs.YtdfdnjkeiddfjaaDoor
/-
  What the rows lay, as it is read (stage 25).
-/
namespace Go.Proofs.YtdfdnjkeiddfjaaDoor
open Go.RowKit

abbrev laid7 : List (String × DataW Unit) := laid6 ++ [("hearsay/script.rows", Rows.laid_hearsay_script_rows)]
set_option maxRecDepth 100000 in
theorem ens_of_laid {W : World} (h : laidMetH Tryd.prog laid7 W) : EnS W := by
  have h2 := h.filter (fun x => x.1 != "hearsay/script.rows")
  rw [show laid7.filter (fun x => x.1 != "hearsay/script.rows") = laid6 from by kernel_rfl] at h2
  have h3 := h.filter (fun x => x.1 == "hearsay/script.rows")
  rw [show laid7.filter (fun x => x.1 == "hearsay/script.rows") = [("hearsay/script.rows", Rows.laid_hearsay_script_rows)] from by kernel_rfl] at h3
  exact ⟨env_of_laid h2, tblA_of_laid h3⟩
end Go.Proofs.YtdfdnjkeiddfjaaDoor
/-
  The statement on hearsaylaw25.ScriptCuts, and its card.
-/
namespace Go.Proofs.YtdfdnjkeiddfjaaDoor
open Go.ChangeShapes Go.WideShapes Go.ChangeAt Go.RowKit
open Go.ChangeMaps (open_string shut_string)

theorem scriptCuts_met (os : Os) (args : Array Value) : laidMetH Tryd.prog laid7 ((World.doorLaid Tryd.prog 2000 os).forCall (fun _ _ => 0) ⟨#[], args, []⟩).memory :=
  laidMetH_of_parts3 (fuel := 8) (laidMet_of_run' 8 (by kernel_rfl) (by kernel_rfl)) (by kernel_rfl) (by kernel_rfl)
theorem scriptCuts_reads (os : Os) {H : Type} (enc : TypeId × Value → H) : ∃ places, DataW.whole enc Tryd.prog ((World.doorLaid Tryd.prog 2000 os).forCall (fun _ _ => 0) ⟨#[], #[.string ⟨#[]⟩], []⟩).memory Tryd.f6.params.toList Rows.scriptCutsSpec.vars false #[.string ⟨#[]⟩].toList 8 = some ([.lit (.string [])], [], places) :=
  ⟨[], by kernel_rfl⟩
set_option maxRecDepth 100000 in
theorem scriptCuts_lifted (os : Os) (started : os.Started) (H : Type) (enc : TypeId × Value → H) (F : Stop.Interp) :
    ReturnsInHanded {} Tryd.checked os 6 .any ((Rows.OpenSpec.upto Rows.scriptCutsSpec).preRow enc Tryd.prog Tryd.f6 Rows.scriptCutsUptoRow.domain false Rows.scriptCutsUptoRow.laid) (((Rows.OpenSpec.upto Rows.scriptCutsSpec).at F).post enc Tryd.prog Tryd.f6 false true false false) := by
  obtain ⟨places, hx⟩ := scriptCuts_reads os enc
  refine returnsInHanded_of_row (C := Tryd.checked) (s := Rows.OpenSpec.upto Rows.scriptCutsSpec) Tryd.own started (by kernel_rfl) Tryd.func6
    (witness_row_at (enc := enc) (C := Tryd.checked) false (World.doorLaid Tryd.prog 2000 os) #[.string ⟨#[]⟩] rfl (by kernel_rfl) (by kernel_rfl) (by kernel_rfl)
      (OpenSpec.preRow_of_cond 8 hx (by kernel_rfl) (fun k hk => by cases hk; kernel_rfl) (by kernel_rfl) (scriptCuts_met os _))) ?_
  intro W base args ds gs before hval0 hW _ hcond hsz0 hL0 _ _
  have hk : Rows.uptoSmall H (ds ++ gs) = true := hcond _ rfl
  have hL : laidMetH Tryd.prog laid7 W := hL0
  have hval : ∀ (j : Nat) t v, Tryd.f6.params[j]? = some t → args[j]? = some v → Value.okWide Tryd.prog W .any base t v := hval0
  have hW' := hW
  obtain ⟨p, q, hA0, hV, rfl, hfz, hnd⟩ := hW
  have hA : DataW.TrodAll enc Tryd.prog W 0 (fun _ => true) true Tryd.f6.params.toList args.toList ds p := hA0
  rw [Tryd.params6] at hA hval
  obtain ⟨v0, vs0, d0, ds0, p0, q0, hargs, rfl, rfl, h0, r0⟩ := trodAll_cons hA
  obtain ⟨rfl, rfl, rfl⟩ := trodAll_nil r0
  obtain rfl : args = #[v0] := by cases args; simp_all
  obtain ⟨rfl, rfl⟩ := trodVars_none hV
  obtain ⟨s, rfl, rfl, rfl, hs⟩ := open_string Tryd.underlying9 (hval 0 9 v0 rfl rfl) h0
  have hbk : Rows.uptoBulkAll ([DataW.lit (.string s.data.toList)] ++ []) ≤ 1048576 := of_decide_eq_true hk
  simp only [List.cons_append, List.nil_append, Rows.uptoBulkAll, Rows.uptoBulk, Array.length_toList] at hbk
  have hsz : s.size = s.data.size := rfl
  clear hA0 hval0
  refine (scuts_any s (by omega) W (ens_of_laid hL)).mono fun e W' ⟨he, bel⟩ => ?_
  subst he
  exact ⟨_, rfl, _, _, _, [], _, [], hW', trodAll_mk1 (shut_bool Tryd.underlying4 _), (trodAll_cons_mk (shut_string Tryd.underlying9 hs) trodAll_mk0), rfl, bel.frame _, fun h => by cases h⟩
theorem scriptCuts_row : Rows.ScriptCutsUptoSaid :=
  OpenClaim.holds_of_cond 6 Tryd.f6 rfl rfl rfl rfl rfl rfl rfl ⟨rfl, rfl, rfl, rfl, rfl⟩ rfl rfl rfl rfl rfl (by kernel_rfl) Tryd.func6 (by kernel_rfl)
    (of_decide_eq_true (by kernel_rfl)) (by unfold Func.isWrapper; first | (rw [if_pos (by decide +kernel)]; kernel_rfl) | (rw [if_neg (by decide +kernel)]; exact ⟨rfl, rfl⟩))
    (fun os started H enc _ F => by rw [OpenClaim.pre_eq_preRow]; exact scriptCuts_lifted os started H enc F)
theorem scriptCuts_holds : Rows.ScriptCutsUptoCardSaid :=
  Claim7.holds_tied_plain_at .later [] _ _ _ _
    scriptCuts_row (fun _ h => by cases h) (by kernel_rfl) (fun _ h => by cases h) scriptCutsUpto_row_tie rfl ⟨rfl, rfl⟩ (by kernel_rfl) rfl
    (fun f fn hf hfn => by
      obtain rfl : f = 6 := Option.some.inj ((show Tryd.prog.funcNamed "hearsay/hearsaylaw25.ScriptCuts" = some 6 by kernel_rfl).symm.trans hf) |>.symm
      obtain rfl : fn = Tryd.f6 := (Option.some.inj (Tryd.func6.symm.trans hfn)).symm
      exact ⟨by kernel_rfl, fun j t ht => by
        rw [Tryd.params6] at ht
        have h3 : t = 9 := by
          rcases j with _ | j
          · simpa using ht.symm
          · simp at ht
        subst h3
        exact (show Tryd.prog.wantsStandIn 9 = false by kernel_rfl)⟩)
    (by kernel_rfl)
#print axioms scriptCuts_holds
end Go.Proofs.YtdfdnjkeiddfjaaDoor
