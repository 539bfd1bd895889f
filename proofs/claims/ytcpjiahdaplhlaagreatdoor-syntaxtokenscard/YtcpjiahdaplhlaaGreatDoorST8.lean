import Derived.Test.YtcpjiahdaplhlaaGreatDoorJ4
import Derived.Stop.LaidErr
import Derived.Test.YtcpjiahdaplhlaaGreatDoorSY2
import Derived.Test.YtcpjiahdaplhlaaGreatDoorST7
import Derived.Test.YtcpjiahdaplhlaaGreatDoorCards
import Derived.Test.YtcpjiahdaplhlaaGreatDoorTie
import Derived.SevenTiedAt
import Derived.ChangeSlices
import Derived.Deep.DeepHandedRow
import Derived.JoinedCond
import Derived.ChangeMaps5
import Derived.SizedLaws
/-
  What the rows lay, as it is read.
-/
namespace Go.Proofs.YtcpjiahdaplhlaaGreatDoor
open Go.RowKit

theorem Tryz.gES : Tryz.prog.globalNamed "strconv.ErrSyntax" = some 8 := by kernel_rfl
theorem Tryz.gEST : (Tryz.prog.globals[8]?).map (·.type) = some 93 := by kernel_rfl
theorem Tryz.gER : Tryz.prog.globalNamed "strconv.ErrRange" = some 9 := by kernel_rfl
theorem Tryz.gERT : (Tryz.prog.globals[9]?).map (·.type) = some 93 := by kernel_rfl
theorem Tryz.gPW : Tryz.prog.globalNamed "internal/strconv.uint64pow10" = some 6 := by kernel_rfl
theorem Tryz.gPWT : (Tryz.prog.globals[6]?).map (·.type) = some 209 := by kernel_rfl
theorem Tryz.cellsES : Tryz.prog.cellsOf 233 = 1 := by kernel_rfl
theorem Tryz.cellsU64 : Tryz.prog.cellsOf 177 = 1 := by kernel_rfl
theorem Tryz.cellsPow : Tryz.prog.cellsOf 209 = 20 := by kernel_rfl
theorem Tryz.star : "*" ++ "errors.errorString" = "*errors.errorString" := by decide
theorem Tryz.rowES (u : TypeId) (h : Tryz.prog.typeName? 3 u = some "*errors.errorString") : u = 231 :=
  typeName_ptr_named (nm := "errors.errorString") (by rw [Tryz.star]; kernel_rfl) (by kernel_rfl) (by decide) u (by rw [Tryz.star]; exact h)
theorem noHandle {W : World} {l : List (String × DataW Unit)} (hl : (l.filter fun x => x.2.handleName?.isSome) = []) (h : laidMetH Tryz.prog l W) : laidMet Tryz.prog l W := by
  unfold laidMetH at h
  rw [hl] at h
  exact h
end Go.Proofs.YtcpjiahdaplhlaaGreatDoor
/-
  What the rows of stage 5 lay, as it is read.
-/
namespace Go.Proofs.YtcpjiahdaplhlaaGreatDoor
open Go.RowKit

theorem Tryz.gOps : Tryz.prog.globalNamed "hearsay/syntax.operators" = some 3 := by kernel_rfl
theorem Tryz.tOps : (Tryz.prog.globals[3]?).map (·.type) = some 151 := by kernel_rfl
theorem Tryz.cellsOps : Tryz.prog.cellsOf 151 = 12 := by kernel_rfl
theorem Tryz.cellsOpE : Tryz.prog.cellsOf 150 = 3 := by kernel_rfl
theorem Tryz.cellsInt5 : Tryz.prog.cellsOf 3 = 1 := by kernel_rfl
theorem ope_trod {H : Type} {enc : TypeId × Value → H} {W : World} {base f0 : Nat} {spare : Nat → Bool} {held : Bool} {c3 : List Value} {x : DataW H × List MemPlace} {a b : Int} {s : ByteArray}
    (h : DataW.trod enc Tryz.prog W base spare held f0 150 c3 = some x) (hx : x.1 = .agg [.lit (.int .i64 a), .lit (.int .i64 b), .lit (.string s.data.toList)]) : c3 = [.int .i64 a, .int .i64 b, .string s] := by
  obtain ⟨y0, y1, y2, n, rfl, hl, h0, h1, h2⟩ := Go.Deep.trod_struct3 Tryz.underlying150 h
  rw [Tryz.cellsOpE] at hl
  dsimp only at h0 h1 h2 hx
  rw [Tryz.cellsInt5] at h0 h1
  rw [Tryz.cellsStr] at h2
  obtain ⟨n0, e0, f0, -⟩ := DataW.trod_int Tryz.underlying3 h0
  obtain ⟨n1, e1, f1, -⟩ := DataW.trod_int Tryz.underlying3 h1
  obtain ⟨t2, e2, f2, -⟩ := DataW.trod_string Tryz.underlying9 h2
  rw [f0, f1, f2] at hx
  simp only [DataW.agg.injEq, List.cons.injEq, DataW.lit.injEq, Lit.int.injEq, Lit.string.injEq, true_and, and_true] at hx
  obtain ⟨rfl, rfl, hs⟩ := hx
  obtain rfl : t2 = s := ByteArray.ext (Array.toList_inj.1 hs)
  match c3, hl, e0, e1, e2 with
  | [u, v, z], _, e0, e1, e2 =>
    simp at e0 e1 e2
    rw [e0, e1, e2]
set_option maxRecDepth 100000 in
theorem ops_of_trod {H : Type} {enc : TypeId × Value → H} {W : World} {base f0 : Nat} {spare : Nat → Bool} {held : Bool} {cs0 : List Value} {p0 : List MemPlace}
    (h : DataW.trod enc Tryz.prog W base spare held f0 151 cs0 = some (Rows.laid_hearsay_syntax_operators, p0)) : cs0 = opsV.toList := by
  obtain ⟨xs, m, -, hx, hl, hn, hel⟩ := DataW.trod_array Tryz.underlying151 h
  rw [Tryz.cellsOps] at hl
  have hx1 : xs.map (·.1) = [.agg [.lit (.int .i64 13), .lit (.int .i64 1), .lit (.string (⟨#[61]⟩ : ByteArray).data.toList)], .agg [.lit (.int .i64 14), .lit (.int .i64 2), .lit (.string (⟨#[33, 61]⟩ : ByteArray).data.toList)], .agg [.lit (.int .i64 15), .lit (.int .i64 3), .lit (.string (⟨#[60]⟩ : ByteArray).data.toList)], .agg [.lit (.int .i64 16), .lit (.int .i64 4), .lit (.string (⟨#[60, 61]⟩ : ByteArray).data.toList)]] := by
    have := congrArg Prod.fst hx
    simp only [Rows.laid_hearsay_syntax_operators, DataW.agg.injEq] at this
    rw [← this]
  clear hx h
  match xs, hn, hel, hx1 with
  | [x0, x1, x2, x3], _, hel, hx1 =>
    simp only [List.map_cons, List.map_nil, List.cons.injEq, and_true] at hx1
    obtain ⟨g0, g1, g2, g3⟩ := hx1
    have k0 := ope_trod (s := ⟨#[61]⟩) (hel 0 (by omega)) g0
    have k1 := ope_trod (s := ⟨#[33, 61]⟩) (hel 1 (by omega)) g1
    have k2 := ope_trod (s := ⟨#[60]⟩) (hel 2 (by omega)) g2
    have k3 := ope_trod (s := ⟨#[60, 61]⟩) (hel 3 (by omega)) g3
    rw [Tryz.cellsOpE] at k0 k1 k2 k3
    match cs0, hl, k0, k1, k2, k3 with
    | [a, b, c, d, e, f, g, i, j, k, l, n], _, k0, k1, k2, k3 =>
      simp at k0 k1 k2 k3
      obtain ⟨rfl, rfl, rfl⟩ := k0
      obtain ⟨rfl, rfl, rfl⟩ := k1
      obtain ⟨rfl, rfl, rfl⟩ := k2
      obtain ⟨rfl, rfl, rfl⟩ := k3
      rfl
set_option maxRecDepth 100000 in
theorem ops_of_laid {W : World} (h : laidMet Tryz.prog [("hearsay/syntax.operators", Rows.laid_hearsay_syntax_operators)] W) : OpsOk W := by
  obtain ⟨ps, ⟨g0, t0, cs0, f0, p0, q0, hg0, ht0, hv0, hd0, _, _⟩, _, _⟩ := h
  obtain rfl := Option.some.inj (Tryz.gOps.symm.trans hg0)
  obtain rfl := Option.some.inj (Tryz.tOps.symm.trans ht0)
  have e : cs0 = opsV := Array.toList_inj.1 (ops_of_trod hd0)
  subst e
  unfold World.var? at hv0
  rw [hg0] at hv0
  simp only [Option.bind_some] at hv0
  split at hv0
  · rename_i cs t fr he
    cases hv0
    exact ⟨t, fr, he⟩
  · cases hv0
set_option maxRecDepth 100000 in
theorem signs_of_head {W : World} {l : List (String × DataW Unit)} (h : laidMet Tryz.prog (("hearsay/tokens.signs", Rows.laid_hearsay_tokens_signs) :: l) W) : SignsOk W := by
  obtain ⟨ps, ⟨g0, t0, cs0, f0, p0, q0, hg0, ht0, hv0, hd0, _, _⟩, _, _⟩ := h
  obtain rfl := Option.some.inj (Tryz.gSigns.symm.trans hg0)
  obtain rfl := Option.some.inj (Tryz.tSigns.symm.trans ht0)
  have hc : ∀ (i : Nat) (t : ByteArray), signL[i]? = some t → cs0[i]? = some (.string t) := fun i t ht => by simpa using (signs_of_trod hd0 i t ht).1
  have hl : cs0.size = 17 := by simpa using (signs_of_trod hd0 5 _ rfl).2
  refine ⟨?_, fun i t ht => ?_⟩
  · have e : cs0 = signV := by
      apply Array.ext_getElem?
      intro i
      rcases Nat.lt_or_ge i 17 with h | h
      · have hs : i < signL.length := h
        rw [hc i _ (List.getElem?_eq_getElem hs)]
        simp [signV, hs]
      · rw [Array.getElem?_eq_none (by omega), Array.getElem?_eq_none (by show signV.size ≤ i; exact h)]
    subst e
    unfold World.var? at hv0
    rw [hg0] at hv0
    simp only [Option.bind_some] at hv0
    split at hv0
    · rename_i cs t fr he
      cases hv0
      exact ⟨t, fr, he⟩
    · cases hv0
  · have := World.var?_cell hg0 hv0 i
    rw [show W.cell? ⟨2, i, none⟩ = cs0[i]? by simpa using this]
    exact hc i t ht
abbrev laid7 : List (String × DataW Unit) := [("math/bits.deBruijn32tab", Rows.laid_math_bits_deBruijn32tab), ("math/bits.deBruijn64tab", Rows.laid_math_bits_deBruijn64tab), ("internal/strconv.uint64pow10", Rows.laid_internal_strconv_uint64pow10), ("strconv.ErrRange", Rows.laid_strconv_ErrRange), ("strconv.ErrSyntax", Rows.laid_strconv_ErrSyntax), ("hearsay/tokens.signs", Rows.laid_hearsay_tokens_signs), ("hearsay/syntax.operators", Rows.laid_hearsay_syntax_operators)]
set_option maxRecDepth 100000 in
theorem env_of_laid7 {W : World} (h : laidMetH Tryz.prog laid7 W) : EnvOk W ∧ OpsOk W := by
  have h0 : laidMet Tryz.prog laid7 W := noHandle rfl h
  have hp : laidMet Tryz.prog (("internal/strconv.uint64pow10", Lib.tabData .u64 Lib.pow10Tab) :: [("strconv.ErrRange", Rows.laid_strconv_ErrRange), ("strconv.ErrSyntax", Rows.laid_strconv_ErrSyntax), ("hearsay/tokens.signs", Rows.laid_hearsay_tokens_signs), ("hearsay/syntax.operators", Rows.laid_hearsay_syntax_operators)]) W := h0.tail.tail
  have hr := hp.tail
  have hs := hr.tail
  have hg := hs.tail
  obtain ⟨a1, s1, hv1, -, -, -⟩ := laid_sentinel hr Tryz.gER Tryz.gERT Tryz.underlying93 Tryz.rowES Tryz.underlying231 Tryz.underlying233 rfl rfl Tryz.underlying9 Tryz.cellsES Tryz.cellsStr
  obtain ⟨a2, s2, hv2, -, -, -⟩ := laid_sentinel hs Tryz.gES Tryz.gEST Tryz.underlying93 Tryz.rowES Tryz.underlying231 Tryz.underlying233 rfl rfl Tryz.underlying9 Tryz.cellsES Tryz.cellsStr
  exact ⟨⟨signs_of_head hg, ⟨_, _, hv2⟩, ⟨_, _, hv1⟩, Lib.tabIs_of_head Tryz.gPW Tryz.gPWT Tryz.underlying209 Tryz.underlying177 Tryz.cellsU64 Tryz.cellsPow hp⟩, ops_of_laid hg.tail⟩
end Go.Proofs.YtcpjiahdaplhlaaGreatDoor
/-
  The statement on hearsaylaw05.SyntaxTokens, whole, and its card.
-/
namespace Go.Proofs.YtcpjiahdaplhlaaGreatDoor
open Go.ChangeShapes Go.WideShapes Go.ChangeAt Go.RowKit
open Go.ChangeMaps (open_string shut_string)

theorem Tryz.laidOut : laidOutB Tryz.prog = true := by kernel_rfl
/-- A list of numbers opened. -/
theorem open_js5 {H : Type} {enc : TypeId × Value → H} {W : World} {base fuel : Nat} {spare : Nat → Bool} {held : Bool} {a0 : Option Addr} {len cap : Nat} {d : DataW H} {p : List MemPlace}
    (h : DataW.trod enc Tryz.prog W base spare held fuel 22 (Value.slice a0 len cap).cells.toList = some (d, p)) : ∃ l, Js5 W (.slice a0 len cap) l := by
  rcases open_ints Tryz.underlying22 Tryz.underlying3 Tryz.cellsInt5 h with ⟨hcs, -⟩ | ⟨a, n, c, zs, hcs, -, hl, -, hzl, hx, hcell, -⟩
  · simp [Value.cells] at hcs
    obtain ⟨rfl, rfl, rfl⟩ := hcs
    exact ⟨[], none, 0, rfl, Or.inl rfl⟩
  · simp [Value.cells] at hcs
    obtain ⟨rfl, rfl, rfl⟩ := hcs
    have hz : len ≤ zs.length := by rw [hzl]; split <;> omega
    have htl : (zs.take len).length = len := by rw [List.length_take]; omega
    refine ⟨zs.take len, some a, cap, by rw [htl], ?_⟩
    rcases Nat.eq_zero_or_pos len with h0 | h0
    · left; rw [h0]; rfl
    · right
      obtain ⟨b, o, spot⟩ := a
      have c0 := hcell 0 (by omega)
      have hspot : spot = none := by simpa [Addr.add] using World.cell?_spot c0
      subst hspot
      refine ⟨b, o, rfl, World.block_lt_of_cell? W _ c0, fun i x hi => ?_⟩
      have hil : i < len := by have := (List.getElem?_eq_some_iff.1 hi).1; omega
      have hc := hcell i (by omega)
      rw [Addr.add_mid] at hc
      rw [hc]
      rw [List.getElem?_take_of_lt hil] at hi
      simp [List.getD, hi]
theorem tokens_met (os : Os) (args : Array Value) : laidMetH Tryz.prog laid7 ((World.doorLaid Tryz.prog 2000 os).forCall (fun _ _ => 0) ⟨#[], args, []⟩).memory :=
  laidMetH_of_parts3 (fuel := 8) (laidMet_of_run' 8 (by kernel_rfl) (by kernel_rfl)) (by kernel_rfl) (by kernel_rfl)
set_option maxRecDepth 100000 in
theorem tokens_lifted (os : Os) (started : os.Started) (H : Type) (enc : TypeId × Value → H) :
    ReturnsInHanded {} Tryz.checked os 3 .any (fun w args => (Rows.syntaxTokensSpec.pre enc Tryz.prog Tryz.f3 [] false w args ∧ laidMetH Tryz.prog laid7 w) ∧ sizedMet enc Tryz.prog Tryz.f3 (OpenSpec.ofChange Rows.syntaxTokensSpec) false w args)
      (Rows.syntaxTokensSpec.post enc Tryz.prog Tryz.f3 false true false false) := by
  refine returnsInHanded_of_change_and (C := Tryz.checked) (X := fun w _ => laidMetH Tryz.prog laid7 w) (fun _ _ _ hh h => h.of_heap hh) Tryz.own started (by kernel_rfl) Tryz.func3
    (ChangeSpec.witness_shaped (enc := enc) (C := Tryz.checked) (os := os) (X := fun w _ => laidMetH Tryz.prog laid7 w) false (World.doorLaid Tryz.prog 2000 os) #[.string ⟨#[]⟩, .slice none 0 0] 8 rfl (World.shaped_of_RefB (by kernel_rfl) (by kernel_rfl)) (by kernel_rfl) (by kernel_rfl) (by kernel_rfl) (tokens_met os _)) ?_
  intro W base args ds gs before hval0 hW _ hsz0 hL _
  have hval : ∀ (j : Nat) t v, Tryz.f3.params[j]? = some t → args[j]? = some v → Value.okWide Tryz.prog W .any base t v := hval0
  have hW' := hW
  obtain ⟨p, q, hA0, hV, rfl, hfz, hnd⟩ := hW
  have hA : DataW.TrodAll enc Tryz.prog W 0 (fun _ => true) true Tryz.f3.params.toList args.toList ds p := hA0
  rw [Tryz.params3] at hA hval
  obtain ⟨v0, vs0, d0, ds0, p0, q0, hargs, rfl, rfl, h0, r0⟩ := trodAll_cons hA
  obtain ⟨v1, vs1, d1, ds1, p1, q1, rfl, rfl, rfl, h1, r1⟩ := trodAll_cons r0
  obtain ⟨rfl, rfl, rfl⟩ := trodAll_nil r1
  obtain rfl : args = #[v0, v1] := by cases args; simp_all
  obtain ⟨rfl, rfl⟩ := trodVars_none hV
  obtain ⟨s, rfl, rfl, rfl, hs⟩ := open_string Tryz.underlying9 (hval 0 9 v0 rfl rfl) h0
  have k1 := h1
  have lt1 : ∀ x ∈ p1, x.block < W.heap.size := by obtain ⟨m, hm⟩ := k1; exact DataW.trod_lt m _ _ _ hm
  obtain ⟨a1, len1, cap1, rfl⟩ := okWide_slice Tryz.underlying22 (hval 1 22 v1 rfl rfl)
  obtain ⟨fuel1, hf1⟩ := h1
  obtain ⟨h, hI⟩ := open_js5 hf1
  obtain ⟨hE, hO⟩ := env_of_laid7 hL
  clear hA0 hval0
  refine (tokens5_any s h _ W hI hE hO).mono fun e W' ⟨he, bel⟩ => ?_
  subst he
  exact ⟨_, rfl, _, _, _, [], _, [], hW', trodAll_mk1 (shut_bool Tryz.underlying4 _), (trodAll_cons_mk (shut_string Tryz.underlying9 hs) (trodAll_cons_mk (Below.trod Tryz.laidOut (by kernel_rfl) (of_decide_eq_true (by kernel_rfl)) k1 bel lt1) trodAll_mk0)), rfl, bel.frame _, fun h => by cases h⟩
theorem syntaxTokens_row : Rows.SyntaxTokensSaid :=
  OpenClaim.holds_of_wide 3 Tryz.f3 rfl rfl rfl rfl rfl rfl rfl ⟨rfl, rfl, rfl, rfl, rfl⟩ rfl rfl rfl rfl rfl (by kernel_rfl) Tryz.func3 (by kernel_rfl)
    (of_decide_eq_true (by kernel_rfl)) (by unfold Func.isWrapper; first | (rw [if_pos (by decide +kernel)]; kernel_rfl) | (rw [if_neg (by decide +kernel)]; exact ⟨rfl, rfl⟩))
    (fun os started H enc _ => tokens_lifted os started H enc)
theorem syntaxTokens_holds : Rows.SyntaxTokensCardSaid :=
  Claim7.holds_tied_plain_at .later [] _ _ _ _
    syntaxTokens_row (fun _ h => by cases h) (by kernel_rfl) (fun _ h => by cases h) syntaxTokens_row_tie rfl ⟨rfl, rfl⟩ (by kernel_rfl) rfl
    (fun f fn hf hfn => by
      obtain rfl : f = 3 := Option.some.inj ((show Tryz.prog.funcNamed "hearsay/hearsaylaw05.SyntaxTokens" = some 3 by kernel_rfl).symm.trans hf) |>.symm
      obtain rfl : fn = Tryz.f3 := (Option.some.inj (Tryz.func3.symm.trans hfn)).symm
      exact ⟨by kernel_rfl, fun j t ht => by
        rw [Tryz.params3] at ht
        have h3 : t = 9 ∨ t = 22 := by
          rcases j with _ | _ | j
          · left; simpa using ht.symm
          · right; simpa using ht.symm
          · simp at ht
        rcases h3 with rfl | rfl
        · exact (show Tryz.prog.wantsStandIn 9 = false by kernel_rfl)
        · exact (show Tryz.prog.wantsStandIn 22 = false by kernel_rfl)⟩)
    (by kernel_rfl)
#print axioms syntaxTokens_holds
end Go.Proofs.YtcpjiahdaplhlaaGreatDoor
