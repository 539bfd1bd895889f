/-
  The statement on hearsaylaw06.CodecNames.
-/
import Derived.Test.YtelcoihmiglceaaGreatCK2
import Derived.Test.YtelcoihmiglceaaGreatCQ2
import Derived.Test.YtelcoihmiglceaaGreatRows
import Derived.Deep.CondSized
namespace Go.Proofs.YtelcoihmiglceaaGreat
open Go.ChangeShapes Go.WideShapes Go.ChangeAt Go.RowKit Go.Joins Go.Deep

set_option maxRecDepth 100000 in
theorem clause_of_cells9 {H : Type} {enc : TypeId × Value → H} {W : World} {base : Nat} {spare : Nat → Bool} {held : Bool} {fuel : Nat} {cs : List Value} {x : DataW H × List MemPlace}
    (hf : DataW.trod enc Tryz.prog W base spare held fuel 30 cs = some x) (hl : cs.length = 7) (hw : ∀ n ∈ x.1.weights Tryz.prog 30, n ≤ reachBytes) : ∃ c : Cm, cs = c.csl ∧ c.ok W ∧ ∀ t ∈ Ck.terms c.key, WfT t := by
  obtain ⟨c0, c1, c2, c3, c4, c5, c6, rfl⟩ := clist7 hl
  obtain ⟨y0, y1, y2, n, hd, -, h0, h1, h2⟩ := trod_struct3 Tryz.underlying30 hf
  rw [Tryz.cellsAtom] at h0
  rw [Tryz.cellsAtoms] at h1
  rw [Tryz.cellsTests] at h2
  have hwe : ∀ (j : Nat) (t : TypeId) (y : DataW H), [26, 27, 28][j]? = some t → [y0.1, y1.1, y2.1][j]? = some y → ∀ m ∈ y.weights Tryz.prog t, m ≤ reachBytes := fun j t y ht hy m hm => by
    refine hw m ?_
    rw [hd, DataW.weights, Tryz.underlying30]
    exact DataW.weights_mem_each (j := j) ht hy m hm
  obtain ⟨x, e0, hx, b0, w0⟩ := atom_of_cellsB h0 (by simp) (hwe 0 _ _ rfl rfl)
  obtain ⟨vb, lb, e1, hb, b1, w1⟩ := open_atomsB h1 (hwe 1 _ _ rfl rfl)
  obtain ⟨vt, lt, e2, ht, b2, w2⟩ := open_testsB h2 (hwe 2 _ _ rfl rfl)
  simp at e0 e1 e2
  obtain ⟨rfl, rfl, rfl, rfl, rfl⟩ := e0
  subst e1 e2
  have ek : Ck.terms (Cm.key ⟨x, lb, c5, lt, c6⟩) = x.1.pl ++ ((fsts lb).flatMap At.pl ++ tls lt) := rfl
  refine ⟨⟨x, lb, _, lt, _⟩, rfl, ⟨hx, hb, ht⟩, ?_⟩
  rw [ek]
  intro t hm
  rcases List.mem_append.1 hm with hm | hm
  · exact w0 t hm
  · rcases List.mem_append.1 hm with hm | hm
    · exact w1 t hm
    · exact w2 t hm
set_option maxRecDepth 100000 in
theorem open_clauses9 {H : Type} {enc : TypeId × Value → H} {W : World} {base : Nat} {spare : Nat → Bool} {held : Bool} {fuel : Nat} {cs : List Value} {x : DataW H × List MemPlace}
    (h : DataW.trod enc Tryz.prog W base spare held fuel 31 cs = some x) (hw : ∀ n ∈ x.1.weights Tryz.prog 31, n ≤ reachBytes) : ∃ v l, cs = [v] ∧ CsP W v l ∧ l.length ≤ Rows.uptoBulk x.1 ∧ ∀ c ∈ l, ∀ t ∈ Ck.terms c.key, WfT t := by
  rcases open_slice Tryz.underlying31 h with ⟨rfl, -⟩ | ⟨a, len, cap, m, n, D, Pl, rfl, hba, hlc, hcm, hm, hx, hel⟩
  · exact ⟨_, [], rfl, ⟨Or.inl ⟨rfl, rfl⟩, fun c hc => by cases hc⟩, by simp, fun c hc => by cases hc⟩
  · rw [Tryz.cellsClause] at hel
    have hlm : len ≤ m := by rw [hm]; split <;> omega
    have key : ∀ i : Nat, ∃ c : Cm, i < len → (∀ k u, c.csl[k]? = some u → W.cell? ((a.add (i * 7)).add k) = some u) ∧ c.ok W ∧ ∀ t ∈ Ck.terms c.key, WfT t := fun i => by
      by_cases hi : i < len
      · obtain ⟨cs', h1, h2⟩ := hel i (by omega)
        obtain ⟨-, hl, hc⟩ := World.cells?_some h1
        obtain ⟨c, rfl, hok, hbk⟩ := clause_of_cells9 h2 hl (fun n hn => hw n (by
          rw [hx, DataW.weights, Tryz.underlying31]
          exact List.mem_cons_of_mem _ (List.mem_append.2 (Or.inl (weights_mem_all hn (List.mem_map.2 ⟨i, List.mem_range.2 hi, rfl⟩))))))
        refine ⟨c, fun _ => ⟨fun k u hu => ?_, hok, hbk⟩⟩
        rw [← hu]
        exact hc k (List.getElem?_eq_some_iff.1 hu).1
      · exact ⟨cP, fun h => absurd h hi⟩
    obtain ⟨f, hf⟩ := Classical.axiomOfChoice key
    refine ⟨_, (List.range len).map f, rfl, ⟨Or.inr ⟨a, cap, by simp, ?_⟩, fun c hc => ?_⟩, by rw [hx]; simpa using bulkN_slice ((List.range len).map D) _, fun c hc => ?_⟩
    · rcases Nat.eq_zero_or_pos len with h0 | h0
      · left; subst h0; rfl
      · right
        obtain ⟨b, off, spot⟩ := a
        have h00 := (hf 0 h0).1 0 _ rfl
        have hspot : spot = none := by simpa [Addr.add] using World.cell?_spot h00
        subst hspot
        refine ⟨b, off, rfl, ?_, fun i c hc k u hu => ?_⟩
        · exact World.block_lt_of_cell? W _ (by simpa [Addr.add] using h00)
        · have hi : i < len := by have := (List.getElem?_eq_some_iff.1 hc).1; simpa using this
          have e : c = f i := by
            rw [List.getElem?_map, List.getElem?_range hi] at hc; simpa using hc.symm
          subst e
          have := (hf i hi).1 k u hu
          rw [add_plain, add_plain] at this
          exact this
    · obtain ⟨i, hi, rfl⟩ := List.mem_map.1 hc
      exact (hf i (List.mem_range.1 hi)).2.1
    · obtain ⟨i, hi, rfl⟩ := List.mem_map.1 hc
      exact (hf i (List.mem_range.1 hi)).2.2
theorem rng_of_wf9 {x : Ck} (h : ∀ t ∈ Ck.terms x, WfT t) : Rng x := by
  have key : ∀ t ∈ Ck.terms x, rng t := fun t ht => by
    have e1 : IntKind.i64.min = -9223372036854775808 := by decide
    have e2 : IntKind.i64.max = 9223372036854775807 := by decide
    have := h t ht
    simp [WfT, Lit.wf] at this
    exact ⟨by omega, by omega⟩
  refine ⟨fun a ha t ht => key t ?_, fun e he => ⟨key e.l ?_, key e.r ?_⟩⟩
  · unfold Ck.terms
    rcases List.mem_cons.1 ha with rfl | ha
    · exact List.mem_append_left _ ht
    · exact List.mem_append_right _ (List.mem_append_left _ (List.mem_flatMap.2 ⟨a, ha, ht⟩))
  · exact List.mem_append_right _ (List.mem_append_right _ (List.mem_flatMap.2 ⟨e, he, by simp⟩))
  · exact List.mem_append_right _ (List.mem_append_right _ (List.mem_flatMap.2 ⟨e, he, by simp⟩))
set_option maxRecDepth 100000 in
theorem codecNames_lifted (os : Os) (started : os.Started) (H : Type) (enc : TypeId × Value → H) (F : Stop.Interp) :
    ReturnsInHanded {} Tryz.checked os 3 .any ((Rows.OpenSpec.upto Rows.codecNamesSpec).pre6 enc Tryz.prog Tryz.f3 Rows.codecNamesUptoRow.domain false) (((Rows.OpenSpec.upto Rows.codecNamesSpec).at F).post enc Tryz.prog Tryz.f3 false true false false) := by
  refine returnsInHanded_of_cond_sized (C := Tryz.checked) (s := Rows.OpenSpec.upto Rows.codecNamesSpec) (k := Rows.uptoSmall) rfl Tryz.own started (by kernel_rfl) Tryz.func3
    (OpenSpec.witness (enc := enc) (C := Tryz.checked) (s := Rows.OpenSpec.upto Rows.codecNamesSpec) (k := Rows.uptoSmall) rfl false ⟨#[], #[.agg #[.int .i64 0, .int .i64 0, .string ⟨#[]⟩, .string ⟨#[]⟩, .slice none 0 0, .slice none 0 0, .slice none 0 0], .agg #[.int .i64 0, .int .i64 0, .string ⟨#[]⟩, .string ⟨#[]⟩, .slice none 0 0, .slice none 0 0, .slice none 0 0], .slice none 0 0, .int .i64 0], []⟩ 8 (by kernel_rfl) (by kernel_rfl) (by kernel_rfl)
      (x := ([.agg [.agg [.agg [.lit (.int .i64 0), .lit (.int .i64 0), .lit (.string [])], .lit (.string []), .nil], .nil, .nil], .agg [.agg [.agg [.lit (.int .i64 0), .lit (.int .i64 0), .lit (.string [])], .lit (.string []), .nil], .nil, .nil], .nil, .lit (.int .i64 0)], [], [])) (by kernel_rfl) rfl (by kernel_rfl)) ?_
  intro W base args ds gs before hval0 hW hcnd hk hsz0 _
  have hval : ∀ (j : Nat) t v, Tryz.f3.params[j]? = some t → args[j]? = some v → Value.okWide Tryz.prog W .any base t v := hval0
  have hsz : (DataW.weightsEach Tryz.prog (Tryz.f3.params.toList ++ Rows.codecNamesSpec.plain.varTypes Tryz.prog) (ds ++ gs)).all (· ≤ reachBytes) = true := hsz0
  have hW' := hW
  obtain ⟨p, q, hA0, hV, rfl, hfz, hnd⟩ := hW
  have hA : DataW.TrodAll enc Tryz.prog W 0 (fun _ => true) true Tryz.f3.params.toList args.toList ds p := hA0
  rw [Tryz.params3] at hA hval hsz
  obtain ⟨v0, vs0, d0, ds0, p0, q0, hargs, rfl, rfl, h0, r0⟩ := trodAll_cons hA
  obtain ⟨v1, vs1, d1, ds1, p1, q1, rfl, rfl, rfl, h1, r1⟩ := trodAll_cons r0
  obtain ⟨v2, vs2, d2, ds2, p2, q2, rfl, rfl, rfl, h2, r2⟩ := trodAll_cons r1
  obtain ⟨v3, vs3, d3, ds3, p3, q3, rfl, rfl, rfl, h3, r3⟩ := trodAll_cons r2
  obtain ⟨rfl, rfl, rfl⟩ := trodAll_nil r3
  obtain rfl : args = #[v0, v1, v2, v3] := by cases args; simp_all
  obtain ⟨rfl, rfl⟩ := trodVars_none hV
  have k0 := h0
  have lt0 : ∀ x ∈ p0, x.block < W.heap.size := by obtain ⟨m, hm⟩ := k0; exact DataW.trod_lt m _ _ _ hm
  have k1 := h1
  have lt1 : ∀ x ∈ p1, x.block < W.heap.size := by obtain ⟨m, hm⟩ := k1; exact DataW.trod_lt m _ _ _ hm
  have k2 := h2
  have lt2 : ∀ x ∈ p2, x.block < W.heap.size := by obtain ⟨m, hm⟩ := k2; exact DataW.trod_lt m _ _ _ hm
  have k3 := h3
  have lt3 : ∀ x ∈ p3, x.block < W.heap.size := by obtain ⟨m, hm⟩ := k3; exact DataW.trod_lt m _ _ _ hm
  have sz : ∀ n ∈ DataW.weightsEach Tryz.prog _ _, n ≤ reachBytes := fun n hn => by simpa using List.all_eq_true.1 hsz n hn
  obtain ⟨a, rfl, ha, -, -, -, -, la, lw⟩ := open_clauseP (hval 0 30 v0 rfl rfl) h0 (fun n hn => sz n (DataW.weights_mem_each (j := 0) rfl rfl n hn))
  obtain ⟨b, rfl, hb, -, -, -, -, lb, lv⟩ := open_clauseP (hval 1 30 v1 rfl rfl) h1 (fun n hn => sz n (DataW.weights_mem_each (j := 1) rfl rfl n hn))
  obtain ⟨a0, len, cap, rfl⟩ := okWide_slice Tryz.underlying31 (hval 2 31 v2 rfl rfl)
  obtain ⟨fuel, hf⟩ := h2
  obtain ⟨v, l, hcs, hl, hlen, hbl⟩ := open_clauses9 hf (fun n hn => sz n (DataW.weights_mem_each (j := 2) rfl rfl n hn))
  simp [Value.cells] at hcs
  subst hcs
  obtain ⟨up, rfl, rfl, rfl, hup⟩ := open_int Tryz.underlying3 (hval 3 3 v3 rfl rfl) h3
  have hbk : Rows.uptoBulkAll ([d0, d1, d2, _] ++ []) ≤ 1048576 := of_decide_eq_true hk
  simp only [List.cons_append, List.nil_append, Rows.uptoBulkAll] at hbk
  simp only at hlen
  clear hA0 hval0
  refine (codecNames_any a b l _ up W ha hb (rng_of_wf9 lw) (rng_of_wf9 lv) hl (by omega) (fun c hc => rng_of_wf9 (hbl c hc))).mono fun e W' ⟨he, bel⟩ => ?_
  subst he
  exact ⟨_, rfl, _, _, _, [], _, [], hW', trodAll_mk1 (shut_bool Tryz.underlying4 _), (trodAll_cons_mk (Below.trod Tryz.laidOut (by kernel_rfl) (of_decide_eq_true (by kernel_rfl)) k0 bel lt0) (trodAll_cons_mk (Below.trod Tryz.laidOut (by kernel_rfl) (of_decide_eq_true (by kernel_rfl)) k1 bel lt1) (trodAll_cons_mk (Below.trod Tryz.laidOut (by kernel_rfl) (of_decide_eq_true (by kernel_rfl)) k2 bel lt2) (trodAll_cons_mk (Below.trod Tryz.laidOut (by kernel_rfl) (of_decide_eq_true (by kernel_rfl)) k3 bel lt3) trodAll_mk0)))), rfl, bel.frame _, fun h => by cases h⟩

theorem codecNames_holds : Rows.CodecNamesUptoSaid :=
  OpenClaim.holds_of_cond 3 Tryz.f3 rfl rfl rfl rfl rfl rfl rfl ⟨rfl, rfl, rfl, rfl, rfl⟩ rfl rfl rfl rfl rfl (by kernel_rfl) Tryz.func3 (by kernel_rfl)
    (of_decide_eq_true (by kernel_rfl)) (by unfold Func.isWrapper; first | (rw [if_pos (by decide +kernel)]; kernel_rfl) | (rw [if_neg (by decide +kernel)]; exact ⟨rfl, rfl⟩))
    (fun os started H enc _ F => codecNames_lifted os started H enc F)
#print axioms codecNames_holds
end Go.Proofs.YtelcoihmiglceaaGreat
