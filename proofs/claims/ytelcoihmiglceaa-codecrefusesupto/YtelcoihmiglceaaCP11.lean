/-
  Derivations opened, with their bulk. (Written by CP11.py.)
-/
import Derived.Test.YtelcoihmiglceaaNB4
import Derived.Test.YtelcoihmiglceaaCP10
namespace Go.Proofs.Ytelcoihmiglceaa
open Go.ChangeShapes Go.WideShapes Go.ChangeAt Go.RowKit Go.Joins Go.Deep

theorem bulk8_mem {H : Type} {d : DataW H} : ∀ {l : List (DataW H)}, d ∈ l → Rows.uptoBulk d ≤ Rows.uptoBulkAll l
  | x :: r, h => by
    simp only [Rows.uptoBulkAll]
    rcases List.mem_cons.1 h with rfl | h
    · omega
    · have := bulk8_mem h; omega
set_option maxRecDepth 100000 in
theorem clause_of_cells8 {H : Type} {enc : TypeId × Value → H} {W : World} {base : Nat} {spare : Nat → Bool} {held : Bool} {fuel : Nat} {cs : List Value} {x : DataW H × List MemPlace}
    (hf : DataW.trod enc Try.prog W base spare held fuel 38 cs = some x) (hl : cs.length = 7) (hw : ∀ n ∈ x.1.weights Try.prog 38, n ≤ reachBytes) : ∃ c : Cm, cs = c.csl ∧ c.ok W ∧ (Ck.terms c.key).length ≤ Rows.uptoBulk x.1 := by
  obtain ⟨c0, c1, c2, c3, c4, c5, c6, rfl⟩ := clist7 hl
  obtain ⟨y0, y1, y2, n, hd, -, h0, h1, h2⟩ := trod_struct3 Try.underlying38 hf
  rw [Try.cellsAtom] at h0
  rw [Try.cellsAtoms] at h1
  rw [Try.cellsTests] at h2
  have hwe : ∀ (j : Nat) (t : TypeId) (y : DataW H), [34, 35, 36][j]? = some t → [y0.1, y1.1, y2.1][j]? = some y → ∀ m ∈ y.weights Try.prog t, m ≤ reachBytes := fun j t y ht hy m hm => by
    refine hw m ?_
    rw [hd, DataW.weights, Try.underlying38]
    exact DataW.weights_mem_each (j := j) ht hy m hm
  obtain ⟨x, e0, hx, b0, -⟩ := atom_of_cellsB h0 (by simp) (hwe 0 _ _ rfl rfl)
  obtain ⟨vb, lb, e1, hb, b1, -⟩ := open_atomsB h1 (hwe 1 _ _ rfl rfl)
  obtain ⟨vt, lt, e2, ht, b2, -⟩ := open_testsB h2 (hwe 2 _ _ rfl rfl)
  simp at e0 e1 e2
  obtain ⟨rfl, rfl, rfl, rfl, rfl⟩ := e0
  subst e1 e2
  have ek : Ck.terms (Cm.key ⟨x, lb, c5, lt, c6⟩) = x.1.pl ++ ((fsts lb).flatMap At.pl ++ tls lt) := rfl
  refine ⟨⟨x, lb, _, lt, _⟩, rfl, ⟨hx, hb, ht⟩, ?_⟩
  rw [ek, List.length_append, List.length_append, hd]
  simp only [Rows.uptoBulk, Rows.uptoBulkAll]
  omega
set_option maxRecDepth 100000 in
theorem open_clauses8 {H : Type} {enc : TypeId × Value → H} {W : World} {base : Nat} {spare : Nat → Bool} {held : Bool} {fuel : Nat} {cs : List Value} {x : DataW H × List MemPlace}
    (h : DataW.trod enc Try.prog W base spare held fuel 22 cs = some x) (hw : ∀ n ∈ x.1.weights Try.prog 22, n ≤ reachBytes) : ∃ v l, cs = [v] ∧ CsP W v l ∧ l.length ≤ Rows.uptoBulk x.1 ∧ ∀ c ∈ l, (Ck.terms c.key).length ≤ Rows.uptoBulk x.1 := by
  rcases open_slice Try.underlying22 h with ⟨rfl, -⟩ | ⟨a, len, cap, m, n, D, Pl, rfl, hba, hlc, hcm, hm, hx, hel⟩
  · exact ⟨_, [], rfl, ⟨Or.inl ⟨rfl, rfl⟩, fun c hc => by cases hc⟩, by simp, fun c hc => by cases hc⟩
  · rw [Try.cellsClause] at hel
    have hlm : len ≤ m := by rw [hm]; split <;> omega
    have key : ∀ i : Nat, ∃ c : Cm, i < len → (∀ k u, c.csl[k]? = some u → W.cell? ((a.add (i * 7)).add k) = some u) ∧ c.ok W ∧ (Ck.terms c.key).length ≤ Rows.uptoBulk (D i) := fun i => by
      by_cases hi : i < len
      · obtain ⟨cs', h1, h2⟩ := hel i (by omega)
        obtain ⟨-, hl, hc⟩ := World.cells?_some h1
        obtain ⟨c, rfl, hok, hbk⟩ := clause_of_cells8 h2 hl (fun n hn => hw n (by
          rw [hx, DataW.weights, Try.underlying22]
          exact List.mem_cons_of_mem _ (List.mem_append.2 (Or.inl (weights_mem_all hn (List.mem_map.2 ⟨i, List.mem_range.2 hi, rfl⟩))))))
        refine ⟨c, fun _ => ⟨fun k u hu => ?_, hok, hbk⟩⟩
        rw [← hu]
        exact hc k (List.getElem?_eq_some_iff.1 hu).1
      · exact ⟨cP, fun h => absurd h hi⟩
    obtain ⟨f, hf⟩ := Classical.axiomOfChoice key
    refine ⟨_, (List.range len).map f, rfl, ⟨Or.inr ⟨a, cap, by simp, ?_⟩, fun c hc => ?_⟩, by rw [hx]; simpa using bulkN_slice ((List.range len).map D) _, fun c hc => ?_⟩
    · rcases Nat.eq_zero_or_pos len with h0 | h0
      · left; subst h0; rfl
      · right
        obtain ⟨b, off, spot⟩ := a
        have h00 := (hf 0 h0).1 0 _ rfl
        have hspot : spot = none := by simpa [Addr.add] using World.cell?_spot h00
        subst hspot
        refine ⟨b, off, rfl, ?_, fun i c hc k u hu => ?_⟩
        · exact World.block_lt_of_cell? W _ (by simpa [Addr.add] using h00)
        · have hi : i < len := by have := (List.getElem?_eq_some_iff.1 hc).1; simpa using this
          have e : c = f i := by
            rw [List.getElem?_map, List.getElem?_range hi] at hc; simpa using hc.symm
          subst e
          have := (hf i hi).1 k u hu
          rw [add_plain, add_plain] at this
          exact this
    · obtain ⟨i, hi, rfl⟩ := List.mem_map.1 hc
      exact (hf i (List.mem_range.1 hi)).2.1
    · obtain ⟨i, hi, rfl⟩ := List.mem_map.1 hc
      have h1 := (hf i (List.mem_range.1 hi)).2.2
      have h2 : Rows.uptoBulk (D i) ≤ Rows.uptoBulkAll ((List.range len).map D) := bulk8_mem (List.mem_map.2 ⟨i, hi, rfl⟩)
      rw [hx]
      simp only [Rows.uptoBulk]
      omega
/-- The numbers of a step are of 64 bits. -/
def RgS (s : St) : Prop := -9223372036854775808 ≤ s.rule ∧ ∀ n ∈ s.uses, -9223372036854775808 ≤ n
def zS : St := ⟨0, [], .slice none 0 0, [], .slice none 0 0⟩
theorem i64_low {n : Int} (h : (Lit.int .i64 n).wf = true) : -9223372036854775808 ≤ n ∧ n ≤ 9223372036854775807 := by
  have e1 : IntKind.i64.min = -9223372036854775808 := by decide
  have e2 : IntKind.i64.max = 9223372036854775807 := by decide
  simp [Lit.wf] at h
  omega
theorem wk_sum {H : Type} (g : Nat → Sk) (D : Nat → DataW H) : ∀ l : List Nat, (∀ i ∈ l, wk [g i] ≤ Rows.uptoBulk (D i)) → wk (l.map g) ≤ Rows.uptoBulkAll (l.map D)
  | [], _ => by simp [wk]
  | i :: l, h => by
    have h1 := h i (by simp)
    have h2 := wk_sum g D l fun j hj => h j (by simp [hj])
    simp only [List.map_cons, wk, Rows.uptoBulkAll] at h1 h2 ⊢
    omega
theorem Try.cellsStep8 : Try.prog.cellsOf 41 = 3 := by kernel_rfl
theorem Try.cellsInts8 : Try.prog.cellsOf 39 = 1 := by kernel_rfl
theorem Try.cellsClauses8 : Try.prog.cellsOf 22 = 1 := by kernel_rfl
theorem Try.cellsSteps8 : Try.prog.cellsOf 23 = 1 := by kernel_rfl
theorem Try.cellsProof8 : Try.prog.cellsOf 25 = 2 := by kernel_rfl
theorem Try.cellsBad8 : Try.prog.cellsOf 27 = 3 := by kernel_rfl
theorem Try.bytesInt8 : Try.prog.bytesOf 3 = 8 := by kernel_rfl
theorem open_ns8 {H : Type} {enc : TypeId × Value → H} {W : World} {base fuel : Nat} {spare : Nat → Bool} {held : Bool} {cs : List Value} {x : DataW H × List MemPlace}
    (h : DataW.trod enc Try.prog W base spare held fuel 39 cs = some x) (hw : ∀ n ∈ x.1.weights Try.prog 39, n ≤ reachBytes) : ∃ v l, cs = [v] ∧ Ns W v l ∧ l.length ≤ Rows.uptoBulk x.1 ∧ ∀ n ∈ l, (Lit.int .i64 n).wf = true := by
  rcases open_ints Try.underlying39 Try.underlying3 Try.cellsInt h with ⟨rfl, -⟩ | ⟨a, n, c, zs, rfl, -, hl, hcm, hzl, hx, hcell, hwf⟩
  · exact ⟨_, [], rfl, ⟨none, 0, rfl, by simp, Or.inl rfl⟩, by simp, fun n hn => by simp at hn⟩
  · have hz : n ≤ zs.length := by rw [hzl]; split <;> omega
    have htl : (zs.take n).length = n := by rw [List.length_take]; omega
    have hlen : n < 1000000000000000000 := by
      have e : x.1 = .slice (lits .i64 (zs.take n)) (lits .i64 (zs.drop n)) := congrArg Prod.fst hx
      have := hw (((lits (H := H) .i64 (zs.take n)).length + (lits (H := H) .i64 (zs.drop n)).length) * Try.prog.bytesOf 3) (by rw [e]; simp [DataW.weights, Try.underlying39])
      rw [Try.bytesInt8] at this
      simp only [lits, List.length_map, reachBytes, htl] at this
      omega
    refine ⟨_, zs.take n, rfl, ⟨some a, c, by rw [htl], by omega, ?_⟩, ?_, fun m hm => hwf m (List.mem_of_mem_take hm)⟩
    · rcases Nat.eq_zero_or_pos n with h0 | h0
      · left; rw [h0]; rfl
      · right
        obtain ⟨b, o, spot⟩ := a
        have c0 := hcell 0 (by omega)
        have hspot : spot = none := by simpa [Addr.add] using World.cell?_spot c0
        subst hspot
        refine ⟨b, o, rfl, World.block_lt_of_cell? W _ c0, fun i x hi => ?_⟩
        have hil : i < n := by have := (List.getElem?_eq_some_iff.1 hi).1; omega
        have hc := hcell i (by omega)
        rw [Addr.add_mid] at hc
        rw [hc]
        rw [List.getElem?_take_of_lt hil] at hi
        simp [List.getD, hi]
    · have e : x.1 = .slice (lits .i64 (zs.take n)) (lits .i64 (zs.drop n)) := congrArg Prod.fst hx
      rw [e]
      have := bulkN_slice (lits (H := H) .i64 (zs.take n)) (lits .i64 (zs.drop n))
      have hll : (lits (H := H) .i64 (zs.take n)).length = n := by unfold lits; rw [List.length_map]; exact htl
      omega
set_option maxRecDepth 100000 in
theorem step_of_cells8 {H : Type} {enc : TypeId × Value → H} {W : World} {base : Nat} {spare : Nat → Bool} {held : Bool} {fuel : Nat} {cs : List Value} {x : DataW H × List MemPlace}
    (hf : DataW.trod enc Try.prog W base spare held fuel 41 cs = some x) (hl : cs.length = 3) (hw : ∀ n ∈ x.1.weights Try.prog 41, n ≤ reachBytes) : ∃ c : St, cs = c.csl ∧ c.ok W ∧ wk [c.key] ≤ Rows.uptoBulk x.1 ∧ RgS c := by
  obtain ⟨c0, c1, c2, rfl⟩ := list3 hl
  obtain ⟨y0, y1, y2, n, hd, -, h0, h1, h2⟩ := trod_struct3 Try.underlying41 hf
  rw [Try.cellsInt] at h0
  rw [Try.cellsTerms] at h1
  rw [Try.cellsInts8] at h2
  obtain ⟨k, e0, -, hk⟩ := DataW.trod_int Try.underlying3 h0
  obtain ⟨vb, lb, e1, hb, b1, -⟩ := open_termsB h1 (fun m hm => by
    refine hw m ?_
    rw [hd, DataW.weights, Try.underlying41]
    exact DataW.weights_mem_each (j := 1) rfl rfl m hm)
  obtain ⟨vt, lt, e2, ht, b2, hr⟩ := open_ns8 h2 (fun m hm => by
    refine hw m ?_
    rw [hd, DataW.weights, Try.underlying41]
    exact DataW.weights_mem_each (j := 2) rfl rfl m hm)
  simp at e0 e1 e2
  subst e0 e1 e2
  refine ⟨⟨k, lb, _, lt, _⟩, rfl, ⟨hb, ht⟩, ?_, (i64_low hk).1, fun n hn => (i64_low (hr n hn)).1⟩
  rw [hd]
  have := bulkN_pos y0.1
  simp only [wk, St.key, Rows.uptoBulk, Rows.uptoBulkAll]
  omega
set_option maxRecDepth 100000 in
theorem open_steps8 {H : Type} {enc : TypeId × Value → H} {W : World} {base : Nat} {spare : Nat → Bool} {held : Bool} {fuel : Nat} {cs : List Value} {x : DataW H × List MemPlace}
    (h : DataW.trod enc Try.prog W base spare held fuel 23 cs = some x) (hw : ∀ n ∈ x.1.weights Try.prog 23, n ≤ reachBytes) : ∃ v l, cs = [v] ∧ SsP W v l ∧ wk (l.map St.key) ≤ Rows.uptoBulk x.1 ∧ ∀ c ∈ l, RgS c := by
  rcases open_slice Try.underlying23 h with ⟨rfl, -⟩ | ⟨a, len, cap, m, n, D, Pl, rfl, hba, hlc, hcm, hm, hx, hel⟩
  · exact ⟨_, [], rfl, ⟨Or.inl ⟨rfl, rfl⟩, fun c hc => by cases hc⟩, by simp [wk], fun c hc => by cases hc⟩
  · rw [Try.cellsStep8] at hel
    have hlm : len ≤ m := by rw [hm]; split <;> omega
    have key : ∀ i : Nat, ∃ c : St, i < len → (∀ k u, c.csl[k]? = some u → W.cell? ((a.add (i * 3)).add k) = some u) ∧ c.ok W ∧ wk [c.key] ≤ Rows.uptoBulk (D i) ∧ RgS c := fun i => by
      by_cases hi : i < len
      · obtain ⟨cs', h1, h2⟩ := hel i (by omega)
        obtain ⟨-, hl, hc⟩ := World.cells?_some h1
        obtain ⟨c, rfl, hok, hbk, hrg⟩ := step_of_cells8 h2 hl (fun n hn => hw n (by
          rw [hx, DataW.weights, Try.underlying23]
          exact List.mem_cons_of_mem _ (List.mem_append.2 (Or.inl (weights_mem_all hn (List.mem_map.2 ⟨i, List.mem_range.2 hi, rfl⟩))))))
        refine ⟨c, fun _ => ⟨fun k u hu => ?_, hok, hbk, hrg⟩⟩
        rw [← hu]
        exact hc k (List.getElem?_eq_some_iff.1 hu).1
      · exact ⟨zS, fun h => absurd h hi⟩
    obtain ⟨f, hf⟩ := Classical.axiomOfChoice key
    refine ⟨_, (List.range len).map f, rfl, ⟨Or.inr ⟨a, cap, by simp, ?_⟩, fun c hc => ?_⟩, ?_, fun c hc => ?_⟩
    · rcases Nat.eq_zero_or_pos len with h0 | h0
      · left; subst h0; rfl
      · right
        obtain ⟨b, off, spot⟩ := a
        have h00 := (hf 0 h0).1 0 _ rfl
        have hspot : spot = none := by simpa [Addr.add] using World.cell?_spot h00
        subst hspot
        refine ⟨b, off, rfl, ?_, fun i c hc k u hu => ?_⟩
        · exact World.block_lt_of_cell? W _ (by simpa [Addr.add] using h00)
        · have hi : i < len := by have := (List.getElem?_eq_some_iff.1 hc).1; simpa using this
          have e : c = f i := by
            rw [List.getElem?_map, List.getElem?_range hi] at hc; simpa using hc.symm
          subst e
          have := (hf i hi).1 k u hu
          rw [add_plain, add_plain] at this
          exact this
    · obtain ⟨i, hi, rfl⟩ := List.mem_map.1 hc
      exact (hf i (List.mem_range.1 hi)).2.1
    · rw [hx]
      have h1 := wk_sum (fun i => (f i).key) D (List.range len) fun i hi => (hf i (List.mem_range.1 hi)).2.2.1
      rw [List.map_map]
      simp only [Rows.uptoBulk]
      have e : (St.key ∘ f) = fun i => (f i).key := rfl
      rw [e]; omega
    · obtain ⟨i, hi, rfl⟩ := List.mem_map.1 hc
      exact (hf i (List.mem_range.1 hi)).2.2.2
set_option maxRecDepth 100000 in
theorem open_proof8 {H : Type} {enc : TypeId × Value → H} {W : World} {r : Reach} {b0 base : Nat} {spare : Nat → Bool} {held : Bool} {v : Value} {d : DataW H} {p : List MemPlace}
    (hv : Value.okWide Try.prog W r b0 25 v) (h : DataW.Trod enc Try.prog W base spare held 25 v d p) (hw : ∀ n ∈ d.weights Try.prog 25, n ≤ reachBytes) : ∃ (rv sv : Value) (R : List Cm) (S : List St), v = .agg #[rv, sv] ∧ CsP W rv R ∧ SsP W sv S ∧ R.length ≤ Rows.uptoBulk d ∧ wk (S.map St.key) ≤ Rows.uptoBulk d ∧ ∀ s ∈ S, RgS s := by
  obtain ⟨cs, rfl, hsz⟩ := okWide_struct Try.underlying25 hv
  rw [Try.cellsProof8] at hsz
  obtain ⟨fuel, hf⟩ := h
  obtain ⟨l⟩ := cs
  obtain ⟨c0, c1, rfl⟩ : ∃ c0 c1, l = [c0, c1] := by
    match l, hsz with
    | [a, b], _ => exact ⟨a, b, rfl⟩
  obtain ⟨y0, y1, n, hd, -, h0, h1⟩ := trod_struct2 Try.underlying25 hf
  simp only [Prod.mk.injEq] at hd
  have hd := hd.1
  subst hd
  rw [Try.cellsClauses8] at h0
  rw [Try.cellsSteps8] at h1
  have hwe : ∀ (j : Nat) (t : TypeId) (y : DataW H), [22, 23][j]? = some t → [y0.1, y1.1][j]? = some y → ∀ m ∈ y.weights Try.prog t, m ≤ reachBytes := fun j t y ht hy m hm => by
    refine hw m ?_
    rw [DataW.weights, Try.underlying25]
    exact DataW.weights_mem_each (j := j) ht hy m hm
  obtain ⟨vb, lb, e1, hb, b1, -⟩ := open_clauses8 h0 (hwe 0 _ _ rfl rfl)
  obtain ⟨vt, lt, e2, ht, b2, w2⟩ := open_steps8 h1 (hwe 1 _ _ rfl rfl)
  simp [Value.cells] at e1 e2
  subst e1 e2
  refine ⟨_, _, lb, lt, rfl, hb, ht, ?_, ?_, w2⟩
  · simp only [Rows.uptoBulk, Rows.uptoBulkAll]; omega
  · simp only [Rows.uptoBulk, Rows.uptoBulkAll]; omega
set_option maxRecDepth 100000 in
theorem open_bad8 {H : Type} {enc : TypeId × Value → H} {W : World} {r : Reach} {b0 base : Nat} {spare : Nat → Bool} {held : Bool} {v : Value} {d : DataW H} {p : List MemPlace}
    (hv : Value.okWide Try.prog W r b0 27 v) (h : DataW.Trod enc Try.prog W base spare held 27 v d p) : ∃ a b c : Int, v = .agg #[.int .i64 a, .int .i64 b, .int .i64 c] ∧ -9223372036854775808 ≤ c ∧ c ≤ 9223372036854775807 := by
  obtain ⟨cs, rfl, hsz⟩ := okWide_struct Try.underlying27 hv
  rw [Try.cellsBad8] at hsz
  obtain ⟨fuel, hf⟩ := h
  obtain ⟨l⟩ := cs
  obtain ⟨c0, c1, c2, rfl⟩ := list3 (by simpa using hsz)
  obtain ⟨y0, y1, y2, n, hd, -, h0, h1, h2⟩ := trod_struct3 Try.underlying27 hf
  rw [Try.cellsInt] at h0 h1 h2
  obtain ⟨a, e0, -, -⟩ := DataW.trod_int Try.underlying3 h0
  obtain ⟨b, e1, -, -⟩ := DataW.trod_int Try.underlying3 h1
  obtain ⟨c, e2, -, hc⟩ := DataW.trod_int Try.underlying3 h2
  simp [Value.cells] at e0 e1 e2
  subst e0 e1 e2
  exact ⟨a, b, c, rfl, i64_low hc⟩
end Go.Proofs.Ytelcoihmiglceaa
