/-
  A list of clauses opened, with its bulk.
-/
import Derived.Test.YtdfgijdededolabNB4
import Derived.Test.YtdfgijdededolabSD4
namespace Go.Proofs.Ytdfgijdededolab
open Go.ChangeShapes Go.WideShapes Go.ChangeAt Go.RowKit Go.Joins Go.Deep

theorem bulkN_mem {H : Type} {d : DataW H} : ∀ {l : List (DataW H)}, d ∈ l → Rows.uptoBulk d ≤ Rows.uptoBulkAll l
  | x :: r, h => by
    simp only [Rows.uptoBulkAll]
    rcases List.mem_cons.1 h with rfl | h
    · omega
    · have := bulkN_mem h; omega
set_option maxRecDepth 100000 in
theorem clause_of_cellsB {H : Type} {enc : TypeId × Value → H} {W : World} {base : Nat} {spare : Nat → Bool} {held : Bool} {fuel : Nat} {cs : List Value} {x : DataW H × List MemPlace}
    (hf : DataW.trod enc Try.prog W base spare held fuel 30 cs = some x) (hl : cs.length = 7) (hw : ∀ n ∈ x.1.weights Try.prog 30, n ≤ reachBytes) : ∃ c : Cm, cs = c.csl ∧ c.ok W ∧ (Ck.terms c.key).length ≤ Rows.uptoBulk x.1 := by
  obtain ⟨c0, c1, c2, c3, c4, c5, c6, rfl⟩ := clist7 hl
  obtain ⟨y0, y1, y2, n, hd, -, h0, h1, h2⟩ := trod_struct3 Try.underlying30 hf
  rw [Try.cellsAtom] at h0
  rw [Try.cellsAtoms] at h1
  rw [Try.cellsTests] at h2
  have hwe : ∀ (j : Nat) (t : TypeId) (y : DataW H), [26, 27, 28][j]? = some t → [y0.1, y1.1, y2.1][j]? = some y → ∀ m ∈ y.weights Try.prog t, m ≤ reachBytes := fun j t y ht hy m hm => by
    refine hw m ?_
    rw [hd, DataW.weights, Try.underlying30]
    exact DataW.weights_mem_each (j := j) ht hy m hm
  obtain ⟨x, e0, hx, b0, -⟩ := atom_of_cellsB h0 (by simp) (hwe 0 _ _ rfl rfl)
  obtain ⟨vb, lb, e1, hb, b1, -⟩ := open_atomsB h1 (hwe 1 _ _ rfl rfl)
  obtain ⟨vt, lt, e2, ht, b2, -⟩ := open_testsB h2 (hwe 2 _ _ rfl rfl)
  simp at e0 e1 e2
  obtain ⟨rfl, rfl, rfl, rfl, rfl⟩ := e0
  subst e1 e2
  have ek : Ck.terms (Cm.key ⟨x, lb, c5, lt, c6⟩) = x.1.pl ++ ((fsts lb).flatMap At.pl ++ tls lt) := rfl
  refine ⟨⟨x, lb, _, lt, _⟩, rfl, ⟨hx, hb, ht⟩, ?_⟩
  rw [ek, List.length_append, List.length_append, hd]
  simp only [Rows.uptoBulk, Rows.uptoBulkAll]
  omega
theorem Try.bytesClause : Try.prog.bytesOf 30 = 120 := by kernel_rfl
set_option maxRecDepth 100000 in
theorem open_clausesB {H : Type} {enc : TypeId × Value → H} {W : World} {base : Nat} {spare : Nat → Bool} {held : Bool} {fuel : Nat} {cs : List Value} {x : DataW H × List MemPlace}
    (h : DataW.trod enc Try.prog W base spare held fuel 40 cs = some x) (hw : ∀ n ∈ x.1.weights Try.prog 40, n ≤ reachBytes) : ∃ v l, cs = [v] ∧ CsP W v l ∧ l.length ≤ Rows.uptoBulk x.1 ∧ ∀ c ∈ l, (Ck.terms c.key).length ≤ Rows.uptoBulk x.1 := by
  rcases open_slice Try.underlying40 h with ⟨rfl, -⟩ | ⟨a, len, cap, m, n, D, Pl, rfl, hba, hlc, hcm, hm, hx, hel⟩
  · exact ⟨_, [], rfl, ⟨Or.inl ⟨rfl, rfl⟩, fun c hc => by cases hc⟩, by simp, fun c hc => by cases hc⟩
  · rw [Try.cellsClause] at hel
    have hlm : len ≤ m := by rw [hm]; split <;> omega
    have key : ∀ i : Nat, ∃ c : Cm, i < len → (∀ k u, c.csl[k]? = some u → W.cell? ((a.add (i * 7)).add k) = some u) ∧ c.ok W ∧ (Ck.terms c.key).length ≤ Rows.uptoBulk (D i) := fun i => by
      by_cases hi : i < len
      · obtain ⟨cs', h1, h2⟩ := hel i (by omega)
        obtain ⟨-, hl, hc⟩ := World.cells?_some h1
        obtain ⟨c, rfl, hok, hbk⟩ := clause_of_cellsB h2 hl (fun n hn => hw n (by
          rw [hx, DataW.weights, Try.underlying40]
          exact List.mem_cons_of_mem _ (List.mem_append.2 (Or.inl (weights_mem_all hn (List.mem_map.2 ⟨i, List.mem_range.2 hi, rfl⟩))))))
        refine ⟨c, fun _ => ⟨fun k u hu => ?_, hok, hbk⟩⟩
        rw [← hu]
        exact hc k (List.getElem?_eq_some_iff.1 hu).1
      · exact ⟨zC, fun h => absurd h hi⟩
    obtain ⟨f, hf⟩ := Classical.axiomOfChoice key
    refine ⟨_, (List.range len).map f, rfl, ⟨Or.inr ⟨a, cap, by simp, ?_⟩, fun c hc => ?_⟩, by rw [hx]; simpa using bulkN_slice ((List.range len).map D) _, fun c hc => ?_⟩
    · rcases Nat.eq_zero_or_pos len with h0 | h0
      · left; subst h0; rfl
      · right
        obtain ⟨b, off, spot⟩ := a
        have h00 := (hf 0 h0).1 0 _ rfl
        have hspot : spot = none := by simpa [Addr.add] using World.cell?_spot h00
        subst hspot
        refine ⟨b, off, rfl, ?_, fun i c hc k u hu => ?_⟩
        · exact World.block_lt_of_cell? W _ (by simpa [Addr.add] using h00)
        · have hi : i < len := by have := (List.getElem?_eq_some_iff.1 hc).1; simpa using this
          have e : c = f i := by
            rw [List.getElem?_map, List.getElem?_range hi] at hc; simpa using hc.symm
          subst e
          have := (hf i hi).1 k u hu
          rw [add_plain, add_plain] at this
          exact this
    · obtain ⟨i, hi, rfl⟩ := List.mem_map.1 hc
      exact (hf i (List.mem_range.1 hi)).2.1
    · obtain ⟨i, hi, rfl⟩ := List.mem_map.1 hc
      have h1 := (hf i (List.mem_range.1 hi)).2.2
      have h2 : Rows.uptoBulk (D i) ≤ Rows.uptoBulkAll ((List.range len).map D) := bulkN_mem (List.mem_map.2 ⟨i, hi, rfl⟩)
      rw [hx]
      simp only [Rows.uptoBulk]
      omega
theorem sml_of {c : Cm} {n : Nat} (h : (Ck.terms c.key).length ≤ n) (hn : n ≤ 1900000000000) : c.sml := by
  have e : Ck.terms c.key = c.head.1.pl ++ ((fsts c.body).flatMap At.pl ++ tls c.tests) := rfl
  rw [e, List.length_append, List.length_append] at h
  have h1 : c.head.1.pl.length = c.head.1.args.length + 1 := by simp [At.pl]
  have h2 : ∀ l : List (At × Value), l.length ≤ ((fsts l).flatMap At.pl).length ∧ ∀ x ∈ l, x.1.args.length ≤ ((fsts l).flatMap At.pl).length := fun l => by
    induction l with
    | nil => exact ⟨by simp, fun x hx => by cases hx⟩
    | cons y l ih =>
      have : (fsts (y :: l)).flatMap At.pl = y.1.pl ++ (fsts l).flatMap At.pl := by simp [fsts]
      rw [this, List.length_append]
      have hy : y.1.pl.length = y.1.args.length + 1 := by simp [At.pl]
      refine ⟨by have := ih.1; simp only [List.length_cons]; omega, fun x hx => ?_⟩
      rcases List.mem_cons.1 hx with rfl | hx
      · omega
      · have := ih.2 x hx; omega
  have h3 : ∀ l : List Te, l.length ≤ (tls l).length := fun l => by
    induction l with
    | nil => simp
    | cons y l ih => 
      have : tls (y :: l) = [y.l, y.r] ++ tls l := by simp [tls]
      rw [this, List.length_append]
      simp only [List.length_cons, List.length_nil]; omega
  have h4 := h2 c.body
  have h5 := h3 c.tests
  exact ⟨by omega, by omega, by omega, fun x hx => by have := h4.2 x hx; omega⟩
end Go.Proofs.Ytdfgijdededolab
