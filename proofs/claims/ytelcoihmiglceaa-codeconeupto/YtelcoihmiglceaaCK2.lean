/-
  A clause opened, with all that a copy wants to know of its lists. (Written by CK2.py, out of NB4.)
-/
import Derived.Test.YtelcoihmiglceaaL1
import Derived.Test.YtelcoihmiglceaaRC1
import Derived.Deep.DeepHandedRow
import Derived.LaidMore
namespace Go.Proofs.Ytelcoihmiglceaa
open Go.ChangeShapes Go.WideShapes Go.ChangeAt Go.RowKit Go.Joins Go.Deep

set_option maxRecDepth 100000 in
theorem open_termsP {H : Type} {enc : TypeId × Value → H} {W : World} {base : Nat} {spare : Nat → Bool} {held : Bool} {fuel : Nat} {cs : List Value} {x : DataW H × List MemPlace}
    (h : DataW.trod enc Try.prog W base spare held fuel 32 cs = some x) (hw : ∀ n ∈ x.1.weights Try.prog 32, n ≤ reachBytes) : ∃ v l, cs = [v] ∧ (Ts W v l ∧ TsP W v l) ∧ l.length ≤ Rows.uptoBulk x.1 ∧ ∀ t ∈ l, WfT t := by
  rcases open_slice Try.underlying32 h with ⟨rfl, -⟩ | ⟨a, len, cap, m, n, D, Pl, rfl, hba, hlc, hcm, hm, hx, hel⟩
  · exact ⟨_, [], rfl, ⟨⟨none, 0, rfl, by simp, Or.inl rfl⟩, Or.inl ⟨rfl, rfl⟩⟩, by simp, fun t ht => by cases ht⟩
  · have hlen : len < 1000000000000000000 := by
      have := hw ((((List.range len).map D).length + ((List.range (m - len)).map fun j => D (len + j)).length) * Try.prog.bytesOf 31) (by rw [hx]; simp [DataW.weights, Try.underlying32])
      rw [Try.bytesTerm] at this
      simp only [List.length_map, List.length_range, reachBytes] at this
      omega
    rw [Try.cellsTerm] at hel
    have hlm : len ≤ m := by rw [hm]; split <;> omega
    have key : ∀ i : Nat, ∃ t : Tm, i < len → WfT t ∧ W.cell? (a.add (i * 3)) = some (.int .i64 t.k) ∧ W.cell? ((a.add (i * 3)).add 1) = some (.int .i64 t.n) ∧ W.cell? ((a.add (i * 3)).add 2) = some (.string t.s) := fun i => by
      by_cases hi : i < len
      · obtain ⟨cs', h1, h2⟩ := hel i (by omega)
        obtain ⟨-, hl, hc⟩ := World.cells?_some h1
        obtain ⟨t, rfl, hwf⟩ := term_of_cellsB h2 hl
        exact ⟨t, fun _ => ⟨hwf, hc 0 (by omega), hc 1 (by omega), hc 2 (by omega)⟩⟩
      · exact ⟨zt, fun h => absurd h hi⟩
    obtain ⟨f, hf⟩ := Classical.axiomOfChoice key
    have hgo : (List.range len).map f = [] ∨ ∃ b o, a = ⟨b, o, none⟩ ∧ TRow W b o ((List.range len).map f) := by
      rcases Nat.eq_zero_or_pos len with h0 | h0
      · left; subst h0; rfl
      · right
        obtain ⟨b, off, spot⟩ := a
        have hspot : spot = none := by simpa [Addr.add] using World.cell?_spot (hf 0 h0).2.1
        subst hspot
        refine ⟨b, off, rfl, ?_, fun i t ht => ?_⟩
        · exact World.block_lt_of_cell? W _ (by have := (hf 0 h0).2.1; simpa [Addr.add] using this)
        · have hi : i < len := by have := (List.getElem?_eq_some_iff.1 ht).1; simpa using this
          have e : t = f i := by
            rw [List.getElem?_map, List.getElem?_range hi] at ht; simpa using ht.symm
          subst e
          have := (hf i hi).2
          rw [add_plain, add_plain, add_plain] at this
          exact this
    refine ⟨_, (List.range len).map f, rfl, ⟨⟨some a, cap, by simp, by simpa using hlen, ?_⟩, Or.inr ⟨a, cap, by simp, hgo⟩⟩, by rw [hx]; simpa using bulkN_slice ((List.range len).map D) _, fun t ht => by obtain ⟨i, hi, rfl⟩ := List.mem_map.1 ht; exact (hf i (List.mem_range.1 hi)).1⟩
    rcases hgo with hq | ⟨b, o, rfl, hq⟩
    · exact Or.inl hq
    · exact Or.inr ⟨b, o, rfl, hq⟩
set_option maxRecDepth 100000 in
theorem atom_of_cellsP {H : Type} {enc : TypeId × Value → H} {W : World} {base : Nat} {spare : Nat → Bool} {held : Bool} {fuel : Nat} {cs : List Value} {x : DataW H × List MemPlace}
    (hf : DataW.trod enc Try.prog W base spare held fuel 34 cs = some x) (hl : cs.length = 5) (hw : ∀ n ∈ x.1.weights Try.prog 34, n ≤ reachBytes) : ∃ a : At × Value, cs = [.int .i64 a.1.by_.k, .int .i64 a.1.by_.n, .string a.1.by_.s, .string a.1.name, a.2] ∧ (Ts W a.2 a.1.args ∧ TsP W a.2 a.1.args) ∧ a.1.pl.length ≤ Rows.uptoBulk x.1 ∧ ∀ t ∈ a.1.pl, WfT t := by
  obtain ⟨c0, c1, c2, c3, c4, rfl⟩ := list5 hl
  obtain ⟨y0, y1, y2, n, hd, -, h0, h1, h2⟩ := trod_struct3 Try.underlying34 hf
  rw [Try.cellsTerm] at h0
  rw [Try.cellsString] at h1
  rw [Try.cellsTerms] at h2
  obtain ⟨t, e0, ht⟩ := term_of_cellsB h0 (by simp)
  obtain ⟨s, e1, -, hs⟩ := DataW.trod_string Try.underlying9 h1
  obtain ⟨v, l, e2, hx, hbk, hwl⟩ := open_termsP h2 (fun m hm => by
    refine hw m ?_
    rw [hd, DataW.weights, Try.underlying34]
    exact DataW.weights_mem_each (j := 2) rfl rfl m hm)
  simp at e0 e1 e2
  obtain ⟨rfl, rfl, rfl⟩ := e0
  subst e1 e2
  refine ⟨(⟨t, s, l⟩, c4), rfl, hx, ?_, fun u hu => ?_⟩
  · rw [hd]
    have := bulkN_pos y0.1
    simp only [Rows.uptoBulk, Rows.uptoBulkAll, At.pl, List.length_cons]
    omega
  · rcases List.mem_cons.1 hu with rfl | hu
    · exact ht
    · exact hwl u hu
set_option maxRecDepth 100000 in
theorem open_atomsP {H : Type} {enc : TypeId × Value → H} {W : World} {base : Nat} {spare : Nat → Bool} {held : Bool} {fuel : Nat} {cs : List Value} {x : DataW H × List MemPlace}
    (h : DataW.trod enc Try.prog W base spare held fuel 35 cs = some x) (hw : ∀ n ∈ x.1.weights Try.prog 35, n ≤ reachBytes) : ∃ v l, cs = [v] ∧ (As W v l ∧ AsP W v l ∧ ∀ x ∈ l, TsP W x.2 x.1.args) ∧ ((fsts l).flatMap At.pl).length ≤ Rows.uptoBulk x.1 ∧ ∀ t ∈ (fsts l).flatMap At.pl, WfT t := by
  rcases open_slice Try.underlying35 h with ⟨rfl, -⟩ | ⟨a, len, cap, m, n, D, Pl, rfl, hba, hlc, hcm, hm, hx, hel⟩
  · exact ⟨_, [], rfl, ⟨⟨none, 0, rfl, by simp, Or.inl rfl, fun x hx => by cases hx⟩, Or.inl ⟨rfl, rfl⟩, fun x hx => by cases hx⟩, by simp [fsts], fun t ht => by simp [fsts] at ht⟩
  · have hlen : len < 1000000000000000000 := by
      have := hw ((((List.range len).map D).length + ((List.range (m - len)).map fun j => D (len + j)).length) * Try.prog.bytesOf 34) (by rw [hx]; simp [DataW.weights, Try.underlying35])
      rw [Try.bytesAtom] at this
      simp only [List.length_map, List.length_range, reachBytes] at this
      omega
    rw [Try.cellsAtom] at hel
    have hlm : len ≤ m := by rw [hm]; split <;> omega
    have key : ∀ i : Nat, ∃ t : At × Value, i < len → (W.cell? (a.add (i * 5)) = some (.int .i64 t.1.by_.k) ∧ W.cell? ((a.add (i * 5)).add 1) = some (.int .i64 t.1.by_.n) ∧ W.cell? ((a.add (i * 5)).add 2) = some (.string t.1.by_.s) ∧ W.cell? ((a.add (i * 5)).add 3) = some (.string t.1.name) ∧ W.cell? ((a.add (i * 5)).add 4) = some t.2) ∧ (Ts W t.2 t.1.args ∧ TsP W t.2 t.1.args) ∧ t.1.pl.length ≤ Rows.uptoBulk (D i) ∧ ∀ u ∈ t.1.pl, WfT u := fun i => by
      by_cases hi : i < len
      · obtain ⟨cs', h1, h2⟩ := hel i (by omega)
        obtain ⟨-, hl, hc⟩ := World.cells?_some h1
        obtain ⟨t, rfl, hts, hbk, hwf⟩ := atom_of_cellsP h2 hl (fun n hn => hw n (by
          rw [hx, DataW.weights, Try.underlying35]
          exact List.mem_cons_of_mem _ (List.mem_append.2 (Or.inl (weights_mem_all hn (List.mem_map.2 ⟨i, List.mem_range.2 hi, rfl⟩))))))
        exact ⟨t, fun _ => ⟨⟨hc 0 (by omega), hc 1 (by omega), hc 2 (by omega), hc 3 (by omega), hc 4 (by omega)⟩, hts, hbk, hwf⟩⟩
      · exact ⟨(⟨zt, ⟨#[]⟩, []⟩, .slice none 0 0), fun h => absurd h hi⟩
    obtain ⟨f, hf⟩ := Classical.axiomOfChoice key
    have efl : (fsts ((List.range len).map f)).flatMap At.pl = (List.range len).flatMap fun i => (f i).1.pl := by simp [fsts, List.flatMap_map]
    have hgo : (List.range len).map f = [] ∨ ∃ b o, a = ⟨b, o, none⟩ ∧ ARow W b o ((List.range len).map f) := by
      rcases Nat.eq_zero_or_pos len with h0 | h0
      · left; subst h0; rfl
      · right
        obtain ⟨b, off, spot⟩ := a
        have hspot : spot = none := by simpa [Addr.add] using World.cell?_spot (hf 0 h0).1.1
        subst hspot
        refine ⟨b, off, rfl, ?_, fun i t ht => ?_⟩
        · exact World.block_lt_of_cell? W _ (by have := (hf 0 h0).1.1; simpa [Addr.add] using this)
        · have hi : i < len := by have := (List.getElem?_eq_some_iff.1 ht).1; simpa using this
          have e : t = f i := by
            rw [List.getElem?_map, List.getElem?_range hi] at ht; simpa using ht.symm
          subst e
          have := (hf i hi).1
          rw [add_plain, add_plain, add_plain, add_plain, add_plain] at this
          exact this
    refine ⟨_, (List.range len).map f, rfl, ⟨⟨some a, cap, by simp, by simpa using hlen, ?_, fun x hx => ?_⟩, Or.inr ⟨a, cap, by simp, hgo⟩, fun x hx => ?_⟩, ?_, fun t ht => ?_⟩
    rotate_left 3
    · rw [hx, efl]
      have := bulkN_sum (fun i => (f i).1.pl) D (List.range len) fun i hi => (hf i (List.mem_range.1 hi)).2.2.1
      simp only [Rows.uptoBulk]
      omega
    · rw [efl] at ht
      obtain ⟨i, hi, ht⟩ := List.mem_flatMap.1 ht
      exact (hf i (List.mem_range.1 hi)).2.2.2 t ht
    · rcases hgo with hq | ⟨b, o, rfl, hq⟩
      · exact Or.inl hq
      · exact Or.inr ⟨b, o, rfl, hq⟩
    · obtain ⟨i, hi, rfl⟩ := List.mem_map.1 hx
      exact (hf i (List.mem_range.1 hi)).2.1.1
    · obtain ⟨i, hi, rfl⟩ := List.mem_map.1 hx
      exact (hf i (List.mem_range.1 hi)).2.1.2
set_option maxRecDepth 100000 in
theorem open_testsP {H : Type} {enc : TypeId × Value → H} {W : World} {base : Nat} {spare : Nat → Bool} {held : Bool} {fuel : Nat} {cs : List Value} {x : DataW H × List MemPlace}
    (h : DataW.trod enc Try.prog W base spare held fuel 36 cs = some x) (hw : ∀ n ∈ x.1.weights Try.prog 36, n ≤ reachBytes) : ∃ v l, cs = [v] ∧ (Es W v l ∧ EsP W v l) ∧ (tls l).length ≤ Rows.uptoBulk x.1 ∧ ∀ t ∈ tls l, WfT t := by
  rcases open_slice Try.underlying36 h with ⟨rfl, -⟩ | ⟨a, len, cap, m, n, D, Pl, rfl, hba, hlc, hcm, hm, hx, hel⟩
  · exact ⟨_, [], rfl, ⟨⟨none, 0, rfl, by simp, Or.inl rfl⟩, Or.inl ⟨rfl, rfl⟩⟩, by simp [tls], fun t ht => by simp [tls] at ht⟩
  · have hlen : len < 1000000000000000000 := by
      have := hw ((((List.range len).map D).length + ((List.range (m - len)).map fun j => D (len + j)).length) * Try.prog.bytesOf 73) (by rw [hx]; simp [DataW.weights, Try.underlying36])
      rw [Try.bytesTest] at this
      simp only [List.length_map, List.length_range, reachBytes] at this
      omega
    rw [Try.cellsTest3] at hel
    have hlm : len ≤ m := by rw [hm]; split <;> omega
    have key : ∀ i : Nat, ∃ t : Te, i < len → (2 ≤ Rows.uptoBulk (D i) ∧ WfT t.l ∧ WfT t.r) ∧ W.cell? (a.add (i * 7)) = some (.int .i64 t.op) ∧ W.cell? ((a.add (i * 7)).add 1) = some (.int .i64 t.l.k) ∧ W.cell? ((a.add (i * 7)).add 2) = some (.int .i64 t.l.n) ∧ W.cell? ((a.add (i * 7)).add 3) = some (.string t.l.s) ∧ W.cell? ((a.add (i * 7)).add 4) = some (.int .i64 t.r.k) ∧ W.cell? ((a.add (i * 7)).add 5) = some (.int .i64 t.r.n) ∧ W.cell? ((a.add (i * 7)).add 6) = some (.string t.r.s) := fun i => by
      by_cases hi : i < len
      · obtain ⟨cs', h1, h2⟩ := hel i (by omega)
        obtain ⟨-, hl, hc⟩ := World.cells?_some h1
        obtain ⟨t, rfl, hbk⟩ := test_of_cellsB h2 hl
        exact ⟨t, fun _ => ⟨hbk, hc 0 (by omega), hc 1 (by omega), hc 2 (by omega), hc 3 (by omega), hc 4 (by omega), hc 5 (by omega), hc 6 (by omega)⟩⟩
      · exact ⟨⟨0, zt, zt⟩, fun h => absurd h hi⟩
    obtain ⟨f, hf⟩ := Classical.axiomOfChoice key
    have efl : tls ((List.range len).map f) = (List.range len).flatMap fun i => [(f i).l, (f i).r] := by simp [tls, List.flatMap_map]
    have hgo : (List.range len).map f = [] ∨ ∃ b o, a = ⟨b, o, none⟩ ∧ ERow W b o ((List.range len).map f) := by
      rcases Nat.eq_zero_or_pos len with h0 | h0
      · left; subst h0; rfl
      · right
        obtain ⟨b, off, spot⟩ := a
        have hspot : spot = none := by simpa [Addr.add] using World.cell?_spot (hf 0 h0).2.1
        subst hspot
        refine ⟨b, off, rfl, ?_, fun i t ht => ?_⟩
        · exact World.block_lt_of_cell? W _ (by have := (hf 0 h0).2.1; simpa [Addr.add] using this)
        · have hi : i < len := by have := (List.getElem?_eq_some_iff.1 ht).1; simpa using this
          have e : t = f i := by
            rw [List.getElem?_map, List.getElem?_range hi] at ht; simpa using ht.symm
          subst e
          have := (hf i hi).2
          rw [add_plain, add_plain, add_plain, add_plain, add_plain, add_plain, add_plain] at this
          exact this
    refine ⟨_, (List.range len).map f, rfl, ⟨⟨some a, cap, by simp, by simpa using hlen, ?_⟩, Or.inr ⟨a, cap, by simp, hgo⟩⟩, ?_, fun t ht => ?_⟩
    rotate_left 1
    · rw [hx, efl]
      have := bulkN_sum (fun i => [(f i).l, (f i).r]) D (List.range len) fun i hi => (hf i (List.mem_range.1 hi)).1.1
      simp only [Rows.uptoBulk]
      omega
    · rw [efl] at ht
      obtain ⟨i, hi, ht⟩ := List.mem_flatMap.1 ht
      simp only [List.mem_cons, List.not_mem_nil, or_false] at ht
      rcases ht with rfl | rfl
      · exact (hf i (List.mem_range.1 hi)).1.2.1
      · exact (hf i (List.mem_range.1 hi)).1.2.2
    rcases hgo with hq | ⟨b, o, rfl, hq⟩
    · exact Or.inl hq
    · exact Or.inr ⟨b, o, rfl, hq⟩
set_option maxRecDepth 100000 in
theorem open_clauseP {H : Type} {enc : TypeId × Value → H} {W : World} {r : Reach} {b0 base : Nat} {spare : Nat → Bool} {held : Bool} {v : Value} {d : DataW H} {p : List MemPlace}
    (hv : Value.okWide Try.prog W r b0 38 v) (h : DataW.Trod enc Try.prog W base spare held 38 v d p) (hw : ∀ n ∈ d.weights Try.prog 38, n ≤ reachBytes) : ∃ c : Cm, v = c.v ∧ c.ok W ∧ TsP W c.head.2 c.head.1.args ∧ (∀ x ∈ c.body, TsP W x.2 x.1.args) ∧ AsP W c.bv c.body ∧ EsP W c.tv c.tests ∧ (Ck.terms c.key).length ≤ Rows.uptoBulk d ∧ ∀ t ∈ Ck.terms c.key, WfT t := by
  obtain ⟨cs, rfl, hsz⟩ := okWide_struct Try.underlying38 hv
  rw [Try.cellsClause] at hsz
  obtain ⟨fuel, hf⟩ := h
  obtain ⟨l⟩ := cs
  obtain ⟨c0, c1, c2, c3, c4, c5, c6, rfl⟩ := clist7 (by simpa using hsz)
  obtain ⟨y0, y1, y2, n, hd, -, h0, h1, h2⟩ := trod_struct3 Try.underlying38 hf
  simp only [Prod.mk.injEq] at hd
  have hd := hd.1
  subst hd
  rw [Try.cellsAtom] at h0
  rw [Try.cellsAtoms] at h1
  rw [Try.cellsTests] at h2
  have hwe : ∀ (j : Nat) (t : TypeId) (y : DataW H), [34, 35, 36][j]? = some t → [y0.1, y1.1, y2.1][j]? = some y → ∀ m ∈ y.weights Try.prog t, m ≤ reachBytes := fun j t y ht hy m hm => by
    refine hw m ?_
    rw [DataW.weights, Try.underlying38]
    exact DataW.weights_mem_each (j := j) ht hy m hm
  obtain ⟨x, e0, hx, b0, w0⟩ := atom_of_cellsP h0 (by simp [Value.cells]) (hwe 0 _ _ rfl rfl)
  obtain ⟨vb, lb, e1, hb, b1, w1⟩ := open_atomsP h1 (hwe 1 _ _ rfl rfl)
  obtain ⟨vt, lt, e2, ht, b2, w2⟩ := open_testsP h2 (hwe 2 _ _ rfl rfl)
  simp [Value.cells] at e0 e1 e2
  obtain ⟨rfl, rfl, rfl, rfl, rfl⟩ := e0
  subst e1 e2
  have ek : Ck.terms (Cm.key ⟨x, lb, c5, lt, c6⟩) = x.1.pl ++ ((fsts lb).flatMap At.pl ++ tls lt) := rfl
  refine ⟨⟨x, lb, _, lt, _⟩, rfl, ⟨hx.1, hb.1, ht.1⟩, hx.2, hb.2.2, hb.2.1, ht.2, ?_, fun t hm => ?_⟩
  · rw [ek, List.length_append, List.length_append]
    simp only [Rows.uptoBulk, Rows.uptoBulkAll]
    omega
  · rw [ek] at hm
    rcases List.mem_append.1 hm with hm | hm
    · exact w0 t hm
    · rcases List.mem_append.1 hm with hm | hm
      · exact w1 t hm
      · exact w2 t hm
end Go.Proofs.Ytelcoihmiglceaa
