/-
  A clause opened, with all that a copy wants to know of its lists. (Written by CK2.py, out of NB4.)
-/
import Derived.Test.YtgbiicmkhlnniaaGreatDoorNB4
import Derived.Test.YtgbiicmkhlnniaaGreatDoorT4
import Derived.Deep.DeepHandedRow
import Derived.LaidMore
namespace Go.Proofs.YtgbiicmkhlnniaaGreatDoor
open Go.ChangeShapes Go.WideShapes Go.ChangeAt Go.RowKit Go.Joins Go.Deep

set_option maxRecDepth 100000 in
theorem open_termsP {H : Type} {enc : TypeId × Value → H} {W : World} {base : Nat} {spare : Nat → Bool} {held : Bool} {fuel : Nat} {cs : List Value} {x : DataW H × List MemPlace}
    (h : DataW.trod enc Tryz.prog W base spare held fuel 24 cs = some x) (hw : ∀ n ∈ x.1.weights Tryz.prog 24, n ≤ reachBytes) : ∃ v l, cs = [v] ∧ (Ts W v l ∧ TsP W v l) ∧ l.length ≤ Rows.uptoBulk x.1 ∧ ∀ t ∈ l, WfT t := by
  rcases open_slice Tryz.underlying24 h with ⟨rfl, -⟩ | ⟨a, len, cap, m, n, D, Pl, rfl, hba, hlc, hcm, hm, hx, hel⟩
  · exact ⟨_, [], rfl, ⟨⟨none, 0, rfl, by simp, Or.inl rfl⟩, Or.inl ⟨rfl, rfl⟩⟩, by simp, fun t ht => by cases ht⟩
  · have hlen : len < 1000000000000000000 := by
      have := hw ((((List.range len).map D).length + ((List.range (m - len)).map fun j => D (len + j)).length) * Tryz.prog.bytesOf 23) (by rw [hx]; simp [DataW.weights, Tryz.underlying24])
      rw [Tryz.bytesTerm] at this
      simp only [List.length_map, List.length_range, reachBytes] at this
      omega
    rw [Tryz.cellsTerm] at hel
    have hlm : len ≤ m := by rw [hm]; split <;> omega
    have key : ∀ i : Nat, ∃ t : Tm, i < len → WfT t ∧ W.cell? (a.add (i * 3)) = some (.int .i64 t.k) ∧ W.cell? ((a.add (i * 3)).add 1) = some (.int .i64 t.n) ∧ W.cell? ((a.add (i * 3)).add 2) = some (.string t.s) := fun i => by
      by_cases hi : i < len
      · obtain ⟨cs', h1, h2⟩ := hel i (by omega)
        obtain ⟨-, hl, hc⟩ := World.cells?_some h1
        obtain ⟨t, rfl, hwf⟩ := term_of_cellsB h2 hl
        exact ⟨t, fun _ => ⟨hwf, hc 0 (by omega), hc 1 (by omega), hc 2 (by omega)⟩⟩
      · exact ⟨zt, fun h => absurd h hi⟩
    obtain ⟨f, hf⟩ := Classical.axiomOfChoice key
    have hgo : (List.range len).map f = [] ∨ ∃ b o, a = ⟨b, o, none⟩ ∧ TRow W b o ((List.range len).map f) := by
      rcases Nat.eq_zero_or_pos len with h0 | h0
      · left; subst h0; rfl
      · right
        obtain ⟨b, off, spot⟩ := a
        have hspot : spot = none := by simpa [Addr.add] using World.cell?_spot (hf 0 h0).2.1
        subst hspot
        refine ⟨b, off, rfl, ?_, fun i t ht => ?_⟩
        · exact World.block_lt_of_cell? W _ (by have := (hf 0 h0).2.1; simpa [Addr.add] using this)
        · have hi : i < len := by have := (List.getElem?_eq_some_iff.1 ht).1; simpa using this
          have e : t = f i := by
            rw [List.getElem?_map, List.getElem?_range hi] at ht; simpa using ht.symm
          subst e
          have := (hf i hi).2
          rw [add_plain, add_plain, add_plain] at this
          exact this
    refine ⟨_, (List.range len).map f, rfl, ⟨⟨some a, cap, by simp, by simpa using hlen, ?_⟩, Or.inr ⟨a, cap, by simp, hgo⟩⟩, by rw [hx]; simpa using bulkN_slice ((List.range len).map D) _, fun t ht => by obtain ⟨i, hi, rfl⟩ := List.mem_map.1 ht; exact (hf i (List.mem_range.1 hi)).1⟩
    rcases hgo with hq | ⟨b, o, rfl, hq⟩
    · exact Or.inl hq
    · exact Or.inr ⟨b, o, rfl, hq⟩
set_option maxRecDepth 100000 in
theorem atom_of_cellsP {H : Type} {enc : TypeId × Value → H} {W : World} {base : Nat} {spare : Nat → Bool} {held : Bool} {fuel : Nat} {cs : List Value} {x : DataW H × List MemPlace}
    (hf : DataW.trod enc Tryz.prog W base spare held fuel 26 cs = some x) (hl : cs.length = 5) (hw : ∀ n ∈ x.1.weights Tryz.prog 26, n ≤ reachBytes) : ∃ a : At × Value, cs = [.int .i64 a.1.by_.k, .int .i64 a.1.by_.n, .string a.1.by_.s, .string a.1.name, a.2] ∧ (Ts W a.2 a.1.args ∧ TsP W a.2 a.1.args) ∧ a.1.pl.length ≤ Rows.uptoBulk x.1 ∧ ∀ t ∈ a.1.pl, WfT t := by
  obtain ⟨c0, c1, c2, c3, c4, rfl⟩ := list5 hl
  obtain ⟨y0, y1, y2, n, hd, -, h0, h1, h2⟩ := trod_struct3 Tryz.underlying26 hf
  rw [Tryz.cellsTerm] at h0
  rw [Tryz.cellsString] at h1
  rw [Tryz.cellsTerms] at h2
  obtain ⟨t, e0, ht⟩ := term_of_cellsB h0 (by simp)
  obtain ⟨s, e1, -, hs⟩ := DataW.trod_string Tryz.underlying9 h1
  obtain ⟨v, l, e2, hx, hbk, hwl⟩ := open_termsP h2 (fun m hm => by
    refine hw m ?_
    rw [hd, DataW.weights, Tryz.underlying26]
    exact DataW.weights_mem_each (j := 2) rfl rfl m hm)
  simp at e0 e1 e2
  obtain ⟨rfl, rfl, rfl⟩ := e0
  subst e1 e2
  refine ⟨(⟨t, s, l⟩, c4), rfl, hx, ?_, fun u hu => ?_⟩
  · rw [hd]
    have := bulkN_pos y0.1
    simp only [Rows.uptoBulk, Rows.uptoBulkAll, At.pl, List.length_cons]
    omega
  · rcases List.mem_cons.1 hu with rfl | hu
    · exact ht
    · exact hwl u hu
set_option maxRecDepth 100000 in
theorem open_atomsP {H : Type} {enc : TypeId × Value → H} {W : World} {base : Nat} {spare : Nat → Bool} {held : Bool} {fuel : Nat} {cs : List Value} {x : DataW H × List MemPlace}
    (h : DataW.trod enc Tryz.prog W base spare held fuel 27 cs = some x) (hw : ∀ n ∈ x.1.weights Tryz.prog 27, n ≤ reachBytes) : ∃ v l, cs = [v] ∧ (As W v l ∧ AsP W v l ∧ ∀ x ∈ l, TsP W x.2 x.1.args) ∧ ((fsts l).flatMap At.pl).length ≤ Rows.uptoBulk x.1 ∧ ∀ t ∈ (fsts l).flatMap At.pl, WfT t := by
  rcases open_slice Tryz.underlying27 h with ⟨rfl, -⟩ | ⟨a, len, cap, m, n, D, Pl, rfl, hba, hlc, hcm, hm, hx, hel⟩
  · exact ⟨_, [], rfl, ⟨⟨none, 0, rfl, by simp, Or.inl rfl, fun x hx => by cases hx⟩, Or.inl ⟨rfl, rfl⟩, fun x hx => by cases hx⟩, by simp [fsts], fun t ht => by simp [fsts] at ht⟩
  · have hlen : len < 1000000000000000000 := by
      have := hw ((((List.range len).map D).length + ((List.range (m - len)).map fun j => D (len + j)).length) * Tryz.prog.bytesOf 26) (by rw [hx]; simp [DataW.weights, Tryz.underlying27])
      rw [Tryz.bytesAtom] at this
      simp only [List.length_map, List.length_range, reachBytes] at this
      omega
    rw [Tryz.cellsAtom] at hel
    have hlm : len ≤ m := by rw [hm]; split <;> omega
    have key : ∀ i : Nat, ∃ t : At × Value, i < len → (W.cell? (a.add (i * 5)) = some (.int .i64 t.1.by_.k) ∧ W.cell? ((a.add (i * 5)).add 1) = some (.int .i64 t.1.by_.n) ∧ W.cell? ((a.add (i * 5)).add 2) = some (.string t.1.by_.s) ∧ W.cell? ((a.add (i * 5)).add 3) = some (.string t.1.name) ∧ W.cell? ((a.add (i * 5)).add 4) = some t.2) ∧ (Ts W t.2 t.1.args ∧ TsP W t.2 t.1.args) ∧ t.1.pl.length ≤ Rows.uptoBulk (D i) ∧ ∀ u ∈ t.1.pl, WfT u := fun i => by
      by_cases hi : i < len
      · obtain ⟨cs', h1, h2⟩ := hel i (by omega)
        obtain ⟨-, hl, hc⟩ := World.cells?_some h1
        obtain ⟨t, rfl, hts, hbk, hwf⟩ := atom_of_cellsP h2 hl (fun n hn => hw n (by
          rw [hx, DataW.weights, Tryz.underlying27]
          exact List.mem_cons_of_mem _ (List.mem_append.2 (Or.inl (weights_mem_all hn (List.mem_map.2 ⟨i, List.mem_range.2 hi, rfl⟩))))))
        exact ⟨t, fun _ => ⟨⟨hc 0 (by omega), hc 1 (by omega), hc 2 (by omega), hc 3 (by omega), hc 4 (by omega)⟩, hts, hbk, hwf⟩⟩
      · exact ⟨(⟨zt, ⟨#[]⟩, []⟩, .slice none 0 0), fun h => absurd h hi⟩
    obtain ⟨f, hf⟩ := Classical.axiomOfChoice key
    have efl : (fsts ((List.range len).map f)).flatMap At.pl = (List.range len).flatMap fun i => (f i).1.pl := by simp [fsts, List.flatMap_map]
    have hgo : (List.range len).map f = [] ∨ ∃ b o, a = ⟨b, o, none⟩ ∧ ARow W b o ((List.range len).map f) := by
      rcases Nat.eq_zero_or_pos len with h0 | h0
      · left; subst h0; rfl
      · right
        obtain ⟨b, off, spot⟩ := a
        have hspot : spot = none := by simpa [Addr.add] using World.cell?_spot (hf 0 h0).1.1
        subst hspot
        refine ⟨b, off, rfl, ?_, fun i t ht => ?_⟩
        · exact World.block_lt_of_cell? W _ (by have := (hf 0 h0).1.1; simpa [Addr.add] using this)
        · have hi : i < len := by have := (List.getElem?_eq_some_iff.1 ht).1; simpa using this
          have e : t = f i := by
            rw [List.getElem?_map, List.getElem?_range hi] at ht; simpa using ht.symm
          subst e
          have := (hf i hi).1
          rw [add_plain, add_plain, add_plain, add_plain, add_plain] at this
          exact this
    refine ⟨_, (List.range len).map f, rfl, ⟨⟨some a, cap, by simp, by simpa using hlen, ?_, fun x hx => ?_⟩, Or.inr ⟨a, cap, by simp, hgo⟩, fun x hx => ?_⟩, ?_, fun t ht => ?_⟩
    rotate_left 3
    · rw [hx, efl]
      have := bulkN_sum (fun i => (f i).1.pl) D (List.range len) fun i hi => (hf i (List.mem_range.1 hi)).2.2.1
      simp only [Rows.uptoBulk]
      omega
    · rw [efl] at ht
      obtain ⟨i, hi, ht⟩ := List.mem_flatMap.1 ht
      exact (hf i (List.mem_range.1 hi)).2.2.2 t ht
    · rcases hgo with hq | ⟨b, o, rfl, hq⟩
      · exact Or.inl hq
      · exact Or.inr ⟨b, o, rfl, hq⟩
    · obtain ⟨i, hi, rfl⟩ := List.mem_map.1 hx
      exact (hf i (List.mem_range.1 hi)).2.1.1
    · obtain ⟨i, hi, rfl⟩ := List.mem_map.1 hx
      exact (hf i (List.mem_range.1 hi)).2.1.2
set_option maxRecDepth 100000 in
theorem open_testsP {H : Type} {enc : TypeId × Value → H} {W : World} {base : Nat} {spare : Nat → Bool} {held : Bool} {fuel : Nat} {cs : List Value} {x : DataW H × List MemPlace}
    (h : DataW.trod enc Tryz.prog W base spare held fuel 28 cs = some x) (hw : ∀ n ∈ x.1.weights Tryz.prog 28, n ≤ reachBytes) : ∃ v l, cs = [v] ∧ (Es W v l ∧ EsP W v l) ∧ (tls l).length ≤ Rows.uptoBulk x.1 ∧ ∀ t ∈ tls l, WfT t := by
  rcases open_slice Tryz.underlying28 h with ⟨rfl, -⟩ | ⟨a, len, cap, m, n, D, Pl, rfl, hba, hlc, hcm, hm, hx, hel⟩
  · exact ⟨_, [], rfl, ⟨⟨none, 0, rfl, by simp, Or.inl rfl⟩, Or.inl ⟨rfl, rfl⟩⟩, by simp [tls], fun t ht => by simp [tls] at ht⟩
  · have hlen : len < 1000000000000000000 := by
      have := hw ((((List.range len).map D).length + ((List.range (m - len)).map fun j => D (len + j)).length) * Tryz.prog.bytesOf 46) (by rw [hx]; simp [DataW.weights, Tryz.underlying28])
      rw [Tryz.bytesTest] at this
      simp only [List.length_map, List.length_range, reachBytes] at this
      omega
    rw [Tryz.cellsTest3] at hel
    have hlm : len ≤ m := by rw [hm]; split <;> omega
    have key : ∀ i : Nat, ∃ t : Te, i < len → (2 ≤ Rows.uptoBulk (D i) ∧ WfT t.l ∧ WfT t.r) ∧ W.cell? (a.add (i * 7)) = some (.int .i64 t.op) ∧ W.cell? ((a.add (i * 7)).add 1) = some (.int .i64 t.l.k) ∧ W.cell? ((a.add (i * 7)).add 2) = some (.int .i64 t.l.n) ∧ W.cell? ((a.add (i * 7)).add 3) = some (.string t.l.s) ∧ W.cell? ((a.add (i * 7)).add 4) = some (.int .i64 t.r.k) ∧ W.cell? ((a.add (i * 7)).add 5) = some (.int .i64 t.r.n) ∧ W.cell? ((a.add (i * 7)).add 6) = some (.string t.r.s) := fun i => by
      by_cases hi : i < len
      · obtain ⟨cs', h1, h2⟩ := hel i (by omega)
        obtain ⟨-, hl, hc⟩ := World.cells?_some h1
        obtain ⟨t, rfl, hbk⟩ := test_of_cellsB h2 hl
        exact ⟨t, fun _ => ⟨hbk, hc 0 (by omega), hc 1 (by omega), hc 2 (by omega), hc 3 (by omega), hc 4 (by omega), hc 5 (by omega), hc 6 (by omega)⟩⟩
      · exact ⟨⟨0, zt, zt⟩, fun h => absurd h hi⟩
    obtain ⟨f, hf⟩ := Classical.axiomOfChoice key
    have efl : tls ((List.range len).map f) = (List.range len).flatMap fun i => [(f i).l, (f i).r] := by simp [tls, List.flatMap_map]
    have hgo : (List.range len).map f = [] ∨ ∃ b o, a = ⟨b, o, none⟩ ∧ ERow W b o ((List.range len).map f) := by
      rcases Nat.eq_zero_or_pos len with h0 | h0
      · left; subst h0; rfl
      · right
        obtain ⟨b, off, spot⟩ := a
        have hspot : spot = none := by simpa [Addr.add] using World.cell?_spot (hf 0 h0).2.1
        subst hspot
        refine ⟨b, off, rfl, ?_, fun i t ht => ?_⟩
        · exact World.block_lt_of_cell? W _ (by have := (hf 0 h0).2.1; simpa [Addr.add] using this)
        · have hi : i < len := by have := (List.getElem?_eq_some_iff.1 ht).1; simpa using this
          have e : t = f i := by
            rw [List.getElem?_map, List.getElem?_range hi] at ht; simpa using ht.symm
          subst e
          have := (hf i hi).2
          rw [add_plain, add_plain, add_plain, add_plain, add_plain, add_plain, add_plain] at this
          exact this
    refine ⟨_, (List.range len).map f, rfl, ⟨⟨some a, cap, by simp, by simpa using hlen, ?_⟩, Or.inr ⟨a, cap, by simp, hgo⟩⟩, ?_, fun t ht => ?_⟩
    rotate_left 1
    · rw [hx, efl]
      have := bulkN_sum (fun i => [(f i).l, (f i).r]) D (List.range len) fun i hi => (hf i (List.mem_range.1 hi)).1.1
      simp only [Rows.uptoBulk]
      omega
    · rw [efl] at ht
      obtain ⟨i, hi, ht⟩ := List.mem_flatMap.1 ht
      simp only [List.mem_cons, List.not_mem_nil, or_false] at ht
      rcases ht with rfl | rfl
      · exact (hf i (List.mem_range.1 hi)).1.2.1
      · exact (hf i (List.mem_range.1 hi)).1.2.2
    rcases hgo with hq | ⟨b, o, rfl, hq⟩
    · exact Or.inl hq
    · exact Or.inr ⟨b, o, rfl, hq⟩
set_option maxRecDepth 100000 in
theorem open_clauseP {H : Type} {enc : TypeId × Value → H} {W : World} {r : Reach} {b0 base : Nat} {spare : Nat → Bool} {held : Bool} {v : Value} {d : DataW H} {p : List MemPlace}
    (hv : Value.okWide Tryz.prog W r b0 30 v) (h : DataW.Trod enc Tryz.prog W base spare held 30 v d p) (hw : ∀ n ∈ d.weights Tryz.prog 30, n ≤ reachBytes) : ∃ c : Cm, v = c.v ∧ c.ok W ∧ TsP W c.head.2 c.head.1.args ∧ (∀ x ∈ c.body, TsP W x.2 x.1.args) ∧ AsP W c.bv c.body ∧ EsP W c.tv c.tests ∧ (Ck.terms c.key).length ≤ Rows.uptoBulk d ∧ ∀ t ∈ Ck.terms c.key, WfT t := by
  obtain ⟨cs, rfl, hsz⟩ := okWide_struct Tryz.underlying30 hv
  rw [Tryz.cellsClause] at hsz
  obtain ⟨fuel, hf⟩ := h
  obtain ⟨l⟩ := cs
  obtain ⟨c0, c1, c2, c3, c4, c5, c6, rfl⟩ := clist7 (by simpa using hsz)
  obtain ⟨y0, y1, y2, n, hd, -, h0, h1, h2⟩ := trod_struct3 Tryz.underlying30 hf
  simp only [Prod.mk.injEq] at hd
  have hd := hd.1
  subst hd
  rw [Tryz.cellsAtom] at h0
  rw [Tryz.cellsAtoms] at h1
  rw [Tryz.cellsTests] at h2
  have hwe : ∀ (j : Nat) (t : TypeId) (y : DataW H), [26, 27, 28][j]? = some t → [y0.1, y1.1, y2.1][j]? = some y → ∀ m ∈ y.weights Tryz.prog t, m ≤ reachBytes := fun j t y ht hy m hm => by
    refine hw m ?_
    rw [DataW.weights, Tryz.underlying30]
    exact DataW.weights_mem_each (j := j) ht hy m hm
  obtain ⟨x, e0, hx, b0, w0⟩ := atom_of_cellsP h0 (by simp [Value.cells]) (hwe 0 _ _ rfl rfl)
  obtain ⟨vb, lb, e1, hb, b1, w1⟩ := open_atomsP h1 (hwe 1 _ _ rfl rfl)
  obtain ⟨vt, lt, e2, ht, b2, w2⟩ := open_testsP h2 (hwe 2 _ _ rfl rfl)
  simp [Value.cells] at e0 e1 e2
  obtain ⟨rfl, rfl, rfl, rfl, rfl⟩ := e0
  subst e1 e2
  have ek : Ck.terms (Cm.key ⟨x, lb, c5, lt, c6⟩) = x.1.pl ++ ((fsts lb).flatMap At.pl ++ tls lt) := rfl
  refine ⟨⟨x, lb, _, lt, _⟩, rfl, ⟨hx.1, hb.1, ht.1⟩, hx.2, hb.2.2, hb.2.1, ht.2, ?_, fun t hm => ?_⟩
  · rw [ek, List.length_append, List.length_append]
    simp only [Rows.uptoBulk, Rows.uptoBulkAll]
    omega
  · rw [ek] at hm
    rcases List.mem_append.1 hm with hm | hm
    · exact w0 t hm
    · rcases List.mem_append.1 hm with hm | hm
      · exact w1 t hm
      · exact w2 t hm
theorem Tryz.gBT : Tryz.prog.globalNamed "hearsay/hearsayref03.behindTerm" = some 1 := by kernel_rfl
theorem Tryz.tBT : (Tryz.prog.globals[1]?).map (·.type) = some 23 := by kernel_rfl
theorem Tryz.gBE : Tryz.prog.globalNamed "hearsay/hearsayref03.behindTest" = some 0 := by kernel_rfl
theorem Tryz.tBE : (Tryz.prog.globals[0]?).map (·.type) = some 46 := by kernel_rfl
theorem terms_lits {H : Type} {enc : TypeId × Value → H} {W : World} {base : Nat} {spare : Nat → Bool} {held : Bool} {fuel : Nat} {cs : List Value} {x : DataW H × List MemPlace}
    (h : DataW.trod enc Tryz.prog W base spare held fuel 23 cs = some x) (hl : cs.length = 3) : ∃ t : Tm, cs = [.int .i64 t.k, .int .i64 t.n, .string t.s] ∧ x.1 = .agg [.lit (.int .i64 t.k), .lit (.int .i64 t.n), .lit (.string t.s.data.toList)] := by
  obtain ⟨c0, c1, c2, rfl⟩ := list3 hl
  obtain ⟨y0, y1, y2, n, hd, -, h0, h1, h2⟩ := trod_struct3 Tryz.underlying23 h
  rw [Tryz.cellsInt] at h0 h1
  rw [Tryz.cellsString] at h2
  obtain ⟨k, e0, f0, -⟩ := DataW.trod_int Tryz.underlying3 h0
  obtain ⟨m, e1, f1, -⟩ := DataW.trod_int Tryz.underlying3 h1
  obtain ⟨s, e2, f2, -⟩ := DataW.trod_string Tryz.underlying9 h2
  simp at e0 e1 e2
  subst e0 e1 e2
  refine ⟨⟨k, m, s⟩, rfl, ?_⟩
  rw [hd, f0, f1, f2]
theorem tests_lits {H : Type} {enc : TypeId × Value → H} {W : World} {base : Nat} {spare : Nat → Bool} {held : Bool} {fuel : Nat} {cs : List Value} {x : DataW H × List MemPlace}
    (hf : DataW.trod enc Tryz.prog W base spare held fuel 46 cs = some x) (hl : cs.length = 7) : ∃ t : Te, cs = [.int .i64 t.op, .int .i64 t.l.k, .int .i64 t.l.n, .string t.l.s, .int .i64 t.r.k, .int .i64 t.r.n, .string t.r.s] ∧ x.1 = .agg [.lit (.int .i64 t.op), .agg [.lit (.int .i64 t.l.k), .lit (.int .i64 t.l.n), .lit (.string t.l.s.data.toList)], .agg [.lit (.int .i64 t.r.k), .lit (.int .i64 t.r.n), .lit (.string t.r.s.data.toList)]] := by
  obtain ⟨c0, c1, c2, c3, c4, c5, c6, rfl⟩ := clist7 hl
  obtain ⟨y0, y1, y2, n, hd, -, h0, h1, h2⟩ := trod_struct3 Tryz.underlying46 hf
  rw [Tryz.cellsInt] at h0
  rw [Tryz.cellsTerm] at h1 h2
  obtain ⟨k, e0, f0, -⟩ := DataW.trod_int Tryz.underlying3 h0
  obtain ⟨t, e1, f1⟩ := terms_lits h1 (by simp)
  obtain ⟨u, e2, f2⟩ := terms_lits h2 (by simp)
  simp at e0 e1 e2
  subst e0
  obtain ⟨rfl, rfl, rfl⟩ := e1
  obtain ⟨rfl, rfl, rfl⟩ := e2
  refine ⟨⟨k, t, u⟩, rfl, ?_⟩
  rw [hd, f0, f1, f2]
set_option maxRecDepth 100000 in
theorem beh_of_laid {W : World} (h : laidMetH Tryz.prog [("hearsay/hearsayref03.behindTerm", Rows.laid_hearsay_hearsayref03_behindTerm), ("hearsay/hearsayref03.behindTest", Rows.laid_hearsay_hearsayref03_behindTest)] W) : BehOk W := by
  rw [MakeChecks.laidMetH_plain _ _ _ (by kernel_rfl)] at h
  obtain ⟨ps, ⟨g1, t1, cs1, f1, p1, q1, hg1, ht1, hv1, hd1, ⟨g0, t0, cs0, f0, p0, q0, hg0, ht0, hv0, hd0, _, _⟩, _⟩, _, _⟩ := h
  obtain rfl := Option.some.inj (Tryz.gBE.symm.trans hg0)
  obtain rfl := Option.some.inj (Tryz.tBE.symm.trans ht0)
  obtain rfl := Option.some.inj (Tryz.gBT.symm.trans hg1)
  obtain rfl := Option.some.inj (Tryz.tBT.symm.trans ht1)
  obtain ⟨y0, y1, y2, n, -, hl, -, -, -⟩ := trod_struct3 Tryz.underlying23 hd1
  rw [Tryz.cellsTerm] at hl
  obtain ⟨d, e, hx⟩ := terms_lits hd1 hl
  have hc : ∀ i, W.cell? ⟨1, i, none⟩ = d.cs[i]? := fun i => by
    have := World.var?_cell hg1 hv1 i
    rw [Tm.cs, ← e]; simpa using this
  simp only [Rows.laid_hearsay_hearsayref03_behindTerm, DataW.agg.injEq, List.cons.injEq, DataW.lit.injEq, Lit.int.injEq, Lit.string.injEq, true_and, and_true] at hx
  have hs : d.s = ⟨#[98, 101, 104, 105, 110, 100]⟩ := ByteArray.ext (Array.toList_inj.1 hx.2.2.symm)
  have h0 := hc 0; have h1 := hc 1; have h2 := hc 2
  simp only [Tm.cs, ← hx.1, ← hx.2.1, hs] at h0 h1 h2
  obtain ⟨z0, z1, z2, n', -, hl', -, -, -⟩ := trod_struct3 Tryz.underlying46 hd0
  rw [Tryz.cellsTest3] at hl'
  obtain ⟨d', e', hx'⟩ := tests_lits hd0 hl'
  have hc' : ∀ i, W.cell? ⟨0, i, none⟩ = (ecell d')[i]? := fun i => by
    have := World.var?_cell hg0 hv0 i
    rw [ecell, ← e']; simpa using this
  simp only [Rows.laid_hearsay_hearsayref03_behindTest, DataW.agg.injEq, List.cons.injEq, DataW.lit.injEq, Lit.int.injEq, Lit.string.injEq, true_and, and_true] at hx'
  have hs1 : d'.l.s = ⟨#[]⟩ := ByteArray.ext (Array.toList_inj.1 hx'.2.1.2.2.symm)
  have hs2 : d'.r.s = ⟨#[]⟩ := ByteArray.ext (Array.toList_inj.1 hx'.2.2.2.2.symm)
  have k0 := hc' 0; have k1 := hc' 1; have k2 := hc' 2; have k3 := hc' 3; have k4 := hc' 4; have k5 := hc' 5; have k6 := hc' 6
  simp only [ecell, ← hx'.1, ← hx'.2.1.1, ← hx'.2.1.2.1, ← hx'.2.2.1, ← hx'.2.2.2.1, hs1, hs2] at k0 k1 k2 k3 k4 k5 k6
  exact ⟨World.block_lt_of_cell? W _ h0, World.block_lt_of_cell? W _ k0, h0, h1, h2, k0, k1, k2, k3, k4, k5, k6⟩
end Go.Proofs.YtgbiicmkhlnniaaGreatDoor
