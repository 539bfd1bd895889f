import Derived.Test.YtelcoihmiglceaaGreatCL24
import Derived.Test.YtelcoihmiglceaaGreatMP1
import Derived.Test.YtelcoihmiglceaaGreatRows
namespace Go.Proofs.YtelcoihmiglceaaGreat
open Go.ChangeShapes Go.WideShapes Go.ChangeAt Go.RowKit Go.Joins Go.Deep

def WfT (t : Tm) : Prop := (Lit.int .i64 t.n).wf = true
theorem bulkN_pos {H : Type} (d : DataW H) : 1 <= Rows.uptoBulk d := by
 cases d with
 | lit l => cases l <;> simp [Rows.uptoBulk]
 | _ => simp [Rows.uptoBulk]
theorem bulkN_len {H : Type} (l : List (DataW H)) : l.length <= Rows.uptoBulkAll l := by
 induction l with
 | nil => simp
 | cons d r ih => have := bulkN_pos d; simp only [Rows.uptoBulkAll, List.length_cons]; omega
theorem bulkN_slice {H : Type} (l r : List (DataW H)) : l.length <= Rows.uptoBulk (.slice l r) := by
 have := bulkN_len l; simp only [Rows.uptoBulk]; omega
theorem bulkN_sum {H α : Type} (g : Nat -> List α) (D : Nat -> DataW H) : ∀ l : List Nat, (∀ i ∈ l, (g i).length <= Rows.uptoBulk (D i)) -> (l.flatMap g).length <= Rows.uptoBulkAll (l.map D)
 | [], _ => by simp
 | i :: l, h => by
  have h1 := h i (by simp)
  have h2 := bulkN_sum g D l fun j hj => h j (by simp [hj])
  rw [List.flatMap_cons, List.length_append, List.map_cons]
  simp only [Rows.uptoBulkAll]
  omega
set_option maxRecDepth 100000 in
theorem term_of_cellsB {H : Type} {enc : TypeId × Value -> H} {W : World} {base : Nat} {spare : Nat -> Bool} {held : Bool} {fuel : Nat} {cs : List Value} {x : DataW H × List MemPlace}
  (h : DataW.trod enc Tryz.prog W base spare held fuel 23 cs = some x) (hl : cs.length = 3) : ∃ t : Tm, cs = [.int .i64 t.k, .int .i64 t.n, .string t.s] /\ WfT t := by
 obtain ⟨c0, c1, c2, rfl⟩ := list3 hl
 obtain ⟨y0, y1, y2, n, -, -, h0, h1, h2⟩ := trod_struct3 Tryz.underlying23 h
 rw [Tryz.cellsInt] at h0 h1
 rw [Tryz.cellsString] at h2
 obtain ⟨k, e0, -, -⟩ := DataW.trod_int Tryz.underlying3 h0
 obtain ⟨m, e1, -, hwf⟩ := DataW.trod_int Tryz.underlying3 h1
 obtain ⟨s, e2, -, -⟩ := DataW.trod_string Tryz.underlying9 h2
 simp at e0 e1 e2
 subst e0 e1 e2
 exact ⟨⟨k, m, s⟩, rfl, hwf⟩
set_option maxRecDepth 100000 in
theorem open_termsB {H : Type} {enc : TypeId × Value -> H} {W : World} {base : Nat} {spare : Nat -> Bool} {held : Bool} {fuel : Nat} {cs : List Value} {x : DataW H × List MemPlace}
  (h : DataW.trod enc Tryz.prog W base spare held fuel 24 cs = some x) (hw : ∀ n ∈ x.1.weights Tryz.prog 24, n <= reachBytes) : ∃ v l, cs = [v] /\ Ts W v l /\ l.length <= Rows.uptoBulk x.1 /\ ∀ t ∈ l, WfT t := by
 rcases open_slice Tryz.underlying24 h with ⟨rfl, -⟩ | ⟨a, len, cap, m, n, D, Pl, rfl, hba, hlc, hcm, hm, hx, hel⟩
 ·exact ⟨_, [], rfl, ⟨none, 0, rfl, by simp, Or.inl rfl⟩, by simp, fun t ht => by cases ht⟩
 ·have hlen : len < 1000000000000000000 := by
   have := hw ((((List.range len).map D).length + ((List.range (m - len)).map fun j => D (len + j)).length) * Tryz.prog.bytesOf 23) (by rw [hx]; simp [DataW.weights, Tryz.underlying24])
   rw [Tryz.bytesTerm] at this
   simp only [List.length_map, List.length_range, reachBytes] at this
   omega
  rw [Tryz.cellsTerm] at hel
  have hlm : len <= m := by rw [hm]; split <;> omega
  have key : ∀ i : Nat, ∃ t : Tm, i < len -> WfT t /\ W.cell? (a.add (i * 3)) = some (.int .i64 t.k) /\ W.cell? ((a.add (i * 3)).add 1) = some (.int .i64 t.n) /\ W.cell? ((a.add (i * 3)).add 2) = some (.string t.s) := fun i => by
   by_cases hi : i < len
   ·obtain ⟨cs', h1, h2⟩ := hel i (by omega)
    obtain ⟨-, hl, hc⟩ := World.cells?_some h1
    obtain ⟨t, rfl, hwf⟩ := term_of_cellsB h2 hl
    exact ⟨t, fun _ => ⟨hwf, hc 0 (by omega), hc 1 (by omega), hc 2 (by omega)⟩⟩
   ·exact ⟨zt, fun h => absurd h hi⟩
  obtain ⟨f, hf⟩ := Classical.axiomOfChoice key
  refine ⟨_, (List.range len).map f, rfl, ⟨some a, cap, by simp, by simpa using hlen, ?_⟩, by rw [hx]; simpa using bulkN_slice ((List.range len).map D) _, fun t ht => by obtain ⟨i, hi, rfl⟩ := List.mem_map.1 ht; exact (hf i (List.mem_range.1 hi)).1⟩
  rcases Nat.eq_zero_or_pos len with h0 | h0
  ·left; subst h0; rfl
  ·right
   obtain ⟨b, off, spot⟩ := a
   have hspot : spot = none := by simpa [Addr.add] using World.cell?_spot (hf 0 h0).2.1
   subst hspot
   refine ⟨b, off, rfl, ?_, fun i t ht => ?_⟩
   ·exact World.block_lt_of_cell? W _ (by have := (hf 0 h0).2.1; simpa [Addr.add] using this)
   ·have hi : i < len := by have := (List.getElem?_eq_some_iff.1 ht).1; simpa using this
    have e : t = f i := by
     rw [List.getElem?_map, List.getElem?_range hi] at ht; simpa using ht.symm
    subst e
    have := (hf i hi).2
    rw [add_plain, add_plain, add_plain] at this
    exact this
set_option maxRecDepth 100000 in
theorem atom_of_cellsB {H : Type} {enc : TypeId × Value -> H} {W : World} {base : Nat} {spare : Nat -> Bool} {held : Bool} {fuel : Nat} {cs : List Value} {x : DataW H × List MemPlace}
  (hf : DataW.trod enc Tryz.prog W base spare held fuel 26 cs = some x) (hl : cs.length = 5) (hw : ∀ n ∈ x.1.weights Tryz.prog 26, n <= reachBytes) : ∃ a : At × Value, cs = [.int .i64 a.1.by_.k, .int .i64 a.1.by_.n, .string a.1.by_.s, .string a.1.name, a.2] /\ Ts W a.2 a.1.args /\ a.1.pl.length <= Rows.uptoBulk x.1 /\ ∀ t ∈ a.1.pl, WfT t := by
 obtain ⟨c0, c1, c2, c3, c4, rfl⟩ := list5 hl
 obtain ⟨y0, y1, y2, n, hd, -, h0, h1, h2⟩ := trod_struct3 Tryz.underlying26 hf
 rw [Tryz.cellsTerm] at h0
 rw [Tryz.cellsString] at h1
 rw [Tryz.cellsTerms] at h2
 obtain ⟨t, e0, ht⟩ := term_of_cellsB h0 (by simp)
 obtain ⟨s, e1, -, hs⟩ := DataW.trod_string Tryz.underlying9 h1
 obtain ⟨v, l, e2, hx, hbk, hwl⟩ := open_termsB h2 (fun m hm => by
  refine hw m ?_
  rw [hd, DataW.weights, Tryz.underlying26]
  exact DataW.weights_mem_each (j := 2) rfl rfl m hm)
 simp at e0 e1 e2
 obtain ⟨rfl, rfl, rfl⟩ := e0
 subst e1 e2
 refine ⟨(⟨t, s, l⟩, c4), rfl, hx, ?_, fun u hu => ?_⟩
 ·rw [hd]
  have := bulkN_pos y0.1
  simp only [Rows.uptoBulk, Rows.uptoBulkAll, At.pl, List.length_cons]
  omega
 ·rcases List.mem_cons.1 hu with rfl | hu
  ·exact ht
  ·exact hwl u hu
set_option maxRecDepth 100000 in
theorem test_of_cellsB {H : Type} {enc : TypeId × Value -> H} {W : World} {base : Nat} {spare : Nat -> Bool} {held : Bool} {fuel : Nat} {cs : List Value} {x : DataW H × List MemPlace}
  (hf : DataW.trod enc Tryz.prog W base spare held fuel 70 cs = some x) (hl : cs.length = 7) : ∃ t : Te, cs = [.int .i64 t.op, .int .i64 t.l.k, .int .i64 t.l.n, .string t.l.s, .int .i64 t.r.k, .int .i64 t.r.n, .string t.r.s] /\ 2 <= Rows.uptoBulk x.1 /\ WfT t.l /\ WfT t.r := by
 obtain ⟨c0, c1, c2, c3, c4, c5, c6, rfl⟩ := clist7 hl
 obtain ⟨y0, y1, y2, n, hd, -, h0, h1, h2⟩ := trod_struct3 Tryz.underlying70 hf
 rw [Tryz.cellsInt] at h0
 rw [Tryz.cellsTerm] at h1 h2
 obtain ⟨k, e0, -, -⟩ := DataW.trod_int Tryz.underlying3 h0
 obtain ⟨t, e1, w1⟩ := term_of_cellsB h1 (by simp)
 obtain ⟨u, e2, w2⟩ := term_of_cellsB h2 (by simp)
 simp at e0 e1 e2
 subst e0
 obtain ⟨rfl, rfl, rfl⟩ := e1
 obtain ⟨rfl, rfl, rfl⟩ := e2
 refine ⟨⟨k, t, u⟩, rfl, ?_, w1, w2⟩
 rw [hd]
 have := bulkN_pos y1.1
 have := bulkN_pos y2.1
 simp only [Rows.uptoBulk, Rows.uptoBulkAll]
 omega
set_option maxRecDepth 100000 in
theorem open_atomsB {H : Type} {enc : TypeId × Value -> H} {W : World} {base : Nat} {spare : Nat -> Bool} {held : Bool} {fuel : Nat} {cs : List Value} {x : DataW H × List MemPlace}
  (h : DataW.trod enc Tryz.prog W base spare held fuel 27 cs = some x) (hw : ∀ n ∈ x.1.weights Tryz.prog 27, n <= reachBytes) : ∃ v l, cs = [v] /\ As W v l /\ ((fsts l).flatMap At.pl).length <= Rows.uptoBulk x.1 /\ ∀ t ∈ (fsts l).flatMap At.pl, WfT t := by
 rcases open_slice Tryz.underlying27 h with ⟨rfl, -⟩ | ⟨a, len, cap, m, n, D, Pl, rfl, hba, hlc, hcm, hm, hx, hel⟩
 ·exact ⟨_, [], rfl, ⟨none, 0, rfl, by simp, Or.inl rfl, fun x hx => by cases hx⟩, by simp [fsts], fun t ht => by simp [fsts] at ht⟩
 ·have hlen : len < 1000000000000000000 := by
   have := hw ((((List.range len).map D).length + ((List.range (m - len)).map fun j => D (len + j)).length) * Tryz.prog.bytesOf 26) (by rw [hx]; simp [DataW.weights, Tryz.underlying27])
   rw [Tryz.bytesAtom] at this
   simp only [List.length_map, List.length_range, reachBytes] at this
   omega
  rw [Tryz.cellsAtom] at hel
  have hlm : len <= m := by rw [hm]; split <;> omega
  have key : ∀ i : Nat, ∃ t : At × Value, i < len -> (W.cell? (a.add (i * 5)) = some (.int .i64 t.1.by_.k) /\ W.cell? ((a.add (i * 5)).add 1) = some (.int .i64 t.1.by_.n) /\ W.cell? ((a.add (i * 5)).add 2) = some (.string t.1.by_.s) /\ W.cell? ((a.add (i * 5)).add 3) = some (.string t.1.name) /\ W.cell? ((a.add (i * 5)).add 4) = some t.2) /\ Ts W t.2 t.1.args /\ t.1.pl.length <= Rows.uptoBulk (D i) /\ ∀ u ∈ t.1.pl, WfT u := fun i => by
   by_cases hi : i < len
   ·obtain ⟨cs', h1, h2⟩ := hel i (by omega)
    obtain ⟨-, hl, hc⟩ := World.cells?_some h1
    obtain ⟨t, rfl, hts, hbk, hwf⟩ := atom_of_cellsB h2 hl (fun n hn => hw n (by
     rw [hx, DataW.weights, Tryz.underlying27]
     exact List.mem_cons_of_mem _ (List.mem_append.2 (Or.inl (weights_mem_all hn (List.mem_map.2 ⟨i, List.mem_range.2 hi, rfl⟩))))))
    exact ⟨t, fun _ => ⟨⟨hc 0 (by omega), hc 1 (by omega), hc 2 (by omega), hc 3 (by omega), hc 4 (by omega)⟩, hts, hbk, hwf⟩⟩
   ·exact ⟨(⟨zt, ⟨#[]⟩, []⟩, .slice none 0 0), fun h => absurd h hi⟩
  obtain ⟨f, hf⟩ := Classical.axiomOfChoice key
  have efl : (fsts ((List.range len).map f)).flatMap At.pl = (List.range len).flatMap fun i => (f i).1.pl := by simp [fsts, List.flatMap_map]
  refine ⟨_, (List.range len).map f, rfl, ⟨some a, cap, by simp, by simpa using hlen, ?_, fun x hx => ?_⟩, ?_, fun t ht => ?_⟩
  rotate_left 2
  ·rw [hx, efl]
   have := bulkN_sum (fun i => (f i).1.pl) D (List.range len) fun i hi => (hf i (List.mem_range.1 hi)).2.2.1
   simp only [Rows.uptoBulk]
   omega
  ·rw [efl] at ht
   obtain ⟨i, hi, ht⟩ := List.mem_flatMap.1 ht
   exact (hf i (List.mem_range.1 hi)).2.2.2 t ht
  ·rcases Nat.eq_zero_or_pos len with h0 | h0
   ·left; subst h0; rfl
   ·right
    obtain ⟨b, off, spot⟩ := a
    have hspot : spot = none := by simpa [Addr.add] using World.cell?_spot (hf 0 h0).1.1
    subst hspot
    refine ⟨b, off, rfl, ?_, fun i t ht => ?_⟩
    ·exact World.block_lt_of_cell? W _ (by have := (hf 0 h0).1.1; simpa [Addr.add] using this)
    ·have hi : i < len := by have := (List.getElem?_eq_some_iff.1 ht).1; simpa using this
     have e : t = f i := by
      rw [List.getElem?_map, List.getElem?_range hi] at ht; simpa using ht.symm
     subst e
     have := (hf i hi).1
     rw [add_plain, add_plain, add_plain, add_plain, add_plain] at this
     exact this
  ·obtain ⟨i, hi, rfl⟩ := List.mem_map.1 hx
   exact (hf i (List.mem_range.1 hi)).2.1
set_option maxRecDepth 100000 in
theorem open_testsB {H : Type} {enc : TypeId × Value -> H} {W : World} {base : Nat} {spare : Nat -> Bool} {held : Bool} {fuel : Nat} {cs : List Value} {x : DataW H × List MemPlace}
  (h : DataW.trod enc Tryz.prog W base spare held fuel 28 cs = some x) (hw : ∀ n ∈ x.1.weights Tryz.prog 28, n <= reachBytes) : ∃ v l, cs = [v] /\ Es W v l /\ (tls l).length <= Rows.uptoBulk x.1 /\ ∀ t ∈ tls l, WfT t := by
 rcases open_slice Tryz.underlying28 h with ⟨rfl, -⟩ | ⟨a, len, cap, m, n, D, Pl, rfl, hba, hlc, hcm, hm, hx, hel⟩
 ·exact ⟨_, [], rfl, ⟨none, 0, rfl, by simp, Or.inl rfl⟩, by simp [tls], fun t ht => by simp [tls] at ht⟩
 ·have hlen : len < 1000000000000000000 := by
   have := hw ((((List.range len).map D).length + ((List.range (m - len)).map fun j => D (len + j)).length) * Tryz.prog.bytesOf 70) (by rw [hx]; simp [DataW.weights, Tryz.underlying28])
   rw [Tryz.bytesTest] at this
   simp only [List.length_map, List.length_range, reachBytes] at this
   omega
  rw [Tryz.cellsTest3] at hel
  have hlm : len <= m := by rw [hm]; split <;> omega
  have key : ∀ i : Nat, ∃ t : Te, i < len -> (2 <= Rows.uptoBulk (D i) /\ WfT t.l /\ WfT t.r) /\ W.cell? (a.add (i * 7)) = some (.int .i64 t.op) /\ W.cell? ((a.add (i * 7)).add 1) = some (.int .i64 t.l.k) /\ W.cell? ((a.add (i * 7)).add 2) = some (.int .i64 t.l.n) /\ W.cell? ((a.add (i * 7)).add 3) = some (.string t.l.s) /\ W.cell? ((a.add (i * 7)).add 4) = some (.int .i64 t.r.k) /\ W.cell? ((a.add (i * 7)).add 5) = some (.int .i64 t.r.n) /\ W.cell? ((a.add (i * 7)).add 6) = some (.string t.r.s) := fun i => by
   by_cases hi : i < len
   ·obtain ⟨cs', h1, h2⟩ := hel i (by omega)
    obtain ⟨-, hl, hc⟩ := World.cells?_some h1
    obtain ⟨t, rfl, hbk⟩ := test_of_cellsB h2 hl
    exact ⟨t, fun _ => ⟨hbk, hc 0 (by omega), hc 1 (by omega), hc 2 (by omega), hc 3 (by omega), hc 4 (by omega), hc 5 (by omega), hc 6 (by omega)⟩⟩
   ·exact ⟨⟨0, zt, zt⟩, fun h => absurd h hi⟩
  obtain ⟨f, hf⟩ := Classical.axiomOfChoice key
  have efl : tls ((List.range len).map f) = (List.range len).flatMap fun i => [(f i).l, (f i).r] := by simp [tls, List.flatMap_map]
  refine ⟨_, (List.range len).map f, rfl, ⟨some a, cap, by simp, by simpa using hlen, ?_⟩, ?_, fun t ht => ?_⟩
  rotate_left 1
  ·rw [hx, efl]
   have := bulkN_sum (fun i => [(f i).l, (f i).r]) D (List.range len) fun i hi => (hf i (List.mem_range.1 hi)).1.1
   simp only [Rows.uptoBulk]
   omega
  ·rw [efl] at ht
   obtain ⟨i, hi, ht⟩ := List.mem_flatMap.1 ht
   simp only [List.mem_cons, List.not_mem_nil, or_false] at ht
   rcases ht with rfl | rfl
   ·exact (hf i (List.mem_range.1 hi)).1.2.1
   ·exact (hf i (List.mem_range.1 hi)).1.2.2
  rcases Nat.eq_zero_or_pos len with h0 | h0
  ·left; subst h0; rfl
  ·right
   obtain ⟨b, off, spot⟩ := a
   have hspot : spot = none := by simpa [Addr.add] using World.cell?_spot (hf 0 h0).2.1
   subst hspot
   refine ⟨b, off, rfl, ?_, fun i t ht => ?_⟩
   ·exact World.block_lt_of_cell? W _ (by have := (hf 0 h0).2.1; simpa [Addr.add] using this)
   ·have hi : i < len := by have := (List.getElem?_eq_some_iff.1 ht).1; simpa using this
    have e : t = f i := by
     rw [List.getElem?_map, List.getElem?_range hi] at ht; simpa using ht.symm
    subst e
    have := (hf i hi).2
    rw [add_plain, add_plain, add_plain, add_plain, add_plain, add_plain, add_plain] at this
    exact this
end Go.Proofs.YtelcoihmiglceaaGreat
