/-
  law 8: what comes in, opened. (Written by EG8.py.)
-/
import Derived.Test.YtechceagghcipaaGreatEG7
import Derived.Test.YtechceagghcipaaGreatRows
import Derived.Deep.Slices
import Derived.Deep.Strs
import Derived.SizedLaws
import Derived.ChangeSame
import Derived.ChangeSlices
import Derived.ProofKit
import Derived.OpenShut
import Derived.ShutString
import Derived.ChangeOld
import Derived.Below
import Derived.Lib.SmallJoins
import Derived.ChangeMaps5
namespace Go.Proofs.YtechceagghcipaaGreat
open Go.ChangeShapes Go.WideShapes Go.ChangeAt Go.RowKit Go.Joins Go.Deep

theorem list3 {α : Type} {l : List α} (h : l.length = 3) : ∃ a b c, l = [a, b, c] := by
  match l, h with
  | [a, b, c], _ => exact ⟨a, b, c, rfl⟩
theorem list5 {α : Type} {l : List α} (h : l.length = 5) : ∃ a b c d e, l = [a, b, c, d, e] := by
  match l, h with
  | [a, b, c, d, e], _ => exact ⟨a, b, c, d, e, rfl⟩
theorem Tryz.cellsInt : Tryz.prog.cellsOf 3 = 1 := by kernel_rfl
theorem Tryz.cellsString : Tryz.prog.cellsOf 9 = 1 := by kernel_rfl
theorem Tryz.cellsTerms : Tryz.prog.cellsOf 32 = 1 := by kernel_rfl
theorem Tryz.cellsAtom : Tryz.prog.cellsOf 34 = 5 := by kernel_rfl
theorem Tryz.bytesTerm : Tryz.prog.bytesOf 31 = 32 := by kernel_rfl
theorem weights_mem_all {H : Type} {P : Program} {e : TypeId} {d : DataW H} {n : Nat} (hn : n ∈ d.weights P e) : ∀ {ds : List (DataW H)}, d ∈ ds → n ∈ DataW.weightsAll P e ds
  | x :: r, h => by
    rw [DataW.weightsAll, List.mem_append]
    rcases List.mem_cons.1 h with rfl | h
    · exact Or.inl hn
    · exact Or.inr (weights_mem_all hn h)
theorem Tryz.bytesAtom : Tryz.prog.bytesOf 34 = 72 := by kernel_rfl
theorem bulkN_pos {H : Type} (d : DataW H) : 1 ≤ Rows.uptoBulk d := by
  cases d with
  | lit l => cases l <;> simp [Rows.uptoBulk]
  | _ => simp [Rows.uptoBulk]
theorem bulkN_len {H : Type} (l : List (DataW H)) : l.length ≤ Rows.uptoBulkAll l := by
  induction l with
  | nil => simp
  | cons d r ih => have := bulkN_pos d; simp only [Rows.uptoBulkAll, List.length_cons]; omega
theorem bulkN_slice {H : Type} (l r : List (DataW H)) : l.length ≤ Rows.uptoBulk (.slice l r) := by
  have := bulkN_len l; simp only [Rows.uptoBulk]; omega
theorem bulkN_sum {H α : Type} (g : Nat → List α) (D : Nat → DataW H) : ∀ l : List Nat, (∀ i ∈ l, (g i).length ≤ Rows.uptoBulk (D i)) → (l.flatMap g).length ≤ Rows.uptoBulkAll (l.map D)
  | [], _ => by simp
  | i :: l, h => by
    have h1 := h i (by simp)
    have h2 := bulkN_sum g D l fun j hj => h j (by simp [hj])
    rw [List.flatMap_cons, List.length_append, List.map_cons]
    simp only [Rows.uptoBulkAll]
    omega
theorem bulk7_pos {H : Type} (d : DataW H) : 1 ≤ Rows.uptoBulk d := by
  cases d with
  | lit l => cases l <;> simp [Rows.uptoBulk]
  | _ => simp [Rows.uptoBulk]
theorem bulk7_len {H : Type} (l : List (DataW H)) : l.length ≤ Rows.uptoBulkAll l := by
  induction l with
  | nil => simp
  | cons d r ih => have := bulk7_pos d; simp only [Rows.uptoBulkAll, List.length_cons]; omega
theorem bulk7_slice {H : Type} (l r : List (DataW H)) : l.length ≤ Rows.uptoBulk (.slice l r) := by
  have := bulk7_len l; simp only [Rows.uptoBulk]; omega
theorem bulk7_sum {H : Type} (g : Nat → Nat) (D : Nat → DataW H) : ∀ l : List Nat, (∀ i ∈ l, g i ≤ Rows.uptoBulk (D i)) → (l.map g).sum ≤ Rows.uptoBulkAll (l.map D)
  | [], _ => by simp
  | i :: l, h => by
    have h1 := h i (by simp)
    have h2 := bulk7_sum g D l fun j hj => h j (by simp [hj])
    rw [List.map_cons, List.map_cons, List.sum_cons]
    simp only [Rows.uptoBulkAll]
    omega
theorem Tryz.cellsInt7 : Tryz.prog.cellsOf 3 = 1 := by kernel_rfl
theorem open_li7 {H : Type} {enc : TypeId × Value → H} {W : World} {base fuel : Nat} {spare : Nat → Bool} {held : Bool} {cs : List Value} {x : DataW H × List MemPlace}
    (h : DataW.trod enc Tryz.prog W base spare held fuel 53 cs = some x) : ∃ v l, cs = [v] ∧ Li Any W v l := by
  rcases open_ints Tryz.underlying53 Tryz.underlying3 Tryz.cellsInt7 h with ⟨rfl, -⟩ | ⟨a, n, c, zs, rfl, -, hl, hcm, hzl, hx, hcell, hwf⟩
  · exact ⟨_, [], rfl, Li.nil _ _⟩
  · have hz : n ≤ zs.length := by rw [hzl]; split <;> omega
    have htl : (zs.take n).length = n := by rw [List.length_take]; omega
    refine ⟨_, zs.take n, rfl, ⟨some a, c, by rw [htl], by omega, by unfold maxLen at hcm; omega, fun m hm => hwf m (List.mem_of_mem_take hm), ?_⟩⟩
    rcases Nat.eq_zero_or_pos n with h0 | h0
    · left; rw [h0]; exact ⟨rfl, fun e => by cases e⟩
    · right
      obtain ⟨b, o, spot⟩ := a
      have c0 := hcell 0 (by omega)
      have hspot : spot = none := by simpa [Addr.add] using World.cell?_spot c0
      subst hspot
      refine ⟨b, o, rfl, World.block_lt_of_cell? W _ c0, trivial, fun i x hi => ?_⟩
      have hil : i < n := by have := (List.getElem?_eq_some_iff.1 hi).1; omega
      have hc := hcell i (by omega)
      rw [Addr.add_mid] at hc
      rw [hc]
      rw [List.getElem?_take_of_lt hil] at hi
      simp [List.getD, hi]
theorem open_li8 {H : Type} {enc : TypeId × Value → H} {W : World} {base fuel : Nat} {spare : Nat → Bool} {held : Bool} {cs : List Value} {x : DataW H × List MemPlace}
    (h : DataW.trod enc Tryz.prog W base spare held fuel 53 cs = some x) : ∃ v l, cs = [v] ∧ Li Any W v l ∧ l.length ≤ Rows.uptoBulk x.1 := by
  obtain ⟨v, l, hcs, hli⟩ := open_li7 h
  refine ⟨v, l, hcs, hli, ?_⟩
  rcases open_ints Tryz.underlying53 Tryz.underlying3 Tryz.cellsInt7 h with ⟨h1, rfl⟩ | ⟨a, n, c, zs, h1, -, hl, hcm, hzl, rfl, hcell, hwf⟩
  · rw [hcs] at h1
    obtain ⟨a', cap, e, -⟩ := hli
    simp [e] at h1
    simp [h1.2.1]
  · rw [hcs] at h1
    obtain ⟨a', cap, e, -⟩ := hli
    simp [e] at h1
    have hz : n ≤ zs.length := by rw [hzl]; split <;> omega
    have h2 := bulk7_slice (H := H) (lits .i64 (zs.take n)) (lits .i64 (zs.drop n))
    have h3 : (lits (H := H) .i64 (zs.take n)).length = n := by unfold lits; rw [List.length_map, List.length_take]; omega
    rw [h3] at h2
    rw [h1.2.1]
    exact h2
theorem open_list7 {H α : Type} {enc : TypeId × Value → H} {W : World} {base fuel : Nat} {spare : Nat → Bool} {held : Bool} {cs : List Value} {x : DataW H × List MemPlace} {T e : TypeId} (hT : Tryz.prog.underlying T = some (.slice e)) (hce : Tryz.prog.cellsOf e = 1)
    (z : α × Value) (Ok : α × Value → Prop) (sz : α → Nat) (hel : ∀ (n : Nat) (cs' : List Value) (y : DataW H × List MemPlace), DataW.trod enc Tryz.prog W base spare held n e cs' = some y → cs'.length = 1 → ∃ p : α × Value, cs' = [p.2] ∧ Ok p ∧ sz p.1 ≤ Rows.uptoBulk y.1)
    (h : DataW.trod enc Tryz.prog W base spare held fuel T cs = some x) :
    ∃ (v : Value) (P : List (α × Value)), cs = [v] ∧ (∃ a cap, v = .slice a P.length cap ∧ (P = [] ∨ ∃ b o, a = some ⟨b, o, none⟩ ∧ b < W.heap.size ∧ ∀ (i : Nat) p, P[i]? = some p → W.cell? ⟨b, o + i, none⟩ = some p.2) ∧ ∀ p ∈ P, Ok p) ∧ P.length ≤ Rows.uptoBulk x.1 ∧ (P.map fun p => sz p.1).sum ≤ Rows.uptoBulk x.1 := by
  rcases open_slice hT h with ⟨rfl, -⟩ | ⟨a, len, cap, m, n, D, Pl, rfl, hba, hlc, hcm, hm, hx, hel'⟩
  · exact ⟨_, [], rfl, ⟨none, 0, rfl, Or.inl rfl, fun p hp => by simp at hp⟩, by simp, by simp⟩
  · rw [hce] at hel'
    have hlm : len ≤ m := by rw [hm]; split <;> omega
    have key : ∀ i : Nat, ∃ c : α × Value, i < len → W.cell? (a.add i) = some c.2 ∧ Ok c ∧ sz c.1 ≤ Rows.uptoBulk (D i) := fun i => by
      by_cases hi : i < len
      · obtain ⟨cs', h1, h2⟩ := hel' i (by omega)
        obtain ⟨-, hl, hc⟩ := World.cells?_some h1
        obtain ⟨c, rfl, hok, hbk⟩ := hel n cs' _ h2 hl
        refine ⟨c, fun _ => ⟨?_, hok, hbk⟩⟩
        have := hc 0 (by simp)
        rw [Nat.mul_one] at this
        simpa [Addr.add] using this
      · exact ⟨z, fun h => absurd h hi⟩
    obtain ⟨f, hf⟩ := Classical.axiomOfChoice key
    refine ⟨_, (List.range len).map f, rfl, ⟨some a, cap, by simp, ?_, fun c hc => ?_⟩, by rw [hx]; simpa using bulk7_slice ((List.range len).map D) _, ?_⟩
    · rcases Nat.eq_zero_or_pos len with h0 | h0
      · left; subst h0; rfl
      · right
        obtain ⟨b, off, spot⟩ := a
        have h00 := (hf 0 h0).1
        have hspot : spot = none := by simpa [Addr.add] using World.cell?_spot h00
        subst hspot
        refine ⟨b, off, rfl, World.block_lt_of_cell? W _ (by simpa [Addr.add] using h00), fun i c hc => ?_⟩
        have hi : i < len := by have := (List.getElem?_eq_some_iff.1 hc).1; simpa using this
        have e : c = f i := by
          rw [List.getElem?_map, List.getElem?_range hi] at hc; simpa using hc.symm
        subst e
        have := (hf i hi).1
        rw [add_plain] at this
        exact this
    · obtain ⟨i, hi, rfl⟩ := List.mem_map.1 hc
      exact (hf i (List.mem_range.1 hi)).2.1
    · have h1 := bulk7_sum (fun i => sz (f i).1) D (List.range len) fun i hi => (hf i (List.mem_range.1 hi)).2.2
      rw [List.map_map]
      rw [hx]
      simp only [Rows.uptoBulk]
      have e : (fun p : α × Value => sz p.1) ∘ f = fun i => sz (f i).1 := rfl
      rw [e]
      omega
theorem term_of_cellsY {H : Type} {enc : TypeId × Value → H} {W : World} {base : Nat} {spare : Nat → Bool} {held : Bool} {fuel : Nat} {cs : List Value} {x : DataW H × List MemPlace}
    (h : DataW.trod enc Tryz.prog W base spare held fuel 31 cs = some x) (hl : cs.length = 3) : ∃ t : Tm, cs = [.int .i64 t.k, .int .i64 t.n, .string t.s] ∧ KeyT t := by
  obtain ⟨c0, c1, c2, rfl⟩ := list3 hl
  obtain ⟨y0, y1, y2, n, -, -, h0, h1, h2⟩ := trod_struct3 Tryz.underlying31 h
  rw [Tryz.cellsInt] at h0 h1
  rw [Tryz.cellsString] at h2
  obtain ⟨k, e0, -, hwk⟩ := DataW.trod_int Tryz.underlying3 h0
  obtain ⟨m, e1, -, hwn⟩ := DataW.trod_int Tryz.underlying3 h1
  obtain ⟨s, e2, -, hwf⟩ := DataW.trod_string Tryz.underlying9 h2
  simp at e0 e1 e2
  subst e0 e1 e2
  exact ⟨⟨k, m, s⟩, rfl, hwk, hwn, hwf⟩
set_option maxRecDepth 100000 in
theorem open_termsY {H : Type} {enc : TypeId × Value → H} {W : World} {base : Nat} {spare : Nat → Bool} {held : Bool} {fuel : Nat} {cs : List Value} {x : DataW H × List MemPlace}
    (h : DataW.trod enc Tryz.prog W base spare held fuel 32 cs = some x) (hw : ∀ n ∈ x.1.weights Tryz.prog 32, n ≤ reachBytes) : ∃ v l, cs = [v] ∧ (Ts W v l ∧ TsP W v l) ∧ l.length ≤ Rows.uptoBulk x.1 ∧ ∀ t ∈ l, KeyT t := by
  rcases open_slice Tryz.underlying32 h with ⟨rfl, -⟩ | ⟨a, len, cap, m, n, D, Pl, rfl, hba, hlc, hcm, hm, hx, hel⟩
  · exact ⟨_, [], rfl, ⟨⟨none, 0, rfl, by simp, Or.inl rfl⟩, Or.inl ⟨rfl, rfl⟩⟩, by simp, fun t ht => by cases ht⟩
  · have hlen : len < 1000000000000000000 := by
      have := hw ((((List.range len).map D).length + ((List.range (m - len)).map fun j => D (len + j)).length) * Tryz.prog.bytesOf 31) (by rw [hx]; simp [DataW.weights, Tryz.underlying32])
      rw [Tryz.bytesTerm] at this
      simp only [List.length_map, List.length_range, reachBytes] at this
      omega
    rw [Tryz.cellsTerm] at hel
    have hlm : len ≤ m := by rw [hm]; split <;> omega
    have key : ∀ i : Nat, ∃ t : Tm, i < len → KeyT t ∧ W.cell? (a.add (i * 3)) = some (.int .i64 t.k) ∧ W.cell? ((a.add (i * 3)).add 1) = some (.int .i64 t.n) ∧ W.cell? ((a.add (i * 3)).add 2) = some (.string t.s) := fun i => by
      by_cases hi : i < len
      · obtain ⟨cs', h1, h2⟩ := hel i (by omega)
        obtain ⟨-, hl, hc⟩ := World.cells?_some h1
        obtain ⟨t, rfl, hwf⟩ := term_of_cellsY h2 hl
        exact ⟨t, fun _ => ⟨hwf, hc 0 (by omega), hc 1 (by omega), hc 2 (by omega)⟩⟩
      · exact ⟨zt, fun h => absurd h hi⟩
    obtain ⟨f, hf⟩ := Classical.axiomOfChoice key
    have hgo : (List.range len).map f = [] ∨ ∃ b o, a = ⟨b, o, none⟩ ∧ TRow W b o ((List.range len).map f) := by
      rcases Nat.eq_zero_or_pos len with h0 | h0
      · left; subst h0; rfl
      · right
        obtain ⟨b, off, spot⟩ := a
        have hspot : spot = none := by simpa [Addr.add] using World.cell?_spot (hf 0 h0).2.1
        subst hspot
        refine ⟨b, off, rfl, ?_, fun i t ht => ?_⟩
        · exact World.block_lt_of_cell? W _ (by have := (hf 0 h0).2.1; simpa [Addr.add] using this)
        · have hi : i < len := by have := (List.getElem?_eq_some_iff.1 ht).1; simpa using this
          have e : t = f i := by
            rw [List.getElem?_map, List.getElem?_range hi] at ht; simpa using ht.symm
          subst e
          have := (hf i hi).2
          rw [add_plain, add_plain, add_plain] at this
          exact this
    refine ⟨_, (List.range len).map f, rfl, ⟨⟨some a, cap, by simp, by simpa using hlen, ?_⟩, Or.inr ⟨a, cap, by simp, hgo⟩⟩, by rw [hx]; simpa using bulkN_slice ((List.range len).map D) _, fun t ht => by obtain ⟨i, hi, rfl⟩ := List.mem_map.1 ht; exact (hf i (List.mem_range.1 hi)).1⟩
    rcases hgo with hq | ⟨b, o, rfl, hq⟩
    · exact Or.inl hq
    · exact Or.inr ⟨b, o, rfl, hq⟩
set_option maxRecDepth 100000 in
theorem atom_of_cellsY {H : Type} {enc : TypeId × Value → H} {W : World} {base : Nat} {spare : Nat → Bool} {held : Bool} {fuel : Nat} {cs : List Value} {x : DataW H × List MemPlace}
    (hf : DataW.trod enc Tryz.prog W base spare held fuel 34 cs = some x) (hl : cs.length = 5) (hw : ∀ n ∈ x.1.weights Tryz.prog 34, n ≤ reachBytes) : ∃ a : At × Value, cs = [.int .i64 a.1.by_.k, .int .i64 a.1.by_.n, .string a.1.by_.s, .string a.1.name, a.2] ∧ (Ts W a.2 a.1.args ∧ TsP W a.2 a.1.args) ∧ a.1.pl.length ≤ Rows.uptoBulk x.1 ∧ (∀ t ∈ a.1.pl, KeyT t) ∧ a.1.name.size ≤ maxLen := by
  obtain ⟨c0, c1, c2, c3, c4, rfl⟩ := list5 hl
  obtain ⟨y0, y1, y2, n, hd, -, h0, h1, h2⟩ := trod_struct3 Tryz.underlying34 hf
  rw [Tryz.cellsTerm] at h0
  rw [Tryz.cellsString] at h1
  rw [Tryz.cellsTerms] at h2
  obtain ⟨t, e0, ht⟩ := term_of_cellsY h0 (by simp)
  obtain ⟨s, e1, -, hs⟩ := DataW.trod_string Tryz.underlying9 h1
  obtain ⟨v, l, e2, hx, hbk, hwl⟩ := open_termsY h2 (fun m hm => by
    refine hw m ?_
    rw [hd, DataW.weights, Tryz.underlying34]
    exact DataW.weights_mem_each (j := 2) rfl rfl m hm)
  simp at e0 e1 e2
  obtain ⟨rfl, rfl, rfl⟩ := e0
  subst e1 e2
  refine ⟨(⟨t, s, l⟩, c4), rfl, hx, ?_, fun u hu => ?_, hs⟩
  · rw [hd]
    have := bulkN_pos y0.1
    simp only [Rows.uptoBulk, Rows.uptoBulkAll, At.pl, List.length_cons]
    omega
  · rcases List.mem_cons.1 hu with rfl | hu
    · exact ht
    · exact hwl u hu
set_option maxRecDepth 100000 in
theorem open_atomsY {H : Type} {enc : TypeId × Value → H} {W : World} {base : Nat} {spare : Nat → Bool} {held : Bool} {fuel : Nat} {cs : List Value} {x : DataW H × List MemPlace}
    (h : DataW.trod enc Tryz.prog W base spare held fuel 27 cs = some x) (hw : ∀ n ∈ x.1.weights Tryz.prog 27, n ≤ reachBytes) : ∃ v l, cs = [v] ∧ (As W v l ∧ ∀ x ∈ l, TsP W x.2 x.1.args) ∧ ((fsts l).flatMap At.pl).length ≤ Rows.uptoBulk x.1 ∧ (∀ t ∈ (fsts l).flatMap At.pl, KeyT t) ∧ ∀ x ∈ l, x.1.name.size ≤ maxLen := by
  rcases open_slice Tryz.underlying27 h with ⟨rfl, -⟩ | ⟨a, len, cap, m, n, D, Pl, rfl, hba, hlc, hcm, hm, hx, hel⟩
  · exact ⟨_, [], rfl, ⟨⟨none, 0, rfl, by simp, Or.inl rfl, fun x hx => by cases hx⟩, fun x hx => by cases hx⟩, by simp [fsts], fun t ht => by simp [fsts] at ht, fun x hx => by cases hx⟩
  · have hlen : len < 1000000000000000000 := by
      have := hw ((((List.range len).map D).length + ((List.range (m - len)).map fun j => D (len + j)).length) * Tryz.prog.bytesOf 34) (by rw [hx]; simp [DataW.weights, Tryz.underlying27])
      rw [Tryz.bytesAtom] at this
      simp only [List.length_map, List.length_range, reachBytes] at this
      omega
    rw [Tryz.cellsAtom] at hel
    have hlm : len ≤ m := by rw [hm]; split <;> omega
    have key : ∀ i : Nat, ∃ t : At × Value, i < len → (W.cell? (a.add (i * 5)) = some (.int .i64 t.1.by_.k) ∧ W.cell? ((a.add (i * 5)).add 1) = some (.int .i64 t.1.by_.n) ∧ W.cell? ((a.add (i * 5)).add 2) = some (.string t.1.by_.s) ∧ W.cell? ((a.add (i * 5)).add 3) = some (.string t.1.name) ∧ W.cell? ((a.add (i * 5)).add 4) = some t.2) ∧ (Ts W t.2 t.1.args ∧ TsP W t.2 t.1.args) ∧ t.1.pl.length ≤ Rows.uptoBulk (D i) ∧ (∀ u ∈ t.1.pl, KeyT u) ∧ t.1.name.size ≤ maxLen := fun i => by
      by_cases hi : i < len
      · obtain ⟨cs', h1, h2⟩ := hel i (by omega)
        obtain ⟨-, hl, hc⟩ := World.cells?_some h1
        obtain ⟨t, rfl, hts, hbk, hwf⟩ := atom_of_cellsY h2 hl (fun n hn => hw n (by
          rw [hx, DataW.weights, Tryz.underlying27]
          exact List.mem_cons_of_mem _ (List.mem_append.2 (Or.inl (weights_mem_all hn (List.mem_map.2 ⟨i, List.mem_range.2 hi, rfl⟩))))))
        exact ⟨t, fun _ => ⟨⟨hc 0 (by omega), hc 1 (by omega), hc 2 (by omega), hc 3 (by omega), hc 4 (by omega)⟩, hts, hbk, hwf⟩⟩
      · exact ⟨(⟨zt, ⟨#[]⟩, []⟩, .slice none 0 0), fun h => absurd h hi⟩
    obtain ⟨f, hf⟩ := Classical.axiomOfChoice key
    have efl : (fsts ((List.range len).map f)).flatMap At.pl = (List.range len).flatMap fun i => (f i).1.pl := by simp [fsts, List.flatMap_map]
    have hgo : (List.range len).map f = [] ∨ ∃ b o, a = ⟨b, o, none⟩ ∧ ARow W b o ((List.range len).map f) := by
      rcases Nat.eq_zero_or_pos len with h0 | h0
      · left; subst h0; rfl
      · right
        obtain ⟨b, off, spot⟩ := a
        have hspot : spot = none := by simpa [Addr.add] using World.cell?_spot (hf 0 h0).1.1
        subst hspot
        refine ⟨b, off, rfl, ?_, fun i t ht => ?_⟩
        · exact World.block_lt_of_cell? W _ (by have := (hf 0 h0).1.1; simpa [Addr.add] using this)
        · have hi : i < len := by have := (List.getElem?_eq_some_iff.1 ht).1; simpa using this
          have e : t = f i := by
            rw [List.getElem?_map, List.getElem?_range hi] at ht; simpa using ht.symm
          subst e
          have := (hf i hi).1
          rw [add_plain, add_plain, add_plain, add_plain, add_plain] at this
          exact this
    refine ⟨_, (List.range len).map f, rfl, ⟨⟨some a, cap, by simp, by simpa using hlen, ?_, fun x hx => ?_⟩, fun x hx => ?_⟩, ?_, fun t ht => ?_, fun x hx => ?_⟩
    rotate_left 3
    · rw [hx, efl]
      have := bulkN_sum (fun i => (f i).1.pl) D (List.range len) fun i hi => (hf i (List.mem_range.1 hi)).2.2.1
      simp only [Rows.uptoBulk]
      omega
    · rw [efl] at ht
      obtain ⟨i, hi, ht⟩ := List.mem_flatMap.1 ht
      exact (hf i (List.mem_range.1 hi)).2.2.2.1 t ht
    · obtain ⟨i, hi, rfl⟩ := List.mem_map.1 hx
      exact (hf i (List.mem_range.1 hi)).2.2.2.2
    · rcases hgo with hq | ⟨b, o, rfl, hq⟩
      · exact Or.inl hq
      · exact Or.inr ⟨b, o, rfl, hq⟩
    · obtain ⟨i, hi, rfl⟩ := List.mem_map.1 hx
      exact (hf i (List.mem_range.1 hi)).2.1.1
    · obtain ⟨i, hi, rfl⟩ := List.mem_map.1 hx
      exact (hf i (List.mem_range.1 hi)).2.1.2
theorem open_list8 {H α : Type} {enc : TypeId × Value → H} {W : World} {base fuel : Nat} {spare : Nat → Bool} {held : Bool} {cs : List Value} {x : DataW H × List MemPlace} {T e : TypeId} (hT : Tryz.prog.underlying T = some (.slice e)) (hce : Tryz.prog.cellsOf e = 1)
    (z : α × Value) (Ok : α × Value → Prop) (sz : α → Nat) (hel : ∀ (n : Nat) (cs' : List Value) (y : DataW H × List MemPlace), DataW.trod enc Tryz.prog W base spare held n e cs' = some y → cs'.length = 1 → (∀ m ∈ y.1.weights Tryz.prog e, m ≤ reachBytes) → ∃ p : α × Value, cs' = [p.2] ∧ Ok p ∧ sz p.1 ≤ Rows.uptoBulk y.1)
    (h : DataW.trod enc Tryz.prog W base spare held fuel T cs = some x) (hw : ∀ n ∈ x.1.weights Tryz.prog T, n ≤ reachBytes) :
    ∃ (v : Value) (P : List (α × Value)), cs = [v] ∧ (∃ a cap, v = .slice a P.length cap ∧ (P = [] ∨ ∃ b o, a = some ⟨b, o, none⟩ ∧ b < W.heap.size ∧ ∀ (i : Nat) p, P[i]? = some p → W.cell? ⟨b, o + i, none⟩ = some p.2) ∧ ∀ p ∈ P, Ok p) ∧ P.length ≤ Rows.uptoBulk x.1 ∧ (P.map fun p => sz p.1).sum ≤ Rows.uptoBulk x.1 := by
  rcases open_slice hT h with ⟨rfl, -⟩ | ⟨a, len, cap, m, n, D, Pl, rfl, hba, hlc, hcm, hm, hx, hel'⟩
  · exact ⟨_, [], rfl, ⟨none, 0, rfl, Or.inl rfl, fun p hp => by simp at hp⟩, by simp, by simp⟩
  · rw [hce] at hel'
    have hlm : len ≤ m := by rw [hm]; split <;> omega
    have key : ∀ i : Nat, ∃ c : α × Value, i < len → W.cell? (a.add i) = some c.2 ∧ Ok c ∧ sz c.1 ≤ Rows.uptoBulk (D i) := fun i => by
      by_cases hi : i < len
      · obtain ⟨cs', h1, h2⟩ := hel' i (by omega)
        obtain ⟨-, hl, hc⟩ := World.cells?_some h1
        obtain ⟨c, rfl, hok, hbk⟩ := hel n cs' _ h2 hl (fun m hm => hw m (by
          rw [hx, DataW.weights, hT]
          exact List.mem_cons_of_mem _ (List.mem_append.2 (Or.inl (weights_mem_all hm (List.mem_map.2 ⟨i, List.mem_range.2 hi, rfl⟩))))))
        refine ⟨c, fun _ => ⟨?_, hok, hbk⟩⟩
        have := hc 0 (by simp)
        rw [Nat.mul_one] at this
        simpa [Addr.add] using this
      · exact ⟨z, fun h => absurd h hi⟩
    obtain ⟨f, hf⟩ := Classical.axiomOfChoice key
    refine ⟨_, (List.range len).map f, rfl, ⟨some a, cap, by simp, ?_, fun c hc => ?_⟩, by rw [hx]; simpa using bulk7_slice ((List.range len).map D) _, ?_⟩
    · rcases Nat.eq_zero_or_pos len with h0 | h0
      · left; subst h0; rfl
      · right
        obtain ⟨b, off, spot⟩ := a
        have h00 := (hf 0 h0).1
        have hspot : spot = none := by simpa [Addr.add] using World.cell?_spot h00
        subst hspot
        refine ⟨b, off, rfl, World.block_lt_of_cell? W _ (by simpa [Addr.add] using h00), fun i c hc => ?_⟩
        have hi : i < len := by have := (List.getElem?_eq_some_iff.1 hc).1; simpa using this
        have e : c = f i := by
          rw [List.getElem?_map, List.getElem?_range hi] at hc; simpa using hc.symm
        subst e
        have := (hf i hi).1
        rw [add_plain] at this
        exact this
    · obtain ⟨i, hi, rfl⟩ := List.mem_map.1 hc
      exact (hf i (List.mem_range.1 hi)).2.1
    · have h1 := bulk7_sum (fun i => sz (f i).1) D (List.range len) fun i hi => (hf i (List.mem_range.1 hi)).2.2
      rw [List.map_map]
      rw [hx]
      simp only [Rows.uptoBulk]
      have e : (fun p : α × Value => sz p.1) ∘ f = fun i => sz (f i).1 := rfl
      rw [e]
      omega
theorem Tryz.cellsAtoms8 : Tryz.prog.cellsOf 27 = 1 := by kernel_rfl
theorem pd8_key {a : At} (h : a.name.size ≤ maxLen) (hl : a.args.length ≤ 1000000000) : KeyP a.pd8 := ⟨h, wfI8 (by show _ ≤ (a.args.length : Int); omega) (by show (a.args.length : Int) ≤ _; omega)⟩
theorem open_rn8 {H : Type} {enc : TypeId × Value → H} {W : World} {base fuel : Nat} {spare : Nat → Bool} {held : Bool} {cs : List Value} {x0 : DataW H × List MemPlace}
    (h : DataW.trod enc Tryz.prog W base spare held fuel 52 cs = some x0) (hw : ∀ n ∈ x0.1.weights Tryz.prog 52, n ≤ reachBytes) (hb : Rows.uptoBulk x0.1 ≤ 1048576) : ∃ v P, cs = [v] ∧ Rn8 W v P ∧ P.length ≤ Rows.uptoBulk x0.1 ∧ zr8 P ≤ Rows.uptoBulk x0.1 := by
  obtain ⟨v, P, hcs, ⟨a, cap, hv, hr, hok⟩, h1, h2⟩ := open_list8 (α := List (At × Value)) Tryz.underlying52 Tryz.cellsAtoms8 ([], .slice none 0 0) (fun p => As W p.2 p.1 ∧ (∀ x ∈ p.1, TsP W x.2 x.1.args) ∧ (∀ t ∈ (fsts p.1).flatMap At.pl, KeyT t) ∧ ∀ x ∈ p.1, x.1.name.size ≤ maxLen) sl8s
    (fun n cs' y hy hl hwy => by
      obtain ⟨v, l, e, ⟨k1, k2⟩, k3, k4, k5⟩ := open_atomsY hy hwy
      exact ⟨(l, v), e, ⟨k1, k2, k4, k5⟩, k3⟩) h hw
  refine ⟨v, P, hcs, ⟨a, cap, hv, hr, fun p hp => ?_⟩, h1, h2⟩
  obtain ⟨k1, k2, k3, k4⟩ := hok p hp
  refine ⟨k1, fun x hx => ⟨k2 x hx, fun t ht => k3 t (List.mem_flatMap.2 ⟨x.1, by unfold fsts; exact List.mem_map.2 ⟨x, hx, rfl⟩, ht⟩), pd8_key (k4 x hx) ?_⟩⟩
  obtain ⟨i, hi⟩ := List.mem_iff_getElem?.1 hx
  have e1 := sl8s_take p.1 i x hi
  obtain ⟨j, hj⟩ := List.mem_iff_getElem?.1 hp
  have e2 := zr8_take P j p hj
  have e3 := zr8_le P (j + 1)
  have e4 : x.1.args.length ≤ x.1.pl.length := by simp [At.pl]
  have e5 : zr8 P ≤ Rows.uptoBulk x0.1 := h2
  omega
end Go.Proofs.YtechceagghcipaaGreat
