import Derived.Test.YtelcoihmiglceaaGreatLD2
import Derived.Test.YtelcoihmiglceaaGreatLE2
import Derived.Test.YtelcoihmiglceaaGreatCL27
import Derived.Test.YtelcoihmiglceaaGreatNB4
import Derived.Deep.DeepHandedRow
import Derived.LaidMore
/-
  Clauses lent, and looked at. (Written by LD3.py.)
-/
namespace Go.Proofs.YtelcoihmiglceaaGreat
open Go.RowKit
attribute [local go_sem ↓] Go.wp_at_zero Go.wp_at_succ

def EsP (w : World) (v : Value) (l : List Te) : Prop := (v = .slice none 0 0 ∧ l = []) ∨ ∃ ad cap, v = .slice (some ad) l.length cap ∧ (l = [] ∨ ∃ b o, ad = ⟨b, o, none⟩ ∧ ERow w b o l)
theorem EsP.later {w w' : World} {v : Value} {l : List Te} (h : EsP w v l) (hb : Below w.heap.size w w') : EsP w' v l := by
  rcases h with h | ⟨ad, cap, h1, h2⟩
  · exact Or.inl h
  · refine Or.inr ⟨ad, cap, h1, ?_⟩
    rcases h2 with h2 | ⟨b, o, h2, h3⟩
    · exact Or.inl h2
    · exact Or.inr ⟨b, o, h2, h3.later hb⟩
theorem EsP.form {w : World} {v : Value} {l : List Te} (h : EsP w v l) : ∃ a cap, v = .slice a l.length cap := by
  rcases h with ⟨rfl, rfl⟩ | ⟨ad, cap, rfl, _⟩
  · exact ⟨none, 0, rfl⟩
  · exact ⟨some ad, cap, rfl⟩
/-- A list of tests lent. -/
def LentE (X : World) (B : Nat) (v : Value) (l : List Te) : Prop := ∃ g cap, v = .slice (some ⟨g, 0, none⟩) l.length cap ∧ OwnE X B (.slice (some ⟨g, 0, none⟩) (l.length + 1) cap) (l ++ [bE])
theorem LentE.later {X X' : World} {B : Nat} {v : Value} {l : List Te} (h : LentE X B v l) (hb : Below X.heap.size X X') : LentE X' B v l := by
  obtain ⟨g, cap, e, ho⟩ := h
  exact ⟨g, cap, e, ho.later hb⟩
theorem LentE.row {X : World} {B g cap n : Nat} {l : List Te} {d : Te} (ho : OwnE X B (.slice (some ⟨g, 0, none⟩) n cap) (l ++ [d])) : ERow X g 0 l := by
  refine ⟨(ho.lt g rfl).2, fun i x hx => ?_⟩
  have hi := (List.getElem?_eq_some_iff.1 hx).1
  have hx' : (l ++ [d])[i]? = some x := by rw [List.getElem?_append_left hi]; exact hx
  rw [Nat.zero_add]
  exact ⟨ho.cells i x hx' 0 (by omega), ho.cells i x hx' 1 (by omega), ho.cells i x hx' 2 (by omega), ho.cells i x hx' 3 (by omega), ho.cells i x hx' 4 (by omega), ho.cells i x hx' 5 (by omega), ho.cells i x hx' 6 (by omega)⟩
theorem LentE.es {X : World} {B : Nat} {v : Value} {l : List Te} (h : LentE X B v l) (hl : l.length < 1000000000000000000) : Es X v l := by
  obtain ⟨g, cap, rfl, ho⟩ := h
  exact ⟨_, cap, rfl, hl, Or.inr ⟨g, 0, rfl, LentE.row ho⟩⟩
/-- A clause lent. -/
structure Lent (B : Nat) (X : World) (d : Cm) : Prop where
  h : LentT X B d.head.2 d.head.1.args
  b : LentA X B d.bv d.body
  t : LentE X B d.tv d.tests
theorem Lent.later {B : Nat} {X X' : World} {d : Cm} (h : Lent B X d) (hb : Below X.heap.size X X') : Lent B X' d := ⟨h.h.later hb, h.b.later hb, h.t.later hb⟩
theorem Lent.ok {B : Nat} {X : World} {d : Cm} (h : Lent B X d) (h1 : d.head.1.args.length < 1000000000000000000) (h2 : d.body.length < 1000000000000000000) (h3 : ∀ y ∈ d.body, y.1.args.length < 1000000000000000000) (h4 : d.tests.length < 1000000000000000000) : d.ok X :=
  ⟨h.h.ts h1, h.b.as h2 h3, h.t.es h4⟩
/-- Two worlds alike between two blocks but for one. -/
structure Ag (B G : Nat) (X0 X : World) : Prop where
  s : X0.heap.size ≤ X.heap.size
  e : ∀ k, B ≤ k → k < X0.heap.size → k ≠ G → X.heap[k]? = X0.heap[k]?
theorem Ag.refl (B G : Nat) (X : World) : Ag B G X X := ⟨Nat.le_refl _, fun _ _ _ _ => rfl⟩
theorem Ag.below {B G : Nat} {X0 X X' : World} (h : Ag B G X0 X) (hb : Below X0.heap.size X X') : Ag B G X0 X' := ⟨Nat.le_trans h.s hb.size, fun k h1 h2 h3 => (hb.block k h2).trans (h.e k h1 h2 h3)⟩
theorem Ag.set {B G i : Nat} {X0 X : World} {v : Value} (h : Ag B G X0 X) : Ag B G X0 (X.setCell ⟨G, i, none⟩ v) := ⟨by simpa [World.setCell] using h.s, fun k h1 h2 h3 => (heap_setCell_other _ _ _ _ (show k ≠ G from h3)).trans (h.e k h1 h2 h3)⟩
theorem Ag.low {B G D i : Nat} {X0 X : World} {v : Value} (h : Ag B G X0 X) (hD : D < B) : Ag B G X0 (X.setCell ⟨D, i, none⟩ v) := ⟨by simpa [World.setCell] using h.s, fun k h1 h2 h3 => (heap_setCell_other _ _ _ _ (show k ≠ D by omega)).trans (h.e k h1 h2 h3)⟩
end Go.Proofs.YtelcoihmiglceaaGreat
/-
  What Check answers to clauses broken in one way. (Plain.)
-/
namespace Go.Proofs.YtelcoihmiglceaaGreat
open Go.RowKit

/-- What Check answers, one by one. -/
theorem key_len (c : Cm) : c.body.length = c.key.2.1.length ∧ c.tests.length = c.key.2.2.length := by simp [Cm.key, fsts]
theorem unb_key {c : Cm} : unb c = (vrs (c.key.1.pl ++ tls c.key.2.2)).any fun v => !decide (v ∈ vrs (c.key.2.1.flatMap At.pl)) := by
  have e1 : c.restC.vars = vrs c.restC.terms := rfl
  have e2 : c.bodyC.vars = vrs c.bodyC.terms := rfl
  have e3 : flt c.body = c.key.2.1.flatMap At.pl := by simp [flt, Cm.key, fsts, List.flatMap_map]
  unfold unb
  rw [e1, e2, restC_terms, bodyC_terms, e3]
  have e4 : vrs (⟨0, 0, ⟨#[]⟩⟩ :: c.key.2.1.flatMap At.pl) = vrs (c.key.2.1.flatMap At.pl) := by unfold vrs; rw [List.filter_cons_of_neg (by rw [zt_var]; simp)]
  rw [e4]; rfl
theorem mis_key {c : Cm} : mis 0 c.vars = mis 0 (vrs (Ck.terms c.key)) := by
  have : c.vars = vrs c.terms := rfl
  rw [this, key_terms]
theorem wf_of {c : Cm} (h : ∀ t ∈ Ck.terms c.key, t.var = true → t.n < 100000) (hl : (Ck.terms c.key).length ≤ 1000) : c.wf :=
  ⟨fun t ht hv => wf_small (var_nn hv) (h t (by rw [← key_terms]; exact ht) hv), by rw [key_terms]; omega⟩
end Go.Proofs.YtelcoihmiglceaaGreat
/-
  What the reference's Check answers is what Check answers (plain); lists of atoms, of terms appended.
-/
namespace Go.Proofs.YtelcoihmiglceaaGreat
open Go.RowKit

theorem err_vals (a : At) : a.err = 0 ∨ a.err = 21 ∨ a.err = 22 ∨ a.err = 23 ∨ a.err = 24 := by
  unfold At.err; split
  · exact Or.inr (Or.inl rfl)
  · split
    · exact Or.inr (Or.inr (Or.inl rfl))
    · split
      · exact Or.inr (Or.inr (Or.inr (Or.inl rfl)))
      · split
        · exact Or.inl rfl
        · exact Or.inr (Or.inr (Or.inr (Or.inr rfl)))
theorem aErr_vals : ∀ l : List (At × Value), aErr l = 0 ∨ aErr l = 21 ∨ aErr l = 22 ∨ aErr l = 23 ∨ aErr l = 24
  | [] => Or.inl rfl
  | x :: l => by
    unfold aErr
    split
    · exact aErr_vals l
    · exact err_vals x.1
theorem chk_1 {c : Cm} (h : long c = true) : c.chk = 31 := by simp [Cm.chk, Cm.rs, chkL, h]
theorem chk_2 {c : Cm} (h : long c = false) (h2 : aErr c.atoms ≠ 0) : c.chk = aErr c.atoms := by
  rcases aErr_vals c.atoms with e | e | e | e | e
  · exact absurd e h2
  all_goals simp [Cm.chk, Cm.rs, chkL, h, e]
theorem chk_3 {c : Cm} (h : long c = false) (h2 : aErr c.atoms = 0) (h3 : badT c = true) : c.chk = 32 := by simp [Cm.chk, Cm.rs, chkL, h, h2, h3]
theorem aErr_all : ∀ {l : List (At × Value)}, aErr l = 0 → ∀ x ∈ l, x.1.err = 0
  | [], _, x, hx => by cases hx
  | y :: l, h, x, hx => by
    unfold aErr at h
    by_cases e : y.1.err = 0
    · rw [if_pos e] at h
      rcases List.mem_cons.1 hx with rfl | hx
      · exact e
      · exact aErr_all h x hx
    · rw [if_neg e] at h; exact absurd h e
/-- A list of atoms appended to one that was just made. -/
def AsP (w : World) (v : Value) (l : List (At × Value)) : Prop := (v = .slice none 0 0 ∧ l = []) ∨ ∃ ad cap, v = .slice (some ad) l.length cap ∧ (l = [] ∨ ∃ b o, ad = ⟨b, o, none⟩ ∧ ARow w b o l)
theorem AsP.later {w w' : World} {v : Value} {l : List (At × Value)} (h : AsP w v l) (hb : Below w.heap.size w w') : AsP w' v l := by
  rcases h with h | ⟨ad, cap, h1, h2⟩
  · exact Or.inl h
  · refine Or.inr ⟨ad, cap, h1, ?_⟩
    rcases h2 with h2 | ⟨b, o, h2, h3⟩
    · exact Or.inl h2
    · exact Or.inr ⟨b, o, h2, h3.later hb⟩
end Go.Proofs.YtelcoihmiglceaaGreat
/-
  A clause opened, with all that a copy wants to know of its lists. (Written by CK2.py, out of NB4.)
-/
namespace Go.Proofs.YtelcoihmiglceaaGreat
open Go.ChangeShapes Go.WideShapes Go.ChangeAt Go.RowKit Go.Joins Go.Deep

set_option maxRecDepth 100000 in
theorem open_termsP {H : Type} {enc : TypeId × Value → H} {W : World} {base : Nat} {spare : Nat → Bool} {held : Bool} {fuel : Nat} {cs : List Value} {x : DataW H × List MemPlace}
    (h : DataW.trod enc Tryz.prog W base spare held fuel 24 cs = some x) (hw : ∀ n ∈ x.1.weights Tryz.prog 24, n ≤ reachBytes) : ∃ v l, cs = [v] ∧ (Ts W v l ∧ TsP W v l) ∧ l.length ≤ Rows.uptoBulk x.1 ∧ ∀ t ∈ l, WfT t := by
  rcases open_slice Tryz.underlying24 h with ⟨rfl, -⟩ | ⟨a, len, cap, m, n, D, Pl, rfl, hba, hlc, hcm, hm, hx, hel⟩
  · exact ⟨_, [], rfl, ⟨⟨none, 0, rfl, by simp, Or.inl rfl⟩, Or.inl ⟨rfl, rfl⟩⟩, by simp, fun t ht => by cases ht⟩
  · have hlen : len < 1000000000000000000 := by
      have := hw ((((List.range len).map D).length + ((List.range (m - len)).map fun j => D (len + j)).length) * Tryz.prog.bytesOf 23) (by rw [hx]; simp [DataW.weights, Tryz.underlying24])
      rw [Tryz.bytesTerm] at this
      simp only [List.length_map, List.length_range, reachBytes] at this
      omega
    rw [Tryz.cellsTerm] at hel
    have hlm : len ≤ m := by rw [hm]; split <;> omega
    have key : ∀ i : Nat, ∃ t : Tm, i < len → WfT t ∧ W.cell? (a.add (i * 3)) = some (.int .i64 t.k) ∧ W.cell? ((a.add (i * 3)).add 1) = some (.int .i64 t.n) ∧ W.cell? ((a.add (i * 3)).add 2) = some (.string t.s) := fun i => by
      by_cases hi : i < len
      · obtain ⟨cs', h1, h2⟩ := hel i (by omega)
        obtain ⟨-, hl, hc⟩ := World.cells?_some h1
        obtain ⟨t, rfl, hwf⟩ := term_of_cellsB h2 hl
        exact ⟨t, fun _ => ⟨hwf, hc 0 (by omega), hc 1 (by omega), hc 2 (by omega)⟩⟩
      · exact ⟨zt, fun h => absurd h hi⟩
    obtain ⟨f, hf⟩ := Classical.axiomOfChoice key
    have hgo : (List.range len).map f = [] ∨ ∃ b o, a = ⟨b, o, none⟩ ∧ TRow W b o ((List.range len).map f) := by
      rcases Nat.eq_zero_or_pos len with h0 | h0
      · left; subst h0; rfl
      · right
        obtain ⟨b, off, spot⟩ := a
        have hspot : spot = none := by simpa [Addr.add] using World.cell?_spot (hf 0 h0).2.1
        subst hspot
        refine ⟨b, off, rfl, ?_, fun i t ht => ?_⟩
        · exact World.block_lt_of_cell? W _ (by have := (hf 0 h0).2.1; simpa [Addr.add] using this)
        · have hi : i < len := by have := (List.getElem?_eq_some_iff.1 ht).1; simpa using this
          have e : t = f i := by
            rw [List.getElem?_map, List.getElem?_range hi] at ht; simpa using ht.symm
          subst e
          have := (hf i hi).2
          rw [add_plain, add_plain, add_plain] at this
          exact this
    refine ⟨_, (List.range len).map f, rfl, ⟨⟨some a, cap, by simp, by simpa using hlen, ?_⟩, Or.inr ⟨a, cap, by simp, hgo⟩⟩, by rw [hx]; simpa using bulkN_slice ((List.range len).map D) _, fun t ht => by obtain ⟨i, hi, rfl⟩ := List.mem_map.1 ht; exact (hf i (List.mem_range.1 hi)).1⟩
    rcases hgo with hq | ⟨b, o, rfl, hq⟩
    · exact Or.inl hq
    · exact Or.inr ⟨b, o, rfl, hq⟩
set_option maxRecDepth 100000 in
theorem atom_of_cellsP {H : Type} {enc : TypeId × Value → H} {W : World} {base : Nat} {spare : Nat → Bool} {held : Bool} {fuel : Nat} {cs : List Value} {x : DataW H × List MemPlace}
    (hf : DataW.trod enc Tryz.prog W base spare held fuel 26 cs = some x) (hl : cs.length = 5) (hw : ∀ n ∈ x.1.weights Tryz.prog 26, n ≤ reachBytes) : ∃ a : At × Value, cs = [.int .i64 a.1.by_.k, .int .i64 a.1.by_.n, .string a.1.by_.s, .string a.1.name, a.2] ∧ (Ts W a.2 a.1.args ∧ TsP W a.2 a.1.args) ∧ a.1.pl.length ≤ Rows.uptoBulk x.1 ∧ ∀ t ∈ a.1.pl, WfT t := by
  obtain ⟨c0, c1, c2, c3, c4, rfl⟩ := list5 hl
  obtain ⟨y0, y1, y2, n, hd, -, h0, h1, h2⟩ := trod_struct3 Tryz.underlying26 hf
  rw [Tryz.cellsTerm] at h0
  rw [Tryz.cellsString] at h1
  rw [Tryz.cellsTerms] at h2
  obtain ⟨t, e0, ht⟩ := term_of_cellsB h0 (by simp)
  obtain ⟨s, e1, -, hs⟩ := DataW.trod_string Tryz.underlying9 h1
  obtain ⟨v, l, e2, hx, hbk, hwl⟩ := open_termsP h2 (fun m hm => by
    refine hw m ?_
    rw [hd, DataW.weights, Tryz.underlying26]
    exact DataW.weights_mem_each (j := 2) rfl rfl m hm)
  simp at e0 e1 e2
  obtain ⟨rfl, rfl, rfl⟩ := e0
  subst e1 e2
  refine ⟨(⟨t, s, l⟩, c4), rfl, hx, ?_, fun u hu => ?_⟩
  · rw [hd]
    have := bulkN_pos y0.1
    simp only [Rows.uptoBulk, Rows.uptoBulkAll, At.pl, List.length_cons]
    omega
  · rcases List.mem_cons.1 hu with rfl | hu
    · exact ht
    · exact hwl u hu
set_option maxRecDepth 100000 in
theorem open_atomsP {H : Type} {enc : TypeId × Value → H} {W : World} {base : Nat} {spare : Nat → Bool} {held : Bool} {fuel : Nat} {cs : List Value} {x : DataW H × List MemPlace}
    (h : DataW.trod enc Tryz.prog W base spare held fuel 27 cs = some x) (hw : ∀ n ∈ x.1.weights Tryz.prog 27, n ≤ reachBytes) : ∃ v l, cs = [v] ∧ (As W v l ∧ AsP W v l ∧ ∀ x ∈ l, TsP W x.2 x.1.args) ∧ ((fsts l).flatMap At.pl).length ≤ Rows.uptoBulk x.1 ∧ ∀ t ∈ (fsts l).flatMap At.pl, WfT t := by
  rcases open_slice Tryz.underlying27 h with ⟨rfl, -⟩ | ⟨a, len, cap, m, n, D, Pl, rfl, hba, hlc, hcm, hm, hx, hel⟩
  · exact ⟨_, [], rfl, ⟨⟨none, 0, rfl, by simp, Or.inl rfl, fun x hx => by cases hx⟩, Or.inl ⟨rfl, rfl⟩, fun x hx => by cases hx⟩, by simp [fsts], fun t ht => by simp [fsts] at ht⟩
  · have hlen : len < 1000000000000000000 := by
      have := hw ((((List.range len).map D).length + ((List.range (m - len)).map fun j => D (len + j)).length) * Tryz.prog.bytesOf 26) (by rw [hx]; simp [DataW.weights, Tryz.underlying27])
      rw [Tryz.bytesAtom] at this
      simp only [List.length_map, List.length_range, reachBytes] at this
      omega
    rw [Tryz.cellsAtom] at hel
    have hlm : len ≤ m := by rw [hm]; split <;> omega
    have key : ∀ i : Nat, ∃ t : At × Value, i < len → (W.cell? (a.add (i * 5)) = some (.int .i64 t.1.by_.k) ∧ W.cell? ((a.add (i * 5)).add 1) = some (.int .i64 t.1.by_.n) ∧ W.cell? ((a.add (i * 5)).add 2) = some (.string t.1.by_.s) ∧ W.cell? ((a.add (i * 5)).add 3) = some (.string t.1.name) ∧ W.cell? ((a.add (i * 5)).add 4) = some t.2) ∧ (Ts W t.2 t.1.args ∧ TsP W t.2 t.1.args) ∧ t.1.pl.length ≤ Rows.uptoBulk (D i) ∧ ∀ u ∈ t.1.pl, WfT u := fun i => by
      by_cases hi : i < len
      · obtain ⟨cs', h1, h2⟩ := hel i (by omega)
        obtain ⟨-, hl, hc⟩ := World.cells?_some h1
        obtain ⟨t, rfl, hts, hbk, hwf⟩ := atom_of_cellsP h2 hl (fun n hn => hw n (by
          rw [hx, DataW.weights, Tryz.underlying27]
          exact List.mem_cons_of_mem _ (List.mem_append.2 (Or.inl (weights_mem_all hn (List.mem_map.2 ⟨i, List.mem_range.2 hi, rfl⟩))))))
        exact ⟨t, fun _ => ⟨⟨hc 0 (by omega), hc 1 (by omega), hc 2 (by omega), hc 3 (by omega), hc 4 (by omega)⟩, hts, hbk, hwf⟩⟩
      · exact ⟨(⟨zt, ⟨#[]⟩, []⟩, .slice none 0 0), fun h => absurd h hi⟩
    obtain ⟨f, hf⟩ := Classical.axiomOfChoice key
    have efl : (fsts ((List.range len).map f)).flatMap At.pl = (List.range len).flatMap fun i => (f i).1.pl := by simp [fsts, List.flatMap_map]
    have hgo : (List.range len).map f = [] ∨ ∃ b o, a = ⟨b, o, none⟩ ∧ ARow W b o ((List.range len).map f) := by
      rcases Nat.eq_zero_or_pos len with h0 | h0
      · left; subst h0; rfl
      · right
        obtain ⟨b, off, spot⟩ := a
        have hspot : spot = none := by simpa [Addr.add] using World.cell?_spot (hf 0 h0).1.1
        subst hspot
        refine ⟨b, off, rfl, ?_, fun i t ht => ?_⟩
        · exact World.block_lt_of_cell? W _ (by have := (hf 0 h0).1.1; simpa [Addr.add] using this)
        · have hi : i < len := by have := (List.getElem?_eq_some_iff.1 ht).1; simpa using this
          have e : t = f i := by
            rw [List.getElem?_map, List.getElem?_range hi] at ht; simpa using ht.symm
          subst e
          have := (hf i hi).1
          rw [add_plain, add_plain, add_plain, add_plain, add_plain] at this
          exact this
    refine ⟨_, (List.range len).map f, rfl, ⟨⟨some a, cap, by simp, by simpa using hlen, ?_, fun x hx => ?_⟩, Or.inr ⟨a, cap, by simp, hgo⟩, fun x hx => ?_⟩, ?_, fun t ht => ?_⟩
    rotate_left 3
    · rw [hx, efl]
      have := bulkN_sum (fun i => (f i).1.pl) D (List.range len) fun i hi => (hf i (List.mem_range.1 hi)).2.2.1
      simp only [Rows.uptoBulk]
      omega
    · rw [efl] at ht
      obtain ⟨i, hi, ht⟩ := List.mem_flatMap.1 ht
      exact (hf i (List.mem_range.1 hi)).2.2.2 t ht
    · rcases hgo with hq | ⟨b, o, rfl, hq⟩
      · exact Or.inl hq
      · exact Or.inr ⟨b, o, rfl, hq⟩
    · obtain ⟨i, hi, rfl⟩ := List.mem_map.1 hx
      exact (hf i (List.mem_range.1 hi)).2.1.1
    · obtain ⟨i, hi, rfl⟩ := List.mem_map.1 hx
      exact (hf i (List.mem_range.1 hi)).2.1.2
set_option maxRecDepth 100000 in
theorem open_testsP {H : Type} {enc : TypeId × Value → H} {W : World} {base : Nat} {spare : Nat → Bool} {held : Bool} {fuel : Nat} {cs : List Value} {x : DataW H × List MemPlace}
    (h : DataW.trod enc Tryz.prog W base spare held fuel 28 cs = some x) (hw : ∀ n ∈ x.1.weights Tryz.prog 28, n ≤ reachBytes) : ∃ v l, cs = [v] ∧ (Es W v l ∧ EsP W v l) ∧ (tls l).length ≤ Rows.uptoBulk x.1 ∧ ∀ t ∈ tls l, WfT t := by
  rcases open_slice Tryz.underlying28 h with ⟨rfl, -⟩ | ⟨a, len, cap, m, n, D, Pl, rfl, hba, hlc, hcm, hm, hx, hel⟩
  · exact ⟨_, [], rfl, ⟨⟨none, 0, rfl, by simp, Or.inl rfl⟩, Or.inl ⟨rfl, rfl⟩⟩, by simp [tls], fun t ht => by simp [tls] at ht⟩
  · have hlen : len < 1000000000000000000 := by
      have := hw ((((List.range len).map D).length + ((List.range (m - len)).map fun j => D (len + j)).length) * Tryz.prog.bytesOf 70) (by rw [hx]; simp [DataW.weights, Tryz.underlying28])
      rw [Tryz.bytesTest] at this
      simp only [List.length_map, List.length_range, reachBytes] at this
      omega
    rw [Tryz.cellsTest3] at hel
    have hlm : len ≤ m := by rw [hm]; split <;> omega
    have key : ∀ i : Nat, ∃ t : Te, i < len → (2 ≤ Rows.uptoBulk (D i) ∧ WfT t.l ∧ WfT t.r) ∧ W.cell? (a.add (i * 7)) = some (.int .i64 t.op) ∧ W.cell? ((a.add (i * 7)).add 1) = some (.int .i64 t.l.k) ∧ W.cell? ((a.add (i * 7)).add 2) = some (.int .i64 t.l.n) ∧ W.cell? ((a.add (i * 7)).add 3) = some (.string t.l.s) ∧ W.cell? ((a.add (i * 7)).add 4) = some (.int .i64 t.r.k) ∧ W.cell? ((a.add (i * 7)).add 5) = some (.int .i64 t.r.n) ∧ W.cell? ((a.add (i * 7)).add 6) = some (.string t.r.s) := fun i => by
      by_cases hi : i < len
      · obtain ⟨cs', h1, h2⟩ := hel i (by omega)
        obtain ⟨-, hl, hc⟩ := World.cells?_some h1
        obtain ⟨t, rfl, hbk⟩ := test_of_cellsB h2 hl
        exact ⟨t, fun _ => ⟨hbk, hc 0 (by omega), hc 1 (by omega), hc 2 (by omega), hc 3 (by omega), hc 4 (by omega), hc 5 (by omega), hc 6 (by omega)⟩⟩
      · exact ⟨⟨0, zt, zt⟩, fun h => absurd h hi⟩
    obtain ⟨f, hf⟩ := Classical.axiomOfChoice key
    have efl : tls ((List.range len).map f) = (List.range len).flatMap fun i => [(f i).l, (f i).r] := by simp [tls, List.flatMap_map]
    have hgo : (List.range len).map f = [] ∨ ∃ b o, a = ⟨b, o, none⟩ ∧ ERow W b o ((List.range len).map f) := by
      rcases Nat.eq_zero_or_pos len with h0 | h0
      · left; subst h0; rfl
      · right
        obtain ⟨b, off, spot⟩ := a
        have hspot : spot = none := by simpa [Addr.add] using World.cell?_spot (hf 0 h0).2.1
        subst hspot
        refine ⟨b, off, rfl, ?_, fun i t ht => ?_⟩
        · exact World.block_lt_of_cell? W _ (by have := (hf 0 h0).2.1; simpa [Addr.add] using this)
        · have hi : i < len := by have := (List.getElem?_eq_some_iff.1 ht).1; simpa using this
          have e : t = f i := by
            rw [List.getElem?_map, List.getElem?_range hi] at ht; simpa using ht.symm
          subst e
          have := (hf i hi).2
          rw [add_plain, add_plain, add_plain, add_plain, add_plain, add_plain, add_plain] at this
          exact this
    refine ⟨_, (List.range len).map f, rfl, ⟨⟨some a, cap, by simp, by simpa using hlen, ?_⟩, Or.inr ⟨a, cap, by simp, hgo⟩⟩, ?_, fun t ht => ?_⟩
    rotate_left 1
    · rw [hx, efl]
      have := bulkN_sum (fun i => [(f i).l, (f i).r]) D (List.range len) fun i hi => (hf i (List.mem_range.1 hi)).1.1
      simp only [Rows.uptoBulk]
      omega
    · rw [efl] at ht
      obtain ⟨i, hi, ht⟩ := List.mem_flatMap.1 ht
      simp only [List.mem_cons, List.not_mem_nil, or_false] at ht
      rcases ht with rfl | rfl
      · exact (hf i (List.mem_range.1 hi)).1.2.1
      · exact (hf i (List.mem_range.1 hi)).1.2.2
    rcases hgo with hq | ⟨b, o, rfl, hq⟩
    · exact Or.inl hq
    · exact Or.inr ⟨b, o, rfl, hq⟩
set_option maxRecDepth 100000 in
theorem open_clauseP {H : Type} {enc : TypeId × Value → H} {W : World} {r : Reach} {b0 base : Nat} {spare : Nat → Bool} {held : Bool} {v : Value} {d : DataW H} {p : List MemPlace}
    (hv : Value.okWide Tryz.prog W r b0 30 v) (h : DataW.Trod enc Tryz.prog W base spare held 30 v d p) (hw : ∀ n ∈ d.weights Tryz.prog 30, n ≤ reachBytes) : ∃ c : Cm, v = c.v ∧ c.ok W ∧ TsP W c.head.2 c.head.1.args ∧ (∀ x ∈ c.body, TsP W x.2 x.1.args) ∧ AsP W c.bv c.body ∧ EsP W c.tv c.tests ∧ (Ck.terms c.key).length ≤ Rows.uptoBulk d ∧ ∀ t ∈ Ck.terms c.key, WfT t := by
  obtain ⟨cs, rfl, hsz⟩ := okWide_struct Tryz.underlying30 hv
  rw [Tryz.cellsClause] at hsz
  obtain ⟨fuel, hf⟩ := h
  obtain ⟨l⟩ := cs
  obtain ⟨c0, c1, c2, c3, c4, c5, c6, rfl⟩ := clist7 (by simpa using hsz)
  obtain ⟨y0, y1, y2, n, hd, -, h0, h1, h2⟩ := trod_struct3 Tryz.underlying30 hf
  simp only [Prod.mk.injEq] at hd
  have hd := hd.1
  subst hd
  rw [Tryz.cellsAtom] at h0
  rw [Tryz.cellsAtoms] at h1
  rw [Tryz.cellsTests] at h2
  have hwe : ∀ (j : Nat) (t : TypeId) (y : DataW H), [26, 27, 28][j]? = some t → [y0.1, y1.1, y2.1][j]? = some y → ∀ m ∈ y.weights Tryz.prog t, m ≤ reachBytes := fun j t y ht hy m hm => by
    refine hw m ?_
    rw [DataW.weights, Tryz.underlying30]
    exact DataW.weights_mem_each (j := j) ht hy m hm
  obtain ⟨x, e0, hx, b0, w0⟩ := atom_of_cellsP h0 (by simp [Value.cells]) (hwe 0 _ _ rfl rfl)
  obtain ⟨vb, lb, e1, hb, b1, w1⟩ := open_atomsP h1 (hwe 1 _ _ rfl rfl)
  obtain ⟨vt, lt, e2, ht, b2, w2⟩ := open_testsP h2 (hwe 2 _ _ rfl rfl)
  simp [Value.cells] at e0 e1 e2
  obtain ⟨rfl, rfl, rfl, rfl, rfl⟩ := e0
  subst e1 e2
  have ek : Ck.terms (Cm.key ⟨x, lb, c5, lt, c6⟩) = x.1.pl ++ ((fsts lb).flatMap At.pl ++ tls lt) := rfl
  refine ⟨⟨x, lb, _, lt, _⟩, rfl, ⟨hx.1, hb.1, ht.1⟩, hx.2, hb.2.2, hb.2.1, ht.2, ?_, fun t hm => ?_⟩
  · rw [ek, List.length_append, List.length_append]
    simp only [Rows.uptoBulk, Rows.uptoBulkAll]
    omega
  · rw [ek] at hm
    rcases List.mem_append.1 hm with hm | hm
    · exact w0 t hm
    · rcases List.mem_append.1 hm with hm | hm
      · exact w1 t hm
      · exact w2 t hm
end Go.Proofs.YtelcoihmiglceaaGreat
