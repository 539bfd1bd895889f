import Derived.Test.YtgbiicmkhlnniaaGreatDoorRA14
import Derived.Laws.AppendOwnNone
import Derived.Laws.AppendOwn
import Derived.Deep.QuietTactic
/-
  Apply. (Written by genA.py out of A1.head.)
-/
namespace Go.Proofs.YtgbiicmkhlnniaaGreatDoor
open Go.RowKit
attribute [local go_sem ↓] Go.wp_at_zero Go.wp_at_succ

theorem Tryz.infoTerm : (Tryz.prog.info? 23).map (fun i => (i.zero, i.size, i.bytes)) = some (some (.agg #[.int .i64 0, .int .i64 0, .string ⟨#[]⟩]), 3, 32) := by kernel_rfl
def MC (n : Nat) : Array Value := madeCells #[.int .i64 0, .int .i64 0, .string ⟨#[]⟩] (n * 3)
theorem mk_terms (n : Nat) (hn : n ≤ 4398046511104) (w : World) : (Instr.makeSlice 24 (.int .i64 (n : Int)) (.int .i64 (n : Int))).run Tryz.prog w = .ok (.slice (some ⟨w.heap.size, 0, none⟩) n n) (w.alloc (.cells (MC n) 23)) := by
  obtain ⟨i, hi, h0, h1, h2⟩ := info_parts Tryz.infoTerm
  have h := run_make (P := Tryz.prog) w 24 23 i _ Tryz.underlying24 hi h0 .i64 .i64 n n (by omega) (Int.le_refl _) (by rw [h2]; omega) (by omega)
  rw [h1, Int.toNat_natCast] at h
  exact h
theorem fiveF {w : World} {g : Nat} {a b c d f : Value} {t : TypeId} (h : w.heap[g]? = some (.cells #[a, b, c, d, f] t (0, 0))) :
    (w.cell? ⟨g, 0, none⟩ = some a ∧ w.cell? ⟨g, 1, none⟩ = some b ∧ w.cell? ⟨g, 2, none⟩ = some c ∧ w.cell? ⟨g, 3, none⟩ = some d ∧ w.cell? ⟨g, 4, none⟩ = some f) ∧
    w.frozen? ⟨g, 0, none⟩ = false ∧ w.frozen? ⟨g, 1, none⟩ = false ∧ w.frozen? ⟨g, 2, none⟩ = false ∧ w.frozen? ⟨g, 3, none⟩ = false ∧ w.frozen? ⟨g, 4, none⟩ = false :=
  ⟨five h, frozen_of_row _ _ _ _ _ h, frozen_of_row _ _ _ _ _ h, frozen_of_row _ _ _ _ _ h, frozen_of_row _ _ _ _ _ h, frozen_of_row _ _ _ _ _ h⟩
theorem store5 {W : World} {G : Nat} {a b c d e a' b' c' d' e' : Value} {t : TypeId} (h : W.heap[G]? = some (.cells #[a, b, c, d, e] t (0, 0))) :
    (((((W.setCell ⟨G, 0, none⟩ a').setCell ⟨G, 1, none⟩ b').setCell ⟨G, 2, none⟩ c').setCell ⟨G, 3, none⟩ d').setCell ⟨G, 4, none⟩ e').heap[G]? = some (.cells #[a', b', c', d', e'] t (0, 0)) := by
  have h1 := heap_setCell_same _ _ 0 _ _ a' h
  have h2 := heap_setCell_same _ _ 1 _ _ b' h1
  have h3 := heap_setCell_same _ _ 2 _ _ c' h2
  have h4 := heap_setCell_same _ _ 3 _ _ d' h3
  exact heap_setCell_same _ _ 4 _ _ e' h4
theorem store5_other {W : World} {G k : Nat} {o : Obj} (a' b' c' d' e' : Value) (hk : k ≠ G) (h : W.heap[k]? = some o) :
    (((((W.setCell ⟨G, 0, none⟩ a').setCell ⟨G, 1, none⟩ b').setCell ⟨G, 2, none⟩ c').setCell ⟨G, 3, none⟩ d').setCell ⟨G, 4, none⟩ e').heap[k]? = some o := by
  rw [heap_setCell_other _ _ _ _ hk, heap_setCell_other _ _ _ _ hk, heap_setCell_other _ _ _ _ hk, heap_setCell_other _ _ _ _ hk, heap_setCell_other _ _ _ _ hk]; exact h
/-- Block g holds the first k of the terms l, and has room for all. -/
def TBlk (w : World) (g : Nat) (l : List Tm) (k : Nat) : Prop := ∃ C : Array Value, w.heap[g]? = some (.cells C 23 (0, 0)) ∧ C.size = l.length * 3 ∧
  ∀ i t, i < k → l[i]? = some t → C[i * 3]? = some (.int .i64 t.k) ∧ C[i * 3 + 1]? = some (.int .i64 t.n) ∧ C[i * 3 + 2]? = some (.string t.s)
theorem TBlk.start {w : World} {g : Nat} {l : List Tm} {n : Nat} (hn : n = l.length) (h : w.heap[g]? = some (.cells (MC n) 23 (0, 0))) : TBlk w g l 0 :=
  ⟨_, h, by rw [MC, size_madeCells, hn], fun i t hi => absurd hi (Nat.not_lt_zero _)⟩
theorem TBlk.later {w w' : World} {g : Nat} {l : List Tm} {k : Nat} (h : TBlk w g l k) (hb : Below w.heap.size w w') : TBlk w' g l k := by
  obtain ⟨C, h1, h2⟩ := h
  exact ⟨C, (hb.block _ (Array.getElem?_eq_some_iff.1 h1).1).trans h1, h2⟩
theorem TBlk.other {w : World} {g G i : Nat} {a : Value} {l : List Tm} {k : Nat} (h : TBlk w g l k) (hk : g ≠ G) : TBlk (w.setCell ⟨G, i, none⟩ a) g l k := by
  obtain ⟨C, h1, h2⟩ := h
  exact ⟨C, by rw [heap_setCell_other _ _ _ _ hk]; exact h1, h2⟩
theorem TBlk.cells {w : World} {g : Nat} {l : List Tm} {k j : Nat} (h : TBlk w g l k) (hj : j < l.length * 3) : (∃ c, w.cell? ⟨g, j, none⟩ = some c) ∧ w.frozen? ⟨g, j, none⟩ = false := by
  obtain ⟨C, h1, h2, -⟩ := h
  refine ⟨⟨C[j], ?_⟩, frozen_of_row _ _ _ _ _ h1⟩
  rw [cell_of_row _ _ _ _ _ _ h1]; simp
theorem TBlk.put {w : World} {g : Nat} {l : List Tm} {k : Nat} {t : Tm} (h : TBlk w g l k) (ht : l[k]? = some t) :
    TBlk (((w.setCell ⟨g, k * 3, none⟩ (.int .i64 t.k)).setCell ⟨g, k * 3 + 1, none⟩ (.int .i64 t.n)).setCell ⟨g, k * 3 + 2, none⟩ (.string t.s)) g l (k + 1) := by
  obtain ⟨C, h1, h2, h3⟩ := h
  have hk := (List.getElem?_eq_some_iff.1 ht).1
  have e1 := heap_setCell_same _ _ (k * 3) _ _ (.int .i64 t.k) h1
  have e2 := heap_setCell_same _ _ (k * 3 + 1) _ _ (.int .i64 t.n) e1
  have e3 := heap_setCell_same _ _ (k * 3 + 2) _ _ (.string t.s) e2
  refine ⟨_, e3, by simp [h2], fun i u hi hu => ?_⟩
  by_cases hik : i = k
  · subst hik
    rw [ht] at hu
    obtain rfl := Option.some.inj hu
    refine ⟨?_, ?_, ?_⟩ <;> simp [Array.getElem?_setIfInBounds, h2] <;> omega
  · obtain ⟨a, b, c⟩ := h3 i u (by omega) hu
    refine ⟨?_, ?_, ?_⟩
    · rw [Array.getElem?_setIfInBounds_ne (by omega), Array.getElem?_setIfInBounds_ne (by omega), Array.getElem?_setIfInBounds_ne (by omega)]; exact a
    · rw [Array.getElem?_setIfInBounds_ne (by omega), Array.getElem?_setIfInBounds_ne (by omega), Array.getElem?_setIfInBounds_ne (by omega)]; exact b
    · rw [Array.getElem?_setIfInBounds_ne (by omega), Array.getElem?_setIfInBounds_ne (by omega), Array.getElem?_setIfInBounds_ne (by omega)]; exact c
theorem TBlk.ts {w : World} {g : Nat} {l : List Tm} {n cap : Nat} (hn : n = l.length) (hl : n ≤ 4398046511104) (h : TBlk w g l n) : Ts w (.slice (some ⟨g, 0, none⟩) n cap) l := by
  subst hn
  obtain ⟨C, h1, h2, h3⟩ := h
  refine ⟨_, cap, rfl, by omega, Or.inr ⟨g, 0, rfl, (Array.getElem?_eq_some_iff.1 h1).1, fun i t ht => ?_⟩⟩
  obtain ⟨a, b, c⟩ := h3 i t (List.getElem?_eq_some_iff.1 ht).1 ht
  rw [cell_of_row _ _ _ _ _ _ h1, cell_of_row _ _ _ _ _ _ h1, cell_of_row _ _ _ _ _ _ h1]
  simp only [Nat.zero_add]
  exact ⟨a, b, c⟩
theorem BoxB.later2 {w W W' : World} {c d : Array Value} {t t' : TypeId} (h : BoxB w W c d t t') (hb : Below (w.heap.size + 2) W W') : BoxB w W' c d t t' :=
  ⟨(hb.block _ (by omega)).trans h.1, (hb.block _ (by omega)).trans h.2.1, h.2.2.trans (hb.mono (by omega))⟩
theorem bset3 {B : Nat} {W V : World} {G i j m : Nat} {a b c : Value} (h : Below B W V) (hg : B ≤ G) : Below B W (((V.setCell ⟨G, i, none⟩ a).setCell ⟨G, j, none⟩ b).setCell ⟨G, m, none⟩ c) :=
  ((h.setCell (p := ⟨G, i, none⟩) hg _).setCell (p := ⟨G, j, none⟩) hg _).setCell (p := ⟨G, m, none⟩) hg _
theorem putO {W : World} {G k i j m : Nat} {o : Obj} (a' b' c' : Value) (hk : k ≠ G) (h : W.heap[k]? = some o) :
    (((W.setCell ⟨G, i, none⟩ a').setCell ⟨G, j, none⟩ b').setCell ⟨G, m, none⟩ c').heap[k]? = some o := by
  rw [heap_setCell_other _ _ _ _ hk, heap_setCell_other _ _ _ _ hk, heap_setCell_other _ _ _ _ hk]; exact h
end Go.Proofs.YtgbiicmkhlnniaaGreatDoor
/-
  Terms in memory that the call itself made; lent of the laws.
-/
namespace Go.Proofs.YtgbiicmkhlnniaaGreatDoor
open Go.RowKit

def Tm.cs (t : Tm) : List Value := [.int .i64 t.k, .int .i64 t.n, .string t.s]
def tcs (l : List Tm) : List Value := l.flatMap Tm.cs
theorem tcs_len (l : List Tm) : (tcs l).length = l.length * 3 := by
  induction l with
  | nil => rfl
  | cons d l ih => simp only [tcs, List.flatMap_cons, List.length_append, List.length_cons] at *; rw [ih]; simp [Tm.cs]; omega
theorem tcs_get (l : List Tm) (j : Nat) (d : Tm) (h : l[j]? = some d) (i : Nat) (hi : i < 3) : (tcs l)[j * 3 + i]? = d.cs[i]? := by
  induction l generalizing j with
  | nil => simp at h
  | cons e l ih =>
    rw [tcs, List.flatMap_cons]
    cases j with
    | zero =>
      simp only [List.getElem?_cons_zero, Option.some.injEq] at h
      subst h
      rw [List.getElem?_append_left (by simp [Tm.cs]; omega)]
      simp
    | succ j =>
      simp only [List.getElem?_cons_succ] at h
      rw [List.getElem?_append_right (by simp [Tm.cs]; omega)]
      have e1 : (j + 1) * 3 + i - (Tm.cs e).length = j * 3 + i := by simp [Tm.cs]; omega
      rw [e1]
      exact ih j h
/-- v holds the terms l, in a block of the call's own. -/
def OwnT (w : World) (base : Nat) (v : Value) (l : List Tm) : Prop := w.ownsRow base 23 3 v l.length (tcs l)
theorem ownT_cells {w : World} {base g cap n : Nat} {l : List Tm} (h : OwnT w base (.slice (some ⟨g, 0, none⟩) n cap) l) (j : Nat) (d : Tm) (hd : l[j]? = some d) :
    w.cell? ⟨g, j * 3, none⟩ = some (.int .i64 d.k) ∧ w.cell? ⟨g, j * 3 + 1, none⟩ = some (.int .i64 d.n) ∧ w.cell? ⟨g, j * 3 + 2, none⟩ = some (.string d.s) := by
  rcases h.2 with ⟨h, _⟩ | ⟨g', cap', cur, hv, hb, hg, hn, hc, hs, ht⟩
  · cases h
  · simp only [Value.slice.injEq, Option.some.injEq, Addr.mk.injEq] at hv
    obtain ⟨⟨rfl, -⟩, -, rfl⟩ := hv
    have hj := (List.getElem?_eq_some_iff.1 hd).1
    have key : ∀ i, i < 3 → w.cell? ⟨g, j * 3 + i, none⟩ = d.cs[i]? := fun i hi => by
      rw [cell_of_row _ _ _ _ _ _ hg, ← tcs_get l j d hd i hi, ← ht, List.getElem?_take_of_lt (by omega)]
      simp
    exact ⟨key 0 (by omega), key 1 (by omega), key 2 (by omega)⟩
theorem OwnT.lt {w : World} {base : Nat} {v : Value} {l : List Tm} (h : OwnT w base v l) : ∀ k, v.ownBlock = some k → base ≤ k ∧ k < w.heap.size := World.ownsRow.lt h
theorem OwnT.mono {w : World} {b b' : Nat} {v : Value} {l : List Tm} (h : OwnT w b v l) (hb : b' ≤ b) : OwnT w b' v l := by
  refine ⟨h.1, ?_⟩
  rcases h.2 with hn | ⟨g, cap, cur, hv, hbb, rest⟩
  · exact Or.inl hn
  · exact Or.inr ⟨g, cap, cur, hv, Nat.le_trans hb hbb, rest⟩
theorem OwnT.later {w w' : World} {base : Nat} {v : Value} {l : List Tm} (h : OwnT w base v l) (hb : Below w.heap.size w w') : OwnT w' base v l := by
  refine ⟨h.1, ?_⟩
  rcases h.2 with hn | ⟨g, cap, cur, hv, hbb, hg, rest⟩
  · exact Or.inl hn
  · exact Or.inr ⟨g, cap, cur, hv, hbb, (hb.block _ (Array.getElem?_eq_some_iff.1 hg).1).trans hg, rest⟩
theorem OwnT.set {w : World} {base G i : Nat} {a : Value} {v : Value} {l : List Tm} (h : OwnT w base v l) (hG : G < base) : OwnT (w.setCell ⟨G, i, none⟩ a) base v l := by
  refine ⟨h.1, ?_⟩
  rcases h.2 with hn | ⟨g, cap, cur, hv, hbb, hg, rest⟩
  · exact Or.inl hn
  · exact Or.inr ⟨g, cap, cur, hv, hbb, by rw [heap_setCell_other _ _ _ _ (show g ≠ G by omega)]; exact hg, rest⟩
/-- A list of terms that came in: nil, or a slice with an address. -/
def TsO (w : World) (v : Value) (l : List Tm) : Prop := (v = .slice none 0 0 ∧ l = []) ∨ ∃ ad cap, v = .slice (some ad) l.length cap ∧ l.length * 32 ≤ 140737488351232 ∧ (l = [] ∨ ∃ b o, ad = ⟨b, o, none⟩ ∧ TRow w b o l)
theorem TsO.later {w w' : World} {v : Value} {l : List Tm} (h : TsO w v l) (hb : Below w.heap.size w w') : TsO w' v l := by
  rcases h with h | ⟨ad, cap, h1, h2, h3⟩
  · exact Or.inl h
  · refine Or.inr ⟨ad, cap, h1, h2, ?_⟩
    rcases h3 with h3 | ⟨b, o, h3, h4⟩
    · exact Or.inl h3
    · exact Or.inr ⟨b, o, h3, h4.later hb⟩
theorem tcs_mem {l : List Tm} {u : Value} (h : u ∈ tcs l) : u.oneCell' = true := by
  simp only [tcs, List.mem_flatMap] at h
  obtain ⟨d, -, hu⟩ := h
  simp [Tm.cs] at hu
  rcases hu with rfl | rfl | rfl <;> rfl
theorem trow_get {w : World} {b o : Nat} {l : List Tm} (h : TRow w b o l) : ∀ j u, (tcs l)[j]? = some u → w.cell? ((⟨b, o, none⟩ : Addr).add j) = some u := fun j u hu => by
  have hj : j < l.length * 3 := by rw [← tcs_len]; exact (List.getElem?_eq_some_iff.1 hu).1
  have hq : j / 3 < l.length := by omega
  obtain ⟨d, hd⟩ : ∃ d, l[j / 3]? = some d := ⟨_, List.getElem?_eq_getElem hq⟩
  have hg := tcs_get l (j / 3) d hd (j % 3) (by omega)
  rw [show j / 3 * 3 + j % 3 = j by omega, hu] at hg
  have hc := h.2 _ _ hd
  have ha : (⟨b, o, none⟩ : Addr).add j = ⟨b, o + j / 3 * 3 + j % 3, none⟩ := by
    rw [Go.WideShapes.add_plain]; congr 1; omega
  rw [ha]
  have h4 : j % 3 = 0 ∨ j % 3 = 1 ∨ j % 3 = 2 := by omega
  rcases h4 with e | e | e <;> rw [e] at hg ⊢ <;> simp [Tm.cs] at hg <;> subst hg
  · exact hc.1
  · exact hc.2.1
  · exact hc.2.2
/-- The first terms of a longer list. -/
theorem ownT_pre {w : World} {base g cap : Nat} {s : List Tm} {d : Tm} (h : OwnT w base (.slice (some ⟨g, 0, none⟩) (s.length + 1) cap) (s ++ [d])) (hs : s.length < 1000000000000000000) : Ts w (.slice (some ⟨g, 0, none⟩) s.length cap) s := by
  have hlt : g < w.heap.size := (h.lt g rfl).2
  refine ⟨_, cap, rfl, hs, Or.inr ⟨g, 0, rfl, hlt, fun i t ht => ?_⟩⟩
  have hi := (List.getElem?_eq_some_iff.1 ht).1
  have := ownT_cells h i t (by rw [List.getElem?_append_left hi]; exact ht)
  simpa using this
theorem ownT_cap {w : World} {base g cap n : Nat} {l : List Tm} (h : OwnT w base (.slice (some ⟨g, 0, none⟩) n cap) l) : n ≤ cap := by
  rcases h.2 with ⟨h, _⟩ | ⟨g', c, cur, hv, _, _, hn, _⟩
  · cases h
  · simp only [Value.slice.injEq] at hv; omega
end Go.Proofs.YtgbiicmkhlnniaaGreatDoor
/-
  The order of rows: slices.Compare of numbers.
-/
namespace Go.Proofs.YtgbiicmkhlnniaaGreatDoor
open Go.RowKit
attribute [local go_sem ↓] Go.wp_at_zero Go.wp_at_succ

def sg7 (x y : Int) : Int := if x < y then -1 else if y < x then 1 else 0
theorem sg7_v (x y : Int) : (sg7 x y = -1 ∧ x < y) ∨ (sg7 x y = 0 ∧ x = y) ∨ (sg7 x y = 1 ∧ y < x) := by unfold sg7; (repeat' split) <;> omega
theorem cmpI7_any (x y : Int) (w : World) : Calls Tryz.prog 64 #[.int .i64 x, .int .i64 y] w fun e w' => e = .returned (.int .i64 (sg7 x y)) ∧ w' = w := by
  go_enter Tryz.func64, Tryz.ntmps64
  go_wp2_with (go_at_call 94; refine (nan7_any _ _).mono ?_; rintro e w1 ⟨rfl, rfl⟩)
  all_goals go_ret
  all_goals refine ⟨ret_i ?_, rfl⟩
  all_goals (unfold sg7; repeat' split) <;> omega
theorem drop_cons7 {l : List Int} {j : Nat} {x : Int} (h : l[j]? = some x) : l.drop j = x :: l.drop (j + 1) := by
  obtain ⟨h1, h2⟩ := List.getElem?_eq_some_iff.1 h
  rw [List.drop_eq_getElem_cons h1, h2]
end Go.Proofs.YtgbiicmkhlnniaaGreatDoor
