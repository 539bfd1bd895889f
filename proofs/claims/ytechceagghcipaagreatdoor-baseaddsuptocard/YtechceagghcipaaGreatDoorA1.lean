import Derived.Test.YtechceagghcipaaGreatDoorD2
namespace Go.Proofs.YtechceagghcipaaGreatDoor
open Go.RowKit
attribute [local go_sem ↓] Go.wp_at_zero Go.wp_at_succ

theorem Tryz.infoTerm : (Tryz.prog.info? 24).map (fun i => (i.zero, i.size, i.bytes)) = some (some (.agg #[.int .i64 0, .int .i64 0, .string ⟨#[]⟩]), 3, 32) := by kernel_rfl
def MC (n : Nat) : Array Value := madeCells #[.int .i64 0, .int .i64 0, .string ⟨#[]⟩] (n * 3)
theorem mk_terms (n : Nat) (hn : n <= 4398046511104) (w : World) : (Instr.makeSlice 25 (.int .i64 (n : Int)) (.int .i64 (n : Int))).run Tryz.prog w = .ok (.slice (some ⟨w.heap.size, 0, none⟩) n n) (w.alloc (.cells (MC n) 24)) := by
 obtain ⟨i, hi, h0, h1, h2⟩ := info_parts Tryz.infoTerm
 have h := run_make (P := Tryz.prog) w 25 24 i _ Tryz.underlying25 hi h0 .i64 .i64 n n (by omega) (Int.le_refl _) (by rw [h2]; omega) (by omega)
 rw [h1, Int.toNat_natCast] at h
 exact h
theorem fiveF {w : World} {g : Nat} {a b c d f : Value} {t : TypeId} (h : w.heap[g]? = some (.cells #[a, b, c, d, f] t (0, 0))) :
  (w.cell? ⟨g, 0, none⟩ = some a /\ w.cell? ⟨g, 1, none⟩ = some b /\ w.cell? ⟨g, 2, none⟩ = some c /\ w.cell? ⟨g, 3, none⟩ = some d /\ w.cell? ⟨g, 4, none⟩ = some f) ∧
  w.frozen? ⟨g, 0, none⟩ = false /\ w.frozen? ⟨g, 1, none⟩ = false /\ w.frozen? ⟨g, 2, none⟩ = false /\ w.frozen? ⟨g, 3, none⟩ = false /\ w.frozen? ⟨g, 4, none⟩ = false :=
 ⟨five h, frozen_of_row _ _ _ _ _ h, frozen_of_row _ _ _ _ _ h, frozen_of_row _ _ _ _ _ h, frozen_of_row _ _ _ _ _ h, frozen_of_row _ _ _ _ _ h⟩
theorem store5 {W : World} {G : Nat} {a b c d e a' b' c' d' e' : Value} {t : TypeId} (h : W.heap[G]? = some (.cells #[a, b, c, d, e] t (0, 0))) :
  (((((W.setCell ⟨G, 0, none⟩ a').setCell ⟨G, 1, none⟩ b').setCell ⟨G, 2, none⟩ c').setCell ⟨G, 3, none⟩ d').setCell ⟨G, 4, none⟩ e').heap[G]? = some (.cells #[a', b', c', d', e'] t (0, 0)) := by
 have h1 := heap_setCell_same _ _ 0 _ _ a' h
 have h2 := heap_setCell_same _ _ 1 _ _ b' h1
 have h3 := heap_setCell_same _ _ 2 _ _ c' h2
 have h4 := heap_setCell_same _ _ 3 _ _ d' h3
 exact heap_setCell_same _ _ 4 _ _ e' h4
theorem store5_other {W : World} {G k : Nat} {o : Obj} (a' b' c' d' e' : Value) (hk : k ≠ G) (h : W.heap[k]? = some o) :
  (((((W.setCell ⟨G, 0, none⟩ a').setCell ⟨G, 1, none⟩ b').setCell ⟨G, 2, none⟩ c').setCell ⟨G, 3, none⟩ d').setCell ⟨G, 4, none⟩ e').heap[k]? = some o := by
 rw [heap_setCell_other _ _ _ _ hk, heap_setCell_other _ _ _ _ hk, heap_setCell_other _ _ _ _ hk, heap_setCell_other _ _ _ _ hk, heap_setCell_other _ _ _ _ hk]; exact h
def TBlk (w : World) (g : Nat) (l : List Tm) (k : Nat) : Prop := ∃ C : Array Value, w.heap[g]? = some (.cells C 24 (0, 0)) /\ C.size = l.length * 3 ∧
 ∀ i t, i < k -> l[i]? = some t -> C[i * 3]? = some (.int .i64 t.k) /\ C[i * 3 + 1]? = some (.int .i64 t.n) /\ C[i * 3 + 2]? = some (.string t.s)
theorem TBlk.start {w : World} {g : Nat} {l : List Tm} {n : Nat} (hn : n = l.length) (h : w.heap[g]? = some (.cells (MC n) 24 (0, 0))) : TBlk w g l 0 :=
 ⟨_, h, by rw [MC, size_madeCells, hn], fun i t hi => absurd hi (Nat.not_lt_zero _)⟩
theorem TBlk.later {w w' : World} {g : Nat} {l : List Tm} {k : Nat} (h : TBlk w g l k) (hb : Below w.heap.size w w') : TBlk w' g l k := by
 obtain ⟨C, h1, h2⟩ := h
 exact ⟨C, (hb.block _ (Array.getElem?_eq_some_iff.1 h1).1).trans h1, h2⟩
theorem TBlk.other {w : World} {g G i : Nat} {a : Value} {l : List Tm} {k : Nat} (h : TBlk w g l k) (hk : g ≠ G) : TBlk (w.setCell ⟨G, i, none⟩ a) g l k := by
 obtain ⟨C, h1, h2⟩ := h
 exact ⟨C, by rw [heap_setCell_other _ _ _ _ hk]; exact h1, h2⟩
theorem TBlk.cells {w : World} {g : Nat} {l : List Tm} {k j : Nat} (h : TBlk w g l k) (hj : j < l.length * 3) : (∃ c, w.cell? ⟨g, j, none⟩ = some c) /\ w.frozen? ⟨g, j, none⟩ = false := by
 obtain ⟨C, h1, h2, -⟩ := h
 refine ⟨⟨C[j], ?_⟩, frozen_of_row _ _ _ _ _ h1⟩
 rw [cell_of_row _ _ _ _ _ _ h1]; simp
theorem TBlk.put {w : World} {g : Nat} {l : List Tm} {k : Nat} {t : Tm} (h : TBlk w g l k) (ht : l[k]? = some t) :
  TBlk (((w.setCell ⟨g, k * 3, none⟩ (.int .i64 t.k)).setCell ⟨g, k * 3 + 1, none⟩ (.int .i64 t.n)).setCell ⟨g, k * 3 + 2, none⟩ (.string t.s)) g l (k + 1) := by
 obtain ⟨C, h1, h2, h3⟩ := h
 have hk := (List.getElem?_eq_some_iff.1 ht).1
 have e1 := heap_setCell_same _ _ (k * 3) _ _ (.int .i64 t.k) h1
 have e2 := heap_setCell_same _ _ (k * 3 + 1) _ _ (.int .i64 t.n) e1
 have e3 := heap_setCell_same _ _ (k * 3 + 2) _ _ (.string t.s) e2
 refine ⟨_, e3, by simp [h2], fun i u hi hu => ?_⟩
 by_cases hik : i = k
 ·subst hik
  rw [ht] at hu
  obtain rfl := Option.some.inj hu
  refine ⟨?_, ?_, ?_⟩ <;> simp [Array.getElem?_setIfInBounds, h2] <;> omega
 ·obtain ⟨a, b, c⟩ := h3 i u (by omega) hu
  refine ⟨?_, ?_, ?_⟩
  ·rw [Array.getElem?_setIfInBounds_ne (by omega), Array.getElem?_setIfInBounds_ne (by omega), Array.getElem?_setIfInBounds_ne (by omega)]; exact a
  ·rw [Array.getElem?_setIfInBounds_ne (by omega), Array.getElem?_setIfInBounds_ne (by omega), Array.getElem?_setIfInBounds_ne (by omega)]; exact b
  ·rw [Array.getElem?_setIfInBounds_ne (by omega), Array.getElem?_setIfInBounds_ne (by omega), Array.getElem?_setIfInBounds_ne (by omega)]; exact c
theorem TBlk.ts {w : World} {g : Nat} {l : List Tm} {n cap : Nat} (hn : n = l.length) (hl : n <= 4398046511104) (h : TBlk w g l n) : Ts w (.slice (some ⟨g, 0, none⟩) n cap) l := by
 subst hn
 obtain ⟨C, h1, h2, h3⟩ := h
 refine ⟨_, cap, rfl, by omega, Or.inr ⟨g, 0, rfl, (Array.getElem?_eq_some_iff.1 h1).1, fun i t ht => ?_⟩⟩
 obtain ⟨a, b, c⟩ := h3 i t (List.getElem?_eq_some_iff.1 ht).1 ht
 rw [cell_of_row _ _ _ _ _ _ h1, cell_of_row _ _ _ _ _ _ h1, cell_of_row _ _ _ _ _ _ h1]
 simp only [Nat.zero_add]
 exact ⟨a, b, c⟩
theorem BoxB.later2 {w W W' : World} {c d : Array Value} {t t' : TypeId} (h : BoxB w W c d t t') (hb : Below (w.heap.size + 2) W W') : BoxB w W' c d t t' :=
 ⟨(hb.block _ (by omega)).trans h.1, (hb.block _ (by omega)).trans h.2.1, h.2.2.trans (hb.mono (by omega))⟩
theorem bset3 {B : Nat} {W V : World} {G i j m : Nat} {a b c : Value} (h : Below B W V) (hg : B <= G) : Below B W (((V.setCell ⟨G, i, none⟩ a).setCell ⟨G, j, none⟩ b).setCell ⟨G, m, none⟩ c) :=
 ((h.setCell (p := ⟨G, i, none⟩) hg _).setCell (p := ⟨G, j, none⟩) hg _).setCell (p := ⟨G, m, none⟩) hg _
end Go.Proofs.YtechceagghcipaaGreatDoor
