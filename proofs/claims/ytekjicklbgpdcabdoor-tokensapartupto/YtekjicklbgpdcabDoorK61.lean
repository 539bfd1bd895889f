/-
  lend and whole of the laws: lists that were handed out, each with its marks.
-/
import Derived.Test.YtekjicklbgpdcabDoorK60
import Derived.Test.YtekjicklbgpdcabDoorK41
import Derived.ArgAppend
import Derived.Maps.Range
import Derived.Maps.AppendAt
import Derived.BigQuiet
namespace Go.Proofs.YtekjicklbgpdcabDoor
open Go.RowKit

/-- The mark number i of list m. -/
def mk (m i : Int) : Tk := ⟨-m - 1, ⟨#[]⟩, i, 0, 0⟩
def mks (m : Int) (j : Nat) (l : List Tk) : List Tk := (List.range j).map (fun i : Nat => mk m (i : Int)) ++ l.drop j
theorem mks_zero (m : Int) (l : List Tk) : mks m 0 l = l := rfl
theorem mks_len {m : Int} {j : Nat} {l : List Tk} (h : j ≤ l.length) : (mks m j l).length = l.length := by simp [mks]; omega
theorem mks_step {m : Int} {j : Nat} {l : List Tk} (h : j < l.length) : (mks m j l).set j (mk m (j : Int)) = mks m (j + 1) l := by
  unfold mks
  rw [List.set_append_right _ _ (by simp), List.range_succ, List.map_append]
  simp only [List.length_map, List.length_range, Nat.sub_self, List.map_cons, List.map_nil, List.append_assoc, List.cons_append, List.nil_append]
  rw [List.drop_eq_getElem_cons h, List.set_cons_zero]
def mkL (m : Int) (n : Nat) : List Tk := (List.range n).map fun i : Nat => mk m (i : Int)
theorem mks_all (m : Int) (l : List Tk) : mks m l.length l = mkL m l.length := by simp [mks, mkL]
theorem mkL_len (m : Int) (n : Nat) : (mkL m n).length = n := by simp [mkL]
theorem mkL_get {m : Int} {n i : Nat} (h : i < n) : (mkL m n)[i]? = some (mk m (i : Int)) := by simp [mkL, h]
theorem kcs_set (l : List Tk) (i : Nat) (t : Tk) (h : i < l.length) : (((((kcs l).set (i * 5) (.int .i64 t.k)).set (i * 5 + 1) (.string t.x)).set (i * 5 + 2) (.int .i64 t.n)).set (i * 5 + 3) (.int .i64 t.a)).set (i * 5 + 4) (.int .i64 t.e) = kcs (l.set i t) := by
  induction l generalizing i with
  | nil => simp at h
  | cons u l ih =>
    cases i with
    | zero => simp [kcs]
    | succ i =>
      simp only [List.length_cons] at h
      have := ih i (by omega)
      have e : kcs (u :: l) = [.int .i64 u.k, .string u.x, .int .i64 u.n, .int .i64 u.a, .int .i64 u.e] ++ kcs l := by simp [kcs]
      have e' : kcs (u :: l.set i t) = [.int .i64 u.k, .string u.x, .int .i64 u.n, .int .i64 u.a, .int .i64 u.e] ++ kcs (l.set i t) := by simp [kcs]
      rw [List.set_cons_succ, e', e, ← this]
      rw [List.set_append_right _ _ (by simp; omega), List.set_append_right _ _ (by simp; omega), List.set_append_right _ _ (by simp; omega), List.set_append_right _ _ (by simp; omega), List.set_append_right _ _ (by simp; omega)]
      simp only [List.length_cons, List.length_nil]
      rw [show (i + 1) * 5 - (0 + 1 + 1 + 1 + 1 + 1) = i * 5 by omega, show (i + 1) * 5 + 1 - (0 + 1 + 1 + 1 + 1 + 1) = i * 5 + 1 by omega, show (i + 1) * 5 + 2 - (0 + 1 + 1 + 1 + 1 + 1) = i * 5 + 2 by omega, show (i + 1) * 5 + 3 - (0 + 1 + 1 + 1 + 1 + 1) = i * 5 + 3 by omega, show (i + 1) * 5 + 4 - (0 + 1 + 1 + 1 + 1 + 1) = i * 5 + 4 by omega]
theorem OwnK.cells {w : World} {base g n cap : Nat} {l : List Tk} {i : Nat} (h : OwnK w base (.slice (some ⟨g, 0, none⟩) n cap) l) (hi : i < l.length) : ∀ j, j < 5 → (∃ c, w.cell? ⟨g, i * 5 + j, none⟩ = some c) ∧ w.frozen? ⟨g, i * 5 + j, none⟩ = false := by
  intro j hj
  rcases h.2 with ⟨hv, -⟩ | ⟨g', cap', cur, hv, -, hg, hn, -, hc, -⟩
  · cases hv
  · simp only [Value.slice.injEq, Option.some.injEq, Addr.mk.injEq, and_true] at hv
    obtain ⟨rfl, rfl, rfl⟩ := hv
    refine ⟨⟨cur[i * 5 + j]'(by rw [hc]; have := Nat.mul_le_mul_right 5 hn; omega), ?_⟩, frozen_of_row _ _ _ _ _ hg⟩
    rw [cell_of_row _ _ _ _ _ _ hg]; simp
theorem OwnK.put {w : World} {base g n cap : Nat} {l : List Tk} {i : Nat} (h : OwnK w base (.slice (some ⟨g, 0, none⟩) n cap) l) (hi : i < l.length) (t : Tk) :
    OwnK (((((w.setCell ⟨g, i * 5, none⟩ (.int .i64 t.k)).setCell ⟨g, i * 5 + 1, none⟩ (.string t.x)).setCell ⟨g, i * 5 + 2, none⟩ (.int .i64 t.n)).setCell ⟨g, i * 5 + 3, none⟩ (.int .i64 t.a)).setCell ⟨g, i * 5 + 4, none⟩ (.int .i64 t.e)) base (.slice (some ⟨g, 0, none⟩) n cap) (l.set i t) ∧
    w.grownBy (((((w.setCell ⟨g, i * 5, none⟩ (.int .i64 t.k)).setCell ⟨g, i * 5 + 1, none⟩ (.string t.x)).setCell ⟨g, i * 5 + 2, none⟩ (.int .i64 t.n)).setCell ⟨g, i * 5 + 3, none⟩ (.int .i64 t.a)).setCell ⟨g, i * 5 + 4, none⟩ (.int .i64 t.e)) (some g) := by
  have hn : n = l.length := by
    rcases h.2 with ⟨hv, -⟩ | ⟨g', cap', cur, hv, -⟩
    · cases hv
    · simp only [Value.slice.injEq] at hv; exact hv.2.1
  subst hn
  obtain ⟨h1, g1⟩ := World.ownsRow.stored h (i * 5) (.int .i64 t.k)
  obtain ⟨h2, g2⟩ := World.ownsRow.stored h1 (i * 5 + 1) (.string t.x)
  obtain ⟨h3, g3⟩ := World.ownsRow.stored h2 (i * 5 + 2) (.int .i64 t.n)
  obtain ⟨h4, g4⟩ := World.ownsRow.stored h3 (i * 5 + 3) (.int .i64 t.a)
  obtain ⟨h5, g5⟩ := World.ownsRow.stored h4 (i * 5 + 4) (.int .i64 t.e)
  refine ⟨?_, (((g1.trans g2).trans g3).trans g4).trans g5⟩
  unfold OwnK
  rw [List.length_set, ← kcs_set l i t hi]
  exact h5
/-- Tokens in memory, in a block of which S says something. -/
def KsS (w : World) (S : Nat → Prop) (v : Value) (l : List Tk) : Prop :=
  ∃ a cap, v = .slice a l.length cap ∧ (l = [] ∨ ∃ b o, a = some ⟨b, o, none⟩ ∧ b < w.heap.size ∧ S b ∧ ∀ (i : Nat) (t : Tk), l[i]? = some t →
    w.cell? ⟨b, o + i * 5, none⟩ = some (.int .i64 t.k) ∧ w.cell? ⟨b, o + i * 5 + 1, none⟩ = some (.string t.x) ∧ w.cell? ⟨b, o + i * 5 + 2, none⟩ = some (.int .i64 t.n) ∧ w.cell? ⟨b, o + i * 5 + 3, none⟩ = some (.int .i64 t.a) ∧ w.cell? ⟨b, o + i * 5 + 4, none⟩ = some (.int .i64 t.e))
theorem KsS.kept {w w' : World} {S S' : Nat → Prop} {v : Value} {l : List Tk} (h : KsS w S v l) (hz : w.heap.size ≤ w'.heap.size) (hS : ∀ b, b < w.heap.size → S b → S' b ∧ w'.heap[b]? = w.heap[b]?) : KsS w' S' v l := by
  obtain ⟨a, cap, hv, hm⟩ := h
  refine ⟨a, cap, hv, ?_⟩
  rcases hm with hm | ⟨b, o, ha, hb, hs, hc⟩
  · exact Or.inl hm
  · have e := (hS b hb hs).2
    have hcc : ∀ i, w'.cell? ⟨b, i, none⟩ = w.cell? ⟨b, i, none⟩ := fun i => World.cell?_of_block (w := w) (a := ⟨b, i, none⟩) e
    refine Or.inr ⟨b, o, ha, Nat.lt_of_lt_of_le hb hz, (hS b hb hs).1, fun i t hi => ?_⟩
    simp only [hcc]
    exact hc i t hi
theorem OwnK.kss {w : World} {base : Nat} {v : Value} {l : List Tk} (h : OwnK w base v l) : KsS w (fun b => some b = v.ownBlock) v l := by
  rcases h.2 with ⟨hv, hn⟩ | ⟨g, cap, cur, hv, -, hg, -, -, -, ht⟩
  · have : l = [] := List.eq_nil_of_length_eq_zero hn
    subst this
    exact ⟨none, 0, hv, Or.inl rfl⟩
  · refine ⟨some ⟨g, 0, none⟩, cap, hv, Or.inr ⟨g, 0, rfl, (Array.getElem?_eq_some_iff.1 hg).1, by rw [hv]; rfl, fun i t hi => ?_⟩⟩
    have hc : ∀ (j : Nat) (u : Value), (kcs l)[j]? = some u → w.cell? ⟨g, 0 + j, none⟩ = some u := fun j u hj => by
      have := World.ownsRow.cells h (g := g) (by rw [hv]; rfl) j u hj
      rw [Addr.add_mid] at this
      exact this
    obtain ⟨h0, h1, h2, h3, h4⟩ := kcs_get l i t hi
    exact ⟨hc _ _ h0, hc _ _ h1, hc _ _ h2, hc _ _ h3, hc _ _ h4⟩
/-- A list as it was handed out, and what append gave behind it. -/
def Kep (w : World) (S : Nat → Prop) (v G : Value) (m : Int) (n : Nat) : Prop := KsS w S v (mkL m n) ∧ KsS w S G (mkL m n ++ [mk m (-1)])
theorem Kep.kept {w w' : World} {S S' : Nat → Prop} {v G : Value} {m : Int} {n : Nat} (h : Kep w S v G m n) (hz : w.heap.size ≤ w'.heap.size) (hS : ∀ b, b < w.heap.size → S b → S' b ∧ w'.heap[b]? = w.heap[b]?) : Kep w' S' v G m n :=
  ⟨h.1.kept hz hS, h.2.kept hz hS⟩
def LPost (w : World) (v : Value) (m : Int) (n : Nat) (e : Ending) (w' : World) : Prop :=
  ∃ G, e = .returned (.agg #[v, G, .int .i64 m]) ∧ Kep w' (fun b => some b = v.ownBlock ∨ w.heap.size ≤ b) v G m n ∧ w.grownBy w' v.ownBlock
end Go.Proofs.YtekjicklbgpdcabDoor
