/-
  TermOwn's three kinds of lists, and marks put into them. (Written by TO4.py.)
-/
import Derived.Test.YtnaiecemmhioeaaDoorTO3
namespace Go.Proofs.YtnaiecemmhioeaaDoor
open Go.RowKit

def encI (x : Int) : List Value := [.int .i64 x]
/-- The lists ahead of n, and the first q of the list n, bear their marks. -/
def Pw {α : Type} (o : Nat → α) (n q : Nat) (k : Nat) (l : List α) : Prop := ∀ i t, (k < n ∨ (k = n ∧ i < q)) → l[i]? = some t → t = o k
theorem pw_zero {α : Type} (o : Nat → α) (k : Nat) (l : List α) : Pw o 0 0 k l := fun i t h => by omega
theorem pw_put {α : Type} {o : Nat → α} {n q : Nat} {l : List α} (h : Pw o n q n l) (hq : q < l.length) : Pw o n (q + 1) n (l.set q (o n)) := fun i t hi ht => by
  rw [List.getElem?_set] at ht
  by_cases e : q = i
  · subst e; rw [if_pos rfl, if_pos hq] at ht; cases ht; rfl
  · rw [if_neg e] at ht; exact h i t (by omega) ht
theorem pw_other {α : Type} {o : Nat → α} {n q k : Nat} {l : List α} (hk : k ≠ n) (h : Pw o n q k l) : Pw o n (q + 1) k l := fun i t hi ht => h i t (by omega) ht
theorem pw_next {α : Type} {o : Nat → α} {n m k : Nat} {l : List α} (hl : k = n → l.length = m) (h : Pw o n m k l) : Pw o (n + 1) 0 k l := fun i t hi ht => by
  refine h i t ?_ ht
  have := (List.getElem?_eq_some_iff.1 ht).1
  by_cases e : k = n
  · right; exact ⟨e, by rw [← hl e]; exact this⟩
  · left; omega
theorem pw_all {α : Type} {o : Nat → α} {n k : Nat} {l : List α} (hk : k < n) (h : Pw o n 0 k l) : l = List.replicate l.length (o k) := by
  rw [List.eq_replicate_iff]
  refine ⟨rfl, fun t ht => ?_⟩
  obtain ⟨i, hi⟩ := List.mem_iff_getElem?.1 ht
  exact h i t (Or.inl hk) hi
theorem set3 (l : List Tm) (i : Nat) (t : Tm) (h : i < l.length) : ((((l.flatMap Tm.cs).set (i * 3) (.int .i64 t.k)).set (i * 3 + 1) (.int .i64 t.n)).set (i * 3 + 2) (.string t.s)) = (l.set i t).flatMap Tm.cs := by
  induction l generalizing i with
  | nil => simp at h
  | cons u l ih =>
    cases i with
    | zero => simp [Tm.cs]
    | succ i =>
      simp only [List.length_cons] at h
      have := ih i (by omega)
      have e : (u :: l).flatMap Tm.cs = Tm.cs u ++ l.flatMap Tm.cs := by simp
      have e' : (u :: l.set i t).flatMap Tm.cs = Tm.cs u ++ (l.set i t).flatMap Tm.cs := by simp
      have el : (Tm.cs u).length = 3 := rfl
      rw [List.set_cons_succ, e', e, ← this]
      rw [List.set_append_right _ _ (by rw [el]; omega), List.set_append_right _ _ (by rw [el]; omega), List.set_append_right _ _ (by rw [el]; omega)]
      rw [el]
      rw [show (i + 1) * 3 - 3 = i * 3 by omega, show (i + 1) * 3 + 1 - 3 = i * 3 + 1 by omega, show (i + 1) * 3 + 2 - 3 = i * 3 + 2 by omega]
theorem set4 (l : List Bd) (i : Nat) (t : Bd) (h : i < l.length) : (((((l.flatMap Bd.cs).set (i * 4) (.int .i64 t.x)).set (i * 4 + 1) (.int .i64 t.to.k)).set (i * 4 + 2) (.int .i64 t.to.n)).set (i * 4 + 3) (.string t.to.s)) = (l.set i t).flatMap Bd.cs := by
  induction l generalizing i with
  | nil => simp at h
  | cons u l ih =>
    cases i with
    | zero => simp [Bd.cs]
    | succ i =>
      simp only [List.length_cons] at h
      have := ih i (by omega)
      have e : (u :: l).flatMap Bd.cs = Bd.cs u ++ l.flatMap Bd.cs := by simp
      have e' : (u :: l.set i t).flatMap Bd.cs = Bd.cs u ++ (l.set i t).flatMap Bd.cs := by simp
      have el : (Bd.cs u).length = 4 := rfl
      rw [List.set_cons_succ, e', e, ← this]
      rw [List.set_append_right _ _ (by rw [el]; omega), List.set_append_right _ _ (by rw [el]; omega), List.set_append_right _ _ (by rw [el]; omega), List.set_append_right _ _ (by rw [el]; omega)]
      rw [el]
      rw [show (i + 1) * 4 - 4 = i * 4 by omega, show (i + 1) * 4 + 1 - 4 = i * 4 + 1 by omega, show (i + 1) * 4 + 2 - 4 = i * 4 + 2 by omega, show (i + 1) * 4 + 3 - 4 = i * 4 + 3 by omega]
theorem set1 (l : List Int) (i : Nat) (t : Int) (h : i < l.length) : ((l.flatMap encI).set (i * 1) (.int .i64 t)) = (l.set i t).flatMap encI := by
  induction l generalizing i with
  | nil => simp at h
  | cons u l ih =>
    cases i with
    | zero => simp [encI]
    | succ i =>
      simp only [List.length_cons] at h
      have := ih i (by omega)
      have e : (u :: l).flatMap encI = encI u ++ l.flatMap encI := by simp
      have e' : (u :: l.set i t).flatMap encI = encI u ++ (l.set i t).flatMap encI := by simp
      have el : (encI u).length = 1 := rfl
      rw [List.set_cons_succ, e', e, ← this]
      rw [List.set_append_right _ _ (by rw [el]; omega)]
      rw [el]
      rw [show (i + 1) * 1 - 1 = i * 1 by omega]
abbrev KT := Kd 23 24 3 Tm.cs
abbrev KB := Kd 43 28 4 Bd.cs
abbrev KN := Kd 3 48 1 encI
theorem row_cell {X : World} {B : Nat} {ty : TypeId} {K g n cap i : Nat} {cs : List Value} (h : X.ownsRow B ty K (.slice (some ⟨g, 0, none⟩) n cap) n cs) (hi : i < n * K) : (∃ c, X.cell? ⟨g, i, none⟩ = some c) ∧ X.frozen? ⟨g, i, none⟩ = false := by
  rcases h.2 with ⟨h, _⟩ | ⟨g', cap', cur, hv, hb, hg, hn, hc, hs, ht⟩
  · cases h
  · simp only [Value.slice.injEq, Option.some.injEq, Addr.mk.injEq] at hv
    obtain ⟨⟨rfl, -⟩, -, rfl⟩ := hv
    have hz : i < cur.size := by rw [hs]; exact Nat.lt_of_lt_of_le hi (Nat.mul_le_mul_right _ hn)
    exact ⟨⟨cur[i], by rw [cell_of_row _ _ _ _ _ _ hg]; exact Array.getElem?_eq_getElem hz⟩, by simp [World.frozen?, hg]⟩
theorem KT.put {X : World} {B : Nat} {v : Value} {xs : List (Value × Nat)} {n q m cap g : Nat} (h : KT X B v xs (Pw oT n q)) (hx : xs[n]? = some (.slice (some ⟨g, 0, none⟩) m cap, m)) (hq : q < m) : KT (((X.setCell ⟨g, q * 3, none⟩ (.int .i64 (-7))).setCell ⟨g, q * 3 + 1, none⟩ (.int .i64 (n : Int))).setCell ⟨g, q * 3 + 2, none⟩ (.string oB)) B v xs (Pw oT n (q + 1)) ∧ X.grownBy (((X.setCell ⟨g, q * 3, none⟩ (.int .i64 (-7))).setCell ⟨g, q * 3 + 1, none⟩ (.int .i64 (n : Int))).setCell ⟨g, q * 3 + 2, none⟩ (.string oB)) (some g) := by
  obtain ⟨l, h1, h2, h3⟩ := h.i n _ hx
  simp only at h1 h2
  have hg : X.grownBy (((X.setCell ⟨g, q * 3, none⟩ (.int .i64 (-7))).setCell ⟨g, q * 3 + 1, none⟩ (.int .i64 (n : Int))).setCell ⟨g, q * 3 + 2, none⟩ (.string oB)) (some g) := (((grown_put X g (q * 3) (.int .i64 (-7))).trans (grown_put _ g (q * 3 + 1) (.int .i64 (n : Int)))).trans (grown_put _ g (q * 3 + 2) (.string oB)))
  refine ⟨h.upd (by decide) hx hg (l' := l.set q (oT n)) (by rw [List.length_set]; exact h1) ?_ (pw_put h3 (by omega)) (fun k x l hk _ hp => pw_other hk hp), hg⟩
  have := (row_put (i := q * 3 + 2) (.string oB) (row_put (i := q * 3 + 1) (.int .i64 (n : Int)) (row_put (i := q * 3) (.int .i64 (-7)) h2 (by omega)) (by omega)) (by omega))
  rw [← set3 l q (oT n) (by omega)]
  exact this
theorem KB.put {X : World} {B : Nat} {v : Value} {xs : List (Value × Nat)} {n q m cap g : Nat} (h : KB X B v xs (Pw oD n q)) (hx : xs[n]? = some (.slice (some ⟨g, 0, none⟩) m cap, m)) (hq : q < m) : KB ((((X.setCell ⟨g, q * 4, none⟩ (.int .i64 (-1 - (n : Int)))).setCell ⟨g, q * 4 + 1, none⟩ (.int .i64 (-7))).setCell ⟨g, q * 4 + 2, none⟩ (.int .i64 (n : Int))).setCell ⟨g, q * 4 + 3, none⟩ (.string oB)) B v xs (Pw oD n (q + 1)) ∧ X.grownBy ((((X.setCell ⟨g, q * 4, none⟩ (.int .i64 (-1 - (n : Int)))).setCell ⟨g, q * 4 + 1, none⟩ (.int .i64 (-7))).setCell ⟨g, q * 4 + 2, none⟩ (.int .i64 (n : Int))).setCell ⟨g, q * 4 + 3, none⟩ (.string oB)) (some g) := by
  obtain ⟨l, h1, h2, h3⟩ := h.i n _ hx
  simp only at h1 h2
  have hg : X.grownBy ((((X.setCell ⟨g, q * 4, none⟩ (.int .i64 (-1 - (n : Int)))).setCell ⟨g, q * 4 + 1, none⟩ (.int .i64 (-7))).setCell ⟨g, q * 4 + 2, none⟩ (.int .i64 (n : Int))).setCell ⟨g, q * 4 + 3, none⟩ (.string oB)) (some g) := ((((grown_put X g (q * 4) (.int .i64 (-1 - (n : Int)))).trans (grown_put _ g (q * 4 + 1) (.int .i64 (-7)))).trans (grown_put _ g (q * 4 + 2) (.int .i64 (n : Int)))).trans (grown_put _ g (q * 4 + 3) (.string oB)))
  refine ⟨h.upd (by decide) hx hg (l' := l.set q (oD n)) (by rw [List.length_set]; exact h1) ?_ (pw_put h3 (by omega)) (fun k x l hk _ hp => pw_other hk hp), hg⟩
  have := (row_put (i := q * 4 + 3) (.string oB) (row_put (i := q * 4 + 2) (.int .i64 (n : Int)) (row_put (i := q * 4 + 1) (.int .i64 (-7)) (row_put (i := q * 4) (.int .i64 (-1 - (n : Int))) h2 (by omega)) (by omega)) (by omega)) (by omega))
  rw [← set4 l q (oD n) (by omega)]
  exact this
theorem KN.put {X : World} {B : Nat} {v : Value} {xs : List (Value × Nat)} {n q m cap g : Nat} (h : KN X B v xs (Pw oI n q)) (hx : xs[n]? = some (.slice (some ⟨g, 0, none⟩) m cap, m)) (hq : q < m) : KN (X.setCell ⟨g, q * 1, none⟩ (.int .i64 (-1 - (n : Int)))) B v xs (Pw oI n (q + 1)) ∧ X.grownBy (X.setCell ⟨g, q * 1, none⟩ (.int .i64 (-1 - (n : Int)))) (some g) := by
  obtain ⟨l, h1, h2, h3⟩ := h.i n _ hx
  simp only at h1 h2
  have hg : X.grownBy (X.setCell ⟨g, q * 1, none⟩ (.int .i64 (-1 - (n : Int)))) (some g) := (grown_put X g (q * 1) (.int .i64 (-1 - (n : Int))))
  refine ⟨h.upd (by decide) hx hg (l' := l.set q (oI n)) (by rw [List.length_set]; exact h1) ?_ (pw_put h3 (by omega)) (fun k x l hk _ hp => pw_other hk hp), hg⟩
  have := (row_put (i := q * 1) (.int .i64 (-1 - (n : Int))) h2 (by omega))
  rw [← set1 l q (oI n) (by omega)]
  exact this
theorem ne9 {X : World} {g : Nat} {cur : Array Value} {ty a b : TypeId} (hc : X.heap[g]? = some (.cells cur ty (0, 0))) (h1 : ty ≠ a) (h2 : ty ≠ b) : ∀ k c, some g = some k → X.heap[k]? ≠ some (.cells c a (0, 0)) ∧ X.heap[k]? ≠ some (.cells c b (0, 0)) := fun k c e => by
  cases e
  rw [hc]
  refine ⟨fun h => ?_, fun h => ?_⟩
  · simp only [Option.some.injEq, Obj.cells.injEq] at h; exact h1 h.2.1
  · simp only [Option.some.injEq, Obj.cells.injEq] at h; exact h2 h.2.1
/-- All of the lists that the law keeps. -/
structure AL (W : World) (B Lb : Nat) (vT vB vN : Value) (ts bs ns : List (Value × Nat)) (X : World) (PT : Nat → List Tm → Prop) (PB : Nat → List Bd → Prop) (PN : Nat → List Int → Prop) : Prop where
  t : KT X B vT ts PT
  b' : KB X B vB bs PB
  n : KN X B vN ns PN
  l : Blk X Lb #[vT, vB, vN] 36
  b : Below B W X
  z : B ≤ X.heap.size
theorem AL.later {W X Y : World} {B Lb : Nat} {vT vB vN : Value} {ts bs ns : List (Value × Nat)} {PT : Nat → List Tm → Prop} {PB : Nat → List Bd → Prop} {PN : Nat → List Int → Prop} (h : AL W B Lb vT vB vN ts bs ns X PT PB PN) (hb : Below X.heap.size X Y) : AL W B Lb vT vB vN ts bs ns Y PT PB PN :=
  ⟨h.t.later hb, h.b'.later hb, h.n.later hb, h.l.later hb, h.b.trans (hb.mono h.z), Nat.le_trans h.z hb.size⟩
theorem AL.putT {X W : World} {B Lb : Nat} {vT vB vN : Value} {ts bs ns : List (Value × Nat)} {PB : Nat → List Bd → Prop} {PN : Nat → List Int → Prop} {n q m cap g : Nat} (h : AL W B Lb vT vB vN ts bs ns X (Pw oT n q) PB PN) (hx : ts[n]? = some (.slice (some ⟨g, 0, none⟩) m cap, m)) (hq : q < m) : AL W B Lb vT vB vN ts bs ns (((X.setCell ⟨g, q * 3, none⟩ (.int .i64 (-7))).setCell ⟨g, q * 3 + 1, none⟩ (.int .i64 (n : Int))).setCell ⟨g, q * 3 + 2, none⟩ (.string oB)) (Pw oT n (q + 1)) PB PN := by
  obtain ⟨hk, hg⟩ := h.t.put hx hq
  obtain ⟨l, -, h2, -⟩ := h.t.i n _ hx
  obtain ⟨hBg, cur, hc⟩ := own_block h2 (b := g) rfl
  refine ⟨hk, (h.b'.kept hg (ne9 hc (by decide) (by decide))), (h.n.kept hg (ne9 hc (by decide) (by decide))), ?_, h.b.grown hg h.z (fun k e => by cases e; exact hBg), Nat.le_trans h.z hg.size⟩
  refine (hg.block _ h.l.lt (fun e => ?_)).trans h.l
  cases e
  have hl := h.l
  unfold Blk at hl
  rw [hc] at hl
  simp only [Option.some.injEq, Obj.cells.injEq] at hl
  exact absurd hl.2.1 (by decide)
theorem AL.putB {X W : World} {B Lb : Nat} {vT vB vN : Value} {ts bs ns : List (Value × Nat)} {PT : Nat → List Tm → Prop} {PN : Nat → List Int → Prop} {n q m cap g : Nat} (h : AL W B Lb vT vB vN ts bs ns X PT (Pw oD n q) PN) (hx : bs[n]? = some (.slice (some ⟨g, 0, none⟩) m cap, m)) (hq : q < m) : AL W B Lb vT vB vN ts bs ns ((((X.setCell ⟨g, q * 4, none⟩ (.int .i64 (-1 - (n : Int)))).setCell ⟨g, q * 4 + 1, none⟩ (.int .i64 (-7))).setCell ⟨g, q * 4 + 2, none⟩ (.int .i64 (n : Int))).setCell ⟨g, q * 4 + 3, none⟩ (.string oB)) PT (Pw oD n (q + 1)) PN := by
  obtain ⟨hk, hg⟩ := h.b'.put hx hq
  obtain ⟨l, -, h2, -⟩ := h.b'.i n _ hx
  obtain ⟨hBg, cur, hc⟩ := own_block h2 (b := g) rfl
  refine ⟨(h.t.kept hg (ne9 hc (by decide) (by decide))), hk, (h.n.kept hg (ne9 hc (by decide) (by decide))), ?_, h.b.grown hg h.z (fun k e => by cases e; exact hBg), Nat.le_trans h.z hg.size⟩
  refine (hg.block _ h.l.lt (fun e => ?_)).trans h.l
  cases e
  have hl := h.l
  unfold Blk at hl
  rw [hc] at hl
  simp only [Option.some.injEq, Obj.cells.injEq] at hl
  exact absurd hl.2.1 (by decide)
theorem AL.putN {X W : World} {B Lb : Nat} {vT vB vN : Value} {ts bs ns : List (Value × Nat)} {PT : Nat → List Tm → Prop} {PB : Nat → List Bd → Prop} {n q m cap g : Nat} (h : AL W B Lb vT vB vN ts bs ns X PT PB (Pw oI n q)) (hx : ns[n]? = some (.slice (some ⟨g, 0, none⟩) m cap, m)) (hq : q < m) : AL W B Lb vT vB vN ts bs ns (X.setCell ⟨g, q * 1, none⟩ (.int .i64 (-1 - (n : Int)))) PT PB (Pw oI n (q + 1)) := by
  obtain ⟨hk, hg⟩ := h.n.put hx hq
  obtain ⟨l, -, h2, -⟩ := h.n.i n _ hx
  obtain ⟨hBg, cur, hc⟩ := own_block h2 (b := g) rfl
  refine ⟨(h.t.kept hg (ne9 hc (by decide) (by decide))), (h.b'.kept hg (ne9 hc (by decide) (by decide))), hk, ?_, h.b.grown hg h.z (fun k e => by cases e; exact hBg), Nat.le_trans h.z hg.size⟩
  refine (hg.block _ h.l.lt (fun e => ?_)).trans h.l
  cases e
  have hl := h.l
  unfold Blk at hl
  rw [hc] at hl
  simp only [Option.some.injEq, Obj.cells.injEq] at hl
  exact absurd hl.2.1 (by decide)
end Go.Proofs.YtnaiecemmhioeaaDoor
