/-
  Lists of atoms and of tests that a call makes by append. (Written by MD8.py.)
-/
import Derived.Test.YtllgffmhbddigaaGreatMD7
namespace Go.Proofs.YtllgffmhbddigaaGreat
open Go.RowKit
attribute [local go_sem ↓] Go.wp_at_zero Go.wp_at_succ

def acell (x : At × Value) : List Value := [.int .i64 x.1.by_.k, .int .i64 x.1.by_.n, .string x.1.by_.s, .string x.1.name, x.2]
def ecell (x : Te) : List Value := [.int .i64 x.op, .int .i64 x.l.k, .int .i64 x.l.n, .string x.l.s, .int .i64 x.r.k, .int .i64 x.r.n, .string x.r.s]
def acs (l : List (At × Value)) : List Value := l.flatMap acell
theorem acs_app (l m : List (At × Value)) : acs (l ++ m) = acs l ++ acs m := by simp [acs]
theorem acs_get (l : List (At × Value)) (j : Nat) (d : (At × Value)) (h : l[j]? = some d) (i : Nat) (hi : i < 5) : (acs l)[j * 5 + i]? = (acell d)[i]? := by
  induction l generalizing j with
  | nil => simp at h
  | cons e l ih =>
    rw [acs, List.flatMap_cons]
    cases j with
    | zero =>
      simp only [List.getElem?_cons_zero, Option.some.injEq] at h
      subst h
      rw [List.getElem?_append_left (by simp [acell]; omega)]
      simp
    | succ j =>
      simp only [List.getElem?_cons_succ] at h
      rw [List.getElem?_append_right (by simp [acell]; omega)]
      have e1 : (j + 1) * 5 + i - (acell e).length = j * 5 + i := by simp [acell]; omega
      rw [e1]
      exact ih j h
def OwnA (w : World) (base : Nat) (v : Value) (l : List (At × Value)) : Prop := w.ownsRow base 26 5 v l.length (acs l)
theorem OwnA.later {w w' : World} {base : Nat} {v : Value} {l : List (At × Value)} (h : OwnA w base v l) (hb : Below w.heap.size w w') : OwnA w' base v l := by
  refine ⟨h.1, ?_⟩
  rcases h.2 with hn | ⟨g, cap, cur, hv, hbb, hg, rest⟩
  · exact Or.inl hn
  · exact Or.inr ⟨g, cap, cur, hv, hbb, (hb.block g (Array.getElem?_eq_some_iff.1 hg).1).trans hg, rest⟩
theorem OwnA.mono {w : World} {b b' : Nat} {v : Value} {l : List (At × Value)} (h : OwnA w b v l) (hb : b' ≤ b) : OwnA w b' v l := by
  refine ⟨h.1, ?_⟩
  rcases h.2 with hn | ⟨g, cap, cur, hv, hbb, rest⟩
  · exact Or.inl hn
  · exact Or.inr ⟨g, cap, cur, hv, Nat.le_trans hb hbb, rest⟩
theorem OwnA.nil (w : World) (base : Nat) : OwnA w base (.slice none 0 0) [] := World.ownsRow_nil _ _ _ _
theorem OwnA.lt {w : World} {base : Nat} {v : Value} {l : List (At × Value)} (h : OwnA w base v l) : ∀ k, v.ownBlock = some k → base ≤ k ∧ k < w.heap.size := World.ownsRow.lt h
theorem OwnA.off {w : World} {base G i : Nat} {a : Value} {v : Value} {l : List (At × Value)} (h : OwnA w base v l) (hG : ∀ k, v.ownBlock = some k → k ≠ G) : OwnA (w.setCell ⟨G, i, none⟩ a) base v l := by
  refine ⟨h.1, ?_⟩
  rcases h.2 with hn | ⟨g, cap, cur, hv, hbb, hg, rest⟩
  · exact Or.inl hn
  · exact Or.inr ⟨g, cap, cur, hv, hbb, by rw [heap_setCell_other _ _ _ _ (hG g (by rw [hv]; rfl))]; exact hg, rest⟩
theorem OwnA.set {w : World} {base G i : Nat} {a : Value} {v : Value} {l : List (At × Value)} (h : OwnA w base v l) (hG : G < base) : OwnA (w.setCell ⟨G, i, none⟩ a) base v l := h.off fun k hk => by have := (h.lt k hk).1; omega
theorem OwnA.grown {w w' : World} {base : Nat} {v : Value} {l : List (At × Value)} {row : Option Nat} (h : OwnA w base v l) (hg : w.grownBy w' row) (hne : ∀ k, v.ownBlock = some k → row ≠ some k) : OwnA w' base v l := by
  refine ⟨h.1, ?_⟩
  rcases h.2 with hn | ⟨g, cap, cur, hv, hbb, hgg, rest⟩
  · exact Or.inl hn
  · exact Or.inr ⟨g, cap, cur, hv, hbb, (hg.block g (Array.getElem?_eq_some_iff.1 hgg).1 (fun e => hne g (by rw [hv]; rfl) e.symm)).trans hgg, rest⟩
theorem OwnA.form {w : World} {base : Nat} {v : Value} {l : List (At × Value)} (h : OwnA w base v l) : ∃ a cap, v = .slice a l.length cap := by
  rcases h.2 with ⟨rfl, hn⟩ | ⟨g, cap, cur, hv, -⟩
  · exact ⟨none, 0, by rw [hn]⟩
  · exact ⟨_, cap, hv⟩
theorem OwnA.cells {w : World} {base g cap n : Nat} {l : List (At × Value)} (h : OwnA w base (.slice (some ⟨g, 0, none⟩) n cap) l) (j : Nat) (d : (At × Value)) (hd : l[j]? = some d) (i : Nat) (hi : i < 5) : w.cell? ⟨g, j * 5 + i, none⟩ = (acell d)[i]? := by
  rcases h.2 with ⟨h, _⟩ | ⟨g', cap', cur, hv, hb, hg, hn, hc, hs, ht⟩
  · cases h
  · simp only [Value.slice.injEq, Option.some.injEq, Addr.mk.injEq] at hv
    obtain ⟨⟨rfl, -⟩, -, rfl⟩ := hv
    have hj := (List.getElem?_eq_some_iff.1 hd).1
    rw [cell_of_row _ _ _ _ _ _ hg, ← acs_get l j d hd i hi, ← ht, List.getElem?_take_of_lt (by omega)]
    simp
theorem aapp_one {ops : Array Oper} {rest : List Oper} {o : Oper} {a : Act} {Q : Exit → Act → World → Prop} {w : World} (hgd : o.guard = none) (s x : Operand)
    (ho : o.op = .call { callee := .builtin .append, args := #[s, x], argTypes := #[27, 27] }) (base : Nat) (v : Value) (l : List (At × Value)) (hs : a.eval s = v) (hown : OwnA w base v l)
    (b : Nat) (y : (At × Value)) (hx : a.eval x = .slice (some ⟨b, 0, none⟩) 1 1) (hblk : CBlk w b (acell y).toArray 26) (h1c : ∀ u ∈ acell y, u.oneCell' = true) (hlen : l.length ≤ 1800000000000) (hbase : base ≤ w.heap.size)
    (h : ∀ v' w', OwnA w' base v' (l ++ [y]) → Below base w w' → w.grownBy w' v.ownBlock → (∀ k, v'.ownBlock = some k → v.ownBlock = some k ∨ w.heap.size ≤ k) → wpList Tryz.prog ops Q rest (a.put o.dst v') w') : wpList Tryz.prog ops Q (o :: rest) a w := by
  obtain ⟨i0, hi0, hz0, hz1, hz2⟩ := info_parts Tryz.infoAtom
  refine wpList_append_lies _ hgd s x 27 ho base 26 i0 _ 5 72 Tryz.underlying27 hi0 hz0 hz1 hz2 rfl (by omega) v l.length (acs l) hs hown ⟨b, 0, none⟩ 1 1 (acs [y]) hx (by simp [acs, acell]) ?_ (by simpa [acs] using h1c) (by omega) (by unfold maxLen; omega) (by omega) hbase _ rfl ?_
  · intro j u hj
    have := World.news_of_block (cs := (acell y).toArray) (t := 26) (fr := (0, 0)) hblk j u
    exact this (by simpa [acs] using hj)
  · intro g cap w' h1 h2 h3 h4
    refine h _ w' ?_ (grown_below3 h2 (fun k hk => (World.ownsRow.lt hown k hk).1) hbase) h2 (fun k hk => by cases hk; exact h3.imp id (fun e => Nat.le_of_eq e.symm))
    unfold OwnA
    rw [List.length_append, acs_app]
    exact h1
theorem astep_one {ops : Array Oper} {o : Oper} {a : Act} {K : Act → World → Prop} {Q : Exit → Act → World → Prop} {E : Prop} {w : World} (hgd : o.guard = none) (s x : Operand)
    (ho : o.op = .call { callee := .builtin .append, args := #[s, x], argTypes := #[27, 27] }) (base : Nat) (v : Value) (l : List (At × Value)) (hs : a.eval s = v) (hown : OwnA w base v l)
    (b : Nat) (y : (At × Value)) (hx : a.eval x = .slice (some ⟨b, 0, none⟩) 1 1) (hblk : CBlk w b (acell y).toArray 26) (h1c : ∀ u ∈ acell y, u.oneCell' = true) (hlen : l.length ≤ 1800000000000) (hbase : base ≤ w.heap.size)
    (h : ∀ v' w', OwnA w' base v' (l ++ [y]) → Below base w w' → w.grownBy w' v.ownBlock → (∀ k, v'.ownBlock = some k → v.ownBlock = some k ∨ w.heap.size ≤ k) → K (a.put o.dst v') w') : if Region.wanted o (yielded ops a.tmps) = true then Oper.wp Tryz.prog o a w K Q else E := by
  obtain ⟨i0, hi0, hz0, hz1, hz2⟩ := info_parts Tryz.infoAtom
  refine step_append_lies _ hgd s x 27 ho base 26 i0 _ 5 72 Tryz.underlying27 hi0 hz0 hz1 hz2 rfl (by omega) v l.length (acs l) hs hown ⟨b, 0, none⟩ 1 1 (acs [y]) hx (by simp [acs, acell]) ?_ (by simpa [acs] using h1c) (by omega) (by unfold maxLen; omega) (by omega) hbase _ rfl ?_
  · intro j u hj
    have := World.news_of_block (cs := (acell y).toArray) (t := 26) (fr := (0, 0)) hblk j u
    exact this (by simpa [acs] using hj)
  · intro g cap w' h1 h2 h3 h4
    refine h _ w' ?_ (grown_below3 h2 (fun k hk => (World.ownsRow.lt hown k hk).1) hbase) h2 (fun k hk => by cases hk; exact h3.imp id (fun e => Nat.le_of_eq e.symm))
    unfold OwnA
    rw [List.length_append, acs_app]
    exact h1
def ecs (l : List Te) : List Value := l.flatMap ecell
theorem ecs_app (l m : List Te) : ecs (l ++ m) = ecs l ++ ecs m := by simp [ecs]
theorem ecs_get (l : List Te) (j : Nat) (d : Te) (h : l[j]? = some d) (i : Nat) (hi : i < 7) : (ecs l)[j * 7 + i]? = (ecell d)[i]? := by
  induction l generalizing j with
  | nil => simp at h
  | cons e l ih =>
    rw [ecs, List.flatMap_cons]
    cases j with
    | zero =>
      simp only [List.getElem?_cons_zero, Option.some.injEq] at h
      subst h
      rw [List.getElem?_append_left (by simp [ecell]; omega)]
      simp
    | succ j =>
      simp only [List.getElem?_cons_succ] at h
      rw [List.getElem?_append_right (by simp [ecell]; omega)]
      have e1 : (j + 1) * 7 + i - (ecell e).length = j * 7 + i := by simp [ecell]; omega
      rw [e1]
      exact ih j h
def OwnE (w : World) (base : Nat) (v : Value) (l : List Te) : Prop := w.ownsRow base 45 7 v l.length (ecs l)
theorem OwnE.later {w w' : World} {base : Nat} {v : Value} {l : List Te} (h : OwnE w base v l) (hb : Below w.heap.size w w') : OwnE w' base v l := by
  refine ⟨h.1, ?_⟩
  rcases h.2 with hn | ⟨g, cap, cur, hv, hbb, hg, rest⟩
  · exact Or.inl hn
  · exact Or.inr ⟨g, cap, cur, hv, hbb, (hb.block g (Array.getElem?_eq_some_iff.1 hg).1).trans hg, rest⟩
theorem OwnE.mono {w : World} {b b' : Nat} {v : Value} {l : List Te} (h : OwnE w b v l) (hb : b' ≤ b) : OwnE w b' v l := by
  refine ⟨h.1, ?_⟩
  rcases h.2 with hn | ⟨g, cap, cur, hv, hbb, rest⟩
  · exact Or.inl hn
  · exact Or.inr ⟨g, cap, cur, hv, Nat.le_trans hb hbb, rest⟩
theorem OwnE.nil (w : World) (base : Nat) : OwnE w base (.slice none 0 0) [] := World.ownsRow_nil _ _ _ _
theorem OwnE.lt {w : World} {base : Nat} {v : Value} {l : List Te} (h : OwnE w base v l) : ∀ k, v.ownBlock = some k → base ≤ k ∧ k < w.heap.size := World.ownsRow.lt h
theorem OwnE.off {w : World} {base G i : Nat} {a : Value} {v : Value} {l : List Te} (h : OwnE w base v l) (hG : ∀ k, v.ownBlock = some k → k ≠ G) : OwnE (w.setCell ⟨G, i, none⟩ a) base v l := by
  refine ⟨h.1, ?_⟩
  rcases h.2 with hn | ⟨g, cap, cur, hv, hbb, hg, rest⟩
  · exact Or.inl hn
  · exact Or.inr ⟨g, cap, cur, hv, hbb, by rw [heap_setCell_other _ _ _ _ (hG g (by rw [hv]; rfl))]; exact hg, rest⟩
theorem OwnE.set {w : World} {base G i : Nat} {a : Value} {v : Value} {l : List Te} (h : OwnE w base v l) (hG : G < base) : OwnE (w.setCell ⟨G, i, none⟩ a) base v l := h.off fun k hk => by have := (h.lt k hk).1; omega
theorem OwnE.grown {w w' : World} {base : Nat} {v : Value} {l : List Te} {row : Option Nat} (h : OwnE w base v l) (hg : w.grownBy w' row) (hne : ∀ k, v.ownBlock = some k → row ≠ some k) : OwnE w' base v l := by
  refine ⟨h.1, ?_⟩
  rcases h.2 with hn | ⟨g, cap, cur, hv, hbb, hgg, rest⟩
  · exact Or.inl hn
  · exact Or.inr ⟨g, cap, cur, hv, hbb, (hg.block g (Array.getElem?_eq_some_iff.1 hgg).1 (fun e => hne g (by rw [hv]; rfl) e.symm)).trans hgg, rest⟩
theorem OwnE.form {w : World} {base : Nat} {v : Value} {l : List Te} (h : OwnE w base v l) : ∃ a cap, v = .slice a l.length cap := by
  rcases h.2 with ⟨rfl, hn⟩ | ⟨g, cap, cur, hv, -⟩
  · exact ⟨none, 0, by rw [hn]⟩
  · exact ⟨_, cap, hv⟩
theorem OwnE.cells {w : World} {base g cap n : Nat} {l : List Te} (h : OwnE w base (.slice (some ⟨g, 0, none⟩) n cap) l) (j : Nat) (d : Te) (hd : l[j]? = some d) (i : Nat) (hi : i < 7) : w.cell? ⟨g, j * 7 + i, none⟩ = (ecell d)[i]? := by
  rcases h.2 with ⟨h, _⟩ | ⟨g', cap', cur, hv, hb, hg, hn, hc, hs, ht⟩
  · cases h
  · simp only [Value.slice.injEq, Option.some.injEq, Addr.mk.injEq] at hv
    obtain ⟨⟨rfl, -⟩, -, rfl⟩ := hv
    have hj := (List.getElem?_eq_some_iff.1 hd).1
    rw [cell_of_row _ _ _ _ _ _ hg, ← ecs_get l j d hd i hi, ← ht, List.getElem?_take_of_lt (by omega)]
    simp
theorem eapp_one {ops : Array Oper} {rest : List Oper} {o : Oper} {a : Act} {Q : Exit → Act → World → Prop} {w : World} (hgd : o.guard = none) (s x : Operand)
    (ho : o.op = .call { callee := .builtin .append, args := #[s, x], argTypes := #[28, 28] }) (base : Nat) (v : Value) (l : List Te) (hs : a.eval s = v) (hown : OwnE w base v l)
    (b : Nat) (y : Te) (hx : a.eval x = .slice (some ⟨b, 0, none⟩) 1 1) (hblk : CBlk w b (ecell y).toArray 45) (h1c : ∀ u ∈ ecell y, u.oneCell' = true) (hlen : l.length ≤ 1800000000000) (hbase : base ≤ w.heap.size)
    (h : ∀ v' w', OwnE w' base v' (l ++ [y]) → Below base w w' → w.grownBy w' v.ownBlock → (∀ k, v'.ownBlock = some k → v.ownBlock = some k ∨ w.heap.size ≤ k) → wpList Tryz.prog ops Q rest (a.put o.dst v') w') : wpList Tryz.prog ops Q (o :: rest) a w := by
  obtain ⟨i0, hi0, hz0, hz1, hz2⟩ := info_parts Tryz.infoTest
  refine wpList_append_lies _ hgd s x 28 ho base 45 i0 _ 7 72 Tryz.underlying28 hi0 hz0 hz1 hz2 rfl (by omega) v l.length (ecs l) hs hown ⟨b, 0, none⟩ 1 1 (ecs [y]) hx (by simp [ecs, ecell]) ?_ (by simpa [ecs] using h1c) (by omega) (by unfold maxLen; omega) (by omega) hbase _ rfl ?_
  · intro j u hj
    have := World.news_of_block (cs := (ecell y).toArray) (t := 45) (fr := (0, 0)) hblk j u
    exact this (by simpa [ecs] using hj)
  · intro g cap w' h1 h2 h3 h4
    refine h _ w' ?_ (grown_below3 h2 (fun k hk => (World.ownsRow.lt hown k hk).1) hbase) h2 (fun k hk => by cases hk; exact h3.imp id (fun e => Nat.le_of_eq e.symm))
    unfold OwnE
    rw [List.length_append, ecs_app]
    exact h1
theorem estep_one {ops : Array Oper} {o : Oper} {a : Act} {K : Act → World → Prop} {Q : Exit → Act → World → Prop} {E : Prop} {w : World} (hgd : o.guard = none) (s x : Operand)
    (ho : o.op = .call { callee := .builtin .append, args := #[s, x], argTypes := #[28, 28] }) (base : Nat) (v : Value) (l : List Te) (hs : a.eval s = v) (hown : OwnE w base v l)
    (b : Nat) (y : Te) (hx : a.eval x = .slice (some ⟨b, 0, none⟩) 1 1) (hblk : CBlk w b (ecell y).toArray 45) (h1c : ∀ u ∈ ecell y, u.oneCell' = true) (hlen : l.length ≤ 1800000000000) (hbase : base ≤ w.heap.size)
    (h : ∀ v' w', OwnE w' base v' (l ++ [y]) → Below base w w' → w.grownBy w' v.ownBlock → (∀ k, v'.ownBlock = some k → v.ownBlock = some k ∨ w.heap.size ≤ k) → K (a.put o.dst v') w') : if Region.wanted o (yielded ops a.tmps) = true then Oper.wp Tryz.prog o a w K Q else E := by
  obtain ⟨i0, hi0, hz0, hz1, hz2⟩ := info_parts Tryz.infoTest
  refine step_append_lies _ hgd s x 28 ho base 45 i0 _ 7 72 Tryz.underlying28 hi0 hz0 hz1 hz2 rfl (by omega) v l.length (ecs l) hs hown ⟨b, 0, none⟩ 1 1 (ecs [y]) hx (by simp [ecs, ecell]) ?_ (by simpa [ecs] using h1c) (by omega) (by unfold maxLen; omega) (by omega) hbase _ rfl ?_
  · intro j u hj
    have := World.news_of_block (cs := (ecell y).toArray) (t := 45) (fr := (0, 0)) hblk j u
    exact this (by simpa [ecs] using hj)
  · intro g cap w' h1 h2 h3 h4
    refine h _ w' ?_ (grown_below3 h2 (fun k hk => (World.ownsRow.lt hown k hk).1) hbase) h2 (fun k hk => by cases hk; exact h3.imp id (fun e => Nat.le_of_eq e.symm))
    unfold OwnE
    rw [List.length_append, ecs_app]
    exact h1
theorem OwnA.as {w : World} {base : Nat} {v : Value} {l : List (At × Value)} (h : OwnA w base v l) (hl : l.length < 1000000000000000000) (ht : ∀ x ∈ l, Ts w x.2 x.1.args) : As w v l := by
  have hh := h
  rcases h.2 with ⟨rfl, hn⟩ | ⟨g, cap, cur, rfl, hb, hg, -⟩
  · exact ⟨none, 0, by rw [hn], hl, Or.inl (List.length_eq_zero_iff.1 hn), ht⟩
  · refine ⟨_, cap, rfl, hl, Or.inr ⟨g, 0, rfl, (Array.getElem?_eq_some_iff.1 hg).1, fun i x hx => ?_⟩, ht⟩
    have k := fun j hj => OwnA.cells hh i x hx j hj
    simp only [Nat.zero_add]
    exact ⟨k 0 (by omega), k 1 (by omega), k 2 (by omega), k 3 (by omega), k 4 (by omega)⟩
theorem OwnE.es {w : World} {base : Nat} {v : Value} {l : List Te} (h : OwnE w base v l) (hl : l.length < 1000000000000000000) : Es w v l := by
  have hh := h
  rcases h.2 with ⟨rfl, hn⟩ | ⟨g, cap, cur, rfl, hb, hg, -⟩
  · exact ⟨none, 0, by rw [hn], hl, Or.inl (List.length_eq_zero_iff.1 hn)⟩
  · refine ⟨_, cap, rfl, hl, Or.inr ⟨g, 0, rfl, (Array.getElem?_eq_some_iff.1 hg).1, fun i x hx => ?_⟩⟩
    have k := fun j hj => OwnE.cells hh i x hx j hj
    simp only [Nat.zero_add]
    exact ⟨k 0 (by omega), k 1 (by omega), k 2 (by omega), k 3 (by omega), k 4 (by omega), k 5 (by omega), k 6 (by omega)⟩
theorem OwnT.grown {w w' : World} {base : Nat} {v : Value} {l : List Tm} {row : Option Nat} (h : OwnT w base v l) (hg : w.grownBy w' row) (hne : ∀ k, v.ownBlock = some k → row ≠ some k) : OwnT w' base v l := by
  refine ⟨h.1, ?_⟩
  rcases h.2 with hn | ⟨g, cap, cur, hv, hbb, hgg, rest⟩
  · exact Or.inl hn
  · exact Or.inr ⟨g, cap, cur, hv, hbb, (hg.block g (Array.getElem?_eq_some_iff.1 hgg).1 (fun e => hne g (by rw [hv]; rfl) e.symm)).trans hgg, rest⟩
theorem ecell_one (y : Te) : ∀ u ∈ ecell y, u.oneCell' = true := by
  intro u hu
  simp [ecell] at hu
  rcases hu with rfl | rfl | rfl | rfl | rfl | rfl | rfl <;> rfl
theorem acell_one (y : At) (a : Option Addr) (n cap : Nat) : ∀ u ∈ acell (y, .slice a n cap), u.oneCell' = true := by
  intro u hu
  simp [acell] at hu
  rcases hu with rfl | rfl | rfl | rfl | rfl <;> rfl
end Go.Proofs.YtllgffmhbddigaaGreat
