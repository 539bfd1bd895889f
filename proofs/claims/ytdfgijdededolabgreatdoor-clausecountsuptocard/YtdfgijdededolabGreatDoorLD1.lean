import Derived.Test.YtdfgijdededolabGreatDoorMD7
import Derived.Test.YtdfgijdededolabGreatDoorCL20
import Derived.Deep.RegionHeld3
import Derived.BigQuiet
/-
  Lists of atoms and of tests that a call makes by append. (Written by MD8.py.)
-/
namespace Go.Proofs.YtdfgijdededolabGreatDoor
open Go.RowKit
attribute [local go_sem ↓] Go.wp_at_zero Go.wp_at_succ

def acell (x : At × Value) : List Value := [.int .i64 x.1.by_.k, .int .i64 x.1.by_.n, .string x.1.by_.s, .string x.1.name, x.2]
def ecell (x : Te) : List Value := [.int .i64 x.op, .int .i64 x.l.k, .int .i64 x.l.n, .string x.l.s, .int .i64 x.r.k, .int .i64 x.r.n, .string x.r.s]
def acs (l : List (At × Value)) : List Value := l.flatMap acell
theorem acs_len (l : List (At × Value)) : (acs l).length = l.length * 5 := by
  induction l with
  | nil => rfl
  | cons d l ih => simp only [acs, List.flatMap_cons, List.length_append, List.length_cons] at *; rw [ih]; simp [acell]; omega
theorem acs_app (l m : List (At × Value)) : acs (l ++ m) = acs l ++ acs m := by simp [acs]
theorem acs_get (l : List (At × Value)) (j : Nat) (d : (At × Value)) (h : l[j]? = some d) (i : Nat) (hi : i < 5) : (acs l)[j * 5 + i]? = (acell d)[i]? := by
  induction l generalizing j with
  | nil => simp at h
  | cons e l ih =>
    rw [acs, List.flatMap_cons]
    cases j with
    | zero =>
      simp only [List.getElem?_cons_zero, Option.some.injEq] at h
      subst h
      rw [List.getElem?_append_left (by simp [acell]; omega)]
      simp
    | succ j =>
      simp only [List.getElem?_cons_succ] at h
      rw [List.getElem?_append_right (by simp [acell]; omega)]
      have e1 : (j + 1) * 5 + i - (acell e).length = j * 5 + i := by simp [acell]; omega
      rw [e1]
      exact ih j h
def OwnA (w : World) (base : Nat) (v : Value) (l : List (At × Value)) : Prop := w.ownsRow base 37 5 v l.length (acs l)
theorem OwnA.later {w w' : World} {base : Nat} {v : Value} {l : List (At × Value)} (h : OwnA w base v l) (hb : Below w.heap.size w w') : OwnA w' base v l := by
  refine ⟨h.1, ?_⟩
  rcases h.2 with hn | ⟨g, cap, cur, hv, hbb, hg, rest⟩
  · exact Or.inl hn
  · exact Or.inr ⟨g, cap, cur, hv, hbb, (hb.block g (Array.getElem?_eq_some_iff.1 hg).1).trans hg, rest⟩
theorem OwnA.mono {w : World} {b b' : Nat} {v : Value} {l : List (At × Value)} (h : OwnA w b v l) (hb : b' ≤ b) : OwnA w b' v l := by
  refine ⟨h.1, ?_⟩
  rcases h.2 with hn | ⟨g, cap, cur, hv, hbb, rest⟩
  · exact Or.inl hn
  · exact Or.inr ⟨g, cap, cur, hv, Nat.le_trans hb hbb, rest⟩
theorem OwnA.nil (w : World) (base : Nat) : OwnA w base (.slice none 0 0) [] := World.ownsRow_nil _ _ _ _
theorem OwnA.lt {w : World} {base : Nat} {v : Value} {l : List (At × Value)} (h : OwnA w base v l) : ∀ k, v.ownBlock = some k → base ≤ k ∧ k < w.heap.size := World.ownsRow.lt h
theorem OwnA.off {w : World} {base G i : Nat} {a : Value} {v : Value} {l : List (At × Value)} (h : OwnA w base v l) (hG : ∀ k, v.ownBlock = some k → k ≠ G) : OwnA (w.setCell ⟨G, i, none⟩ a) base v l := by
  refine ⟨h.1, ?_⟩
  rcases h.2 with hn | ⟨g, cap, cur, hv, hbb, hg, rest⟩
  · exact Or.inl hn
  · exact Or.inr ⟨g, cap, cur, hv, hbb, by rw [heap_setCell_other _ _ _ _ (hG g (by rw [hv]; rfl))]; exact hg, rest⟩
theorem OwnA.set {w : World} {base G i : Nat} {a : Value} {v : Value} {l : List (At × Value)} (h : OwnA w base v l) (hG : G < base) : OwnA (w.setCell ⟨G, i, none⟩ a) base v l := h.off fun k hk => by have := (h.lt k hk).1; omega
theorem OwnA.grown {w w' : World} {base : Nat} {v : Value} {l : List (At × Value)} {row : Option Nat} (h : OwnA w base v l) (hg : w.grownBy w' row) (hne : ∀ k, v.ownBlock = some k → row ≠ some k) : OwnA w' base v l := by
  refine ⟨h.1, ?_⟩
  rcases h.2 with hn | ⟨g, cap, cur, hv, hbb, hgg, rest⟩
  · exact Or.inl hn
  · exact Or.inr ⟨g, cap, cur, hv, hbb, (hg.block g (Array.getElem?_eq_some_iff.1 hgg).1 (fun e => hne g (by rw [hv]; rfl) e.symm)).trans hgg, rest⟩
theorem OwnA.form {w : World} {base : Nat} {v : Value} {l : List (At × Value)} (h : OwnA w base v l) : ∃ a cap, v = .slice a l.length cap := by
  rcases h.2 with ⟨rfl, hn⟩ | ⟨g, cap, cur, hv, -⟩
  · exact ⟨none, 0, by rw [hn]⟩
  · exact ⟨_, cap, hv⟩
theorem OwnA.cells {w : World} {base g cap n : Nat} {l : List (At × Value)} (h : OwnA w base (.slice (some ⟨g, 0, none⟩) n cap) l) (j : Nat) (d : (At × Value)) (hd : l[j]? = some d) (i : Nat) (hi : i < 5) : w.cell? ⟨g, j * 5 + i, none⟩ = (acell d)[i]? := by
  rcases h.2 with ⟨h, _⟩ | ⟨g', cap', cur, hv, hb, hg, hn, hc, hs, ht⟩
  · cases h
  · simp only [Value.slice.injEq, Option.some.injEq, Addr.mk.injEq] at hv
    obtain ⟨⟨rfl, -⟩, -, rfl⟩ := hv
    have hj := (List.getElem?_eq_some_iff.1 hd).1
    rw [cell_of_row _ _ _ _ _ _ hg, ← acs_get l j d hd i hi, ← ht, List.getElem?_take_of_lt (by omega)]
    simp
theorem aapp_one {ops : Array Oper} {rest : List Oper} {o : Oper} {a : Act} {Q : Exit → Act → World → Prop} {w : World} (hgd : o.guard = none) (s x : Operand)
    (ho : o.op = .call { callee := .builtin .append, args := #[s, x], argTypes := #[38, 38] }) (base : Nat) (v : Value) (l : List (At × Value)) (hs : a.eval s = v) (hown : OwnA w base v l)
    (b : Nat) (y : (At × Value)) (hx : a.eval x = .slice (some ⟨b, 0, none⟩) 1 1) (hblk : CBlk w b (acell y).toArray 37) (h1c : ∀ u ∈ acell y, u.oneCell' = true) (hlen : l.length ≤ 1800000000000) (hbase : base ≤ w.heap.size)
    (h : ∀ v' w', OwnA w' base v' (l ++ [y]) → Below base w w' → w.grownBy w' v.ownBlock → (∀ k, v'.ownBlock = some k → v.ownBlock = some k ∨ w.heap.size ≤ k) → wpList Tryz.prog ops Q rest (a.put o.dst v') w') : wpList Tryz.prog ops Q (o :: rest) a w := by
  obtain ⟨i0, hi0, hz0, hz1, hz2⟩ := info_parts Tryz.infoAtom
  refine wpList_append_lies _ hgd s x 38 ho base 37 i0 _ 5 72 Tryz.underlying38 hi0 hz0 hz1 hz2 rfl (by omega) v l.length (acs l) hs hown ⟨b, 0, none⟩ 1 1 (acs [y]) hx (by simp [acs, acell]) ?_ (by simpa [acs] using h1c) (by omega) (by unfold maxLen; omega) (by omega) hbase _ rfl ?_
  · intro j u hj
    have := World.news_of_block (cs := (acell y).toArray) (t := 37) (fr := (0, 0)) hblk j u
    exact this (by simpa [acs] using hj)
  · intro g cap w' h1 h2 h3 h4
    refine h _ w' ?_ (grown_below3 h2 (fun k hk => (World.ownsRow.lt hown k hk).1) hbase) h2 (fun k hk => by cases hk; exact h3.imp id (fun e => Nat.le_of_eq e.symm))
    unfold OwnA
    rw [List.length_append, acs_app]
    exact h1
theorem astep_one {ops : Array Oper} {o : Oper} {a : Act} {K : Act → World → Prop} {Q : Exit → Act → World → Prop} {E : Prop} {w : World} (hgd : o.guard = none) (s x : Operand)
    (ho : o.op = .call { callee := .builtin .append, args := #[s, x], argTypes := #[38, 38] }) (base : Nat) (v : Value) (l : List (At × Value)) (hs : a.eval s = v) (hown : OwnA w base v l)
    (b : Nat) (y : (At × Value)) (hx : a.eval x = .slice (some ⟨b, 0, none⟩) 1 1) (hblk : CBlk w b (acell y).toArray 37) (h1c : ∀ u ∈ acell y, u.oneCell' = true) (hlen : l.length ≤ 1800000000000) (hbase : base ≤ w.heap.size)
    (h : ∀ v' w', OwnA w' base v' (l ++ [y]) → Below base w w' → w.grownBy w' v.ownBlock → (∀ k, v'.ownBlock = some k → v.ownBlock = some k ∨ w.heap.size ≤ k) → K (a.put o.dst v') w') : if Region.wanted o (yielded ops a.tmps) = true then Oper.wp Tryz.prog o a w K Q else E := by
  obtain ⟨i0, hi0, hz0, hz1, hz2⟩ := info_parts Tryz.infoAtom
  refine step_append_lies _ hgd s x 38 ho base 37 i0 _ 5 72 Tryz.underlying38 hi0 hz0 hz1 hz2 rfl (by omega) v l.length (acs l) hs hown ⟨b, 0, none⟩ 1 1 (acs [y]) hx (by simp [acs, acell]) ?_ (by simpa [acs] using h1c) (by omega) (by unfold maxLen; omega) (by omega) hbase _ rfl ?_
  · intro j u hj
    have := World.news_of_block (cs := (acell y).toArray) (t := 37) (fr := (0, 0)) hblk j u
    exact this (by simpa [acs] using hj)
  · intro g cap w' h1 h2 h3 h4
    refine h _ w' ?_ (grown_below3 h2 (fun k hk => (World.ownsRow.lt hown k hk).1) hbase) h2 (fun k hk => by cases hk; exact h3.imp id (fun e => Nat.le_of_eq e.symm))
    unfold OwnA
    rw [List.length_append, acs_app]
    exact h1
def ecs (l : List Te) : List Value := l.flatMap ecell
theorem ecs_len (l : List Te) : (ecs l).length = l.length * 7 := by
  induction l with
  | nil => rfl
  | cons d l ih => simp only [ecs, List.flatMap_cons, List.length_append, List.length_cons] at *; rw [ih]; simp [ecell]; omega
theorem ecs_app (l m : List Te) : ecs (l ++ m) = ecs l ++ ecs m := by simp [ecs]
theorem ecs_get (l : List Te) (j : Nat) (d : Te) (h : l[j]? = some d) (i : Nat) (hi : i < 7) : (ecs l)[j * 7 + i]? = (ecell d)[i]? := by
  induction l generalizing j with
  | nil => simp at h
  | cons e l ih =>
    rw [ecs, List.flatMap_cons]
    cases j with
    | zero =>
      simp only [List.getElem?_cons_zero, Option.some.injEq] at h
      subst h
      rw [List.getElem?_append_left (by simp [ecell]; omega)]
      simp
    | succ j =>
      simp only [List.getElem?_cons_succ] at h
      rw [List.getElem?_append_right (by simp [ecell]; omega)]
      have e1 : (j + 1) * 7 + i - (ecell e).length = j * 7 + i := by simp [ecell]; omega
      rw [e1]
      exact ih j h
def OwnE (w : World) (base : Nat) (v : Value) (l : List Te) : Prop := w.ownsRow base 88 7 v l.length (ecs l)
theorem OwnE.later {w w' : World} {base : Nat} {v : Value} {l : List Te} (h : OwnE w base v l) (hb : Below w.heap.size w w') : OwnE w' base v l := by
  refine ⟨h.1, ?_⟩
  rcases h.2 with hn | ⟨g, cap, cur, hv, hbb, hg, rest⟩
  · exact Or.inl hn
  · exact Or.inr ⟨g, cap, cur, hv, hbb, (hb.block g (Array.getElem?_eq_some_iff.1 hg).1).trans hg, rest⟩
theorem OwnE.mono {w : World} {b b' : Nat} {v : Value} {l : List Te} (h : OwnE w b v l) (hb : b' ≤ b) : OwnE w b' v l := by
  refine ⟨h.1, ?_⟩
  rcases h.2 with hn | ⟨g, cap, cur, hv, hbb, rest⟩
  · exact Or.inl hn
  · exact Or.inr ⟨g, cap, cur, hv, Nat.le_trans hb hbb, rest⟩
theorem OwnE.nil (w : World) (base : Nat) : OwnE w base (.slice none 0 0) [] := World.ownsRow_nil _ _ _ _
theorem OwnE.lt {w : World} {base : Nat} {v : Value} {l : List Te} (h : OwnE w base v l) : ∀ k, v.ownBlock = some k → base ≤ k ∧ k < w.heap.size := World.ownsRow.lt h
theorem OwnE.off {w : World} {base G i : Nat} {a : Value} {v : Value} {l : List Te} (h : OwnE w base v l) (hG : ∀ k, v.ownBlock = some k → k ≠ G) : OwnE (w.setCell ⟨G, i, none⟩ a) base v l := by
  refine ⟨h.1, ?_⟩
  rcases h.2 with hn | ⟨g, cap, cur, hv, hbb, hg, rest⟩
  · exact Or.inl hn
  · exact Or.inr ⟨g, cap, cur, hv, hbb, by rw [heap_setCell_other _ _ _ _ (hG g (by rw [hv]; rfl))]; exact hg, rest⟩
theorem OwnE.set {w : World} {base G i : Nat} {a : Value} {v : Value} {l : List Te} (h : OwnE w base v l) (hG : G < base) : OwnE (w.setCell ⟨G, i, none⟩ a) base v l := h.off fun k hk => by have := (h.lt k hk).1; omega
theorem OwnE.grown {w w' : World} {base : Nat} {v : Value} {l : List Te} {row : Option Nat} (h : OwnE w base v l) (hg : w.grownBy w' row) (hne : ∀ k, v.ownBlock = some k → row ≠ some k) : OwnE w' base v l := by
  refine ⟨h.1, ?_⟩
  rcases h.2 with hn | ⟨g, cap, cur, hv, hbb, hgg, rest⟩
  · exact Or.inl hn
  · exact Or.inr ⟨g, cap, cur, hv, hbb, (hg.block g (Array.getElem?_eq_some_iff.1 hgg).1 (fun e => hne g (by rw [hv]; rfl) e.symm)).trans hgg, rest⟩
theorem OwnE.form {w : World} {base : Nat} {v : Value} {l : List Te} (h : OwnE w base v l) : ∃ a cap, v = .slice a l.length cap := by
  rcases h.2 with ⟨rfl, hn⟩ | ⟨g, cap, cur, hv, -⟩
  · exact ⟨none, 0, by rw [hn]⟩
  · exact ⟨_, cap, hv⟩
theorem OwnE.cells {w : World} {base g cap n : Nat} {l : List Te} (h : OwnE w base (.slice (some ⟨g, 0, none⟩) n cap) l) (j : Nat) (d : Te) (hd : l[j]? = some d) (i : Nat) (hi : i < 7) : w.cell? ⟨g, j * 7 + i, none⟩ = (ecell d)[i]? := by
  rcases h.2 with ⟨h, _⟩ | ⟨g', cap', cur, hv, hb, hg, hn, hc, hs, ht⟩
  · cases h
  · simp only [Value.slice.injEq, Option.some.injEq, Addr.mk.injEq] at hv
    obtain ⟨⟨rfl, -⟩, -, rfl⟩ := hv
    have hj := (List.getElem?_eq_some_iff.1 hd).1
    rw [cell_of_row _ _ _ _ _ _ hg, ← ecs_get l j d hd i hi, ← ht, List.getElem?_take_of_lt (by omega)]
    simp
theorem eapp_one {ops : Array Oper} {rest : List Oper} {o : Oper} {a : Act} {Q : Exit → Act → World → Prop} {w : World} (hgd : o.guard = none) (s x : Operand)
    (ho : o.op = .call { callee := .builtin .append, args := #[s, x], argTypes := #[39, 39] }) (base : Nat) (v : Value) (l : List Te) (hs : a.eval s = v) (hown : OwnE w base v l)
    (b : Nat) (y : Te) (hx : a.eval x = .slice (some ⟨b, 0, none⟩) 1 1) (hblk : CBlk w b (ecell y).toArray 88) (h1c : ∀ u ∈ ecell y, u.oneCell' = true) (hlen : l.length ≤ 1800000000000) (hbase : base ≤ w.heap.size)
    (h : ∀ v' w', OwnE w' base v' (l ++ [y]) → Below base w w' → w.grownBy w' v.ownBlock → (∀ k, v'.ownBlock = some k → v.ownBlock = some k ∨ w.heap.size ≤ k) → wpList Tryz.prog ops Q rest (a.put o.dst v') w') : wpList Tryz.prog ops Q (o :: rest) a w := by
  obtain ⟨i0, hi0, hz0, hz1, hz2⟩ := info_parts Tryz.infoTest
  refine wpList_append_lies _ hgd s x 39 ho base 88 i0 _ 7 72 Tryz.underlying39 hi0 hz0 hz1 hz2 rfl (by omega) v l.length (ecs l) hs hown ⟨b, 0, none⟩ 1 1 (ecs [y]) hx (by simp [ecs, ecell]) ?_ (by simpa [ecs] using h1c) (by omega) (by unfold maxLen; omega) (by omega) hbase _ rfl ?_
  · intro j u hj
    have := World.news_of_block (cs := (ecell y).toArray) (t := 88) (fr := (0, 0)) hblk j u
    exact this (by simpa [ecs] using hj)
  · intro g cap w' h1 h2 h3 h4
    refine h _ w' ?_ (grown_below3 h2 (fun k hk => (World.ownsRow.lt hown k hk).1) hbase) h2 (fun k hk => by cases hk; exact h3.imp id (fun e => Nat.le_of_eq e.symm))
    unfold OwnE
    rw [List.length_append, ecs_app]
    exact h1
theorem estep_one {ops : Array Oper} {o : Oper} {a : Act} {K : Act → World → Prop} {Q : Exit → Act → World → Prop} {E : Prop} {w : World} (hgd : o.guard = none) (s x : Operand)
    (ho : o.op = .call { callee := .builtin .append, args := #[s, x], argTypes := #[39, 39] }) (base : Nat) (v : Value) (l : List Te) (hs : a.eval s = v) (hown : OwnE w base v l)
    (b : Nat) (y : Te) (hx : a.eval x = .slice (some ⟨b, 0, none⟩) 1 1) (hblk : CBlk w b (ecell y).toArray 88) (h1c : ∀ u ∈ ecell y, u.oneCell' = true) (hlen : l.length ≤ 1800000000000) (hbase : base ≤ w.heap.size)
    (h : ∀ v' w', OwnE w' base v' (l ++ [y]) → Below base w w' → w.grownBy w' v.ownBlock → (∀ k, v'.ownBlock = some k → v.ownBlock = some k ∨ w.heap.size ≤ k) → K (a.put o.dst v') w') : if Region.wanted o (yielded ops a.tmps) = true then Oper.wp Tryz.prog o a w K Q else E := by
  obtain ⟨i0, hi0, hz0, hz1, hz2⟩ := info_parts Tryz.infoTest
  refine step_append_lies _ hgd s x 39 ho base 88 i0 _ 7 72 Tryz.underlying39 hi0 hz0 hz1 hz2 rfl (by omega) v l.length (ecs l) hs hown ⟨b, 0, none⟩ 1 1 (ecs [y]) hx (by simp [ecs, ecell]) ?_ (by simpa [ecs] using h1c) (by omega) (by unfold maxLen; omega) (by omega) hbase _ rfl ?_
  · intro j u hj
    have := World.news_of_block (cs := (ecell y).toArray) (t := 88) (fr := (0, 0)) hblk j u
    exact this (by simpa [ecs] using hj)
  · intro g cap w' h1 h2 h3 h4
    refine h _ w' ?_ (grown_below3 h2 (fun k hk => (World.ownsRow.lt hown k hk).1) hbase) h2 (fun k hk => by cases hk; exact h3.imp id (fun e => Nat.le_of_eq e.symm))
    unfold OwnE
    rw [List.length_append, ecs_app]
    exact h1
theorem OwnA.as {w : World} {base : Nat} {v : Value} {l : List (At × Value)} (h : OwnA w base v l) (hl : l.length < 1000000000000000000) (ht : ∀ x ∈ l, Ts w x.2 x.1.args) : As w v l := by
  have hh := h
  rcases h.2 with ⟨rfl, hn⟩ | ⟨g, cap, cur, rfl, hb, hg, -⟩
  · exact ⟨none, 0, by rw [hn], hl, Or.inl (List.length_eq_zero_iff.1 hn), ht⟩
  · refine ⟨_, cap, rfl, hl, Or.inr ⟨g, 0, rfl, (Array.getElem?_eq_some_iff.1 hg).1, fun i x hx => ?_⟩, ht⟩
    have k := fun j hj => OwnA.cells hh i x hx j hj
    simp only [Nat.zero_add]
    exact ⟨k 0 (by omega), k 1 (by omega), k 2 (by omega), k 3 (by omega), k 4 (by omega)⟩
theorem OwnE.es {w : World} {base : Nat} {v : Value} {l : List Te} (h : OwnE w base v l) (hl : l.length < 1000000000000000000) : Es w v l := by
  have hh := h
  rcases h.2 with ⟨rfl, hn⟩ | ⟨g, cap, cur, rfl, hb, hg, -⟩
  · exact ⟨none, 0, by rw [hn], hl, Or.inl (List.length_eq_zero_iff.1 hn)⟩
  · refine ⟨_, cap, rfl, hl, Or.inr ⟨g, 0, rfl, (Array.getElem?_eq_some_iff.1 hg).1, fun i x hx => ?_⟩⟩
    have k := fun j hj => OwnE.cells hh i x hx j hj
    simp only [Nat.zero_add]
    exact ⟨k 0 (by omega), k 1 (by omega), k 2 (by omega), k 3 (by omega), k 4 (by omega), k 5 (by omega), k 6 (by omega)⟩
theorem OwnT.grown {w w' : World} {base : Nat} {v : Value} {l : List Tm} {row : Option Nat} (h : OwnT w base v l) (hg : w.grownBy w' row) (hne : ∀ k, v.ownBlock = some k → row ≠ some k) : OwnT w' base v l := by
  refine ⟨h.1, ?_⟩
  rcases h.2 with hn | ⟨g, cap, cur, hv, hbb, hgg, rest⟩
  · exact Or.inl hn
  · exact Or.inr ⟨g, cap, cur, hv, hbb, (hg.block g (Array.getElem?_eq_some_iff.1 hgg).1 (fun e => hne g (by rw [hv]; rfl) e.symm)).trans hgg, rest⟩
theorem ecell_one (y : Te) : ∀ u ∈ ecell y, u.oneCell' = true := by
  intro u hu
  simp [ecell] at hu
  rcases hu with rfl | rfl | rfl | rfl | rfl | rfl | rfl <;> rfl
theorem acell_one (y : At) (a : Option Addr) (n cap : Nat) : ∀ u ∈ acell (y, .slice a n cap), u.oneCell' = true := by
  intro u hu
  simp [acell] at hu
  rcases hu with rfl | rfl | rfl | rfl | rfl <;> rfl
end Go.Proofs.YtdfgijdededolabGreatDoor
/-
  Lists lent, with a term behind them, and looked at: terms, atoms. (Written by LD1.py.)
-/
namespace Go.Proofs.YtdfgijdededolabGreatDoor
open Go.RowKit
attribute [local go_sem ↓] Go.wp_at_zero Go.wp_at_succ

def bN : ByteArray := ⟨#[98, 101, 104, 105, 110, 100]⟩
def bT : Tm := ⟨901, 902, bN⟩
def bE : Te := ⟨903, zt, zt⟩
/-- What the two variables hold. -/
structure BehOk (w : World) : Prop where
  lt : 1 < w.heap.size
  le : 0 < w.heap.size
  t0 : w.cell? ⟨1, 0, none⟩ = some (.int .i64 901)
  t1 : w.cell? ⟨1, 1, none⟩ = some (.int .i64 902)
  t2 : w.cell? ⟨1, 2, none⟩ = some (.string ⟨#[98, 101, 104, 105, 110, 100]⟩)
  e0 : w.cell? ⟨0, 0, none⟩ = some (.int .i64 903)
  e1 : w.cell? ⟨0, 1, none⟩ = some (.int .i64 0)
  e2 : w.cell? ⟨0, 2, none⟩ = some (.int .i64 0)
  e3 : w.cell? ⟨0, 3, none⟩ = some (.string ⟨#[]⟩)
  e4 : w.cell? ⟨0, 4, none⟩ = some (.int .i64 0)
  e5 : w.cell? ⟨0, 5, none⟩ = some (.int .i64 0)
  e6 : w.cell? ⟨0, 6, none⟩ = some (.string ⟨#[]⟩)
theorem BehOk.later {w w' : World} (h : BehOk w) (hb : Below w.heap.size w w') : BehOk w' :=
  ⟨Nat.lt_of_lt_of_le h.lt hb.size, Nat.lt_of_lt_of_le h.le hb.size, cell_step hb h.lt h.t0, cell_step hb h.lt h.t1, cell_step hb h.lt h.t2, cell_step hb h.le h.e0, cell_step hb h.le h.e1, cell_step hb h.le h.e2, cell_step hb h.le h.e3, cell_step hb h.le h.e4, cell_step hb h.le h.e5, cell_step hb h.le h.e6⟩
theorem TsP.form {w : World} {v : Value} {l : List Tm} (h : TsP w v l) : ∃ a cap, v = .slice a l.length cap := by
  rcases h with ⟨rfl, rfl⟩ | ⟨ad, cap, rfl, _⟩
  · exact ⟨none, 0, rfl⟩
  · exact ⟨some ad, cap, rfl⟩
theorem ownT_some {w : World} {base : Nat} {v : Value} {l : List Tm} {d : Tm} (h : OwnT w base v (l ++ [d])) : ∃ g cap, v = .slice (some ⟨g, 0, none⟩) (l.length + 1) cap ∧ l.length + 1 ≤ cap := by
  rcases h.2 with ⟨_, hn⟩ | ⟨g, cap, cur, hv, _, _, hn, _⟩
  · simp at hn
  · rw [List.length_append, List.length_singleton] at hv hn; exact ⟨g, cap, hv, hn⟩
/-- A list of terms lent. -/
def LentT (X : World) (B : Nat) (v : Value) (l : List Tm) : Prop := ∃ g cap, v = .slice (some ⟨g, 0, none⟩) l.length cap ∧ OwnT X B (.slice (some ⟨g, 0, none⟩) (l.length + 1) cap) (l ++ [bT])
theorem LentT.later {X X' : World} {B : Nat} {v : Value} {l : List Tm} (h : LentT X B v l) (hb : Below X.heap.size X X') : LentT X' B v l := by
  obtain ⟨g, cap, e, ho⟩ := h
  exact ⟨g, cap, e, ho.later hb⟩
theorem LentT.mono {X : World} {B B' : Nat} {v : Value} {l : List Tm} (h : LentT X B v l) (hb : B' ≤ B) : LentT X B' v l := by
  obtain ⟨g, cap, e, ho⟩ := h
  exact ⟨g, cap, e, ho.mono hb⟩
theorem LentT.lt {X : World} {B : Nat} {v : Value} {l : List Tm} (h : LentT X B v l) : ∀ k, v.ownBlock = some k → B ≤ k ∧ k < X.heap.size := by
  obtain ⟨g, cap, rfl, ho⟩ := h
  exact fun k hk => ho.lt k hk
theorem LentT.grown {X X' : World} {B : Nat} {v : Value} {l : List Tm} {row : Option Nat} (h : LentT X B v l) (hg : X.grownBy X' row) (hne : ∀ k, v.ownBlock = some k → row ≠ some k) : LentT X' B v l := by
  obtain ⟨g, cap, rfl, ho⟩ := h
  exact ⟨g, cap, rfl, OwnT.grown ho hg fun k hk => hne k hk⟩
theorem LentT.ts {X : World} {B : Nat} {v : Value} {l : List Tm} (h : LentT X B v l) (hl : l.length < 1000000000000000000) : Ts X v l := by
  obtain ⟨g, cap, rfl, ho⟩ := h
  exact ownT_pre ho hl
theorem LentT.off {X : World} {B G i : Nat} {v c : Value} {l : List Tm} (h : LentT X B v l) (hne : ∀ k, v.ownBlock = some k → k ≠ G) : LentT (X.setCell ⟨G, i, none⟩ c) B v l := by
  obtain ⟨g, cap, rfl, ho⟩ := h
  exact ⟨g, cap, rfl, OwnT.off ho hne⟩
set_option maxRecDepth 20000 in
set_option maxHeartbeats 2000000 in
theorem lendT_any (l : List Tm) (v : Value) (w : World) (h : TsP w v l) (hl : l.length ≤ 3900000000000) (hB : BehOk w) :
    Calls Tryz.prog 24 #[v] w fun e w' => ∃ g cap, e = .returned (.slice (some ⟨g, 0, none⟩) l.length cap) ∧ OwnT w' w.heap.size (.slice (some ⟨g, 0, none⟩) (l.length + 1) cap) (l ++ [bT]) ∧ Below w.heap.size w w' := by
  have HP : Hid (TsP w v l) := h
  have HB : Hid (BehOk w) := hB
  obtain ⟨ad, cap, rfl⟩ := h.form
  have z0 : (0 : Int) ≤ (l.length : Int) := by omega
  clear h hB
  go_enter Tryz.func24, Tryz.ntmps24
  go_upto_region 3 with (at_builtin; refine app_terms rfl _ _ rfl w.heap.size (.slice none 0 0) [] (by rfl) (ownT_nil _ _) _ l (by rfl) HP.out (by simp only [List.length_nil]; omega) (Nat.le_refl _) ?_; intro v1 w1 hown hb hg; rw [List.nil_append] at hown; have HO : Hid (OwnT w1 w.heap.size v1 l) := hown; have HW : Hid (Below w.heap.size w w1) := hb; clear hown hb hg)
  obtain ⟨-, -, t0, t1, t2, -⟩ := HB.out.later HW.out
  have HG3 : Hid (CBlk (w1.alloc (.cells #[.int .i64 901, .int .i64 902, .string ⟨#[98, 101, 104, 105, 110, 100]⟩] 35)) w1.heap.size #[.int .i64 901, .int .i64 902, .string ⟨#[98, 101, 104, 105, 110, 100]⟩] 35) := CBlk.new _ _ _
  have HL3 : Hid (OwnT (w1.alloc (.cells #[.int .i64 901, .int .i64 902, .string ⟨#[98, 101, 104, 105, 110, 100]⟩] 35)) w.heap.size v1 l) := HO.out.later (below1 _ _)
  have HW3 : Hid (Below w.heap.size w (w1.alloc (.cells #[.int .i64 901, .int .i64 902, .string ⟨#[98, 101, 104, 105, 110, 100]⟩] 35))) := below_step HW.out (below1 _ _)
  go_wp2_with (at_builtin; refine app_terms rfl _ _ rfl w.heap.size v1 l (by rfl) HL3.out (.slice (some ⟨w1.heap.size, 0, none⟩) 1 1) [bT] (by rfl) (TsP.one (t := bT) HG3.out) (by simp only [List.length_cons, List.length_nil]; omega) HW3.out.size ?_; intro v2 w2 hown hb hg; obtain ⟨g, cap2, rfl, hcap⟩ := ownT_some hown; have hcap' : (l.length : Int) ≤ (cap2 : Int) := (by omega); have HO2 : Hid (OwnT w2 w.heap.size (.slice (some ⟨g, 0, none⟩) (l.length + 1) cap2) (l ++ [bT])) := hown; have HW2 : Hid (Below w.heap.size w w2) := HW3.out.trans hb; clear hown hb hg t0 t1 t2)
  go_ret
  exact ⟨g, cap2, rfl, HO2.out, HW2.out⟩
set_option maxRecDepth 20000 in
set_option maxHeartbeats 1000000 in
theorem keptT_any (l : List Tm) (v y : Value) (base : Nat) (w : World) (h : Ts w y l) (ho : LentT w base v l) (hB : BehOk w) :
    Calls Tryz.prog 27 #[v, y] w fun e w' => e = .returned (.bool true) ∧ Below w.heap.size w w' := by
  obtain ⟨g, cap, rfl, ho⟩ := ho
  have hs : l.length < 1000000000000000000 := by obtain ⟨_, _, _, h, _⟩ := h; exact h
  have hcap := ownT_cap ho
  have HS0 := sameTerms_any l l _ y w (ownT_pre ho hs) h
  rw [decide_eq_true rfl] at HS0
  have HS : Hid (Calls Tryz.prog 10 #[.slice (some ⟨g, 0, none⟩) l.length cap, y] w fun e w' => e = .returned (.bool true) ∧ Below w.heap.size w w') := HS0
  have HO : Hid (OwnT w base (.slice (some ⟨g, 0, none⟩) (l.length + 1) cap) (l ++ [bT])) := ho
  have HB : Hid (BehOk w) := hB
  obtain ⟨ad, cap', rfl, -, -⟩ := h
  have he := run_eql_tm ⟨901, 902, ⟨#[98, 101, 104, 105, 110, 100]⟩⟩ ⟨901, 902, ⟨#[98, 101, 104, 105, 110, 100]⟩⟩
  rw [decide_eq_true rfl] at he
  have i0 : (0 : Int) ≤ (l.length : Int) := by omega
  have i1 : (l.length : Int) < (l.length : Int) + 1 := by omega
  have hcap' : (l.length : Int) + 1 ≤ (cap : Int) := by omega
  clear ho hB HS0
  go_enter Tryz.func27, Tryz.ntmps27
  go_wp2_with (go_at_call 10; refine HS.out.mono ?_; rintro e w1 ⟨rfl, hb1⟩; obtain ⟨-, -, t0, t1, t2, -⟩ := HB.out.later hb1; obtain ⟨c0, c1, c2⟩ := ownT_cells (HO.out.later hb1) l.length bT (by simp); simp only [bT, bN] at c0 c1 c2; have HW1 : Hid (Below w.heap.size w w1) := hb1; clear hb1)
  go_quiet (fail)
  go_wp2
  go_ret
  exact ⟨ret_b rfl, below_drewN HW1.out _⟩
theorem bset5 {W X : World} {G : Nat} (h : Below W.heap.size W X) (hG : W.heap.size ≤ G) (a b c d e : Value) : Below W.heap.size W (((((X.setCell ⟨G, 0, none⟩ a).setCell ⟨G, 1, none⟩ b).setCell ⟨G, 2, none⟩ c).setCell ⟨G, 3, none⟩ d).setCell ⟨G, 4, none⟩ e) := ((((h.setCell (show W.heap.size ≤ G from hG) _).setCell (show W.heap.size ≤ G from hG) _).setCell (show W.heap.size ≤ G from hG) _).setCell (show W.heap.size ≤ G from hG) _).setCell (show W.heap.size ≤ G from hG) _
set_option maxRecDepth 20000 in
set_option maxHeartbeats 2000000 in
theorem lendA_any (a : At) (v : Value) (w : World) (h : TsP w v a.args) (hl : a.args.length ≤ 3900000000000) (hB : BehOk w) :
    Calls Tryz.prog 45 #[a.v v] w fun e w' => ∃ u, e = .returned (a.v u) ∧ LentT w' w.heap.size u a.args ∧ Below w.heap.size w w' := by
  obtain ⟨⟨k, n, ss⟩, nm, l⟩ := a
  simp only at h hl ⊢
  have HLT0 : ∀ X : World, Below w.heap.size w X → Calls Tryz.prog 24 #[v] X fun e w' => ∃ g cap, e = .returned (.slice (some ⟨g, 0, none⟩) l.length cap) ∧ OwnT w' X.heap.size (.slice (some ⟨g, 0, none⟩) (l.length + 1) cap) (l ++ [bT]) ∧ Below X.heap.size X w' := fun X hX => lendT_any l v X (h.later hX) hl (hB.later hX)
  obtain ⟨ad, cap, rfl⟩ := h.form
  have z1 : (w.alloc (.cells #[.int .i64 k, .int .i64 n, .string ss, .string nm, .slice ad l.length cap] 37)).heap.size = w.heap.size + 1 := by simp
  have hb1 : CBlk ((w.alloc (.cells #[.int .i64 k, .int .i64 n, .string ss, .string nm, .slice ad l.length cap] 37)).alloc (.cells #[.int .i64 0, .int .i64 0, .string ⟨#[]⟩, .string ⟨#[]⟩, .slice none 0 0] 37)) w.heap.size #[.int .i64 k, .int .i64 n, .string ss, .string nm, .slice ad l.length cap] 37 := (CBlk.new w #[.int .i64 k, .int .i64 n, .string ss, .string nm, .slice ad l.length cap] 37).later (below1 _ _)
  have hb2 : CBlk ((w.alloc (.cells #[.int .i64 k, .int .i64 n, .string ss, .string nm, .slice ad l.length cap] 37)).alloc (.cells #[.int .i64 0, .int .i64 0, .string ⟨#[]⟩, .string ⟨#[]⟩, .slice none 0 0] 37)) (w.heap.size + 1) #[.int .i64 0, .int .i64 0, .string ⟨#[]⟩, .string ⟨#[]⟩, .slice none 0 0] 37 := by
    have := CBlk.new (w.alloc (.cells #[.int .i64 k, .int .i64 n, .string ss, .string nm, .slice ad l.length cap] 37)) #[.int .i64 0, .int .i64 0, .string ⟨#[]⟩, .string ⟨#[]⟩, .slice none 0 0] 37
    rwa [z1] at this
  have HB1 : Hid (CBlk ((w.alloc (.cells #[.int .i64 k, .int .i64 n, .string ss, .string nm, .slice ad l.length cap] 37)).alloc (.cells #[.int .i64 0, .int .i64 0, .string ⟨#[]⟩, .string ⟨#[]⟩, .slice none 0 0] 37)) w.heap.size #[.int .i64 k, .int .i64 n, .string ss, .string nm, .slice ad l.length cap] 37) := hb1
  have HB2 : Hid (CBlk ((w.alloc (.cells #[.int .i64 k, .int .i64 n, .string ss, .string nm, .slice ad l.length cap] 37)).alloc (.cells #[.int .i64 0, .int .i64 0, .string ⟨#[]⟩, .string ⟨#[]⟩, .slice none 0 0] 37)) (w.heap.size + 1) #[.int .i64 0, .int .i64 0, .string ⟨#[]⟩, .string ⟨#[]⟩, .slice none 0 0] 37) := hb2
  have HW0 : Hid (Below w.heap.size w ((w.alloc (.cells #[.int .i64 k, .int .i64 n, .string ss, .string nm, .slice ad l.length cap] 37)).alloc (.cells #[.int .i64 0, .int .i64 0, .string ⟨#[]⟩, .string ⟨#[]⟩, .slice none 0 0] 37))) := below2 _ _ _
  clear h hB hb1 hb2 z1
  go_enter Tryz.func45, Tryz.ntmps45
  go_upto_region 1 with fail
  revert HB1 HB2 HW0
  generalize (w.alloc (.cells #[.int .i64 k, .int .i64 n, .string ss, .string nm, .slice ad l.length cap] 37)).alloc (.cells #[.int .i64 0, .int .i64 0, .string ⟨#[]⟩, .string ⟨#[]⟩, .slice none 0 0] 37) = W0
  intro HB1 HB2 HW0
  have HLT : Hid (∀ X : World, Below w.heap.size w X → Calls Tryz.prog 24 #[.slice ad l.length cap] X fun e w' => ∃ g cap, e = .returned (.slice (some ⟨g, 0, none⟩) l.length cap) ∧ OwnT w' X.heap.size (.slice (some ⟨g, 0, none⟩) (l.length + 1) cap) (l ++ [bT]) ∧ Below X.heap.size X w') := HLT0
  clear HLT0
  have HB2d : Hid (CBlk W0.drew (w.heap.size + 1) #[.int .i64 0, .int .i64 0, .string ⟨#[]⟩, .string ⟨#[]⟩, .slice none 0 0] 37) := HB2.out.later (Below.refl _ _).drew
  refine wp_region_held_drew (S := fun w' => Below w.heap.size w w' ∧ CBlk w' w.heap.size #[.int .i64 k, .int .i64 n, .string ss, .string nm, .slice ad l.length cap] 37) (by kernel_rfl) ⟨below_step HW0.out (Below.refl _ _).drew, HB1.out.later (Below.refl _ _).drew⟩ (fun hH => ?_)
  revert hH HB2d
  generalize W0.drew = V0
  intro HB2d hH
  clear HB1 HB2 HW0
  refine wpAnyH_take (i := 0) (oi := ⟨_, _, _, _, _, _⟩) (v := .pointer (some ⟨w.heap.size, 0, none⟩)) rfl (by kernel_rfl) (by kernel_rfl) (by kernel_rfl) (fun _ _ _ h => h) (Or.inl ⟨by rfl, fun w' h => by clear h; go_simp⟩) hH ?_
  simp only [Act.put, List.setIfInBounds_toArray, List.set_cons_zero, List.set_cons_succ]
  refine wpAnyH_take (i := 1) (oi := ⟨_, _, _, _, _, _⟩) (v := .agg #[.int .i64 k, .int .i64 n, .string ss]) rfl (by kernel_rfl) (by kernel_rfl) (by kernel_rfl) (fun _ _ _ h => h) (Or.inl ⟨by rfl, fun w' h => by obtain ⟨c0, c1, c2, c3, c4⟩ := cfive h.2; clear h; go_simp⟩) hH ?_
  simp only [Act.put, List.setIfInBounds_toArray, List.set_cons_zero, List.set_cons_succ]
  refine wpAnyH_take (i := 2) (oi := ⟨_, _, _, _, _, _⟩) (v := .pointer (some ⟨w.heap.size, 3, none⟩)) rfl (by kernel_rfl) (by kernel_rfl) (by kernel_rfl) (fun _ _ _ h => h) (Or.inl ⟨by rfl, fun w' h => by clear h; go_simp⟩) hH ?_
  simp only [Act.put, List.setIfInBounds_toArray, List.set_cons_zero, List.set_cons_succ]
  refine wpAnyH_take (i := 3) (oi := ⟨_, _, _, _, _, _⟩) (v := .string nm) rfl (by kernel_rfl) (by kernel_rfl) (by kernel_rfl) (fun _ _ _ h => h) (Or.inl ⟨by rfl, fun w' h => by obtain ⟨c0, c1, c2, c3, c4⟩ := cfive h.2; clear h; go_simp⟩) hH ?_
  simp only [Act.put, List.setIfInBounds_toArray, List.set_cons_zero, List.set_cons_succ]
  refine wpAnyH_take (i := 4) (oi := ⟨_, _, _, _, _, _⟩) (v := .pointer (some ⟨w.heap.size, 4, none⟩)) rfl (by kernel_rfl) (by kernel_rfl) (by kernel_rfl) (fun _ _ _ h => h) (Or.inl ⟨by rfl, fun w' h => by clear h; go_simp⟩) hH ?_
  simp only [Act.put, List.setIfInBounds_toArray, List.set_cons_zero, List.set_cons_succ]
  refine wpAnyH_take (i := 5) (oi := ⟨_, _, _, _, _, _⟩) (v := .slice ad l.length cap) rfl (by kernel_rfl) (by kernel_rfl) (by kernel_rfl) (fun _ _ _ h => h) (Or.inl ⟨by rfl, fun w' h => by obtain ⟨c0, c1, c2, c3, c4⟩ := cfive h.2; clear h; go_simp⟩) hH ?_
  simp only [Act.put, List.setIfInBounds_toArray, List.set_cons_zero, List.set_cons_succ]
  refine wpAnyH_ready (rs := [6]) (by kernel_rfl) (by simp) ?_
  refine (AllReadyH.cons (o := ⟨_, _, _, _, _, _⟩) rfl (fun K hK => ?_) AllReadyH.nil)
  go_simp
  refine (HLT.out _ hH.1).mono ?_
  rintro x V1 ⟨g, cap1, rfl, ho, hb⟩
  have HO : Hid (OwnT V1 V0.heap.size (.slice (some ⟨g, 0, none⟩) (l.length + 1) cap1) (l ++ [bT])) := ho
  have HLV : Hid (w.heap.size + 1 < V0.heap.size) := HB2d.out.lt
  have HB2v : Hid (CBlk V1 (w.heap.size + 1) #[.int .i64 0, .int .i64 0, .string ⟨#[]⟩, .string ⟨#[]⟩, .slice none 0 0] 37) := HB2d.out.later hb
  refine hK.out _ _ ⟨below_step hH.1 hb, hH.2.later hb⟩ (fun hH => ?_)
  clear hK K hb ho
  try simp only [Act.put, List.setIfInBounds_toArray, List.set_cons_zero, List.set_cons_succ]
  refine wpAnyH_take (i := 7) (oi := ⟨_, _, _, _, _, _⟩) (v := .agg #[.int .i64 k, .int .i64 n, .string ss, .string nm, .slice (some ⟨g, 0, none⟩) l.length cap1]) rfl (by kernel_rfl) (by kernel_rfl) (by kernel_rfl) (fun _ _ _ h => h) (Or.inl ⟨by rfl, fun w' h => by clear h; go_simp⟩) hH ?_
  simp only [Act.put, List.setIfInBounds_toArray, List.set_cons_zero, List.set_cons_succ]
  refine wpAnyH_ready (rs := [8]) (by kernel_rfl) (by simp) ?_
  refine (AllReadyH.cons (o := ⟨_, _, _, _, _, _⟩) rfl (fun K hK => ?_) AllReadyH.nil)
  obtain ⟨c0, c1, c2, c3, c4⟩ := cfive HB2v.out
  have f0 : V1.frozen? ⟨w.heap.size + 1, 0, none⟩ = false := HB2v.out.froz
  have f1 : V1.frozen? ⟨w.heap.size + 1, 1, none⟩ = false := HB2v.out.froz
  have f2 : V1.frozen? ⟨w.heap.size + 1, 2, none⟩ = false := HB2v.out.froz
  have f3 : V1.frozen? ⟨w.heap.size + 1, 3, none⟩ = false := HB2v.out.froz
  have f4 : V1.frozen? ⟨w.heap.size + 1, 4, none⟩ = false := HB2v.out.froz
  go_simp
  have nw : w.heap.size ≤ w.heap.size + 1 := by omega
  have ng : w.heap.size ≠ w.heap.size + 1 := by omega
  refine hK.out _ _ ⟨((((hH.1.setCell nw _).setCell nw _).setCell nw _).setCell nw _).setCell nw _, ((((hH.2.off ng).off ng).off ng).off ng).off ng⟩ (fun hH2 => ?_)
  clear hK K
  refine wpAnyH_done (by kernel_rfl) ?_ _
  have HV : Hid _ := hH2.1
  clear hH hH2
  go_wp2
  refine bodyPost_ret (v := At.v ⟨⟨k, n, ss⟩, nm, l⟩ (.slice (some ⟨g, 0, none⟩) l.length cap1)) (by simp [results, Tryz.results45, go_sem, c0, c1, c2, c3, c4]) rfl ⟨_, rfl, ⟨g, cap1, rfl, ?_⟩, ?_⟩
  · have hlv := HLV.out
    exact (((((HO.out.set hlv).set hlv).set hlv).set hlv).set hlv).mono (by omega)
  · exact HV.out
set_option maxRecDepth 20000 in
set_option maxHeartbeats 1000000 in
theorem keptA_any (a : At) (v y : Value) (base : Nat) (w : World) (h : Ts w y a.args) (ho : LentT w base v a.args) (hB : BehOk w) :
    Calls Tryz.prog 59 #[a.v v, a.v y] w fun e w' => e = .returned (.bool true) ∧ Below w.heap.size w w' := by
  obtain ⟨⟨k, n, ss⟩, nm, l⟩ := a
  simp only at h ho ⊢
  have HK : Hid (∀ X : World, Below w.heap.size w X → Calls Tryz.prog 27 #[v, y] X fun e w' => e = .returned (.bool true) ∧ Below X.heap.size X w') := fun X hX => keptT_any l v y base X (h.later hX) (ho.later hX) (hB.later hX)
  obtain ⟨g, cap, rfl, ho⟩ := ho
  obtain ⟨ad, cap', rfl, -, -⟩ := h
  have he := run_eql_tm ⟨k, n, ss⟩ ⟨k, n, ss⟩
  rw [decide_eq_true rfl] at he
  clear ho hB
  go_enter Tryz.func59, Tryz.ntmps59
  go_wp2_with (go_at_call 27; refine (HK.out _ (below2 _ _ _)).mono ?_; rintro e w1 ⟨rfl, hb1⟩)
  go_ret
  exact ⟨rfl, below_step (below2 _ _ _) hb1⟩
end Go.Proofs.YtdfgijdededolabGreatDoor
