/-
  How long tokens are; lists of tokens; Cut.
-/
import Derived.Test.YtdfdnjkeiddfjaaDoorK7
namespace Go.Proofs.YtdfdnjkeiddfjaaDoor
open Go.RowKit

theorem rl_pos {c : Int} {r : List Int} (h : rnb c = true) : rl (c :: r) = rl r + 1 := by show (if _ then _ else _) = _; rw [if_pos h]
theorem qd_len : ∀ (f : Nat) (r : List Int) (off : Nat) (acc : List Int),
    (∀ k x n len, qd f r off acc = .ok k x n len → off + 1 ≤ len ∧ len ≤ off + r.length) ∧ (∀ e o, qd f r off acc = .bad e o → e = 43 ∨ e = 44)
  | 0, _, _, _ => ⟨fun _ _ _ _ h => (by cases h), fun _ _ h => by cases h; exact Or.inl rfl⟩
  | _ + 1, [], _, _ => ⟨fun _ _ _ _ h => (by cases h), fun _ _ h => by cases h; exact Or.inl rfl⟩
  | f + 1, c :: r, off, acc => by
    rw [qd_cons]
    by_cases q1 : c = 34
    · rw [if_pos q1]
      exact ⟨fun _ _ _ _ h => (by cases h; exact ⟨by omega, by simp only [List.length_cons]; omega⟩), fun _ _ h => by cases h⟩
    · rw [if_neg q1]
      by_cases q2 : c = 92
      · rw [if_pos q2]
        cases ee : esc r with
        | none => exact ⟨fun _ _ _ _ h => (by cases h), fun _ _ h => by cases h; exact Or.inr rfl⟩
        | some bk =>
          obtain ⟨b, k⟩ := bk
          have hr := esc_rng ee
          have ih := qd_len f (r.drop k) (off + 1 + k) (acc ++ [b])
          refine ⟨fun k' x n len h => ?_, fun e o h => ih.2 e o h⟩
          have := ih.1 k' x n len h
          rw [List.length_drop] at this
          simp only [List.length_cons]; omega
      · rw [if_neg q2]
        by_cases q3 : c < 32 ∨ c = 127
        · rw [if_pos q3]
          exact ⟨fun _ _ _ _ h => (by cases h), fun _ _ h => by cases h; exact Or.inr rfl⟩
        · rw [if_neg q3]
          have ih := qd_len f r (off + 1) (acc ++ [c])
          refine ⟨fun k' x n len h => ?_, fun e o h => ih.2 e o h⟩
          have := ih.1 k' x n len h
          simp only [List.length_cons]; omega
theorem sgF_len (l : List Int) : ∀ m, (∀ k x n len, sgF l m = .ok k x n len → 1 ≤ len ∧ len ≤ m) ∧ (∀ e o, sgF l m = .bad e o → e = 42)
  | 0 => ⟨fun _ _ _ _ h => (by cases h), fun _ _ h => by cases h; rfl⟩
  | m + 1 => by
    have ih := sgF_len l m
    by_cases h : sk (ofL (l.take (m + 1))) = 0
    · rw [sgF_no h]
      exact ⟨fun k x n len e => by have := ih.1 k x n len e; omega, ih.2⟩
    · rw [sgF_yes h]
      exact ⟨fun k x n len e => (by cases e; omega), fun _ _ e => by cases e⟩
theorem numt_len (n : Nat) (l : List Int) : (∀ k x v len, numt n l = .ok k x v len → len = n) ∧ (∀ e o, numt n l = .bad e o → e = 45) := by
  unfold numt
  cases num (l.take n)
  · exact ⟨fun _ _ _ _ h => (by cases h), fun _ _ h => by cases h; rfl⟩
  · exact ⟨fun _ _ _ _ h => (by cases h; rfl), fun _ _ h => by cases h⟩
theorem tok_len (c : Int) (r : List Int) : (∀ k x n len, tok (c :: r) = .ok k x n len → 1 ≤ len ∧ len ≤ r.length + 1) ∧ (∀ e o, tok (c :: r) = .bad e o → ¬ e = 0) := by
  have hrl := rl_le r
  cases a : sml c with
  | true =>
    have hp := rl_pos (c := c) (r := r) (by simp [rnb, a])
    rw [tok_small a]
    refine ⟨fun k x n len h => ?_, fun e o h => ?_⟩
    · split at h <;> (cases h; omega)
    · split at h <;> cases h
  | false =>
    cases b : grt c with
    | true =>
      have hp := rl_pos (c := c) (r := r) (by simp [rnb, a, b])
      rw [tok_great a b]
      exact ⟨fun k x n len h => (by cases h; omega), fun e o h => by cases h⟩
    | false =>
      by_cases m : c = 45
      · rw [tok_minus a b m]
        have := numt_len (1 + rl r) (c :: r)
        exact ⟨fun k x n len h => by have := this.1 k x n len h; omega, fun e o h => by have := this.2 e o h; omega⟩
      · cases d : dig c with
        | true =>
          have hp := rl_pos (c := c) (r := r) (by simp [rnb, d])
          rw [tok_dig a b m d]
          have := numt_len (rl (c :: r)) (c :: r)
          exact ⟨fun k x n len h => by have := this.1 k x n len h; omega, fun e o h => by have := this.2 e o h; omega⟩
        | false =>
          by_cases q : c = 34
          · rw [tok_quote a b m d q]
            have := qd_len (r.length + 1) r 1 []
            exact ⟨fun k x n len h => by have := this.1 k x n len h; omega, fun e o h => by have := this.2 e o h; omega⟩
          · rw [tok_sign a b m d q]
            unfold sgt
            have := sgF_len (c :: r) (min 2 (c :: r).length)
            exact ⟨fun k x n len h => by have := this.1 k x n len h; simp only [List.length_cons] at this; omega, fun e o h => by have := this.2 e o h; omega⟩
/-- The cells of tokens. -/
def kcs (l : List Tk) : List Value := l.flatMap fun t => [.int .i64 t.k, .string t.x, .int .i64 t.n, .int .i64 t.a, .int .i64 t.e]
theorem kcs_len (l : List Tk) : (kcs l).length = l.length * 5 := by
  induction l with
  | nil => rfl
  | cons t l ih => unfold kcs at ih ⊢; rw [List.flatMap_cons, List.length_append, ih]; simp; omega
theorem kcs_app (l m : List Tk) : kcs (l ++ m) = kcs l ++ kcs m := by simp [kcs]
def OwnK (w : World) (base : Nat) (v : Value) (l : List Tk) : Prop := w.ownsRow base 43 5 v l.length (kcs l)
theorem OwnK.later {w w' : World} {base : Nat} {v : Value} {l : List Tk} (h : OwnK w base v l) (hb : Below w.heap.size w w') : OwnK w' base v l := by
  refine ⟨h.1, ?_⟩
  rcases h.2 with hn | ⟨g, cap, cur, hv, hbb, hg, rest⟩
  · exact Or.inl hn
  · exact Or.inr ⟨g, cap, cur, hv, hbb, (hb.block g (Array.getElem?_eq_some_iff.1 hg).1).trans hg, rest⟩
theorem OwnK.nil (w : World) (base : Nat) : OwnK w base (.slice none 0 0) [] := ⟨by simp [kcs], Or.inl ⟨rfl, rfl⟩⟩
theorem Tryd.infoTok : (Tryd.prog.info? 43).map (fun i => (i.size, i.bytes, i.zero.map (·.cells.size))) = some (5, 48, some 5) := by kernel_rfl
theorem infoTok_parts : ∃ (i : TypeInfo) (z : Value), Tryd.prog.info? 43 = some i ∧ i.zero = some z ∧ i.size = 5 ∧ i.bytes = 48 ∧ z.cells.size = 5 := by
  have h := Tryd.infoTok
  cases hi : Tryd.prog.info? 43 with
  | none => rw [hi] at h; simp at h
  | some i =>
    rw [hi] at h
    simp only [Option.map_some, Option.some.injEq, Prod.mk.injEq] at h
    obtain ⟨h1, h2, h3⟩ := h
    cases hz : i.zero with
    | none => rw [hz] at h3; simp at h3
    | some z => rw [hz] at h3; simp only [Option.map_some, Option.some.injEq] at h3; exact ⟨i, z, rfl, hz, h1, h2, h3⟩
theorem app_tok {ops : Array Oper} {rest : List Oper} {o : Oper} {a : Act} {Q : Exit → Act → World → Prop} {w : World} (hgd : o.guard = none) (s x : Operand)
    (ho : o.op = .call { callee := .builtin .append, args := #[s, x], argTypes := #[39, 39] }) (base : Nat) (v : Value) (l : List Tk) (hs : a.eval s = v) (hown : OwnK w base v l)
    (b : Nat) (t : Tk) (hx : a.eval x = .slice (some ⟨b, 0, none⟩) 1 1) (hblk : w.heap[b]? = some (.cells t.cs 43 (0, 0))) (hlen : l.length ≤ 100000000) (hbase : base ≤ w.heap.size)
    (h : ∀ v' w', OwnK w' base v' (l ++ [t]) → Below base w w' → w.grownBy w' v.ownBlock → wpList Tryd.prog ops Q rest (a.put o.dst v') w') : wpList Tryd.prog ops Q (o :: rest) a w := by
  obtain ⟨i, z, hi, hz0, hz1, hz2, hz3⟩ := infoTok_parts
  refine wpList_append_lies _ hgd s x 39 ho base 43 i z 5 48 Tryd.underlying39 hi hz0 hz1 hz2 hz3 (by omega) v l.length (kcs l) hs hown ⟨b, 0, none⟩ 1 1 (kcs [t]) hx (by simp [kcs]) ?_ (by simp [kcs, Value.oneCell']) (by omega) (by unfold maxLen; omega) (by omega) hbase _ rfl ?_
  · intro j u hj
    have := World.news_of_block (cs := t.cs) (t := 43) (fr := (0, 0)) hblk j u
    exact this (by simpa [kcs] using hj)
  · intro g cap w' h1 h2 h3 h4
    refine h _ w' ?_ (grown_below h2 (fun k hk => (World.ownsRow.lt hown k hk).1) hbase) h2
    unfold OwnK
    rw [List.length_append, kcs_app]
    exact h1
theorem ct_end (f off : Nat) (acc : List Tk) : ct (f + 1) [] off acc = (acc, 0, 0) := rfl
theorem ct_cons (f : Nat) (c : Int) (r : List Int) (off : Nat) (acc : List Tk) : ct (f + 1) (c :: r) off acc =
    if c = 32 ∨ c = 9 ∨ c = 10 ∨ c = 13 then ct f r (off + 1) acc
    else if c = 37 then ct f ((c :: r).drop (le_ (c :: r))) (off + le_ (c :: r)) acc
    else match tok (c :: r) with
      | .bad e o => ([], e, ((off + o : Nat) : Int))
      | .ok k x n len => ct f ((c :: r).drop len) (off + len) (acc ++ [⟨k, ofL x, n, off, (off + len : Nat)⟩]) := rfl
end Go.Proofs.YtdfdnjkeiddfjaaDoor
