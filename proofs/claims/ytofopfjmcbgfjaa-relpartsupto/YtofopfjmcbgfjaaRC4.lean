/-
  law 7: the lists that RelParts holds; append of a whole list, inside a fence.
-/
import Derived.Test.YtofopfjmcbgfjaaRC3
import Derived.Test.YtofopfjmcbgfjaaRA31
import Derived.Maps.AppendAt
import Derived.Laws.OwnMore
namespace Go.Proofs.Ytofopfjmcbgfjaa
open Go.RowKit Go.Shelf

/-- append of a list that lies anywhere, inside a fence. -/
theorem gappMIn {T e : TypeId} {z : Value} {by_ : Nat} (hT : Try.prog.underlying T = some (.slice e)) (hI : (Try.prog.info? e).map (fun i => (i.zero, i.size, i.bytes)) = some (some z, 1, by_)) (hz : z.cells.size = 1) (hby : by_ ≤ 100)
    {F : Fence} {fu : Nat} {ops : Array Oper} {rest : List Oper} {o : Oper} {a : Act} {Q : Exit → Act → World → Prop} {w : World} (hgd : o.guard = none) (s x : Operand)
    (ho : o.op = .call { callee := .builtin .append, args := #[s, x], argTypes := #[T, T] }) (base : Nat) (v : Value) (n : Nat) (l : List Value) (hs : a.eval s = v) (hown : w.ownsRow base e 1 v n l)
    (b2 : Nat) (xv : Value) (m : Nat) (news : List Value) (hx : a.eval x = xv) (hsrc : w.ownsRow b2 e 1 xv m news) (h1c : ∀ u ∈ news, u.oneCell' = true) (hlen : n + m ≤ 1000000000000) (hbase : base ≤ w.heap.size)
    (h : ∀ v' w', w'.ownsRow base e 1 v' (n + m) (l ++ news) → w.grownBy w' v.ownBlock → (v'.ownBlock = v.ownBlock ∨ v'.ownBlock = some w.heap.size) → wpListIn F fu Try.prog ops Q rest (a.put o.dst v') w') : wpListIn F fu Try.prog ops Q (o :: rest) a w := by
  obtain ⟨i, hi, h0, h1, h2⟩ := info7 hI
  refine wpListIn_plain hgd fun K hK' => ?_
  have key : ∃ v' w', (Builtin.append_ #[T, T] o.type #[v, xv]).run Try.prog w = .ok v' w' ∧ w'.ownsRow base e 1 v' (n + m) (l ++ news) ∧ w.grownBy w' v.ownBlock ∧ (v'.ownBlock = v.ownBlock ∨ v'.ownBlock = some w.heap.size) := by
    rcases hsrc.2 with ⟨rfl, hm0⟩ | ⟨g, cap, cur, rfl, hbb, hg, hn, hc, hsz, ht⟩
    · have e0 : news = [] := List.eq_nil_of_length_eq_zero (by rw [hsrc.1, hm0])
      subst hm0 e0
      refine ⟨v, w, run_append_owned_none (P := Try.prog) w base T o.type e i 1 hT hi v n l hown, by rw [List.append_nil]; exact hown, ⟨rfl, rfl, rfl, Nat.le_refl _, fun _ _ _ => rfl⟩, Or.inl rfl⟩
    · obtain ⟨v', w', k1, k2, k3, -, k5⟩ := run_append_own_at (P := Try.prog) w base T o.type e i z 1 by_ hT hi h0 h1 h2 hz (by omega) v n l hown ⟨g, 0, none⟩ m cap news hsrc.1 (fun j u hj => by
        have h3 : (cur.toList.take (m * 1))[j]? = some u := by rw [ht]; exact hj
        have hjm : j < m := by have := (List.getElem?_eq_some_iff.1 hj).1; rw [hsrc.1] at this; omega
        rw [List.getElem?_take_of_lt (by omega), Array.getElem?_toList] at h3
        rw [Go.WideShapes.add_plain, Nat.zero_add, cell_of_row _ _ _ _ _ _ hg]
        exact h3) h1c (by unfold maxLen; omega) (Nat.le_trans (Nat.mul_le_mul hlen hby) (by decide)) hbase
      exact ⟨v', w', k1, k2, k3, k5⟩
  obtain ⟨v', w', hrun, r1, r2, r3⟩ := key
  unfold Oper.wpIn
  refine ⟨?_, ?_⟩
  · simp [Oper.about, ho, resolve, Target.leads, Sem.run_pure]
  · rw [Oper.semAt_plain F _ _ (by rw [ho]; intro c hc'; cases hc')]
    simp [execOp, ho, resolve, invoke, builtin, hs, hx, hrun, Result.andThen]
    exact hK' _ _ (h v' w' r1 r2 r3)
/-- A list of rows of the law's own; the rows lie in blocks of R. -/
structure PL (w Y : World) (T R : Nat → Prop) (v : Value) (P : List (List Int × Value)) : Prop where
  o : Y.ownsRow (w.heap.size + 1) 23 1 v P.length (P.map Prod.snd)
  t : ∀ b, v.ownBlock = some b → ¬ T b ∧ ¬ R b
  r : ∀ p ∈ P, Li R Y p.2 p.1
/-- The rows' blocks are none of the relation's. -/
def RT (w Y : World) (T R : Nat → Prop) : Prop := ∀ b, R b → ¬ T b ∧ w.heap.size < b ∧ b < Y.heap.size
theorem PL.nil (w Y : World) (T R : Nat → Prop) : PL w Y T R (.slice none 0 0) [] := ⟨World.ownsRow_nil _ _ _ _, (by intro b hb; cases hb), by simp⟩
theorem PL.same {w Y Y' : World} {T T' R : Nat → Prop} {v : Value} {P : List (List Int × Value)} (h : PL w Y T R v P) (hs : Y.heap.size ≤ Y'.heap.size) (ho : ∀ b, v.ownBlock = some b → Y'.heap[b]? = Y.heap[b]? ∧ ¬ T' b) (hr : ∀ b, R b → b < Y.heap.size → Y'.heap[b]? = Y.heap[b]?) : PL w Y' T' R v P :=
  ⟨row7 h.o fun g hg => (ho g hg).1, fun b hb => ⟨(ho b hb).2, (h.t b hb).2⟩, fun p hp => (h.r p hp).same hs hr⟩
theorem PL.px {w Y Y' : World} {T T' R : Nat → Prop} {v : Value} {P : List (List Int × Value)} (h : PL w Y T R v P) (hR : RT w Y T R) (hf : Fr T Y Y') (ht : ∀ b, T' b → T b ∨ Y.heap.size ≤ b) : PL w Y' T' R v P :=
  h.same hf.size (fun b hb => ⟨hf.block b (h.o.lt b hb).2 (h.t b hb).1, fun hc => (ht b hc).elim (h.t b hb).1 fun h' => by have := (h.o.lt b hb).2; omega⟩) fun b hb hl => hf.block b hl (hR b hb).1
theorem PL.below {w Y Y' : World} {T R : Nat → Prop} {v : Value} {P : List (List Int × Value)} (h : PL w Y T R v P) (hb : Below Y.heap.size Y Y') : PL w Y' T R v P :=
  h.same hb.size (fun b hv => ⟨hb.block b (h.o.lt b hv).2, (h.t b hv).1⟩) fun b _ hl => hb.block b hl
theorem RT.px {w Y Y' : World} {T T' R : Nat → Prop} (h : RT w Y T R) (hs : Y.heap.size ≤ Y'.heap.size) (ht : ∀ b, T' b → T b ∨ Y.heap.size ≤ b) : RT w Y' T' R :=
  fun b hb => ⟨fun hc => (ht b hc).elim (h b hb).1 fun h' => by have := (h b hb).2.2; omega, (h b hb).2.1, Nat.lt_of_lt_of_le (h b hb).2.2 hs⟩
theorem PL.lx {w Y : World} {T R : Nat → Prop} {v : Value} {P : List (List Int × Value)} (h : PL w Y T R v P) (hR : RT w Y T R) : LX (fun b => ¬ T b) Y v P := by
  obtain ⟨a, cap, rfl, -⟩ := row7_form h.o
  refine ⟨a, cap, rfl, ?_, fun p hp => (h.r p hp).mono fun b _ hb => (hR b hb).1⟩
  cases hP : P with
  | nil => exact Or.inl rfl
  | cons p P' =>
    obtain ⟨b, rfl, -, hl, -, -⟩ := row7_at h.o (i := 0) (u := p.2) (by rw [hP]; rfl)
    refine Or.inr ⟨b, 0, rfl, (h.t b rfl).1, hl, fun i q hq => ?_⟩
    rw [← hP] at hq
    obtain ⟨b', e, -, -, h4, -⟩ := row7_at h.o (i := i) (u := q.2) (by rw [List.getElem?_map, hq]; rfl)
    cases e
    rw [Nat.zero_add]
    exact h4
theorem PL.rn {w Y : World} {T R : Nat → Prop} {v : Value} {P : List (List Int × Value)} (h : PL w Y T R v P) (hR : RT w Y T R) : Rn7 Y v P := (h.lx hR).rn
/-- A batch that was brought, as rows of the law's own. -/
theorem PL.of {w Y : World} {T : Nat → Prop} {B : Nat} {v : Value} {P : List (List Int × Value)} (h : OL Y B v P) (hB : w.heap.size < B) (hT : ∀ b, T b → b < B) : PL w Y T (fun b => B ≤ b ∧ b < Y.heap.size ∧ v.ownBlock ≠ some b) v P :=
  ⟨row7_mono h.o hB, fun b hb => ⟨fun hc => by have := hT b hc; have := (h.o.lt b hb).1; omega, fun hc => hc.2.2 hb⟩, fun p hp => (h.l p hp).mono fun b hl hb => ⟨hb.1, hl, hb.2⟩⟩
theorem PL.mono {w Y : World} {T R R' : Nat → Prop} {v : Value} {P : List (List Int × Value)} (h : PL w Y T R v P) (hr : ∀ b, R b → R' b) (ho : ∀ b, v.ownBlock = some b → ¬ R' b) : PL w Y T R' v P := ⟨h.o, fun b hb => ⟨(h.t b hb).1, ho b hb⟩, fun p hp => (h.r p hp).mono fun b _ hb => hr b hb⟩
/-- One row more behind it. -/
theorem PL.more {w Y Y1 Y5 : World} {T R : Nat → Prop} {v v' u : Value} {P : List (List Int × Value)} {x : List Int} (h : PL w Y T R v P) (hR : RT w Y T R) (hT : ∀ b, T b → b < Y.heap.size) (hu : Li R Y u x) (hb : Below Y.heap.size Y Y1) (ho : Y5.ownsRow (w.heap.size + 1) 23 1 v' (P.length + 1) (P.map Prod.snd ++ [u])) (hg : Y1.grownBy Y5 v.ownBlock) (hv : ∀ b, v'.ownBlock = some b → v.ownBlock = some b ∨ Y.heap.size ≤ b) : PL w Y5 T R v' (P ++ [(x, u)]) ∧ Fr (fun b => v.ownBlock = some b) Y Y5 := by
  have hf : Fr (fun b => v.ownBlock = some b) Y Y5 := (Fr.of hb).tr (Fr.grown hg fun b hb => hb)
  have hrow : ∀ (z : Value) (y : List Int), Li R Y z y → Li R Y5 z y := fun z y hz => hz.fr hf fun b _ hb hc => (h.t b hc).2 hb
  refine ⟨⟨by rw [List.length_append, List.map_append]; exact ho, fun b hb' => ?_, fun p hp => ?_⟩, hf⟩
  · rcases hv b hb' with hb' | hb'
    · exact h.t b hb'
    · exact ⟨fun hc => by have := hT b hc; omega, fun hc => by have := (hR b hc).2.2; omega⟩
  · rcases List.mem_append.1 hp with hp | hp
    · exact hrow _ _ (h.r p hp)
    · rw [List.mem_singleton] at hp; rw [hp]; exact hrow _ _ hu
end Go.Proofs.Ytofopfjmcbgfjaa
