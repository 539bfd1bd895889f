import Derived.Test.YtechceagghcipaaGreatDoorEE5
import Derived.Maps.AppendAt
import Derived.Laws.OwnMore
namespace Go.Proofs.YtechceagghcipaaGreatDoor
open Go.RowKit Go.Shelf

theorem aappIn {F : Fence} {fu : Nat} {ops : Array Oper} {rest : List Oper} {o : Oper} {a : Act} {Q : Exit -> Act -> World -> Prop} {w : World} (hgd : o.guard = none) (s x : Operand)
  (ho : o.op = .call { callee := .builtin .append, args := #[s, x], argTypes := #[28, 28] }) (base : Nat) (v : Value) (l : List (At × Value)) (hs : a.eval s = v) (hown : OwnA w base v l)
  (b : Nat) (y : At × Value) (hx : a.eval x = .slice (some ⟨b, 0, none⟩) 1 1) (hblk : Bk w b (acell y).toArray 27) (h1c : ∀ u ∈ acell y, u.oneCell' = true) (hlen : l.length <= 1800000000000) (hbase : base <= w.heap.size)
  (h : ∀ v' w', OwnA w' base v' (l ++ [y]) -> w.grownBy w' v.ownBlock -> (v'.ownBlock = v.ownBlock ∨ v'.ownBlock = some w.heap.size) -> wpListIn F fu Tryz.prog ops Q rest (a.put o.dst v') w') : wpListIn F fu Tryz.prog ops Q (o :: rest) a w := by
 obtain ⟨i0, hi0, hz0, hz1, hz2⟩ := info_parts Tryz.infoAtom
 refine wpListIn_plain hgd fun K hK' => ?_
 obtain ⟨v', w', hrun, r1, r2, -, r3⟩ := run_append_own_at (P := Tryz.prog) w base 28 o.type 27 i0 _ 5 72 Tryz.underlying28 hi0 hz0 hz1 hz2 rfl (by omega) v l.length (acs l) hown ⟨b, 0, none⟩ 1 1 (acs [y]) (by simp [acs, acell]) (fun j u hj => by
  have := World.news_of_block (cs := (acell y).toArray) (t := 27) (fr := (0, 0)) hblk j u
  exact this (by simpa [acs] using hj)) (by simpa [acs] using h1c) (by unfold maxLen; omega) (by omega) hbase
 unfold Oper.wpIn
 refine ⟨?_, ?_⟩
 ·simp [Oper.about, ho, resolve, Target.leads, Sem.run_pure]
 ·rw [Oper.semAt_plain F _ _ (by rw [ho]; intro c hc'; cases hc')]
  simp [execOp, ho, resolve, invoke, builtin, hs, hx, hrun, Result.andThen]
  refine hK' _ _ (h v' w' ?_ r2 r3)
  unfold OwnA
  rw [List.length_append, acs_app]
  exact r1
structure GA8 (fb base : Nat) (X : Nat -> Prop) (L : List At) (E : Nat) (V : World) : Prop where
 ex : ∃ fv Q, Bk V fb #[fv] 28 /\ AL8 V base fv Q /\ Q.map Prod.fst = L /\ (∀ b, (fv.ownBlock = some b ∨ ∃ x ∈ Q, x.2 = b) -> X b ∨ E <= b) /\ X fb /\ fb < base
theorem GA8.only {fb base : Nat} {X : Nat -> Prop} {L : List At} {E : Nat} : OnlyE X E (GA8 fb base X L E) := by
 rintro W W' ⟨fv, Q, h1, h2, h3, h4, h5, h6⟩ hs hb
 exact ⟨fv, Q, (hb fb (Or.inl h5) h1.lt).trans h1, h2.same fun b hq => hb b (h4 b hq) (h2.lt hq).2, h3, h4, h5, h6⟩
theorem GA8.put {fb base : Nat} {X : Nat -> Prop} {L : List At} {E : Nat} {V : World} {fv : Value} {Q : List (At × Nat)} {x : At} {A : Nat} (h1 : Bk V fb #[fv] 28) (h2 : AL8 V base fv Q) (h3 : Q.map Prod.fst = L) (h4 : ∀ b, (fv.ownBlock = some b ∨ ∃ x ∈ Q, x.2 = b) -> X b ∨ E <= b) (h5 : X fb) (h6 : fb < base)
  (hA : TBlk V A x.args x.args.length) (hAE : E <= A) (hbE : base <= E) (hn : x.args.length <= 1000000000) (hnA : ∀ y ∈ Q, y.2 ≠ A) (hEV : E <= V.heap.size) {v' : Value} {V1 V' : World} (hb1 : Below V.heap.size V V1) (ho : OwnA V' base v' (Q.map enc8 ++ [(x, .slice (some ⟨A, 0, none⟩) x.args.length x.args.length)])) (hg : V1.grownBy V' fv.ownBlock) (hv : v'.ownBlock = fv.ownBlock ∨ v'.ownBlock = some V1.heap.size) :
  GA8 fb base X (L ++ [x]) E (V'.setCell ⟨fb, 0, none⟩ v') /\ Fr (fun b => X b ∨ E <= b) V (V'.setCell ⟨fb, 0, none⟩ v') := by
 have hfv : fv.ownBlock ≠ some A := fun e => by
  obtain ⟨c, hc⟩ := row7_blk h2.o e
  obtain ⟨C, k1, -⟩ := hA
  unfold Bk at hc
  rw [hc] at k1
  exact absurd k1 (by simp)
 have hs : AL8 V' base v' (Q ++ [(x, A)]) := (h2.below hb1).snoc (x := (x, A)) (by rw [List.map_append]; exact ho) hg (hA.later hb1) (by simpa using Nat.le_trans hbE hAE) hn hnA hfv
 have hfbn : fv.ownBlock ≠ some fb := fun e => by have := (h2.lt (Or.inl e)).1; omega
 have hz1 := hb1.size
 have hz2 := hg.size
 have hk : Bk V' fb #[fv] 28 := (hg.block fb (Nat.lt_of_lt_of_le h1.lt hz1) (fun e => hfbn e.symm)).trans (h1.below hb1)
 have hv4 : ∀ b, v'.ownBlock = some b -> X b ∨ E <= b := fun b hb => by
  rcases hv with hv | hv
  ·exact h4 b (Or.inl (hv ▸ hb))
  ·rw [hv] at hb; cases hb; exact Or.inr (by omega)
 refine ⟨⟨v', Q ++ [(x, A)], ?_, hs.same fun b hb => heap_setCell_other _ _ _ _ fun e => ?_, by simp [h3], fun b hb => ?_, h5, h6⟩, ?_⟩
 ·have := hk.set 0 v'
  exact this
 ·have e' : b = fb := e
  have := (hs.lt hb).1
  omega
 ·rcases hb with hb | ⟨y, hy, rfl⟩
  ·exact hv4 b hb
  ·rcases List.mem_append.1 hy with hy | hy
   ·exact h4 _ (Or.inr ⟨y, hy, rfl⟩)
   ·rw [List.mem_singleton] at hy; subst hy; exact Or.inr hAE
 ·refine Fr.set (((Fr.of hb1).trans (Q := fun b => fv.ownBlock = some b) (Fr.grown hg fun b e => e) fun b _ e => h4 b (Or.inl e))) (Or.inl (Or.inl h5))
theorem one8 (x : At) (A n m : Nat) : ∀ u ∈ acell (x, .slice (some ⟨A, 0, none⟩) n m), u.oneCell' = true := by
 intro u hu
 simp only [acell, List.mem_cons, List.not_mem_nil, or_false] at hu
 rcases hu with rfl | rfl | rfl | rfl | rfl <;> rfl
end Go.Proofs.YtechceagghcipaaGreatDoor
