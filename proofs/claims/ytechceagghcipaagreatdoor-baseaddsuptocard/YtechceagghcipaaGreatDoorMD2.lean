import Derived.Test.YtechceagghcipaaGreatDoorL1
import Derived.Test.YtechceagghcipaaGreatDoorMP1
import Derived.Test.YtechceagghcipaaGreatDoorBK
import Derived.Test.YtechceagghcipaaGreatDoorE1
import Derived.Test.YtechceagghcipaaGreatDoorB3
import Derived.Test.YtechceagghcipaaGreatDoorCL20
namespace Go.Proofs.YtechceagghcipaaGreatDoor
open Go.RowKit
attribute [local go_sem ↓] Go.wp_at_zero Go.wp_at_succ

def TsP (w : World) (v : Value) (l : List Tm) : Prop := (v = .slice none 0 0 /\ l = []) ∨ ∃ ad cap, v = .slice (some ad) l.length cap /\ (l = [] ∨ ∃ b o, ad = ⟨b, o, none⟩ /\ TRow w b o l)
theorem TsP.later {w w' : World} {v : Value} {l : List Tm} (h : TsP w v l) (hb : Below w.heap.size w w') : TsP w' v l := by
 rcases h with h | ⟨ad, cap, h1, h2⟩
 ·exact Or.inl h
 ·refine Or.inr ⟨ad, cap, h1, ?_⟩
  rcases h2 with h2 | ⟨b, o, h2, h3⟩
  ·exact Or.inl h2
  ·exact Or.inr ⟨b, o, h2, h3.later hb⟩
theorem TsP.ts {w : World} {v : Value} {l : List Tm} (h : TsP w v l) (hl : l.length < 1000000000000000000) : Ts w v l := by
 rcases h with ⟨rfl, rfl⟩ | ⟨ad, cap, rfl, h2⟩
 ·exact ⟨none, 0, rfl, by simp, Or.inl rfl⟩
 ·refine ⟨some ad, cap, rfl, hl, ?_⟩
  rcases h2 with h2 | ⟨b, o, rfl, h3⟩
  ·exact Or.inl h2
  ·exact Or.inr ⟨b, o, rfl, h3⟩
theorem OwnT.tsP {w : World} {base : Nat} {v : Value} {l : List Tm} (h : OwnT w base v l) : TsP w v l := by
 have hh := h
 rcases h.2 with ⟨rfl, hn⟩ | ⟨g, cap, cur, rfl, hb, hg, -⟩
 ·exact Or.inl ⟨rfl, List.length_eq_zero_iff.1 hn⟩
 ·refine Or.inr ⟨_, cap, rfl, Or.inr ⟨g, 0, rfl, (Array.getElem?_eq_some_iff.1 hg).1, fun i t ht => ?_⟩⟩
  simpa using ownT_cells hh i t ht
theorem tcs_app (l m : List Tm) : tcs (l ++ m) = tcs l ++ tcs m := by simp [tcs]
theorem ownT_nil (w : World) (base : Nat) : OwnT w base (.slice none 0 0) [] := World.ownsRow_nil _ _ _ _
theorem grown_below3 {w w' : World} {base : Nat} {v : Value} (hg : w.grownBy w' v.ownBlock) (h : ∀ k, v.ownBlock = some k -> base <= k) (hb : base <= w.heap.size) : Below base w w' :=
 (Below.refl _ _).grown hg hb h
theorem app_terms {ops : Array Oper} {rest : List Oper} {o : Oper} {a : Act} {Q : Exit -> Act -> World -> Prop} {w : World} (hgd : o.guard = none) (s x : Operand)
  (ho : o.op = .call { callee := .builtin .append, args := #[s, x], argTypes := #[25, 25] }) (base : Nat) (v : Value) (l : List Tm) (hs : a.eval s = v) (hown : OwnT w base v l)
  (y : Value) (m : List Tm) (hx : a.eval x = y) (hy : TsP w y m) (hlen : l.length + m.length <= 4000000000000) (hbase : base <= w.heap.size)
  (h : ∀ v' w', OwnT w' base v' (l ++ m) -> Below base w w' -> w.grownBy w' v.ownBlock -> wpList Tryz.prog ops Q rest (a.put o.dst v') w') : wpList Tryz.prog ops Q (o :: rest) a w := by
 obtain ⟨i0, hi0, hz0, hz1, hz2⟩ := info_parts Tryz.infoTerm
 rcases hy with ⟨rfl, rfl⟩ | ⟨ad, cap, rfl, hm⟩
 ·refine wpList_append_own_none hgd s x 25 ho base 24 i0 3 Tryz.underlying25 hi0 v l.length (tcs l) hs hown hx ?_
  refine h v w (by rw [List.append_nil]; exact hown) (Below.refl _ _) ?_
  exact World.grownBy.refl _ _
 ·refine wpList_append_own _ hgd s x 25 ho base 24 i0 _ 3 32 Tryz.underlying25 hi0 hz0 hz1 hz2 rfl (by omega) v l.length (tcs l) hs hown ad m.length cap (tcs m) hx (tcs_len m) ?_ (fun u hu => tcs_mem hu) (by unfold maxLen; omega) (by omega) hbase ?_
  ·rcases hm with rfl | ⟨b, o', rfl, hm⟩
   ·intro j u hu; simp [tcs] at hu
   ·exact trow_get hm
  ·intro v' w' h1 h2 _
   refine h v' w' ?_ (grown_below3 h2 (fun k hk => (World.ownsRow.lt hown k hk).1) hbase) h2
   unfold OwnT
   rw [List.length_append, tcs_app]
   exact h1
theorem TsP.one {w : World} {b : Nat} {t : Tm} (h : CBlk w b #[.int .i64 t.k, .int .i64 t.n, .string t.s] 24) : TsP w (.slice (some ⟨b, 0, none⟩) 1 1) [t] := by
 refine Or.inr ⟨_, 1, rfl, Or.inr ⟨b, 0, rfl, h.lt, fun i u hu => ?_⟩⟩
 obtain ⟨c0, c1, c2⟩ := cthree h
 cases i with
 | zero => simp at hu; subst hu; exact ⟨c0, c1, c2⟩
 | succ i => simp at hu
end Go.Proofs.YtechceagghcipaaGreatDoor
