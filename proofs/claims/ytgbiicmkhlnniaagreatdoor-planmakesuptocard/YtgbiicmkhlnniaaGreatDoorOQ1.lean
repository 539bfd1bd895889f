import Derived.Deep.RegionHeld3
import Derived.Test.YtgbiicmkhlnniaaGreatDoorMD8
import Derived.Test.YtgbiicmkhlnniaaGreatDoorMD1
import Derived.Test.YtgbiicmkhlnniaaGreatDoorCL29
import Derived.Test.YtgbiicmkhlnniaaGreatDoorMD5
import Derived.Test.YtgbiicmkhlnniaaGreatDoorLD2
import Derived.Test.YtgbiicmkhlnniaaGreatDoorFA1
/-
  ref's Normal. (Written by MD12.py.)
-/
namespace Go.Proofs.YtgbiicmkhlnniaaGreatDoor
open Go.RowKit
attribute [local go_sem ↓] Go.wp_at_zero Go.wp_at_succ

/-- A clause's box and the answer's. -/
structure C2 (w X : World) (o : Array Value) : Prop where
  bc : CBlk X w.heap.size o 30
  br : CBlk X (w.heap.size + 1) zcs 30
  bw : Below w.heap.size w X
  sz : w.heap.size + 1 + 1 ≤ X.heap.size
end Go.Proofs.YtgbiicmkhlnniaaGreatDoor
/-
  Numbers of variables; constants for variables. (Plain.)
-/
namespace Go.Proofs.YtgbiicmkhlnniaaGreatDoor
open Go.RowKit

/-- The numbers below n. -/
def ints (n : Nat) : List Int := (List.range n).map fun i : Nat => (i : Int)
theorem mem_ints {n : Nat} {v : Int} : v ∈ ints n ↔ 0 ≤ v ∧ v < n := by
  simp only [ints, List.mem_map, List.mem_range]
  exact ⟨fun ⟨i, h, e⟩ => by omega, fun ⟨h1, h2⟩ => ⟨v.toNat, by omega, by omega⟩⟩
theorem ints_succ (n : Nat) : ints (n + 1) = ints n ++ [(n : Int)] := by simp [ints, List.range_succ]
theorem ints_len (n : Nat) : (ints n).length = n := by simp [ints]
theorem mis_ints : ∀ (l : List Int) (n : Nat), (∀ v ∈ l, 0 ≤ v) → mis n l = false → ∃ m, n ≤ m ∧ l.foldl dstep (ints n) = ints m ∧ ∀ v ∈ l, v < m
  | [], n, _, _ => ⟨n, Nat.le_refl _, rfl, fun v hv => by cases hv⟩
  | v :: l, n, h0, h => by
    rw [mis] at h
    by_cases h1 : (n : Int) < v
    · rw [if_pos h1] at h; cases h
    · rw [if_neg h1] at h
      have hv := h0 v (by simp)
      rw [List.foldl_cons]
      by_cases h2 : v = n
      · rw [if_pos h2] at h
        have e : dstep (ints n) v = ints (n + 1) := by
          unfold dstep; rw [if_neg (by rw [mem_ints]; omega), ints_succ, h2]
        obtain ⟨m, k1, k2, k3⟩ := mis_ints l (n + 1) (fun u hu => h0 u (by simp [hu])) (by exact_mod_cast h)
        rw [e]
        refine ⟨m, by omega, k2, fun u hu => ?_⟩
        rcases List.mem_cons.1 hu with rfl | hu
        · omega
        · exact k3 u hu
      · rw [if_neg h2] at h
        have e : dstep (ints n) v = ints n := by
          unfold dstep; rw [if_pos (by rw [mem_ints]; omega)]
        obtain ⟨m, k1, k2, k3⟩ := mis_ints l n (fun u hu => h0 u (by simp [hu])) h
        rw [e]
        refine ⟨m, k1, k2, fun u hu => ?_⟩
        rcases List.mem_cons.1 hu with rfl | hu
        · omega
        · exact k3 u hu
theorem var_nn {t : Tm} (h : t.var = true) : 0 ≤ t.n := by simp only [Tm.var, decide_eq_true_eq] at h; exact h.2.1
end Go.Proofs.YtgbiicmkhlnniaaGreatDoor
/-
  Clauses that lie above a block: Instance and Made answer such.
-/
namespace Go.Proofs.YtgbiicmkhlnniaaGreatDoor
open Go.RowKit

/-- A clause in its box. -/
structure Bx (X : World) (G : Nat) (d : Cm) : Prop where
  b : CBlk X G d.cs 30
  o : d.ok X
theorem Bx.later {X X' : World} {G : Nat} {d : Cm} (h : Bx X G d) (hb : Below X.heap.size X X') : Bx X' G d := ⟨h.b.later hb, h.o.later hb⟩
theorem Bx.new {X : World} {d : Cm} (h : d.ok X) : Bx (X.alloc (.cells d.cs 30)) X.heap.size d := ⟨CBlk.new _ _ _, h.later (below1 _ _)⟩
abbrev Cput (X : World) (G : Nat) (a b c d e f g : Value) : World := ((((((X.setCell ⟨G, 0, none⟩ a).setCell ⟨G, 1, none⟩ b).setCell ⟨G, 2, none⟩ c).setCell ⟨G, 3, none⟩ d).setCell ⟨G, 4, none⟩ e).setCell ⟨G, 5, none⟩ f).setCell ⟨G, 6, none⟩ g
theorem CBlk.put7 {X : World} {G : Nat} {t : TypeId} (h : CBlk X G zcs t) (a b c d e f g : Value) : CBlk (Cput X G a b c d e f g) G #[a, b, c, d, e, f, g] t := by
  have := ((((((h.set 0 a).set 1 b).set 2 c).set 3 d).set 4 e).set 5 f).set 6 g
  simpa [zcs] using this
theorem bput7 {W X : World} {B G : Nat} (h : Below B W X) (hG : B ≤ G) (a b c d e f g : Value) : Below B W (Cput X G a b c d e f g) := ((((((h.setCell (show B ≤ G from hG) _).setCell (show B ≤ G from hG) _).setCell (show B ≤ G from hG) _).setCell (show B ≤ G from hG) _).setCell (show B ≤ G from hG) _).setCell (show B ≤ G from hG) _).setCell (show B ≤ G from hG) _
end Go.Proofs.YtgbiicmkhlnniaaGreatDoor
/-
  Clauses lent, and looked at. (Written by LD3.py.)
-/
namespace Go.Proofs.YtgbiicmkhlnniaaGreatDoor
open Go.RowKit
attribute [local go_sem ↓] Go.wp_at_zero Go.wp_at_succ

def EsP (w : World) (v : Value) (l : List Te) : Prop := (v = .slice none 0 0 ∧ l = []) ∨ ∃ ad cap, v = .slice (some ad) l.length cap ∧ (l = [] ∨ ∃ b o, ad = ⟨b, o, none⟩ ∧ ERow w b o l)
theorem EsP.later {w w' : World} {v : Value} {l : List Te} (h : EsP w v l) (hb : Below w.heap.size w w') : EsP w' v l := by
  rcases h with h | ⟨ad, cap, h1, h2⟩
  · exact Or.inl h
  · refine Or.inr ⟨ad, cap, h1, ?_⟩
    rcases h2 with h2 | ⟨b, o, h2, h3⟩
    · exact Or.inl h2
    · exact Or.inr ⟨b, o, h2, h3.later hb⟩
theorem erow_get {w : World} {b o : Nat} {l : List Te} (h : ERow w b o l) : ∀ j u, (ecs l)[j]? = some u → w.cell? ((⟨b, o, none⟩ : Addr).add j) = some u := fun j u hu => by
  have hj := (List.getElem?_eq_some_iff.1 hu).1
  rw [ecs_len] at hj
  have h1 : j / 7 < l.length := by omega
  obtain ⟨d, hd⟩ : ∃ d, l[j / 7]? = some d := ⟨_, List.getElem?_eq_getElem h1⟩
  have hg := ecs_get l (j / 7) d hd (j % 7) (by omega)
  have e : j / 7 * 7 + j % 7 = j := by omega
  rw [e, hu] at hg
  have hc := h.2 _ d hd
  rw [Go.WideShapes.add_plain]
  have ea : o + j = o + j / 7 * 7 + j % 7 := by omega
  rw [ea]
  have h4 : j % 7 = 0 ∨ j % 7 = 1 ∨ j % 7 = 2 ∨ j % 7 = 3 ∨ j % 7 = 4 ∨ j % 7 = 5 ∨ j % 7 = 6 := by omega
  rcases h4 with e | e | e | e | e | e | e <;> rw [e] at hg ⊢ <;> simp [ecell] at hg <;> subst hg
  · exact hc.1
  · exact hc.2.1
  · exact hc.2.2.1
  · exact hc.2.2.2.1
  · exact hc.2.2.2.2.1
  · exact hc.2.2.2.2.2.1
  · exact hc.2.2.2.2.2.2
theorem eapp_list {ops : Array Oper} {rest : List Oper} {o : Oper} {a : Act} {Q : Exit → Act → World → Prop} {w : World} (hgd : o.guard = none) (s x : Operand)
    (ho : o.op = .call { callee := .builtin .append, args := #[s, x], argTypes := #[28, 28] }) (hs : a.eval s = .slice none 0 0)
    (y : Value) (m : List Te) (hx : a.eval x = y) (hy : EsP w y m) (hlen : m.length ≤ 1800000000000)
    (h : ∀ v' w', OwnE w' w.heap.size v' m → Below w.heap.size w w' → wpList Tryz.prog ops Q rest (a.put o.dst v') w') : wpList Tryz.prog ops Q (o :: rest) a w := by
  obtain ⟨i0, hi0, hz0, hz1, hz2⟩ := info_parts Tryz.infoTest
  have hown : OwnE w w.heap.size (.slice none 0 0) [] := OwnE.nil _ _
  rcases hy with ⟨rfl, rfl⟩ | ⟨ad, cap, rfl, hm⟩
  · refine wpList_append_own_none hgd s x 28 ho w.heap.size 46 i0 7 Tryz.underlying28 hi0 _ 0 [] hs hown hx ?_
    exact h _ w hown (Below.refl _ _)
  · refine wpList_append_own _ hgd s x 28 ho w.heap.size 46 i0 _ 7 72 Tryz.underlying28 hi0 hz0 hz1 hz2 rfl (by omega) _ 0 [] hs hown ad m.length cap (ecs m) hx (ecs_len m) ?_ (fun u hu => by obtain ⟨z, hz, hu⟩ := List.mem_flatMap.1 hu; exact ecell_one z u hu) (by unfold maxLen; omega) (by omega) (Nat.le_refl _) ?_
    · rcases hm with rfl | ⟨b, o', rfl, hm⟩
      · intro j u hu; simp [ecs] at hu
      · exact erow_get hm
    · intro v' w' h1 h2 _
      rw [Nat.zero_add, List.nil_append] at h1
      exact h v' w' h1 (grown_below3 h2 (fun k hk => by simp [Value.ownBlock] at hk) (Nat.le_refl _))
/-- A list of tests lent. -/
def LentE (X : World) (B : Nat) (v : Value) (l : List Te) : Prop := ∃ g cap, v = .slice (some ⟨g, 0, none⟩) l.length cap ∧ OwnE X B (.slice (some ⟨g, 0, none⟩) (l.length + 1) cap) (l ++ [bE])
theorem LentE.later {X X' : World} {B : Nat} {v : Value} {l : List Te} (h : LentE X B v l) (hb : Below X.heap.size X X') : LentE X' B v l := by
  obtain ⟨g, cap, e, ho⟩ := h
  exact ⟨g, cap, e, ho.later hb⟩
theorem ownE_some {w : World} {base : Nat} {v : Value} {l : List Te} {d : Te} (h : OwnE w base v (l ++ [d])) : ∃ g cap, v = .slice (some ⟨g, 0, none⟩) (l.length + 1) cap ∧ l.length + 1 ≤ cap := by
  rcases h.2 with ⟨_, hn⟩ | ⟨g, cap, cur, hv, _, _, hn, _⟩
  · simp at hn
  · rw [List.length_append, List.length_singleton] at hv hn; exact ⟨g, cap, hv, hn⟩
theorem ownE_cap {w : World} {base g cap n : Nat} {l : List Te} (h : OwnE w base (.slice (some ⟨g, 0, none⟩) n cap) l) : l.length ≤ cap := by
  rcases h.2 with ⟨h, _⟩ | ⟨g', c, cur, hv, _, _, hn, _⟩
  · cases h
  · simp only [Value.slice.injEq] at hv; omega
theorem LentE.row {X : World} {B g cap n : Nat} {l : List Te} {d : Te} (ho : OwnE X B (.slice (some ⟨g, 0, none⟩) n cap) (l ++ [d])) : ERow X g 0 l := by
  refine ⟨(ho.lt g rfl).2, fun i x hx => ?_⟩
  have hi := (List.getElem?_eq_some_iff.1 hx).1
  have hx' : (l ++ [d])[i]? = some x := by rw [List.getElem?_append_left hi]; exact hx
  rw [Nat.zero_add]
  exact ⟨ho.cells i x hx' 0 (by omega), ho.cells i x hx' 1 (by omega), ho.cells i x hx' 2 (by omega), ho.cells i x hx' 3 (by omega), ho.cells i x hx' 4 (by omega), ho.cells i x hx' 5 (by omega), ho.cells i x hx' 6 (by omega)⟩
theorem LentE.es {X : World} {B : Nat} {v : Value} {l : List Te} (h : LentE X B v l) (hl : l.length < 1000000000000000000) : Es X v l := by
  obtain ⟨g, cap, rfl, ho⟩ := h
  exact ⟨_, cap, rfl, hl, Or.inr ⟨g, 0, rfl, LentE.row ho⟩⟩
/-- A clause lent. -/
structure Lent (B : Nat) (X : World) (d : Cm) : Prop where
  h : LentT X B d.head.2 d.head.1.args
  b : LentA X B d.bv d.body
  t : LentE X B d.tv d.tests
theorem Lent.later {B : Nat} {X X' : World} {d : Cm} (h : Lent B X d) (hb : Below X.heap.size X X') : Lent B X' d := ⟨h.h.later hb, h.b.later hb, h.t.later hb⟩
theorem Lent.ok {B : Nat} {X : World} {d : Cm} (h : Lent B X d) (h1 : d.head.1.args.length < 1000000000000000000) (h2 : d.body.length < 1000000000000000000) (h3 : ∀ y ∈ d.body, y.1.args.length < 1000000000000000000) (h4 : d.tests.length < 1000000000000000000) : d.ok X :=
  ⟨h.h.ts h1, h.b.as h2 h3, h.t.es h4⟩
/-- Two worlds alike between two blocks but for one. -/
structure Ag (B G : Nat) (X0 X : World) : Prop where
  s : X0.heap.size ≤ X.heap.size
  e : ∀ k, B ≤ k → k < X0.heap.size → k ≠ G → X.heap[k]? = X0.heap[k]?
theorem Ag.refl (B G : Nat) (X : World) : Ag B G X X := ⟨Nat.le_refl _, fun _ _ _ _ => rfl⟩
theorem Ag.below {B G : Nat} {X0 X X' : World} (h : Ag B G X0 X) (hb : Below X0.heap.size X X') : Ag B G X0 X' := ⟨Nat.le_trans h.s hb.size, fun k h1 h2 h3 => (hb.block k h2).trans (h.e k h1 h2 h3)⟩
theorem Ag.set {B G i : Nat} {X0 X : World} {v : Value} (h : Ag B G X0 X) : Ag B G X0 (X.setCell ⟨G, i, none⟩ v) := ⟨by simpa [World.setCell] using h.s, fun k h1 h2 h3 => (heap_setCell_other _ _ _ _ (show k ≠ G from h3)).trans (h.e k h1 h2 h3)⟩
theorem Ag.low {B G D i : Nat} {X0 X : World} {v : Value} (h : Ag B G X0 X) (hD : D < B) : Ag B G X0 (X.setCell ⟨D, i, none⟩ v) := ⟨by simpa [World.setCell] using h.s, fun k h1 h2 h3 => (heap_setCell_other _ _ _ _ (show k ≠ D by omega)).trans (h.e k h1 h2 h3)⟩
theorem LentT.ag {B G : Nat} {X0 X : World} {v : Value} {l : List Tm} (h : LentT X0 B v l) (ha : Ag B G X0 X) (hn : ∀ k, v.ownBlock = some k → k ≠ G) : LentT X B v l := by
  obtain ⟨g, cap, rfl, ho⟩ := h
  refine ⟨g, cap, rfl, ho.1, ?_⟩
  rcases ho.2 with hm | ⟨g', cap', cur, hv, hbb, hg, rest⟩
  · exact Or.inl hm
  · have e : g = g' := by simp only [Value.slice.injEq, Option.some.injEq, Addr.mk.injEq] at hv; exact hv.1.1
    subst e
    exact Or.inr ⟨g, cap', cur, hv, hbb, (ha.e g hbb (Array.getElem?_eq_some_iff.1 hg).1 (hn g rfl)).trans hg, rest⟩
theorem LentA.ag {B G : Nat} {X0 X : World} {v : Value} {LB : List (At × Value)} (h : LentA X0 B v LB) (ha : Ag B G X0 X) (hn : ∀ k, v.ownBlock = some k → k ≠ G) (hx : ∀ x ∈ LB, ∀ k, x.2.ownBlock = some k → k ≠ G) : LentA X B v LB := by
  obtain ⟨⟨g, cap, rfl, ho⟩, ht⟩ := h
  refine ⟨⟨g, cap, rfl, ho.1, ?_⟩, fun x hm => (ht x hm).ag ha (hx x hm)⟩
  rcases ho.2 with hm | ⟨g', cap', cur, hv, hbb, hg, rest⟩
  · exact Or.inl hm
  · have e : g = g' := by simp only [Value.slice.injEq, Option.some.injEq, Addr.mk.injEq] at hv; exact hv.1.1
    subst e
    exact Or.inr ⟨g, cap', cur, hv, hbb, (ha.e g hbb (Array.getElem?_eq_some_iff.1 hg).1 (hn g rfl)).trans hg, rest⟩
structure NGs (G : Nat) (u ub : Value) (LB : List (At × Value)) : Prop where
  a : ∀ k, u.ownBlock = some k → k ≠ G
  b : ∀ k, ub.ownBlock = some k → k ≠ G
  c : ∀ x ∈ LB, ∀ k, x.2.ownBlock = some k → k ≠ G
/-- How far the clause is lent: its head and its body. -/
structure LC (W X : World) (G : Nat) (a : At) (u ub : Value) (LB : List (At × Value)) : Prop where
  bo : CBlk X G #[.int .i64 a.by_.k, .int .i64 a.by_.n, .string a.by_.s, .string a.name, u, ub, .slice none 0 0] 30
  hu : LentT X W.heap.size u a.args
  hb : LentA X W.heap.size ub LB
  n : NGs G u ub LB
  gw : W.heap.size ≤ G
  bw : Below W.heap.size W X
theorem LC.mk7 {W X : World} {G : Nat} (k m : Int) (s nm : ByteArray) (ls : List Tm) (u ub : Value) (LB : List (At × Value)) (fg : CBlk X G zcs 30) (hu : LentT X W.heap.size u ls) (hl : LentA X W.heap.size ub LB) (hn : NGs G u ub LB) (gw : W.heap.size ≤ G) (hb : Below W.heap.size W X) :
    LC W (Cput X G (.int .i64 k) (.int .i64 m) (.string s) (.string nm) u ub (.slice none 0 0)) G ⟨⟨k, m, s⟩, nm, ls⟩ u ub LB := by
  have ha : Ag W.heap.size G X (Cput X G (.int .i64 k) (.int .i64 m) (.string s) (.string nm) u ub (.slice none 0 0)) := ((((((((Ag.refl W.heap.size G X).set).set).set).set).set).set).set)
  exact ⟨fg.put7 _ _ _ _ _ _ _, hu.ag ha hn.a, hl.ag ha hn.b hn.c, hn, gw, bput7 hb gw _ _ _ _ _ _ _⟩
theorem cm_sizes {c : Cm} (hs : (Ck.terms c.key).length ≤ 4000000) : c.head.1.args.length ≤ 4000000 ∧ c.body.length ≤ 4000000 ∧ c.tests.length ≤ 4000000 ∧ ∀ x ∈ c.body, x.1.args.length ≤ 4000000 := by
  have e : (Ck.terms c.key).length = c.head.1.pl.length + (((fsts c.body).flatMap At.pl).length + (tls c.tests).length) := by
    unfold Ck.terms Cm.key
    simp only [List.length_append]
  have e1 : c.head.1.args.length ≤ c.head.1.pl.length := by simp [At.pl]
  have e2 : (tls c.tests).length = c.tests.length * 2 := tls_len _
  have e3 : (fsts c.body).length ≤ ((fsts c.body).flatMap At.pl).length := by
    generalize fsts c.body = l
    induction l with
    | nil => simp
    | cons a l ih => rw [List.flatMap_cons, List.length_append, List.length_cons]; have : 1 ≤ a.pl.length := (by simp [At.pl]); omega
  have e4 : (fsts c.body).length = c.body.length := by simp [fsts]
  refine ⟨by omega, by omega, by omega, fun x hx => ?_⟩
  have hm : x.1 ∈ fsts c.body := List.mem_map.2 ⟨x, hx, rfl⟩
  have : x.1.args.length ≤ ((fsts c.body).flatMap At.pl).length := by
    generalize fsts c.body = l at hm
    induction l with
    | nil => cases hm
    | cons a l ih =>
      rw [List.flatMap_cons, List.length_append]
      rcases List.mem_cons.1 hm with rfl | hm
      · have : x.1.args.length ≤ x.1.pl.length := (by simp [At.pl]); omega
      · have := ih hm; omega
  omega
end Go.Proofs.YtgbiicmkhlnniaaGreatDoor
/-
  What Check answers to clauses broken in one way. (Plain.)
-/
namespace Go.Proofs.YtgbiicmkhlnniaaGreatDoor
open Go.RowKit

/-- What Check answers, one by one. -/
theorem key_len (c : Cm) : c.body.length = c.key.2.1.length ∧ c.tests.length = c.key.2.2.length := by simp [Cm.key, fsts]
theorem unb_key {c : Cm} : unb c = (vrs (c.key.1.pl ++ tls c.key.2.2)).any fun v => !decide (v ∈ vrs (c.key.2.1.flatMap At.pl)) := by
  have e1 : c.restC.vars = vrs c.restC.terms := rfl
  have e2 : c.bodyC.vars = vrs c.bodyC.terms := rfl
  have e3 : flt c.body = c.key.2.1.flatMap At.pl := by simp [flt, Cm.key, fsts, List.flatMap_map]
  unfold unb
  rw [e1, e2, restC_terms, bodyC_terms, e3]
  have e4 : vrs (⟨0, 0, ⟨#[]⟩⟩ :: c.key.2.1.flatMap At.pl) = vrs (c.key.2.1.flatMap At.pl) := by unfold vrs; rw [List.filter_cons_of_neg (by rw [zt_var]; simp)]
  rw [e4]; rfl
theorem mis_key {c : Cm} : mis 0 c.vars = mis 0 (vrs (Ck.terms c.key)) := by
  have : c.vars = vrs c.terms := rfl
  rw [this, key_terms]
end Go.Proofs.YtgbiicmkhlnniaaGreatDoor
/-
  What Made makes of a valid clause is that clause; quotes and what has one quote. (Plain.)
-/
namespace Go.Proofs.YtgbiicmkhlnniaaGreatDoor
open Go.RowKit

theorem qual_k {t : Tm} (h : qualOk t = true) (hv : t.var = false) : t.k ≠ 3 := by
  simp only [qualOk, hv, Bool.or_false, Bool.or_eq_true, decide_eq_true_eq, Tm.prin] at h
  rcases h with h | h
  · rw [h]; simp [zt]
  · omega
theorem var_eqQ {t : Tm} (h : t.var = true) : t = ⟨3, t.n, ⟨#[]⟩⟩ := by
  simp only [Tm.var, decide_eq_true_eq] at h
  obtain ⟨k, n, s⟩ := t
  simp only at h
  obtain ⟨rfl, -, rfl⟩ := h
  rfl
theorem fold_n : ∀ (l acc : List Tm), (∀ t ∈ l, t.var = true) → (∀ t ∈ acc, t.var = true) → (l.foldl dstepT acc).map (·.n) = (l.map (·.n)).foldl dstep (acc.map (·.n))
  | [], acc, _, _ => rfl
  | t :: l, acc, h1, h2 => by
    rw [List.foldl_cons, List.map_cons, List.foldl_cons]
    have ht := h1 t (by simp)
    have hm : t.n ∈ acc.map (·.n) ↔ t ∈ acc := ⟨fun hm => by
      obtain ⟨u, hu, e⟩ := List.mem_map.1 hm
      rw [var_eqQ ht, ← e, ← var_eqQ (h2 u hu)]; exact hu, fun hm => List.mem_map.2 ⟨t, hm, rfl⟩⟩
    have e : (dstepT acc t).map (·.n) = dstep (acc.map (·.n)) t.n := by
      unfold dstepT dstep
      by_cases hc : t ∈ acc
      · rw [if_pos hc, if_pos (hm.2 hc)]
      · rw [if_neg hc, if_neg (fun x => hc (hm.1 x))]; simp
    rw [← e]
    refine fold_n l _ (fun u hu => h1 u (by simp [hu])) fun u hu => ?_
    rcases dstepT_mem.1 hu with hu | rfl
    · exact h2 u hu
    · exact ht
theorem disT_n (l : List Tm) : (disT l).map (·.n) = dis (vrs l) := by
  unfold disT dis vrs
  exact fold_n _ [] (fun t ht => (List.mem_filter.1 ht).2) (by simp)
end Go.Proofs.YtgbiicmkhlnniaaGreatDoor
