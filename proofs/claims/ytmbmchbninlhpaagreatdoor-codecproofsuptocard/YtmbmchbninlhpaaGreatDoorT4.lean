import Derived.Deep.RegionHeld3
import Derived.Test.YtmbmchbninlhpaaGreatDoorMD8
import Derived.Test.YtmbmchbninlhpaaGreatDoorMD2
import Derived.Test.YtmbmchbninlhpaaGreatDoorLD2
import Derived.Test.YtmbmchbninlhpaaGreatDoorCL1
import Derived.Test.YtmbmchbninlhpaaGreatDoorCL5
namespace Go.Proofs.YtmbmchbninlhpaaGreatDoor
open Go.RowKit
attribute [local go_sem ↓] Go.wp_at_zero Go.wp_at_succ

structure C2 (w X : World) (o : Array Value) : Prop where
 bc : CBlk X w.heap.size o 62
 br : CBlk X (w.heap.size + 1) zcs 62
 bw : Below w.heap.size w X
 sz : w.heap.size + 1 + 1 <= X.heap.size
structure LS (W X : World) (u : Value) (L : List Tm) : Prop where
 ow : OwnT X W.heap.size u L
 bw : Below W.heap.size W X
end Go.Proofs.YtmbmchbninlhpaaGreatDoor
namespace Go.Proofs.YtmbmchbninlhpaaGreatDoor
open Go.RowKit

def ints (n : Nat) : List Int := (List.range n).map fun i : Nat => (i : Int)
theorem mem_ints {n : Nat} {v : Int} : v ∈ ints n ↔ 0 <= v /\ v < n := by
 simp only [ints, List.mem_map, List.mem_range]
 exact ⟨fun ⟨i, h, e⟩ => by omega, fun ⟨h1, h2⟩ => ⟨v.toNat, by omega, by omega⟩⟩
theorem ints_succ (n : Nat) : ints (n + 1) = ints n ++ [(n : Int)] := by simp [ints, List.range_succ]
theorem ints_len (n : Nat) : (ints n).length = n := by simp [ints]
theorem mis_ints : ∀ (l : List Int) (n : Nat), (∀ v ∈ l, 0 <= v) -> mis n l = false -> ∃ m, n <= m /\ l.foldl dstep (ints n) = ints m /\ ∀ v ∈ l, v < m
 | [], n, _, _ => ⟨n, Nat.le_refl _, rfl, fun v hv => by cases hv⟩
 | v :: l, n, h0, h => by
  rw [mis] at h
  by_cases h1 : (n : Int) < v
  ·rw [if_pos h1] at h; cases h
  ·rw [if_neg h1] at h
   have hv := h0 v (by simp)
   rw [List.foldl_cons]
   by_cases h2 : v = n
   ·rw [if_pos h2] at h
    have e : dstep (ints n) v = ints (n + 1) := by
     unfold dstep; rw [if_neg (by rw [mem_ints]; omega), ints_succ, h2]
    obtain ⟨m, k1, k2, k3⟩ := mis_ints l (n + 1) (fun u hu => h0 u (by simp [hu])) (by exact_mod_cast h)
    rw [e]
    refine ⟨m, by omega, k2, fun u hu => ?_⟩
    rcases List.mem_cons.1 hu with rfl | hu
    ·omega
    ·exact k3 u hu
   ·rw [if_neg h2] at h
    have e : dstep (ints n) v = ints n := by
     unfold dstep; rw [if_pos (by rw [mem_ints]; omega)]
    obtain ⟨m, k1, k2, k3⟩ := mis_ints l n (fun u hu => h0 u (by simp [hu])) h
    rw [e]
    refine ⟨m, k1, k2, fun u hu => ?_⟩
    rcases List.mem_cons.1 hu with rfl | hu
    ·omega
    ·exact k3 u hu
theorem var_nn {t : Tm} (h : t.var = true) : 0 <= t.n := by simp only [Tm.var, decide_eq_true_eq] at h; exact h.2.1
end Go.Proofs.YtmbmchbninlhpaaGreatDoor
namespace Go.Proofs.YtmbmchbninlhpaaGreatDoor
open Go.RowKit

theorem OwnE.agree {X X' : World} {B : Nat} {v : Value} {l : List Te} (h : OwnE X B v l) (hb : ∀ b, B <= b -> b < X.heap.size -> X'.heap[b]? = X.heap[b]?) : OwnE X' B v l := by
 refine ⟨h.1, ?_⟩
 rcases h.2 with hn | ⟨g, cap, cur, hv, hbb, hg, rest⟩
 ·exact Or.inl hn
 ·exact Or.inr ⟨g, cap, cur, hv, hbb, (hb g hbb (Array.getElem?_eq_some_iff.1 hg).1).trans hg, rest⟩
structure Bx (X : World) (G : Nat) (d : Cm) : Prop where
 b : CBlk X G d.cs 62
 o : d.ok X
theorem Bx.later {X X' : World} {G : Nat} {d : Cm} (h : Bx X G d) (hb : Below X.heap.size X X') : Bx X' G d := ⟨h.b.later hb, h.o.later hb⟩
theorem Bx.new {X : World} {d : Cm} (h : d.ok X) : Bx (X.alloc (.cells d.cs 62)) X.heap.size d := ⟨CBlk.new _ _ _, h.later (below1 _ _)⟩
abbrev Cput (X : World) (G : Nat) (a b c d e f g : Value) : World := ((((((X.setCell ⟨G, 0, none⟩ a).setCell ⟨G, 1, none⟩ b).setCell ⟨G, 2, none⟩ c).setCell ⟨G, 3, none⟩ d).setCell ⟨G, 4, none⟩ e).setCell ⟨G, 5, none⟩ f).setCell ⟨G, 6, none⟩ g
theorem CBlk.put7 {X : World} {G : Nat} {t : TypeId} (h : CBlk X G zcs t) (a b c d e f g : Value) : CBlk (Cput X G a b c d e f g) G #[a, b, c, d, e, f, g] t := by
 have := ((((((h.set 0 a).set 1 b).set 2 c).set 3 d).set 4 e).set 5 f).set 6 g
 simpa [zcs] using this
theorem bput7 {W X : World} {B G : Nat} (h : Below B W X) (hG : B <= G) (a b c d e f g : Value) : Below B W (Cput X G a b c d e f g) := ((((((h.setCell (show B <= G from hG) _).setCell (show B <= G from hG) _).setCell (show B <= G from hG) _).setCell (show B <= G from hG) _).setCell (show B <= G from hG) _).setCell (show B <= G from hG) _).setCell (show B <= G from hG) _
end Go.Proofs.YtmbmchbninlhpaaGreatDoor
namespace Go.Proofs.YtmbmchbninlhpaaGreatDoor
open Go.RowKit
attribute [local go_sem ↓] Go.wp_at_zero Go.wp_at_succ

def EsP (w : World) (v : Value) (l : List Te) : Prop := (v = .slice none 0 0 /\ l = []) ∨ ∃ ad cap, v = .slice (some ad) l.length cap /\ (l = [] ∨ ∃ b o, ad = ⟨b, o, none⟩ /\ ERow w b o l)
theorem EsP.later {w w' : World} {v : Value} {l : List Te} (h : EsP w v l) (hb : Below w.heap.size w w') : EsP w' v l := by
 rcases h with h | ⟨ad, cap, h1, h2⟩
 ·exact Or.inl h
 ·refine Or.inr ⟨ad, cap, h1, ?_⟩
  rcases h2 with h2 | ⟨b, o, h2, h3⟩
  ·exact Or.inl h2
  ·exact Or.inr ⟨b, o, h2, h3.later hb⟩
theorem erow_get {w : World} {b o : Nat} {l : List Te} (h : ERow w b o l) : ∀ j u, (ecs l)[j]? = some u -> w.cell? ((⟨b, o, none⟩ : Addr).add j) = some u := fun j u hu => by
 have hj := (List.getElem?_eq_some_iff.1 hu).1
 rw [ecs_len] at hj
 have h1 : j / 7 < l.length := by omega
 obtain ⟨d, hd⟩ : ∃ d, l[j / 7]? = some d := ⟨_, List.getElem?_eq_getElem h1⟩
 have hg := ecs_get l (j / 7) d hd (j % 7) (by omega)
 have e : j / 7 * 7 + j % 7 = j := by omega
 rw [e, hu] at hg
 have hc := h.2 _ d hd
 rw [Go.WideShapes.add_plain]
 have ea : o + j = o + j / 7 * 7 + j % 7 := by omega
 rw [ea]
 have h4 : j % 7 = 0 ∨ j % 7 = 1 ∨ j % 7 = 2 ∨ j % 7 = 3 ∨ j % 7 = 4 ∨ j % 7 = 5 ∨ j % 7 = 6 := by omega
 rcases h4 with e | e | e | e | e | e | e <;> rw [e] at hg ⊢ <;> simp [ecell] at hg <;> subst hg
 ·exact hc.1
 ·exact hc.2.1
 ·exact hc.2.2.1
 ·exact hc.2.2.2.1
 ·exact hc.2.2.2.2.1
 ·exact hc.2.2.2.2.2.1
 ·exact hc.2.2.2.2.2.2
theorem eapp_list {ops : Array Oper} {rest : List Oper} {o : Oper} {a : Act} {Q : Exit -> Act -> World -> Prop} {w : World} (hgd : o.guard = none) (s x : Operand)
  (ho : o.op = .call { callee := .builtin .append, args := #[s, x], argTypes := #[60, 60] }) (hs : a.eval s = .slice none 0 0)
  (y : Value) (m : List Te) (hx : a.eval x = y) (hy : EsP w y m) (hlen : m.length <= 1800000000000)
  (h : ∀ v' w', OwnE w' w.heap.size v' m -> Below w.heap.size w w' -> wpList Tryz.prog ops Q rest (a.put o.dst v') w') : wpList Tryz.prog ops Q (o :: rest) a w := by
 obtain ⟨i0, hi0, hz0, hz1, hz2⟩ := info_parts Tryz.infoTest
 have hown : OwnE w w.heap.size (.slice none 0 0) [] := OwnE.nil _ _
 rcases hy with ⟨rfl, rfl⟩ | ⟨ad, cap, rfl, hm⟩
 ·refine wpList_append_own_none hgd s x 60 ho w.heap.size 97 i0 7 Tryz.underlying60 hi0 _ 0 [] hs hown hx ?_
  exact h _ w hown (Below.refl _ _)
 ·refine wpList_append_own _ hgd s x 60 ho w.heap.size 97 i0 _ 7 72 Tryz.underlying60 hi0 hz0 hz1 hz2 rfl (by omega) _ 0 [] hs hown ad m.length cap (ecs m) hx (ecs_len m) ?_ (fun u hu => by obtain ⟨z, hz, hu⟩ := List.mem_flatMap.1 hu; exact ecell_one z u hu) (by unfold maxLen; omega) (by omega) (Nat.le_refl _) ?_
  ·rcases hm with rfl | ⟨b, o', rfl, hm⟩
   ·intro j u hu; simp [ecs] at hu
   ·exact erow_get hm
  ·intro v' w' h1 h2 _
   rw [Nat.zero_add, List.nil_append] at h1
   exact h v' w' h1 (grown_below3 h2 (fun k hk => by simp [Value.ownBlock] at hk) (Nat.le_refl _))
def LentE (X : World) (B : Nat) (v : Value) (l : List Te) : Prop := ∃ g cap, v = .slice (some ⟨g, 0, none⟩) l.length cap /\ OwnE X B (.slice (some ⟨g, 0, none⟩) (l.length + 1) cap) (l ++ [bE])
theorem LentE.later {X X' : World} {B : Nat} {v : Value} {l : List Te} (h : LentE X B v l) (hb : Below X.heap.size X X') : LentE X' B v l := by
 obtain ⟨g, cap, e, ho⟩ := h
 exact ⟨g, cap, e, ho.later hb⟩
theorem ownE_some {w : World} {base : Nat} {v : Value} {l : List Te} {d : Te} (h : OwnE w base v (l ++ [d])) : ∃ g cap, v = .slice (some ⟨g, 0, none⟩) (l.length + 1) cap /\ l.length + 1 <= cap := by
 rcases h.2 with ⟨_, hn⟩ | ⟨g, cap, cur, hv, _, _, hn, _⟩
 ·simp at hn
 ·rw [List.length_append, List.length_singleton] at hv hn; exact ⟨g, cap, hv, hn⟩
theorem ownE_cap {w : World} {base g cap n : Nat} {l : List Te} (h : OwnE w base (.slice (some ⟨g, 0, none⟩) n cap) l) : l.length <= cap := by
 rcases h.2 with ⟨h, _⟩ | ⟨g', c, cur, hv, _, _, hn, _⟩
 ·cases h
 ·simp only [Value.slice.injEq] at hv; omega
theorem LentE.row {X : World} {B g cap n : Nat} {l : List Te} {d : Te} (ho : OwnE X B (.slice (some ⟨g, 0, none⟩) n cap) (l ++ [d])) : ERow X g 0 l := by
 refine ⟨(ho.lt g rfl).2, fun i x hx => ?_⟩
 have hi := (List.getElem?_eq_some_iff.1 hx).1
 have hx' : (l ++ [d])[i]? = some x := by rw [List.getElem?_append_left hi]; exact hx
 rw [Nat.zero_add]
 exact ⟨ho.cells i x hx' 0 (by omega), ho.cells i x hx' 1 (by omega), ho.cells i x hx' 2 (by omega), ho.cells i x hx' 3 (by omega), ho.cells i x hx' 4 (by omega), ho.cells i x hx' 5 (by omega), ho.cells i x hx' 6 (by omega)⟩
theorem LentE.es {X : World} {B : Nat} {v : Value} {l : List Te} (h : LentE X B v l) (hl : l.length < 1000000000000000000) : Es X v l := by
 obtain ⟨g, cap, rfl, ho⟩ := h
 exact ⟨_, cap, rfl, hl, Or.inr ⟨g, 0, rfl, LentE.row ho⟩⟩
structure Lent (B : Nat) (X : World) (d : Cm) : Prop where
 h : LentT X B d.head.2 d.head.1.args
 b : LentA X B d.bv d.body
 t : LentE X B d.tv d.tests
theorem Lent.later {B : Nat} {X X' : World} {d : Cm} (h : Lent B X d) (hb : Below X.heap.size X X') : Lent B X' d := ⟨h.h.later hb, h.b.later hb, h.t.later hb⟩
theorem Lent.ok {B : Nat} {X : World} {d : Cm} (h : Lent B X d) (h1 : d.head.1.args.length < 1000000000000000000) (h2 : d.body.length < 1000000000000000000) (h3 : ∀ y ∈ d.body, y.1.args.length < 1000000000000000000) (h4 : d.tests.length < 1000000000000000000) : d.ok X :=
 ⟨h.h.ts h1, h.b.as h2 h3, h.t.es h4⟩
structure Ag (B G : Nat) (X0 X : World) : Prop where
 s : X0.heap.size <= X.heap.size
 e : ∀ k, B <= k -> k < X0.heap.size -> k ≠ G -> X.heap[k]? = X0.heap[k]?
theorem Ag.refl (B G : Nat) (X : World) : Ag B G X X := ⟨Nat.le_refl _, fun _ _ _ _ => rfl⟩
theorem Ag.below {B G : Nat} {X0 X X' : World} (h : Ag B G X0 X) (hb : Below X0.heap.size X X') : Ag B G X0 X' := ⟨Nat.le_trans h.s hb.size, fun k h1 h2 h3 => (hb.block k h2).trans (h.e k h1 h2 h3)⟩
theorem Ag.set {B G i : Nat} {X0 X : World} {v : Value} (h : Ag B G X0 X) : Ag B G X0 (X.setCell ⟨G, i, none⟩ v) := ⟨by simpa [World.setCell] using h.s, fun k h1 h2 h3 => (heap_setCell_other _ _ _ _ (show k ≠ G from h3)).trans (h.e k h1 h2 h3)⟩
theorem Ag.low {B G D i : Nat} {X0 X : World} {v : Value} (h : Ag B G X0 X) (hD : D < B) : Ag B G X0 (X.setCell ⟨D, i, none⟩ v) := ⟨by simpa [World.setCell] using h.s, fun k h1 h2 h3 => (heap_setCell_other _ _ _ _ (show k ≠ D by omega)).trans (h.e k h1 h2 h3)⟩
theorem LentT.ag {B G : Nat} {X0 X : World} {v : Value} {l : List Tm} (h : LentT X0 B v l) (ha : Ag B G X0 X) (hn : ∀ k, v.ownBlock = some k -> k ≠ G) : LentT X B v l := by
 obtain ⟨g, cap, rfl, ho⟩ := h
 refine ⟨g, cap, rfl, ho.1, ?_⟩
 rcases ho.2 with hm | ⟨g', cap', cur, hv, hbb, hg, rest⟩
 ·exact Or.inl hm
 ·have e : g = g' := by simp only [Value.slice.injEq, Option.some.injEq, Addr.mk.injEq] at hv; exact hv.1.1
  subst e
  exact Or.inr ⟨g, cap', cur, hv, hbb, (ha.e g hbb (Array.getElem?_eq_some_iff.1 hg).1 (hn g rfl)).trans hg, rest⟩
theorem LentA.ag {B G : Nat} {X0 X : World} {v : Value} {LB : List (At × Value)} (h : LentA X0 B v LB) (ha : Ag B G X0 X) (hn : ∀ k, v.ownBlock = some k -> k ≠ G) (hx : ∀ x ∈ LB, ∀ k, x.2.ownBlock = some k -> k ≠ G) : LentA X B v LB := by
 obtain ⟨⟨g, cap, rfl, ho⟩, ht⟩ := h
 refine ⟨⟨g, cap, rfl, ho.1, ?_⟩, fun x hm => (ht x hm).ag ha (hx x hm)⟩
 rcases ho.2 with hm | ⟨g', cap', cur, hv, hbb, hg, rest⟩
 ·exact Or.inl hm
 ·have e : g = g' := by simp only [Value.slice.injEq, Option.some.injEq, Addr.mk.injEq] at hv; exact hv.1.1
  subst e
  exact Or.inr ⟨g, cap', cur, hv, hbb, (ha.e g hbb (Array.getElem?_eq_some_iff.1 hg).1 (hn g rfl)).trans hg, rest⟩
structure NGs (G : Nat) (u ub : Value) (LB : List (At × Value)) : Prop where
 a : ∀ k, u.ownBlock = some k -> k ≠ G
 b : ∀ k, ub.ownBlock = some k -> k ≠ G
 c : ∀ x ∈ LB, ∀ k, x.2.ownBlock = some k -> k ≠ G
structure LC (W X : World) (G : Nat) (a : At) (u ub : Value) (LB : List (At × Value)) : Prop where
 bo : CBlk X G #[.int .i64 a.by_.k, .int .i64 a.by_.n, .string a.by_.s, .string a.name, u, ub, .slice none 0 0] 62
 hu : LentT X W.heap.size u a.args
 hb : LentA X W.heap.size ub LB
 n : NGs G u ub LB
 gw : W.heap.size <= G
 bw : Below W.heap.size W X
theorem LC.mk7 {W X : World} {G : Nat} (k m : Int) (s nm : ByteArray) (ls : List Tm) (u ub : Value) (LB : List (At × Value)) (fg : CBlk X G zcs 62) (hu : LentT X W.heap.size u ls) (hl : LentA X W.heap.size ub LB) (hn : NGs G u ub LB) (gw : W.heap.size <= G) (hb : Below W.heap.size W X) :
  LC W (Cput X G (.int .i64 k) (.int .i64 m) (.string s) (.string nm) u ub (.slice none 0 0)) G ⟨⟨k, m, s⟩, nm, ls⟩ u ub LB := by
 have ha : Ag W.heap.size G X (Cput X G (.int .i64 k) (.int .i64 m) (.string s) (.string nm) u ub (.slice none 0 0)) := ((((((((Ag.refl W.heap.size G X).set).set).set).set).set).set).set)
 exact ⟨fg.put7 _ _ _ _ _ _ _, hu.ag ha hn.a, hl.ag ha hn.b hn.c, hn, gw, bput7 hb gw _ _ _ _ _ _ _⟩
theorem cm_sizes {c : Cm} (hs : (Ck.terms c.key).length <= 4000000) : c.head.1.args.length <= 4000000 /\ c.body.length <= 4000000 /\ c.tests.length <= 4000000 /\ ∀ x ∈ c.body, x.1.args.length <= 4000000 := by
 have e : (Ck.terms c.key).length = c.head.1.pl.length + (((fsts c.body).flatMap At.pl).length + (tls c.tests).length) := by
  unfold Ck.terms Cm.key
  simp only [List.length_append]
 have e1 : c.head.1.args.length <= c.head.1.pl.length := by simp [At.pl]
 have e2 : (tls c.tests).length = c.tests.length * 2 := tls_len _
 have e3 : (fsts c.body).length <= ((fsts c.body).flatMap At.pl).length := by
  generalize fsts c.body = l
  induction l with
  | nil => simp
  | cons a l ih => rw [List.flatMap_cons, List.length_append, List.length_cons]; have : 1 <= a.pl.length := (by simp [At.pl]); omega
 have e4 : (fsts c.body).length = c.body.length := by simp [fsts]
 refine ⟨by omega, by omega, by omega, fun x hx => ?_⟩
 have hm : x.1 ∈ fsts c.body := List.mem_map.2 ⟨x, hx, rfl⟩
 have : x.1.args.length <= ((fsts c.body).flatMap At.pl).length := by
  generalize fsts c.body = l at hm
  induction l with
  | nil => cases hm
  | cons a l ih =>
   rw [List.flatMap_cons, List.length_append]
   rcases List.mem_cons.1 hm with rfl | hm
   ·have : x.1.args.length <= x.1.pl.length := (by simp [At.pl]); omega
   ·have := ih hm; omega
 omega
end Go.Proofs.YtmbmchbninlhpaaGreatDoor
namespace Go.Proofs.YtmbmchbninlhpaaGreatDoor
open Go.RowKit

theorem key_len (c : Cm) : c.body.length = c.key.2.1.length /\ c.tests.length = c.key.2.2.length := by simp [Cm.key, fsts]
theorem unb_key {c : Cm} : unb c = (vrs (c.key.1.pl ++ tls c.key.2.2)).any fun v => !decide (v ∈ vrs (c.key.2.1.flatMap At.pl)) := by
 have e1 : c.restC.vars = vrs c.restC.terms := rfl
 have e2 : c.bodyC.vars = vrs c.bodyC.terms := rfl
 have e3 : flt c.body = c.key.2.1.flatMap At.pl := by simp [flt, Cm.key, fsts, List.flatMap_map]
 unfold unb
 rw [e1, e2, restC_terms, bodyC_terms, e3]
 have e4 : vrs (⟨0, 0, ⟨#[]⟩⟩ :: c.key.2.1.flatMap At.pl) = vrs (c.key.2.1.flatMap At.pl) := by unfold vrs; rw [List.filter_cons_of_neg (by rw [zt_var]; simp)]
 rw [e4]; rfl
theorem mis_key {c : Cm} : mis 0 c.vars = mis 0 (vrs (Ck.terms c.key)) := by
 have : c.vars = vrs c.terms := rfl
 rw [this, key_terms]
end Go.Proofs.YtmbmchbninlhpaaGreatDoor
namespace Go.Proofs.YtmbmchbninlhpaaGreatDoor
open Go.RowKit

theorem qual_k {t : Tm} (h : qualOk t = true) (hv : t.var = false) : t.k ≠ 3 := by
 simp only [qualOk, hv, Bool.or_false, Bool.or_eq_true, decide_eq_true_eq, Tm.prin] at h
 rcases h with h | h
 ·rw [h]; simp [zt]
 ·omega
theorem var_eqQ {t : Tm} (h : t.var = true) : t = ⟨3, t.n, ⟨#[]⟩⟩ := by
 simp only [Tm.var, decide_eq_true_eq] at h
 obtain ⟨k, n, s⟩ := t
 simp only at h
 obtain ⟨rfl, -, rfl⟩ := h
 rfl
theorem fold_n : ∀ (l acc : List Tm), (∀ t ∈ l, t.var = true) -> (∀ t ∈ acc, t.var = true) -> (l.foldl dstepT acc).map (·.n) = (l.map (·.n)).foldl dstep (acc.map (·.n))
 | [], acc, _, _ => rfl
 | t :: l, acc, h1, h2 => by
  rw [List.foldl_cons, List.map_cons, List.foldl_cons]
  have ht := h1 t (by simp)
  have hm : t.n ∈ acc.map (·.n) ↔ t ∈ acc := ⟨fun hm => by
   obtain ⟨u, hu, e⟩ := List.mem_map.1 hm
   rw [var_eqQ ht, <- e, <- var_eqQ (h2 u hu)]; exact hu, fun hm => List.mem_map.2 ⟨t, hm, rfl⟩⟩
  have e : (dstepT acc t).map (·.n) = dstep (acc.map (·.n)) t.n := by
   unfold dstepT dstep
   by_cases hc : t ∈ acc
   ·rw [if_pos hc, if_pos (hm.2 hc)]
   ·rw [if_neg hc, if_neg (fun x => hc (hm.1 x))]; simp
  rw [<- e]
  refine fold_n l _ (fun u hu => h1 u (by simp [hu])) fun u hu => ?_
  rcases dstepT_mem.1 hu with hu | rfl
  ·exact h2 u hu
  ·exact ht
theorem disT_n (l : List Tm) : (disT l).map (·.n) = dis (vrs l) := by
 unfold disT dis vrs
 exact fold_n _ [] (fun t ht => (List.mem_filter.1 ht).2) (by simp)
end Go.Proofs.YtmbmchbninlhpaaGreatDoor
namespace Go.Proofs.YtmbmchbninlhpaaGreatDoor
open Go.RowKit

theorem err_vals (a : At) : a.err = 0 ∨ a.err = 21 ∨ a.err = 22 ∨ a.err = 23 ∨ a.err = 24 := by
 unfold At.err; split
 ·exact Or.inr (Or.inl rfl)
 ·split
  ·exact Or.inr (Or.inr (Or.inl rfl))
  ·split
   ·exact Or.inr (Or.inr (Or.inr (Or.inl rfl)))
   ·split
    ·exact Or.inl rfl
    ·exact Or.inr (Or.inr (Or.inr (Or.inr rfl)))
theorem aErr_vals : ∀ l : List (At × Value), aErr l = 0 ∨ aErr l = 21 ∨ aErr l = 22 ∨ aErr l = 23 ∨ aErr l = 24
 | [] => Or.inl rfl
 | x :: l => by
  unfold aErr
  split
  ·exact aErr_vals l
  ·exact err_vals x.1
theorem chk_1 {c : Cm} (h : long c = true) : c.chk = 31 := by simp [Cm.chk, Cm.rs, chkL, h]
theorem chk_2 {c : Cm} (h : long c = false) (h2 : aErr c.atoms ≠ 0) : c.chk = aErr c.atoms := by
 rcases aErr_vals c.atoms with e | e | e | e | e
 ·exact absurd e h2
 all_goals simp [Cm.chk, Cm.rs, chkL, h, e]
theorem chk_3 {c : Cm} (h : long c = false) (h2 : aErr c.atoms = 0) (h3 : badT c = true) : c.chk = 32 := by simp [Cm.chk, Cm.rs, chkL, h, h2, h3]
theorem chk_4 {c : Cm} (h : long c = false) (h2 : aErr c.atoms = 0) (h3 : badT c = false) (h4 : c.head.1.by_.var = true) : c.chk = 33 := by simp [Cm.chk, Cm.rs, chkL, h, h2, h3, h4]
theorem chk_5 {c : Cm} (h : long c = false) (h2 : aErr c.atoms = 0) (h3 : badT c = false) (h4 : c.head.1.by_.var = false) (h5 : unb c = true) : c.chk = 34 := by simp [Cm.chk, Cm.rs, chkL, h, h2, h3, h4, h5]
theorem chk_6 {c : Cm} (h : long c = false) (h2 : aErr c.atoms = 0) (h3 : badT c = false) (h4 : c.head.1.by_.var = false) (h5 : unb c = false) (h6 : mis 0 c.vars = true) : c.chk = 35 := by simp [Cm.chk, Cm.rs, chkL, h, h2, h3, h4, h5, h6]
theorem chk_7 {c : Cm} (h : long c = false) (h2 : aErr c.atoms = 0) (h3 : badT c = false) (h4 : c.head.1.by_.var = false) (h5 : unb c = false) (h6 : mis 0 c.vars = false) : c.chk = 0 := by simp [Cm.chk, Cm.rs, chkL, h, h2, h3, h4, h5, h6]
theorem aErr_all : ∀ {l : List (At × Value)}, aErr l = 0 -> ∀ x ∈ l, x.1.err = 0
 | [], _, x, hx => by cases hx
 | y :: l, h, x, hx => by
  unfold aErr at h
  by_cases e : y.1.err = 0
  ·rw [if_pos e] at h
   rcases List.mem_cons.1 hx with rfl | hx
   ·exact e
   ·exact aErr_all h x hx
  ·rw [if_neg e] at h; exact absurd h e
theorem aErr_drop {l : List (At × Value)} {j : Nat} {x : At × Value} (h : l[j]? = some x) (he : x.1.err = 0) : aErr (l.drop j) = aErr (l.drop (j + 1)) := by
 obtain ⟨hj, rfl⟩ := List.getElem?_eq_some_iff.1 h
 rw [List.drop_eq_getElem_cons hj, aErr, if_pos he]
theorem aErr_hit2 {l : List (At × Value)} {j : Nat} {x : At × Value} (h : l[j]? = some x) (he : x.1.err ≠ 0) : aErr (l.drop j) = x.1.err := by
 obtain ⟨hj, rfl⟩ := List.getElem?_eq_some_iff.1 h
 rw [List.drop_eq_getElem_cons hj, aErr, if_neg he]
theorem any_drop {l : List Te} {j : Nat} {x : Te} (h : l[j]? = some x) (he : x.ok = true) : (l.drop j).any (fun t => !t.ok) = (l.drop (j + 1)).any (fun t => !t.ok) := by
 obtain ⟨hj, rfl⟩ := List.getElem?_eq_some_iff.1 h
 rw [List.drop_eq_getElem_cons hj, List.any_cons, he]; rfl
theorem any_hit {l : List Te} {j : Nat} {x : Te} (h : l[j]? = some x) (he : x.ok = false) : l.any (fun t => !t.ok) = true := by
 rw [List.any_eq_true]; exact ⟨x, List.mem_of_getElem? h, by rw [he]; rfl⟩
theorem head_kind {a : At} (h : a.err = 0) : (a.by_.var = true ↔ a.by_.k = 3) := by
 have hq := (err_zero' h).2.2.1
 constructor
 ·intro hv; simp only [Tm.var, decide_eq_true_eq] at hv; exact hv.1
 ·intro hk
  cases hv : a.by_.var
  ·exact absurd hk (qual_k hq hv)
  ·rfl
theorem var_in {t : Tm} (hv : t.var = true) (L : List Tm) : t.n ∈ vrs L ↔ t ∈ L := by
 constructor
 ·intro h
  obtain ⟨u, hu, e⟩ := List.mem_map.1 h
  obtain ⟨hu, hvu⟩ := List.mem_filter.1 hu
  rw [var_eqQ hv, <- e, <- var_eqQ hvu]; exact hu
 ·intro h; exact List.mem_map.2 ⟨t, List.mem_filter.2 ⟨h, hv⟩, rfl⟩
theorem unb_ref {c : Cm} : unb c = true ↔ ∃ t ∈ disT (c.head.1.pl ++ tls c.tests), ¬ t ∈ flt c.body := by
 have e3 : c.key.2.1.flatMap At.pl = flt c.body := by simp [flt, Cm.key, fsts, List.flatMap_map]
 have e4 : c.key.1.pl ++ tls c.key.2.2 = c.head.1.pl ++ tls c.tests := rfl
 rw [unb_key, e3, e4, List.any_eq_true]
 constructor
 ·rintro ⟨v, hv, hn⟩
  obtain ⟨t, ht, rfl⟩ := List.mem_map.1 hv
  obtain ⟨ht, hvt⟩ := List.mem_filter.1 ht
  refine ⟨t, disT_mem.2 ⟨ht, hvt⟩, fun hm => ?_⟩
  rw [decide_eq_true ((var_in hvt _).2 hm)] at hn; simp at hn
 ·rintro ⟨t, ht, hn⟩
  obtain ⟨ht, hvt⟩ := disT_mem.1 ht
  refine ⟨t.n, List.mem_map.2 ⟨t, List.mem_filter.2 ⟨ht, hvt⟩, rfl⟩, ?_⟩
  rw [decide_eq_false fun hm => hn ((var_in hvt _).1 hm)]; rfl
theorem mis_ref {L : List Tm} : mis 0 (vrs L) = false ↔ ∀ (i : Nat) (t : Tm), (disT L)[i]? = some t -> t.n = i := by
 constructor
 ·intro hm i t ht
  obtain ⟨m, -, h2, -⟩ := mis_ints (vrs L) 0 (fun v hv => by
   obtain ⟨u, hu, rfl⟩ := List.mem_map.1 hv
   exact var_nn (List.mem_filter.1 hu).2) hm
  have hn : (disT L).map (·.n) = ints m := (disT_n L).trans h2
  have h3 := congrArg (fun l => l[i]?) hn
  simp only [List.getElem?_map, ht, Option.map_some] at h3
  have hlt : i < m := by
   have := (List.getElem?_eq_some_iff.1 ht).1
   have h4 := congrArg List.length hn
   rw [List.length_map, ints_len] at h4; omega
  simp [ints, hlt] at h3
  exact h3
 ·intro h
  have e : vrs L = (L.filter Tm.var).map fun t => ((ix ((L.filter Tm.var).foldl dstepT []) t : Nat) : Int) := by
   unfold vrs
   refine List.map_congr_left fun t ht => ?_
   have hm : t ∈ disT L := disT_mem.2 (List.mem_filter.1 ht)
   have := h _ t (ix_get hm)
   rw [this]; rfl
  rw [e]
  exact mis_idx _ []
def AsP (w : World) (v : Value) (l : List (At × Value)) : Prop := (v = .slice none 0 0 /\ l = []) ∨ ∃ ad cap, v = .slice (some ad) l.length cap /\ (l = [] ∨ ∃ b o, ad = ⟨b, o, none⟩ /\ ARow w b o l)
theorem AsP.later {w w' : World} {v : Value} {l : List (At × Value)} (h : AsP w v l) (hb : Below w.heap.size w w') : AsP w' v l := by
 rcases h with h | ⟨ad, cap, h1, h2⟩
 ·exact Or.inl h
 ·refine Or.inr ⟨ad, cap, h1, ?_⟩
  rcases h2 with h2 | ⟨b, o, h2, h3⟩
  ·exact Or.inl h2
  ·exact Or.inr ⟨b, o, h2, h3.later hb⟩
theorem arow_get {w : World} {b o : Nat} {l : List (At × Value)} (h : ARow w b o l) : ∀ j u, (acs l)[j]? = some u -> w.cell? ((⟨b, o, none⟩ : Addr).add j) = some u := fun j u hu => by
 have hj := (List.getElem?_eq_some_iff.1 hu).1
 rw [acs_len] at hj
 have h1 : j / 5 < l.length := by omega
 obtain ⟨d, hd⟩ : ∃ d, l[j / 5]? = some d := ⟨_, List.getElem?_eq_getElem h1⟩
 have hg := acs_get l (j / 5) d hd (j % 5) (by omega)
 have e : j / 5 * 5 + j % 5 = j := by omega
 rw [e, hu] at hg
 have hc := h.2 _ d hd
 rw [Go.WideShapes.add_plain]
 have ea : o + j = o + j / 5 * 5 + j % 5 := by omega
 rw [ea]
 have h4 : j % 5 = 0 ∨ j % 5 = 1 ∨ j % 5 = 2 ∨ j % 5 = 3 ∨ j % 5 = 4 := by omega
 rcases h4 with e | e | e | e | e <;> rw [e] at hg ⊢ <;> simp [acell] at hg <;> subst hg
 ·exact hc.1
 ·exact hc.2.1
 ·exact hc.2.2.1
 ·exact hc.2.2.2.1
 ·exact hc.2.2.2.2
theorem ownA_one {w : World} {b base : Nat} {y : At × Value} (h : CBlk w b (acell y).toArray 58) (hb : base <= b) : OwnA w base (.slice (some ⟨b, 0, none⟩) 1 1) [y] := by
 refine ⟨by simp [acs, acell], Or.inr ⟨_, 1, (acell y).toArray, rfl, hb, h, Nat.le_refl _, by unfold maxLen; omega, by simp [acell], by simp [acs, acell]⟩⟩
theorem aapp_list {ops : Array Oper} {rest : List Oper} {o : Oper} {a : Act} {Q : Exit -> Act -> World -> Prop} {w : World} (hgd : o.guard = none) (s x : Operand)
  (ho : o.op = .call { callee := .builtin .append, args := #[s, x], argTypes := #[59, 59] }) (base : Nat) (v : Value) (l : List (At × Value)) (hs : a.eval s = v) (hown : OwnA w base v l)
  (y : Value) (m : List (At × Value)) (hx : a.eval x = y) (hy : AsP w y m) (h1c : ∀ z ∈ m, ∀ u ∈ acell z, u.oneCell' = true) (hlen : l.length + m.length <= 1800000000000) (hbase : base <= w.heap.size)
  (h : ∀ v' w', OwnA w' base v' (l ++ m) -> Below base w w' -> wpList Tryz.prog ops Q rest (a.put o.dst v') w') : wpList Tryz.prog ops Q (o :: rest) a w := by
 obtain ⟨i0, hi0, hz0, hz1, hz2⟩ := info_parts Tryz.infoAtom
 rcases hy with ⟨rfl, rfl⟩ | ⟨ad, cap, rfl, hm⟩
 ·refine wpList_append_own_none hgd s x 59 ho base 58 i0 5 Tryz.underlying59 hi0 v l.length (acs l) hs hown hx ?_
  exact h v w (by rw [List.append_nil]; exact hown) (Below.refl _ _)
 ·refine wpList_append_own _ hgd s x 59 ho base 58 i0 _ 5 72 Tryz.underlying59 hi0 hz0 hz1 hz2 rfl (by omega) v l.length (acs l) hs hown ad m.length cap (acs m) hx (acs_len m) ?_ (fun u hu => by obtain ⟨z, hz, hu⟩ := List.mem_flatMap.1 hu; exact h1c z hz u hu) (by unfold maxLen; omega) (by omega) hbase ?_
  ·rcases hm with rfl | ⟨b, o', rfl, hm⟩
   ·intro j u hu; simp [acs] at hu
   ·exact arow_get hm
  ·intro v' w' h1 h2 _
   refine h v' w' ?_ (grown_below3 h2 (fun k hk => (World.ownsRow.lt hown k hk).1) hbase)
   unfold OwnA
   rw [List.length_append, acs_app]
   exact h1
theorem As.get_ {w : World} {a : Option Addr} {n cap j : Nat} {l : List (At × Value)} (h : As w (.slice a n cap) l) (hj : j < n) :
  ∃ (b o : Nat) (t : At × Value), a = some ⟨b, o, none⟩ /\ l[j]? = some t /\ b < w.heap.size /\ (w.cell? ⟨b, o + j * 5, none⟩ = some (.int .i64 t.1.by_.k) /\ w.cell? ⟨b, o + j * 5 + 1, none⟩ = some (.int .i64 t.1.by_.n) /\ w.cell? ⟨b, o + j * 5 + 2, none⟩ = some (.string t.1.by_.s) /\ w.cell? ⟨b, o + j * 5 + 3, none⟩ = some (.string t.1.name) /\ w.cell? ⟨b, o + j * 5 + 4, none⟩ = some t.2) /\ Ts w t.2 t.1.args := by
 obtain ⟨a', cap', e, hl, hm, ht⟩ := h
 simp only [Value.slice.injEq] at e
 obtain ⟨rfl, rfl, rfl⟩ := e
 obtain ⟨t, htj⟩ : ∃ t, l[j]? = some t := ⟨_, List.getElem?_eq_getElem hj⟩
 rcases hm with rfl | ⟨b, o, rfl, hr⟩
 ·simp at hj
 ·exact ⟨b, o, t, rfl, htj, hr.1, hr.2 j t htj, ht t (List.mem_of_getElem? htj)⟩
theorem Es.get_ {w : World} {a : Option Addr} {n cap j : Nat} {l : List Te} (h : Es w (.slice a n cap) l) (hj : j < n) :
  ∃ (b o : Nat) (t : Te), a = some ⟨b, o, none⟩ /\ l[j]? = some t /\ b < w.heap.size /\ w.cell? ⟨b, o + j * 7, none⟩ = some (.int .i64 t.op) /\ w.cell? ⟨b, o + j * 7 + 1, none⟩ = some (.int .i64 t.l.k) /\ w.cell? ⟨b, o + j * 7 + 2, none⟩ = some (.int .i64 t.l.n) /\ w.cell? ⟨b, o + j * 7 + 3, none⟩ = some (.string t.l.s) /\ w.cell? ⟨b, o + j * 7 + 4, none⟩ = some (.int .i64 t.r.k) /\ w.cell? ⟨b, o + j * 7 + 5, none⟩ = some (.int .i64 t.r.n) /\ w.cell? ⟨b, o + j * 7 + 6, none⟩ = some (.string t.r.s) := by
 obtain ⟨a', cap', e, hl, hm⟩ := h
 simp only [Value.slice.injEq] at e
 obtain ⟨rfl, rfl, rfl⟩ := e
 obtain ⟨t, htj⟩ : ∃ t, l[j]? = some t := ⟨_, List.getElem?_eq_getElem hj⟩
 rcases hm with rfl | ⟨b, o, rfl, hr⟩
 ·simp at hj
 ·exact ⟨b, o, t, rfl, htj, hr.1, hr.2 j t htj⟩
theorem stepT_list {ops : Array Oper} {o : Oper} {a : Act} {K : Act -> World -> Prop} {Q : Exit -> Act -> World -> Prop} {E : Prop} {w : World} (hgd : o.guard = none) (s x : Operand)
  (ho : o.op = .call { callee := .builtin .append, args := #[s, x], argTypes := #[47, 47] }) (base : Nat) (v : Value) (l : List Tm) (hs : a.eval s = v) (hown : OwnT w base v l)
  (y : Value) (m : List Tm) (hx : a.eval x = y) (hy : TsP w y m) (hlen : l.length + m.length <= 4000000000000) (hbase : base <= w.heap.size)
  (h : ∀ v' w', OwnT w' base v' (l ++ m) -> Below base w w' -> K (a.put o.dst v') w') : if Region.wanted o (yielded ops a.tmps) = true then Oper.wp Tryz.prog o a w K Q else E := by
 have hw : Region.wanted o (yielded ops a.tmps) = true := by simp [Region.wanted, hgd]
 rw [if_pos hw]
 obtain ⟨i0, hi0, hz0, hz1, hz2⟩ := info_parts Tryz.infoTerm
 rcases hy with ⟨rfl, rfl⟩ | ⟨ad, cap, rfl, hm⟩
 ·have hrun := run_append_owned_none (P := Tryz.prog) (w := w) base 47 o.type 56 i0 3 Tryz.underlying47 hi0 v l.length (tcs l) hown
  unfold Oper.wp
  simp [execOp, ho, resolve, invoke, builtin, hs, hx, hrun, Result.andThen]
  exact h v w (by rw [List.append_nil]; exact hown) (Below.refl _ _)
 ·refine wp_append_own w s x 47 ho base 56 i0 _ 3 32 Tryz.underlying47 hi0 hz0 hz1 hz2 rfl (by omega) v l.length (tcs l) hs hown ad m.length cap (tcs m) hx (tcs_len m) ?_ (fun u hu => tcs_mem hu) (by unfold maxLen; omega) (by omega) hbase ?_
  ·rcases hm with rfl | ⟨b, o', rfl, hm⟩
   ·intro j u hu; simp [tcs] at hu
   ·exact trow_get hm
  ·intro v' w' h1 h2 _
   refine h v' w' ?_ (grown_below3 h2 (fun k hk => (World.ownsRow.lt hown k hk).1) hbase)
   unfold OwnT
   rw [List.length_append, tcs_app]
   exact h1
end Go.Proofs.YtmbmchbninlhpaaGreatDoor
namespace Go.Proofs.YtmbmchbninlhpaaGreatDoor
open Go.RowKit

set_option maxHeartbeats 2000000 in
theorem rcheck_any (t : Te) (w : World) :
  Calls Tryz.prog 67 #[t.v] w fun e w' => e = .returned (.int .i64 (if t.ok then 0 else 32)) /\ Below w.heap.size w w' := by
 obtain ⟨op, ⟨k, n, s⟩, ⟨k', n', s'⟩⟩ := t
 obtain ⟨c1, h1⟩ : ∃ c, Tm.con ⟨k, n, s⟩ = c := ⟨_, rfl⟩
 obtain ⟨c2, h2⟩ : ∃ c, Tm.con ⟨k', n', s'⟩ = c := ⟨_, rfl⟩
 obtain ⟨v1, h3⟩ : ∃ c, Tm.var ⟨k, n, s⟩ = c := ⟨_, rfl⟩
 obtain ⟨v2, h4⟩ : ∃ c, Tm.var ⟨k', n', s'⟩ = c := ⟨_, rfl⟩
 obtain ⟨r, hr⟩ : ∃ r : Int, (if Te.ok ⟨op, ⟨k, n, s⟩, ⟨k', n', s'⟩⟩ then 0 else 32) = r := ⟨_, rfl⟩
 rw [hr]
 have HR : Hid ((if decide (1 <= op /\ op <= 4) && ((c1 || v1) && (c2 || v2)) then (0 : Int) else 32) = r) := by rw [<- hr, <- h1, <- h2, <- h3, <- h4]; rfl
 have H1 : Hid (Tm.con ⟨k, n, s⟩ = c1) := h1
 have H2 : Hid (Tm.con ⟨k', n', s'⟩ = c2) := h2
 have H3 : Hid (Tm.var ⟨k, n, s⟩ = v1) := h3
 have H4 : Hid (Tm.var ⟨k', n', s'⟩ = v2) := h4
 clear h1 h2 h3 h4 hr
 have ho : op < 1 ∨ 4 < op ∨ (1 <= op /\ op <= 4) := by omega
 rcases ho with ho | ho | ⟨ho1, ho2⟩ <;> cases c1 <;> cases c2 <;> cases v1 <;> cases v2
 all_goals
  go_enter Tryz.func67, Tryz.ntmps67
  go_wp2_with (first
   | (go_at_call 75; refine (rcon_any ⟨_, _, _⟩ _).mono ?_; first
     | (rw [H1.out]; rintro e w1 ⟨rfl, hb1⟩; have C1 := (Box1.start _ _ _).later hb1; obtain ⟨a0, a1, a2, a3, a4, a5, a6⟩ := C1.cells7; have BB : Hid (Box1 _ _ _ _) := C1; clear C1)
     | (rw [H2.out]; rintro e w1 ⟨rfl, hb1⟩; have C1 := (Hid.out BB).later hb1; clear a0 a1 a2 a3 a4 a5 a6 BB; obtain ⟨a0, a1, a2, a3, a4, a5, a6⟩ := C1.cells7; have BB : Hid (Box1 _ _ _ _) := C1; clear C1))
   | (go_at_call 111; refine (rvar_any ⟨_, _, _⟩ _).mono ?_; (first | rw [H3.out] | rw [H4.out]); rintro e w1 ⟨rfl, hb1⟩; have C1 := (Hid.out BB).later hb1; clear a0 a1 a2 a3 a4 a5 a6 BB; obtain ⟨a0, a1, a2, a3, a4, a5, a6⟩ := C1.cells7; have BB : Hid (Box1 _ _ _ _) := C1; clear C1))
  go_ret
  exact ⟨ret_i (by rw [<- HR.out]; first | (rw [decide_eq_false (by omega)]; rfl) | (rw [decide_eq_true (by omega)]; rfl)), (Hid.out BB).2⟩
end Go.Proofs.YtmbmchbninlhpaaGreatDoor
