import Derived.Test.YtdfgijdededolabGreatDoorShelf2
import Derived.Test.YtdfgijdededolabGreatDoorLE2
import Derived.Test.YtdfgijdededolabGreatDoorCL20
/-
  Clauses lent, and looked at. (Written by LD3.py.)
-/
namespace Go.Proofs.YtdfgijdededolabGreatDoor
open Go.RowKit
attribute [local go_sem ↓] Go.wp_at_zero Go.wp_at_succ

def EsP (w : World) (v : Value) (l : List Te) : Prop := (v = .slice none 0 0 ∧ l = []) ∨ ∃ ad cap, v = .slice (some ad) l.length cap ∧ (l = [] ∨ ∃ b o, ad = ⟨b, o, none⟩ ∧ ERow w b o l)
theorem EsP.later {w w' : World} {v : Value} {l : List Te} (h : EsP w v l) (hb : Below w.heap.size w w') : EsP w' v l := by
  rcases h with h | ⟨ad, cap, h1, h2⟩
  · exact Or.inl h
  · refine Or.inr ⟨ad, cap, h1, ?_⟩
    rcases h2 with h2 | ⟨b, o, h2, h3⟩
    · exact Or.inl h2
    · exact Or.inr ⟨b, o, h2, h3.later hb⟩
theorem EsP.form {w : World} {v : Value} {l : List Te} (h : EsP w v l) : ∃ a cap, v = .slice a l.length cap := by
  rcases h with ⟨rfl, rfl⟩ | ⟨ad, cap, rfl, _⟩
  · exact ⟨none, 0, rfl⟩
  · exact ⟨some ad, cap, rfl⟩
theorem erow_get {w : World} {b o : Nat} {l : List Te} (h : ERow w b o l) : ∀ j u, (ecs l)[j]? = some u → w.cell? ((⟨b, o, none⟩ : Addr).add j) = some u := fun j u hu => by
  have hj := (List.getElem?_eq_some_iff.1 hu).1
  rw [ecs_len] at hj
  have h1 : j / 7 < l.length := by omega
  obtain ⟨d, hd⟩ : ∃ d, l[j / 7]? = some d := ⟨_, List.getElem?_eq_getElem h1⟩
  have hg := ecs_get l (j / 7) d hd (j % 7) (by omega)
  have e : j / 7 * 7 + j % 7 = j := by omega
  rw [e, hu] at hg
  have hc := h.2 _ d hd
  rw [Go.WideShapes.add_plain]
  have ea : o + j = o + j / 7 * 7 + j % 7 := by omega
  rw [ea]
  have h4 : j % 7 = 0 ∨ j % 7 = 1 ∨ j % 7 = 2 ∨ j % 7 = 3 ∨ j % 7 = 4 ∨ j % 7 = 5 ∨ j % 7 = 6 := by omega
  rcases h4 with e | e | e | e | e | e | e <;> rw [e] at hg ⊢ <;> simp [ecell] at hg <;> subst hg
  · exact hc.1
  · exact hc.2.1
  · exact hc.2.2.1
  · exact hc.2.2.2.1
  · exact hc.2.2.2.2.1
  · exact hc.2.2.2.2.2.1
  · exact hc.2.2.2.2.2.2
theorem eapp_list {ops : Array Oper} {rest : List Oper} {o : Oper} {a : Act} {Q : Exit → Act → World → Prop} {w : World} (hgd : o.guard = none) (s x : Operand)
    (ho : o.op = .call { callee := .builtin .append, args := #[s, x], argTypes := #[39, 39] }) (hs : a.eval s = .slice none 0 0)
    (y : Value) (m : List Te) (hx : a.eval x = y) (hy : EsP w y m) (hlen : m.length ≤ 1800000000000)
    (h : ∀ v' w', OwnE w' w.heap.size v' m → Below w.heap.size w w' → wpList Tryz.prog ops Q rest (a.put o.dst v') w') : wpList Tryz.prog ops Q (o :: rest) a w := by
  obtain ⟨i0, hi0, hz0, hz1, hz2⟩ := info_parts Tryz.infoTest
  have hown : OwnE w w.heap.size (.slice none 0 0) [] := OwnE.nil _ _
  rcases hy with ⟨rfl, rfl⟩ | ⟨ad, cap, rfl, hm⟩
  · refine wpList_append_own_none hgd s x 39 ho w.heap.size 88 i0 7 Tryz.underlying39 hi0 _ 0 [] hs hown hx ?_
    exact h _ w hown (Below.refl _ _)
  · refine wpList_append_own _ hgd s x 39 ho w.heap.size 88 i0 _ 7 72 Tryz.underlying39 hi0 hz0 hz1 hz2 rfl (by omega) _ 0 [] hs hown ad m.length cap (ecs m) hx (ecs_len m) ?_ (fun u hu => by obtain ⟨z, hz, hu⟩ := List.mem_flatMap.1 hu; exact ecell_one z u hu) (by unfold maxLen; omega) (by omega) (Nat.le_refl _) ?_
    · rcases hm with rfl | ⟨b, o', rfl, hm⟩
      · intro j u hu; simp [ecs] at hu
      · exact erow_get hm
    · intro v' w' h1 h2 _
      rw [Nat.zero_add, List.nil_append] at h1
      exact h v' w' h1 (grown_below3 h2 (fun k hk => by simp [Value.ownBlock] at hk) (Nat.le_refl _))
/-- A list of tests lent. -/
def LentE (X : World) (B : Nat) (v : Value) (l : List Te) : Prop := ∃ g cap, v = .slice (some ⟨g, 0, none⟩) l.length cap ∧ OwnE X B (.slice (some ⟨g, 0, none⟩) (l.length + 1) cap) (l ++ [bE])
theorem LentE.later {X X' : World} {B : Nat} {v : Value} {l : List Te} (h : LentE X B v l) (hb : Below X.heap.size X X') : LentE X' B v l := by
  obtain ⟨g, cap, e, ho⟩ := h
  exact ⟨g, cap, e, ho.later hb⟩
theorem ownE_some {w : World} {base : Nat} {v : Value} {l : List Te} {d : Te} (h : OwnE w base v (l ++ [d])) : ∃ g cap, v = .slice (some ⟨g, 0, none⟩) (l.length + 1) cap ∧ l.length + 1 ≤ cap := by
  rcases h.2 with ⟨_, hn⟩ | ⟨g, cap, cur, hv, _, _, hn, _⟩
  · simp at hn
  · rw [List.length_append, List.length_singleton] at hv hn; exact ⟨g, cap, hv, hn⟩
theorem ownE_cap {w : World} {base g cap n : Nat} {l : List Te} (h : OwnE w base (.slice (some ⟨g, 0, none⟩) n cap) l) : l.length ≤ cap := by
  rcases h.2 with ⟨h, _⟩ | ⟨g', c, cur, hv, _, _, hn, _⟩
  · cases h
  · simp only [Value.slice.injEq] at hv; omega
theorem LentE.row {X : World} {B g cap n : Nat} {l : List Te} {d : Te} (ho : OwnE X B (.slice (some ⟨g, 0, none⟩) n cap) (l ++ [d])) : ERow X g 0 l := by
  refine ⟨(ho.lt g rfl).2, fun i x hx => ?_⟩
  have hi := (List.getElem?_eq_some_iff.1 hx).1
  have hx' : (l ++ [d])[i]? = some x := by rw [List.getElem?_append_left hi]; exact hx
  rw [Nat.zero_add]
  exact ⟨ho.cells i x hx' 0 (by omega), ho.cells i x hx' 1 (by omega), ho.cells i x hx' 2 (by omega), ho.cells i x hx' 3 (by omega), ho.cells i x hx' 4 (by omega), ho.cells i x hx' 5 (by omega), ho.cells i x hx' 6 (by omega)⟩
theorem LentE.es {X : World} {B : Nat} {v : Value} {l : List Te} (h : LentE X B v l) (hl : l.length < 1000000000000000000) : Es X v l := by
  obtain ⟨g, cap, rfl, ho⟩ := h
  exact ⟨_, cap, rfl, hl, Or.inr ⟨g, 0, rfl, LentE.row ho⟩⟩
/-- A clause lent. -/
structure Lent (B : Nat) (X : World) (d : Cm) : Prop where
  h : LentT X B d.head.2 d.head.1.args
  b : LentA X B d.bv d.body
  t : LentE X B d.tv d.tests
theorem Lent.later {B : Nat} {X X' : World} {d : Cm} (h : Lent B X d) (hb : Below X.heap.size X X') : Lent B X' d := ⟨h.h.later hb, h.b.later hb, h.t.later hb⟩
theorem Lent.ok {B : Nat} {X : World} {d : Cm} (h : Lent B X d) (h1 : d.head.1.args.length < 1000000000000000000) (h2 : d.body.length < 1000000000000000000) (h3 : ∀ y ∈ d.body, y.1.args.length < 1000000000000000000) (h4 : d.tests.length < 1000000000000000000) : d.ok X :=
  ⟨h.h.ts h1, h.b.as h2 h3, h.t.es h4⟩
/-- Two worlds alike between two blocks but for one. -/
structure Ag (B G : Nat) (X0 X : World) : Prop where
  s : X0.heap.size ≤ X.heap.size
  e : ∀ k, B ≤ k → k < X0.heap.size → k ≠ G → X.heap[k]? = X0.heap[k]?
theorem Ag.refl (B G : Nat) (X : World) : Ag B G X X := ⟨Nat.le_refl _, fun _ _ _ _ => rfl⟩
theorem Ag.below {B G : Nat} {X0 X X' : World} (h : Ag B G X0 X) (hb : Below X0.heap.size X X') : Ag B G X0 X' := ⟨Nat.le_trans h.s hb.size, fun k h1 h2 h3 => (hb.block k h2).trans (h.e k h1 h2 h3)⟩
theorem Ag.set {B G i : Nat} {X0 X : World} {v : Value} (h : Ag B G X0 X) : Ag B G X0 (X.setCell ⟨G, i, none⟩ v) := ⟨by simpa [World.setCell] using h.s, fun k h1 h2 h3 => (heap_setCell_other _ _ _ _ (show k ≠ G from h3)).trans (h.e k h1 h2 h3)⟩
theorem Ag.low {B G D i : Nat} {X0 X : World} {v : Value} (h : Ag B G X0 X) (hD : D < B) : Ag B G X0 (X.setCell ⟨D, i, none⟩ v) := ⟨by simpa [World.setCell] using h.s, fun k h1 h2 h3 => (heap_setCell_other _ _ _ _ (show k ≠ D by omega)).trans (h.e k h1 h2 h3)⟩
theorem LentT.ag {B G : Nat} {X0 X : World} {v : Value} {l : List Tm} (h : LentT X0 B v l) (ha : Ag B G X0 X) (hn : ∀ k, v.ownBlock = some k → k ≠ G) : LentT X B v l := by
  obtain ⟨g, cap, rfl, ho⟩ := h
  refine ⟨g, cap, rfl, ho.1, ?_⟩
  rcases ho.2 with hm | ⟨g', cap', cur, hv, hbb, hg, rest⟩
  · exact Or.inl hm
  · have e : g = g' := by simp only [Value.slice.injEq, Option.some.injEq, Addr.mk.injEq] at hv; exact hv.1.1
    subst e
    exact Or.inr ⟨g, cap', cur, hv, hbb, (ha.e g hbb (Array.getElem?_eq_some_iff.1 hg).1 (hn g rfl)).trans hg, rest⟩
theorem LentA.ag {B G : Nat} {X0 X : World} {v : Value} {LB : List (At × Value)} (h : LentA X0 B v LB) (ha : Ag B G X0 X) (hn : ∀ k, v.ownBlock = some k → k ≠ G) (hx : ∀ x ∈ LB, ∀ k, x.2.ownBlock = some k → k ≠ G) : LentA X B v LB := by
  obtain ⟨⟨g, cap, rfl, ho⟩, ht⟩ := h
  refine ⟨⟨g, cap, rfl, ho.1, ?_⟩, fun x hm => (ht x hm).ag ha (hx x hm)⟩
  rcases ho.2 with hm | ⟨g', cap', cur, hv, hbb, hg, rest⟩
  · exact Or.inl hm
  · have e : g = g' := by simp only [Value.slice.injEq, Option.some.injEq, Addr.mk.injEq] at hv; exact hv.1.1
    subst e
    exact Or.inr ⟨g, cap', cur, hv, hbb, (ha.e g hbb (Array.getElem?_eq_some_iff.1 hg).1 (hn g rfl)).trans hg, rest⟩
structure NGs (G : Nat) (u ub : Value) (LB : List (At × Value)) : Prop where
  a : ∀ k, u.ownBlock = some k → k ≠ G
  b : ∀ k, ub.ownBlock = some k → k ≠ G
  c : ∀ x ∈ LB, ∀ k, x.2.ownBlock = some k → k ≠ G
/-- How far the clause is lent: its head and its body. -/
structure LC (W X : World) (G : Nat) (a : At) (u ub : Value) (LB : List (At × Value)) : Prop where
  bo : CBlk X G #[.int .i64 a.by_.k, .int .i64 a.by_.n, .string a.by_.s, .string a.name, u, ub, .slice none 0 0] 41
  hu : LentT X W.heap.size u a.args
  hb : LentA X W.heap.size ub LB
  n : NGs G u ub LB
  gw : W.heap.size ≤ G
  bw : Below W.heap.size W X
theorem LC.mk7 {W X : World} {G : Nat} (k m : Int) (s nm : ByteArray) (ls : List Tm) (u ub : Value) (LB : List (At × Value)) (fg : CBlk X G zcs 41) (hu : LentT X W.heap.size u ls) (hl : LentA X W.heap.size ub LB) (hn : NGs G u ub LB) (gw : W.heap.size ≤ G) (hb : Below W.heap.size W X) :
    LC W (Cput X G (.int .i64 k) (.int .i64 m) (.string s) (.string nm) u ub (.slice none 0 0)) G ⟨⟨k, m, s⟩, nm, ls⟩ u ub LB := by
  have ha : Ag W.heap.size G X (Cput X G (.int .i64 k) (.int .i64 m) (.string s) (.string nm) u ub (.slice none 0 0)) := ((((((((Ag.refl W.heap.size G X).set).set).set).set).set).set).set)
  exact ⟨fg.put7 _ _ _ _ _ _ _, hu.ag ha hn.a, hl.ag ha hn.b hn.c, hn, gw, bput7 hb gw _ _ _ _ _ _ _⟩
theorem cm_sizes {c : Cm} (hs : (Ck.terms c.key).length ≤ 4000000) : c.head.1.args.length ≤ 4000000 ∧ c.body.length ≤ 4000000 ∧ c.tests.length ≤ 4000000 ∧ ∀ x ∈ c.body, x.1.args.length ≤ 4000000 := by
  have e : (Ck.terms c.key).length = c.head.1.pl.length + (((fsts c.body).flatMap At.pl).length + (tls c.tests).length) := by
    unfold Ck.terms Cm.key
    simp only [List.length_append]
  have e1 : c.head.1.args.length ≤ c.head.1.pl.length := by simp [At.pl]
  have e2 : (tls c.tests).length = c.tests.length * 2 := tls_len _
  have e3 : (fsts c.body).length ≤ ((fsts c.body).flatMap At.pl).length := by
    generalize fsts c.body = l
    induction l with
    | nil => simp
    | cons a l ih => rw [List.flatMap_cons, List.length_append, List.length_cons]; have : 1 ≤ a.pl.length := (by simp [At.pl]); omega
  have e4 : (fsts c.body).length = c.body.length := by simp [fsts]
  refine ⟨by omega, by omega, by omega, fun x hx => ?_⟩
  have hm : x.1 ∈ fsts c.body := List.mem_map.2 ⟨x, hx, rfl⟩
  have : x.1.args.length ≤ ((fsts c.body).flatMap At.pl).length := by
    generalize fsts c.body = l at hm
    induction l with
    | nil => cases hm
    | cons a l ih =>
      rw [List.flatMap_cons, List.length_append]
      rcases List.mem_cons.1 hm with rfl | hm
      · have : x.1.args.length ≤ x.1.pl.length := (by simp [At.pl]); omega
      · have := ih hm; omega
  omega
end Go.Proofs.YtdfgijdededolabGreatDoor
/-
  What Check answers to clauses broken in one way. (Plain.)
-/
namespace Go.Proofs.YtdfgijdededolabGreatDoor
open Go.RowKit

/-- What Check answers, one by one. -/
theorem key_len (c : Cm) : c.body.length = c.key.2.1.length ∧ c.tests.length = c.key.2.2.length := by simp [Cm.key, fsts]
theorem chk_long {c : Cm} (h : 8 < c.key.2.1.length) : c.chk = 31 := by
  have h1 : long c = true := by unfold long; rw [(key_len c).1, decide_eq_true h]; rfl
  simp [Cm.chk, Cm.rs, chkL, h1]
theorem short_no {c : Cm} (h : c.key.2.1.length ≤ 8) (h' : c.key.2.2.length ≤ 8) : long c = false := by
  unfold long; rw [(key_len c).1, (key_len c).2]; simp; omega
theorem aErr_head {c : Cm} (h : c.key.1.err ≠ 0) : aErr c.atoms = c.key.1.err := by
  have h' : ¬ c.head.1.err = 0 := h
  unfold Cm.atoms aErr; rw [if_neg h']; rfl
theorem aErr_ok {c : Cm} (h : ∀ a ∈ c.key.1 :: c.key.2.1, a.err = 0) : aErr c.atoms = 0 := aErr_zero fun y hy => by
  rcases List.mem_cons.1 hy with rfl | hy
  · exact h _ (by simp [Cm.key])
  · exact h _ (by simp only [Cm.key, fsts, List.mem_cons, List.mem_map]; exact Or.inr ⟨y, hy, rfl⟩)
theorem badTk_no {c : Cm} (h : ∀ a ∈ c.key.2.2, a.ok = true) : badT c = false := by
  unfold badT; rw [List.any_eq_false]; intro t ht; rw [h t ht]; simp
theorem unb_key {c : Cm} : unb c = (vrs (c.key.1.pl ++ tls c.key.2.2)).any fun v => !decide (v ∈ vrs (c.key.2.1.flatMap At.pl)) := by
  have e1 : c.restC.vars = vrs c.restC.terms := rfl
  have e2 : c.bodyC.vars = vrs c.bodyC.terms := rfl
  have e3 : flt c.body = c.key.2.1.flatMap At.pl := by simp [flt, Cm.key, fsts, List.flatMap_map]
  unfold unb
  rw [e1, e2, restC_terms, bodyC_terms, e3]
  have e4 : vrs (⟨0, 0, ⟨#[]⟩⟩ :: c.key.2.1.flatMap At.pl) = vrs (c.key.2.1.flatMap At.pl) := by unfold vrs; rw [List.filter_cons_of_neg (by rw [zt_var]; simp)]
  rw [e4]; rfl
theorem unb_no2 {c : Cm} (h : ∀ t ∈ c.key.1.pl ++ tls c.key.2.2, t.var = true → t ∈ c.key.2.1.flatMap At.pl) : unb c = false := by
  rw [unb_key, List.any_eq_false]
  intro v hv
  obtain ⟨t, ht, rfl⟩ := List.mem_map.1 hv
  obtain ⟨ht, hvt⟩ := List.mem_filter.1 ht
  have : t.n ∈ vrs (c.key.2.1.flatMap At.pl) := List.mem_map.2 ⟨t, List.mem_filter.2 ⟨h t ht hvt, hvt⟩, rfl⟩
  simp [this]
theorem mis_key {c : Cm} : mis 0 c.vars = mis 0 (vrs (Ck.terms c.key)) := by
  have : c.vars = vrs c.terms := rfl
  rw [this, key_terms]
theorem mis_far : ∀ (l : List Int) (n v : Int) (r : List Int), n + l.length < v → mis n (l ++ v :: r) = true
  | [], n, v, r, h => by rw [List.nil_append, mis, if_pos (by simpa using h)]
  | a :: l, n, v, r, h => by
    rw [List.cons_append, mis]
    by_cases h1 : n < a
    · rw [if_pos h1]
    · rw [if_neg h1]
      refine mis_far l _ v r ?_
      simp only [List.length_cons] at h
      split <;> omega
def saysN : ByteArray := ⟨#[115, 97, 121, 115]⟩
def num0 : Tm := ⟨1, 0, ⟨#[]⟩⟩
def pAt : At := ⟨zt, nmP, []⟩
def pAt2 : At := ⟨zt, nmP, [⟨3, 2000, ⟨#[]⟩⟩]⟩
theorem br2 {x : Ck} {c : Cm} (hv : Val0 x) (hs : nameOk saysN = false) (h : c.key = (⟨x.1.by_, saysN, x.1.args⟩, x.2.1, x.2.2)) : c.chk = 21 := by
  have a1 := short_no (c := c) (by rw [h]; exact hv.bl) (by rw [h]; exact hv.tl)
  have e : c.key.1.err = 21 := by rw [h]; unfold At.err; rw [if_pos hs]
  have a2 := aErr_head (c := c) (by rw [e]; omega)
  rw [e] at a2
  simp [Cm.chk, Cm.rs, chkL, a1, a2]
theorem br3 {x : Ck} {c : Cm} (hv : Val0 x) (h : c.key = (x.1, x.2.1, [⟨5, num0, num0⟩])) : c.chk = 32 := by
  have a1 := short_no (c := c) (by rw [h]; exact hv.bl) (by rw [h]; simp)
  have a2 := aErr_ok (c := c) (by rw [h]; exact hv.e)
  have a3 : badT c = true := by
    have : c.tests = [⟨5, num0, num0⟩] := by have := congrArg (·.2.2) h; exact this
    unfold badT; rw [this]; simp [Te.ok]
  simp [Cm.chk, Cm.rs, chkL, a1, a2, a3]
theorem br4 {x : Ck} {c : Cm} {n : Int} (hv : Val0 x) (hn : 0 ≤ n) (h : c.key = (⟨⟨3, n, ⟨#[]⟩⟩, x.1.name, x.1.args⟩, x.2.1, x.2.2)) : c.chk = 33 := by
  have a1 := short_no (c := c) (by rw [h]; exact hv.bl) (by rw [h]; exact hv.tl)
  have hvar : Tm.var ⟨3, n, ⟨#[]⟩⟩ = true := by simp [Tm.var, hn]
  have a2 := aErr_ok (c := c) (by
    rw [h]
    intro a ha
    rcases List.mem_cons.1 ha with rfl | ha
    · obtain ⟨h1, h2, h3, h4⟩ := err_zero' (hv.e x.1 (by simp))
      exact err_zero h1 h2 (by simp [qualOk, hvar]) h4
    · exact hv.e a (by simp [ha]))
  have a3 := badTk_no (c := c) (by rw [h]; exact hv.t)
  have a4 : c.head.1.by_.var = true := by have : c.head.1.by_ = ⟨3, n, ⟨#[]⟩⟩ := by have := congrArg (·.1.by_) h; exact this
                                          rw [this]; exact hvar
  simp [Cm.chk, Cm.rs, chkL, a1, a2, a3, a4]
theorem br5 {x : Ck} {c : Cm} (hv : Val0 x) (hn : ∀ t ∈ Ck.terms x, t.var = true → t.n < 73) (h : c.key = (x.1, x.2.1, [⟨1, ⟨3, 100, ⟨#[]⟩⟩, num0⟩])) : c.chk = 34 := by
  have hvar : Tm.var ⟨3, 100, ⟨#[]⟩⟩ = true := by simp [Tm.var]
  have a1 := short_no (c := c) (by rw [h]; exact hv.bl) (by rw [h]; simp)
  have a2 := aErr_ok (c := c) (by rw [h]; exact hv.e)
  have a3 := badTk_no (c := c) (by rw [h]; intro a ha; simp at ha; subst ha; simp [Te.ok, Tm.cov, hvar, num0, Tm.con])
  have a4 : c.head.1.by_.var = false := by have : c.head.1 = x.1 := by have := congrArg (·.1) h; exact this
                                           rw [this]; exact hv.h
  have a5 : unb c = true := by
    rw [unb_key, h, List.any_eq_true]
    refine ⟨100, List.mem_map.2 ⟨⟨3, 100, ⟨#[]⟩⟩, List.mem_filter.2 ⟨by simp [tls], hvar⟩, rfl⟩, ?_⟩
    have : ¬ (100 : Int) ∈ vrs (x.2.1.flatMap At.pl) := fun hm => by
      obtain ⟨t, ht, e⟩ := List.mem_map.1 hm
      obtain ⟨ht, hvt⟩ := List.mem_filter.1 ht
      have := hn t (by unfold Ck.terms; simp [ht]) hvt
      omega
    simp [this]
  simp [Cm.chk, Cm.rs, chkL, a1, a2, a3, a4, a5]
theorem p2_err (hp : nameOk nmP = true) : pAt2.err = 0 := err_zero hp (by simp [pAt2]) qual_zt (by intro t ht; simp [pAt2] at ht; subst ht; simp [Tm.cov, Tm.var])
theorem vrs_app (a b : List Tm) : vrs (a ++ b) = vrs a ++ vrs b := by simp [vrs]
theorem vrs_le (l : List Tm) : (vrs l).length ≤ l.length := by unfold vrs; rw [List.length_map]; exact List.length_filter_le _ _
theorem br6 {x : Ck} {c : Cm} (hp : nameOk nmP = true) (hv : Val0 x) (hl : x.2.1.length + 1 ≤ 8) (h : c.key = (x.1, pAt2 :: x.2.1, x.2.2)) : c.chk = 35 := by
  have a1 := short_no (c := c) (by rw [h]; exact hl) (by rw [h]; exact hv.tl)
  have a2 := aErr_ok (c := c) (by
    rw [h]
    intro a ha
    simp only [List.mem_cons] at ha
    rcases ha with rfl | rfl | ha
    · exact hv.e _ (by simp)
    · exact p2_err hp
    · exact hv.e a (by simp [ha]))
  have a3 := badTk_no (c := c) (by rw [h]; exact hv.t)
  have a4 : c.head.1.by_.var = false := by have : c.head.1 = x.1 := by have := congrArg (·.1) h; exact this
                                           rw [this]; exact hv.h
  have a5 := unb_no2 (c := c) (by rw [h]; intro t ht hvt; rw [List.flatMap_cons]; exact List.mem_append_right _ (hv.s t ht hvt))
  have a6 : mis 0 c.vars = true := by
    rw [mis_key, h]
    have e : vrs (Ck.terms (x.1, pAt2 :: x.2.1, x.2.2)) = vrs x.1.pl ++ (2000 : Int) :: vrs (x.2.1.flatMap At.pl ++ tls x.2.2) := by
      unfold Ck.terms
      rw [vrs_app]
      congr 1
    rw [e]
    refine mis_far _ _ _ _ ?_
    have h1 := vrs_le x.1.pl
    have h2 := (err_zero' (hv.e x.1 (by simp))).2.1
    have e9 : x.1.pl.length = x.1.args.length + 1 := by simp [At.pl]
    omega
  simp [Cm.chk, Cm.rs, chkL, a1, a2, a3, a4, a5, a6]
theorem br7 {x : Ck} {c : Cm} (hp : nameOk nmP = true) (hv : Val0 x) (h : c.key = (⟨x.1.by_, x.1.name, []⟩, [pAt2], [])) : c.chk = 35 := by
  have a1 := short_no (c := c) (by rw [h]; simp) (by rw [h]; simp)
  have a2 := aErr_ok (c := c) (by
    rw [h]
    intro a ha
    simp only [List.mem_cons, List.not_mem_nil, or_false] at ha
    rcases ha with rfl | rfl
    · obtain ⟨h1, h2, h3, h4⟩ := err_zero' (hv.e x.1 (by simp))
      exact err_zero h1 (by simp) h3 (by simp)
    · exact p2_err hp)
  have a3 := badTk_no (c := c) (by rw [h]; simp)
  have a4 : c.head.1.by_.var = false := by have : c.head.1.by_ = x.1.by_ := by have := congrArg (·.1.by_) h; exact this
                                           rw [this]; exact hv.h
  have a5 := unb_no2 (c := c) (by rw [h]; intro t ht hvt; simp [At.pl, tls] at ht; subst ht; rw [hv.h] at hvt; cases hvt)
  have a6 : mis 0 c.vars = true := by
    rw [mis_key, h]
    have e : vrs (Ck.terms ((⟨x.1.by_, x.1.name, []⟩ : At), [pAt2], ([] : List Te))) = [] ++ (2000 : Int) :: [] := by
      have hh := hv.h
      have z : zt.var = false := by simp [Tm.var, zt]
      show vrs (x.1.by_ :: zt :: [⟨3, 2000, ⟨#[]⟩⟩]) = _
      unfold vrs
      rw [List.filter_cons_of_neg (by rw [hh]; simp), List.filter_cons_of_neg (by rw [z]; simp), List.filter_cons_of_pos (by simp [Tm.var])]
      rfl
    rw [e]
    exact mis_far _ _ _ _ (by simp)
  simp [Cm.chk, Cm.rs, chkL, a1, a2, a3, a4, a5, a6]
theorem wf_of {c : Cm} (h : ∀ t ∈ Ck.terms c.key, t.var = true → t.n < 100000) (hl : (Ck.terms c.key).length ≤ 1000) : c.wf :=
  ⟨fun t ht hv => wf_small (var_nn hv) (h t (by rw [← key_terms]; exact ht) hv), by rw [key_terms]; omega⟩
theorem saysN_no : nameOk saysN = false := by decide
end Go.Proofs.YtdfgijdededolabGreatDoor
/-
  What Made makes of a valid clause is that clause; quotes and what has one quote. (Plain.)
-/
namespace Go.Proofs.YtdfgijdededolabGreatDoor
open Go.RowKit

/-- A valid clause stays as Made makes it. -/
theorem con_k {t : Tm} (h : t.con = true) : t.k ≠ 3 := by
  simp only [Tm.con, decide_eq_true_eq] at h
  rcases h with ⟨h, -⟩ | ⟨h, -⟩ <;> omega
theorem fixT_id {t : Tm} (h : t.cov = true) : fixT t = t := by
  unfold fixT
  cases hv : t.var
  · rw [if_neg (by simp)]
    have hc : t.con = true := by simp only [Tm.cov, hv, Bool.or_false] at h; exact h
    unfold mkC; rw [if_pos hc]
  · rw [if_pos rfl]
theorem mkA_id {a : At} (h : a.err = 0) : mkA a = a := by
  obtain ⟨h1, h2, h3, h4⟩ := err_zero' h
  unfold mkA
  rw [if_pos h3, if_pos h1, List.take_of_length_le h2]
  have : a.args.map fixT = a.args := by
    conv => rhs; rw [← List.map_id a.args]
    exact List.map_congr_left fun t ht => fixT_id (h4 t ht)
  rw [this]
theorem sf_id {b : List Tm} {t : Tm} (h : t.cov = true) (hs : t.var = true → t ∈ b) : sf b t = t := by
  unfold sf
  by_cases hm : t ∈ b
  · rw [if_pos hm]
  · rw [if_neg hm]
    cases hv : t.var
    · have hc : t.con = true := by simp only [Tm.cov, hv, Bool.or_false] at h; exact h
      unfold grd; rw [if_neg (con_k hc)]
    · exact absurd (hs hv) hm
theorem opF_id {o : Int} (h1 : 1 ≤ o) (h2 : o ≤ 4) : opF o = o := by unfold opF; rw [if_neg (by omega)]
theorem mkE_id {b : List Tm} {t : Te} (h : t.ok = true) (hs : ∀ u, u = t.l ∨ u = t.r → u.var = true → u ∈ b) : mkE b t = t := by
  simp only [Te.ok, Bool.and_eq_true, decide_eq_true_eq] at h
  obtain ⟨⟨h1, h2⟩, h3, h4⟩ := h
  unfold mkE
  rw [opF_id h1 h2, fixT_id h3, fixT_id h4, sf_id h3 (hs _ (Or.inl rfl)), sf_id h4 (hs _ (Or.inr rfl))]
theorem qual_k {t : Tm} (h : qualOk t = true) (hv : t.var = false) : t.k ≠ 3 := by
  simp only [qualOk, hv, Bool.or_false, Bool.or_eq_true, decide_eq_true_eq, Tm.prin] at h
  rcases h with h | h
  · rw [h]; simp [zt]
  · omega
theorem made0_id {x : Ck} (h : Val0 x) : made0 x = x := by
  obtain ⟨hd, b, ts⟩ := x
  have hb : (b.take 8).map mkA = b := by
    rw [List.take_of_length_le h.bl]
    conv => rhs; rw [← List.map_id b]
    exact List.map_congr_left fun a ha => mkA_id (h.e a (by simp [ha]))
  have hh : mkA hd = hd := mkA_id (h.e hd (by simp))
  have hq := (err_zero' (h.e hd (by simp))).2.2.1
  have hk : hd.by_.k ≠ 3 := qual_k hq h.h
  have hc := (err_zero' (h.e hd (by simp))).2.2.2
  have ha : hd.args.map (sf (b.flatMap At.pl)) = hd.args := by
    conv => rhs; rw [← List.map_id hd.args]
    exact List.map_congr_left fun t ht => sf_id (hc t ht) fun hv => h.s t (List.mem_append_left _ (List.mem_cons_of_mem _ ht)) hv
  have ht : (ts.take 8).map (mkE (b.flatMap At.pl)) = ts := by
    rw [List.take_of_length_le h.tl]
    conv => rhs; rw [← List.map_id ts]
    exact List.map_congr_left fun t htm => mkE_id (h.t t htm) fun u hu hv => h.s u (List.mem_append_right _ (List.mem_flatMap.2 ⟨t, htm, by simpa using hu⟩)) hv
  unfold made0
  simp only
  rw [hb, hh, if_neg hk, ha, ht]
theorem var_eqQ {t : Tm} (h : t.var = true) : t = ⟨3, t.n, ⟨#[]⟩⟩ := by
  simp only [Tm.var, decide_eq_true_eq] at h
  obtain ⟨k, n, s⟩ := t
  simp only at h
  obtain ⟨rfl, -, rfl⟩ := h
  rfl
theorem fold_n : ∀ (l acc : List Tm), (∀ t ∈ l, t.var = true) → (∀ t ∈ acc, t.var = true) → (l.foldl dstepT acc).map (·.n) = (l.map (·.n)).foldl dstep (acc.map (·.n))
  | [], acc, _, _ => rfl
  | t :: l, acc, h1, h2 => by
    rw [List.foldl_cons, List.map_cons, List.foldl_cons]
    have ht := h1 t (by simp)
    have hm : t.n ∈ acc.map (·.n) ↔ t ∈ acc := ⟨fun hm => by
      obtain ⟨u, hu, e⟩ := List.mem_map.1 hm
      rw [var_eqQ ht, ← e, ← var_eqQ (h2 u hu)]; exact hu, fun hm => List.mem_map.2 ⟨t, hm, rfl⟩⟩
    have e : (dstepT acc t).map (·.n) = dstep (acc.map (·.n)) t.n := by
      unfold dstepT dstep
      by_cases hc : t ∈ acc
      · rw [if_pos hc, if_pos (hm.2 hc)]
      · rw [if_neg hc, if_neg (fun x => hc (hm.1 x))]; simp
    rw [← e]
    refine fold_n l _ (fun u hu => h1 u (by simp [hu])) fun u hu => ?_
    rcases dstepT_mem.1 hu with hu | rfl
    · exact h2 u hu
    · exact ht
theorem disT_n (l : List Tm) : (disT l).map (·.n) = dis (vrs l) := by
  unfold disT dis vrs
  exact fold_n _ [] (fun t ht => (List.mem_filter.1 ht).2) (by simp)
theorem ix_nQ {vs : List Tm} {m : Nat} (h : vs.map (·.n) = ints m) {t : Tm} (ht : t ∈ vs) : (ix vs t : Int) = t.n := by
  have hg := ix_get ht
  have h2 := congrArg (fun l => l[ix vs t]?) h
  simp only [List.getElem?_map, hg, Option.map_some] at h2
  have hlt : ix vs t < m := by
    have h3 := ix_lt ht
    have := congrArg List.length h
    rw [List.length_map, ints_len] at this; omega
  simp [ints, hlt] at h2
  exact h2.symm
theorem norm_id {x : Ck} (hm : mis 0 (vrs (Ck.terms x)) = false) : normC x = x := by
  obtain ⟨m, hd, -⟩ := num_vars hm
  have hn := (disT_n (Ck.terms x)).trans hd
  refine (mapC_congr (g := fun t => t) fun t ht => ?_).trans (mapC_id x)
  unfold nmT
  by_cases hm : t ∈ disT (Ck.terms x)
  · rw [if_pos hm, ix_nQ hn hm]
    exact (var_eqQ (disT_mem.1 hm).2).symm
  · rw [if_neg hm]
theorem made_id {x : Ck} (h : Val0 x) (hm : mis 0 (vrs (Ck.terms x)) = false) : madeK x = x := by
  unfold madeK; rw [made0_id h, norm_id hm]
/-- The head without its qualifier: still valid. -/
def unq (x : Ck) : Ck := (⟨zt, x.1.name, x.1.args⟩, x.2)
theorem unq_vars {x : Ck} (h : Val0 x) : vrs (Ck.terms (unq x)) = vrs (Ck.terms x) := by
  have e : Ck.terms (unq x) = zt :: (x.1.args ++ (x.2.1.flatMap At.pl ++ tls x.2.2)) := rfl
  have e2 : Ck.terms x = x.1.by_ :: (x.1.args ++ (x.2.1.flatMap At.pl ++ tls x.2.2)) := rfl
  have z : zt.var = false := by simp [Tm.var, zt]
  rw [e, e2]
  unfold vrs
  rw [List.filter_cons_of_neg (by rw [z]; simp), List.filter_cons_of_neg (by rw [h.h]; simp)]
theorem unq_val {x : Ck} (h : Val0 x) : Val0 (unq x) := by
  have z : zt.var = false := by simp [Tm.var, zt]
  refine ⟨fun a ha => ?_, h.t, h.bl, h.tl, z, fun t ht hv => ?_⟩
  · rcases List.mem_cons.1 ha with rfl | ha
    · obtain ⟨h1, h2, h3, h4⟩ := err_zero' (h.e x.1 (by simp))
      exact err_zero h1 h2 qual_zt h4
    · exact h.e a (List.mem_cons_of_mem _ ha)
  · rcases List.mem_append.1 ht with h1 | h1
    · rcases List.mem_cons.1 h1 with rfl | h1
      · rw [show ((unq x).1.by_).var = false from z] at hv; cases hv
      · exact h.s t (List.mem_append_left _ (List.mem_cons_of_mem _ h1)) hv
    · exact h.s t (List.mem_append_right _ h1) hv
/-- An atom without u as its qualifier; two atoms have one quote just if they are one without it. -/
def bq (u : ByteArray) (a : At) : At := if a.by_ = ⟨2, 0, u⟩ then ⟨zt, a.name, a.args⟩ else a
theorem zt_ne (u : ByteArray) : zt ≠ ⟨2, 0, u⟩ := by simp [zt]
theorem qa_bq {u : ByteArray} {a b : At} : qa u a = qa u b ↔ bq u a = bq u b := by
  have hz := zt_ne u
  unfold qa bq
  obtain ⟨x, n, l⟩ := a
  obtain ⟨y, n', l'⟩ := b
  simp only
  by_cases h1 : x = zt
  · rw [if_pos h1, if_neg (show ¬ x = ⟨2, 0, u⟩ by rw [h1]; exact hz)]
    by_cases h2 : y = zt
    · rw [if_pos h2, if_neg (show ¬ y = ⟨2, 0, u⟩ by rw [h2]; exact hz)]; simp [h1, h2]
    · rw [if_neg h2]
      by_cases h3 : y = ⟨2, 0, u⟩
      · rw [if_pos h3]; simp [h1, h3]
      · rw [if_neg h3]
        simp only [At.mk.injEq]
        exact ⟨fun e => absurd e.1.symm h3, fun e => absurd (e.1.symm.trans h1) h2⟩
  · rw [if_neg h1]
    by_cases h2 : y = zt
    · rw [if_pos h2, if_neg (show ¬ y = ⟨2, 0, u⟩ by rw [h2]; exact hz)]
      by_cases h3 : x = ⟨2, 0, u⟩
      · rw [if_pos h3]; simp [h2, h3]
      · rw [if_neg h3]
        simp only [At.mk.injEq]
        exact ⟨fun e => absurd e.1 h3, fun e => absurd (e.1.trans h2) h1⟩
    · rw [if_neg h2]
      by_cases h3 : x = ⟨2, 0, u⟩
      · rw [if_pos h3]
        by_cases h4 : y = ⟨2, 0, u⟩
        · rw [if_pos h4]; simp [h3, h4]
        · rw [if_neg h4]
          simp only [At.mk.injEq]
          exact ⟨fun e => absurd (e.1.symm.trans h3) h4, fun e => absurd e.1.symm h2⟩
      · rw [if_neg h3]
        by_cases h4 : y = ⟨2, 0, u⟩
        · rw [if_pos h4]
          simp only [At.mk.injEq]
          exact ⟨fun e => absurd (e.1.trans h4) h3, fun e => absurd e.1 h1⟩
        · rw [if_neg h4]
theorem map_inj_iff {α β γ : Type} {f : α → β} {g : α → γ} (h : ∀ a b, f a = f b ↔ g a = g b) : ∀ (l m : List α), l.map f = m.map f ↔ l.map g = m.map g
  | [], [] => by simp
  | [], _ :: _ => by simp
  | _ :: _, [] => by simp
  | a :: l, b :: m => by simp only [List.map_cons, List.cons.injEq]; rw [h a b, map_inj_iff h l m]
/-- The quote's key, and the key without u. -/
def quoK (u : ByteArray) (x : Ck) : Ck := (⟨⟨2, 0, u⟩, x.1.name, x.1.args⟩, x.2.1.map (qa u), x.2.2)
def barK (u : ByteArray) (x : Ck) : Ck := (x.1, x.2.1.map (bq u), x.2.2)
theorem one_quote {u : ByteArray} {x y : Ck} (hx : x.1.by_ = zt) (hy : y.1.by_ = zt) : quoK u x = quoK u y ↔ barK u x = barK u y := by
  obtain ⟨⟨b, n, l⟩, lb, lt⟩ := x
  obtain ⟨⟨b', n', l'⟩, lb', lt'⟩ := y
  simp only at hx hy
  subst hx hy
  simp only [quoK, barK, Prod.mk.injEq, At.mk.injEq]
  rw [map_inj_iff (fun a b => qa_bq (u := u) (a := a) (b := b)) lb lb']
theorem two_quotes {u v : ByteArray} {x : Ck} : quoK u x = quoK v x ↔ u = v := by
  constructor
  · intro h
    simp only [quoK, Prod.mk.injEq, At.mk.injEq, Tm.mk.injEq] at h
    exact h.1.1.2.2
  · rintro rfl; rfl
end Go.Proofs.YtdfgijdededolabGreatDoor
