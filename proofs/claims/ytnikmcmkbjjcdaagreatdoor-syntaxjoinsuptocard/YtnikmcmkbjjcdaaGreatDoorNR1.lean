import Derived.Test.YtnikmcmkbjjcdaaGreatDoorCL17
import Derived.Test.YtnikmcmkbjjcdaaGreatDoorCL5
import Derived.Test.YtnikmcmkbjjcdaaGreatDoorCL12
import Derived.Deep.RegionHeld3
import Derived.Test.YtnikmcmkbjjcdaaGreatDoorW2
import Derived.Test.YtnikmcmkbjjcdaaGreatDoorD1
import Derived.Test.YtnikmcmkbjjcdaaGreatDoorB2
import Derived.Laws.AppendOwnNone
import Derived.Laws.AppendOwn
import Derived.Deep.CutRange
import Derived.Maps.OwnOps
import Derived.Maps.OwnSet
/-
  replaced, with what copies each term. (Written by CL18.py.)
-/
namespace Go.Proofs.YtnikmcmkbjjcdaaGreatDoor
open Go.RowKit
attribute [local go_sem ↓] Go.wp_at_zero Go.wp_at_succ

def zcs : Array Value := #[.int .i64 0, .int .i64 0, .string ⟨#[]⟩, .string ⟨#[]⟩, .slice none 0 0, .slice none 0 0, .slice none 0 0]
theorem fsts_get {l : List (At × Value)} {j : Nat} {x : At × Value} (h : l[j]? = some x) : (fsts l)[j]? = some x.1 := by unfold fsts; rw [List.getElem?_map, h]; rfl
theorem fsts_app (l m : List (At × Value)) : fsts (l ++ m) = fsts l ++ fsts m := by simp [fsts]
theorem fsts_len (l : List (At × Value)) : (fsts l).length = l.length := by simp [fsts]
end Go.Proofs.YtnikmcmkbjjcdaaGreatDoor
/-
  Quote, of a clause that may be quoted. (Written by CL20.py.)
-/
namespace Go.Proofs.YtnikmcmkbjjcdaaGreatDoor
open Go.RowKit
attribute [local go_sem ↓] Go.wp_at_zero Go.wp_at_succ

theorem CBlk.froz {w : World} {g i : Nat} {c : Array Value} {t : TypeId} (h : CBlk w g c t) : w.frozen? ⟨g, i, none⟩ = false := frozen_of_row _ _ _ _ _ h

end Go.Proofs.YtnikmcmkbjjcdaaGreatDoor
/-
  What Instance makes of a term.
-/
namespace Go.Proofs.YtnikmcmkbjjcdaaGreatDoor
open Go.RowKit
attribute [local go_sem ↓] Go.wp_at_zero Go.wp_at_succ

theorem cone {w : World} {g : Nat} {a : Value} {t : TypeId} (h : CBlk w g #[a] t) : w.cell? ⟨g, 0, none⟩ = some a := cell_of_row _ _ _ _ _ _ h
theorem two3 (w : World) (t : Tm) : CBlk ((w.alloc (.cells #[.int .i64 t.k, .int .i64 t.n, .string t.s] 30)).alloc (.cells #[.int .i64 0, .int .i64 0, .string ⟨#[]⟩] 30)) w.heap.size #[.int .i64 t.k, .int .i64 t.n, .string t.s] 30 ∧
    CBlk ((w.alloc (.cells #[.int .i64 t.k, .int .i64 t.n, .string t.s] 30)).alloc (.cells #[.int .i64 0, .int .i64 0, .string ⟨#[]⟩] 30)) (w.heap.size + 1) #[.int .i64 0, .int .i64 0, .string ⟨#[]⟩] 30 := by
  have x2 := CBlk.new (w.alloc (.cells #[.int .i64 t.k, .int .i64 t.n, .string t.s] 30)) #[.int .i64 0, .int .i64 0, .string ⟨#[]⟩] 30
  rw [show (w.alloc (.cells #[.int .i64 t.k, .int .i64 t.n, .string t.s] 30)).heap.size = w.heap.size + 1 by simp] at x2
  exact ⟨(CBlk.new w _ _).later (below1 _ _), x2⟩
end Go.Proofs.YtnikmcmkbjjcdaaGreatDoor
/-
  replaced, with what Instance makes of a term. (Written by CL29.py.)
-/
namespace Go.Proofs.YtnikmcmkbjjcdaaGreatDoor
open Go.RowKit
attribute [local go_sem ↓] Go.wp_at_zero Go.wp_at_succ

/-- A clause instanced, at and above B. -/
structure RJ (B : Nat) (X : World) (k1 kb kt : Nat) (L1 : List Tm) (F : List At) (E : List Te) (M1 M2 M3 : Nat) (lb : List (At × Value)) : Prop where
  f : fsts lb = F
  a : ABlk X M2 kb lb
  t1 : Ts X (.slice (some ⟨M1, 0, none⟩) k1 k1) L1
  n1 : M1 ≠ M2
  ts : ∀ x ∈ lb, TsN X M2 x.2 x.1.args ∧ ∀ b, x.2.ownBlock = some b → B ≤ b
  e : EBlk X M3 kt E
  b1 : B ≤ M1
  b2 : B ≤ M2
  b3 : M2 < M3
theorem RJ.mono {B B' : Nat} {X : World} {k1 kb kt : Nat} {L1 : List Tm} {F : List At} {E : List Te} {M1 M2 M3 : Nat} {lb : List (At × Value)} (h : RJ B X k1 kb kt L1 F E M1 M2 M3 lb) (hB : B' ≤ B) : RJ B' X k1 kb kt L1 F E M1 M2 M3 lb :=
  ⟨h.f, h.a, h.t1, h.n1, fun x hx => ⟨(h.ts x hx).1, fun b e => Nat.le_trans hB ((h.ts x hx).2 b e)⟩, h.e, Nat.le_trans hB h.b1, Nat.le_trans hB h.b2, h.b3⟩
theorem RJ.off {B g i : Nat} {v : Value} {X : World} {k1 kb kt : Nat} {L1 : List Tm} {F : List At} {E : List Te} {M1 M2 M3 : Nat} {lb : List (At × Value)} (h : RJ B X k1 kb kt L1 F E M1 M2 M3 lb) (hg : g < B) : RJ B (X.setCell ⟨g, i, none⟩ v) k1 kb kt L1 F E M1 M2 M3 lb := by
  have b1 := h.b1
  have b2 := h.b2
  have b3 := h.b3
  exact ⟨h.f, h.a.other (by omega), h.t1.off (fun e => by have : M1 = g := Option.some.inj e; omega), h.n1, fun x hx => ⟨⟨(h.ts x hx).1.1.off (fun e => by have := (h.ts x hx).2 _ e; omega), (h.ts x hx).1.2⟩, (h.ts x hx).2⟩, h.e.other (by omega), b1, b2, b3⟩
end Go.Proofs.YtnikmcmkbjjcdaaGreatDoor
/-
  What Made makes of a valid clause is that clause; quotes and what has one quote. (Plain.)
-/
namespace Go.Proofs.YtnikmcmkbjjcdaaGreatDoor
open Go.RowKit

theorem var_eqQ {t : Tm} (h : t.var = true) : t = ⟨3, t.n, ⟨#[]⟩⟩ := by
  simp only [Tm.var, decide_eq_true_eq] at h
  obtain ⟨k, n, s⟩ := t
  simp only at h
  obtain ⟨rfl, -, rfl⟩ := h
  rfl
theorem fold_n : ∀ (l acc : List Tm), (∀ t ∈ l, t.var = true) → (∀ t ∈ acc, t.var = true) → (l.foldl dstepT acc).map (·.n) = (l.map (·.n)).foldl dstep (acc.map (·.n))
  | [], acc, _, _ => rfl
  | t :: l, acc, h1, h2 => by
    rw [List.foldl_cons, List.map_cons, List.foldl_cons]
    have ht := h1 t (by simp)
    have hm : t.n ∈ acc.map (·.n) ↔ t ∈ acc := ⟨fun hm => by
      obtain ⟨u, hu, e⟩ := List.mem_map.1 hm
      rw [var_eqQ ht, ← e, ← var_eqQ (h2 u hu)]; exact hu, fun hm => List.mem_map.2 ⟨t, hm, rfl⟩⟩
    have e : (dstepT acc t).map (·.n) = dstep (acc.map (·.n)) t.n := by
      unfold dstepT dstep
      by_cases hc : t ∈ acc
      · rw [if_pos hc, if_pos (hm.2 hc)]
      · rw [if_neg hc, if_neg (fun x => hc (hm.1 x))]; simp
    rw [← e]
    refine fold_n l _ (fun u hu => h1 u (by simp [hu])) fun u hu => ?_
    rcases dstepT_mem.1 hu with hu | rfl
    · exact h2 u hu
    · exact ht
theorem disT_n (l : List Tm) : (disT l).map (·.n) = dis (vrs l) := by
  unfold disT dis vrs
  exact fold_n _ [] (fun t ht => (List.mem_filter.1 ht).2) (by simp)
end Go.Proofs.YtnikmcmkbjjcdaaGreatDoor
/-
  bodyTerms, testTerms, Terms. (Written by MD5.py.)
-/
namespace Go.Proofs.YtnikmcmkbjjcdaaGreatDoor
open Go.RowKit
attribute [local go_sem ↓] Go.wp_at_zero Go.wp_at_succ

theorem tls_len (l : List Te) : (tls l).length = l.length * 2 := by
  induction l with
  | nil => rfl
  | cons a l ih => unfold tls at ih ⊢; rw [List.flatMap_cons, List.length_append, ih]; simp; omega
end Go.Proofs.YtnikmcmkbjjcdaaGreatDoor
/-
  ref's Normal. (Written by MD12.py.)
-/
namespace Go.Proofs.YtnikmcmkbjjcdaaGreatDoor
open Go.RowKit
attribute [local go_sem ↓] Go.wp_at_zero Go.wp_at_succ

/-- A clause's box and the answer's. -/
structure C2 (w X : World) (o : Array Value) : Prop where
  bc : CBlk X w.heap.size o 37
  br : CBlk X (w.heap.size + 1) zcs 37
  bw : Below w.heap.size w X
  sz : w.heap.size + 1 + 1 ≤ X.heap.size
end Go.Proofs.YtnikmcmkbjjcdaaGreatDoor
/-
  Clauses that lie above a block: Instance and Made answer such.
-/
namespace Go.Proofs.YtnikmcmkbjjcdaaGreatDoor
open Go.RowKit

/-- The clause d lies in the blocks of X from B on: wherever these are as in X, it is there. -/
def Kp (B : Nat) (X : World) (d : Cm) : Prop := ∀ X' : World, X.heap.size ≤ X'.heap.size → (∀ b, B ≤ b → b < X.heap.size → X'.heap[b]? = X.heap[b]?) → d.ok X'
theorem Kp.ok {B : Nat} {X : World} {d : Cm} (h : Kp B X d) : d.ok X := h X (Nat.le_refl _) fun _ _ _ => rfl
theorem Kp.mono {B B' : Nat} {X : World} {d : Cm} (h : Kp B X d) (hB : B' ≤ B) : Kp B' X d := fun Y hs ha => h Y hs fun b h1 h2 => ha b (Nat.le_trans hB h1) h2
theorem Kp.off {B G i : Nat} {X : World} {d : Cm} {c : Value} (h : Kp B X d) (hG : G < B) : Kp B (X.setCell ⟨G, i, none⟩ c) d := fun Y hs ha =>
  h Y (by simpa [World.setCell] using hs) fun b h1 h2 => (ha b h1 (by simpa [World.setCell] using h2)).trans (heap_setCell_other _ _ _ _ (show b ≠ G by omega))
theorem Ts.agree {X X' : World} {v : Value} {l : List Tm} (h : Ts X v l) (hs : X.heap.size ≤ X'.heap.size) (hb : ∀ b, v.ownBlock = some b → b < X.heap.size → X'.heap[b]? = X.heap[b]?) : Ts X' v l := by
  obtain ⟨a, cap, rfl, hl, hm⟩ := h
  refine ⟨a, cap, rfl, hl, ?_⟩
  rcases hm with hm | ⟨b, o, rfl, hlt, hm⟩
  · exact Or.inl hm
  · have hc : ∀ j, X'.cell? ⟨b, j, none⟩ = X.cell? ⟨b, j, none⟩ := fun j => World.cell?_of_block (w := X) (a := ⟨b, j, none⟩) (hb b rfl hlt)
    refine Or.inr ⟨b, o, rfl, Nat.lt_of_lt_of_le hlt hs, fun q t ht => ?_⟩
    simp only [hc]
    exact hm q t ht
/-- A clause in its box. -/
structure Bx (X : World) (G : Nat) (d : Cm) : Prop where
  b : CBlk X G d.cs 37
  o : d.ok X
abbrev Cput (X : World) (G : Nat) (a b c d e f g : Value) : World := ((((((X.setCell ⟨G, 0, none⟩ a).setCell ⟨G, 1, none⟩ b).setCell ⟨G, 2, none⟩ c).setCell ⟨G, 3, none⟩ d).setCell ⟨G, 4, none⟩ e).setCell ⟨G, 5, none⟩ f).setCell ⟨G, 6, none⟩ g
theorem Kp.put7 {B G : Nat} {X : World} {d : Cm} (h : Kp B X d) (hG : G < B) (a b c d' e f g : Value) : Kp B (Cput X G a b c d' e f g) d := ((((((h.off hG).off hG).off hG).off hG).off hG).off hG).off hG
end Go.Proofs.YtnikmcmkbjjcdaaGreatDoor
/-
  What Check answers to clauses broken in one way. (Plain.)
-/
namespace Go.Proofs.YtnikmcmkbjjcdaaGreatDoor
open Go.RowKit

/-- What Check answers, one by one. -/
theorem key_len (c : Cm) : c.body.length = c.key.2.1.length ∧ c.tests.length = c.key.2.2.length := by simp [Cm.key, fsts]
theorem unb_key {c : Cm} : unb c = (vrs (c.key.1.pl ++ tls c.key.2.2)).any fun v => !decide (v ∈ vrs (c.key.2.1.flatMap At.pl)) := by
  have e1 : c.restC.vars = vrs c.restC.terms := rfl
  have e2 : c.bodyC.vars = vrs c.bodyC.terms := rfl
  have e3 : flt c.body = c.key.2.1.flatMap At.pl := by simp [flt, Cm.key, fsts, List.flatMap_map]
  unfold unb
  rw [e1, e2, restC_terms, bodyC_terms, e3]
  have e4 : vrs (⟨0, 0, ⟨#[]⟩⟩ :: c.key.2.1.flatMap At.pl) = vrs (c.key.2.1.flatMap At.pl) := by unfold vrs; rw [List.filter_cons_of_neg (by rw [zt_var]; simp)]
  rw [e4]; rfl
theorem mis_key {c : Cm} : mis 0 c.vars = mis 0 (vrs (Ck.terms c.key)) := by
  have : c.vars = vrs c.terms := rfl
  rw [this, key_terms]
end Go.Proofs.YtnikmcmkbjjcdaaGreatDoor
/-
  A clause renamed one to one: as many variables, the same numbering. (Plain.)
-/
namespace Go.Proofs.YtnikmcmkbjjcdaaGreatDoor
open Go.RowKit

theorem dis_lenT (l : List Tm) : (dis (vrs l)).length = (disT l).length := by rw [← disT_n, List.length_map]
theorem dis_fold_le : ∀ (l acc : List Int), (l.foldl dstep acc).length ≤ acc.length + l.length
  | [], acc => by simp
  | v :: l, acc => by
    rw [List.foldl_cons]
    have h1 := dis_fold_le l (dstep acc v)
    have h2 : (dstep acc v).length ≤ acc.length + 1 := by unfold dstep; split <;> simp
    simp only [List.length_cons]; omega
theorem dis_le (l : List Int) : (dis l).length ≤ l.length := by have := dis_fold_le l []; simpa [dis] using this
end Go.Proofs.YtnikmcmkbjjcdaaGreatDoor
/-
  What clause.Normal makes of a term: its function, and its map of numbers.
-/
namespace Go.Proofs.YtnikmcmkbjjcdaaGreatDoor
open Go.RowKit Go.Shelf
attribute [local go_sem ↓] Go.wp_at_zero Go.wp_at_succ

/-- The numbers of the variables asked so far, as a datum. -/
def nvF (D : DataW Unit) (i : Nat) : List Int → DataW Unit
  | [] => D
  | x :: l => nvF (D.put (.int .i64 x) (.lit (.int .i64 (i : Int)))) (i + 1) l
def nv (vs : List Int) : DataW Unit := nvF (.map []) 0 vs
theorem nvF_snoc (x : Int) : ∀ (l : List Int) (D : DataW Unit) (i : Nat), nvF D i (l ++ [x]) = (nvF D i l).put (.int .i64 x) (.lit (.int .i64 ((i + l.length : Nat) : Int)))
  | [], _, _ => rfl
  | y :: l, D, i => by
    rw [List.cons_append, nvF, nvF_snoc x l]
    show _ = (nvF (D.put (.int .i64 y) (.lit (.int .i64 (i : Int)))) (i + 1) l).put _ _
    rw [show i + 1 + l.length = i + (y :: l).length by simp; omega]
theorem nv_snoc (vs : List Int) (x : Int) : nv (vs ++ [x]) = (nv vs).put (.int .i64 x) (.lit (.int .i64 (vs.length : Int))) := by
  unfold nv; rw [nvF_snoc, Nat.zero_add]
/-- Where a number first stands. -/
def ixN : List Int → Int → Nat
  | [], _ => 0
  | x :: l, t => if x = t then 0 else ixN l t + 1
theorem ixN_app : ∀ {p q : List Int} {t : Int}, t ∈ p → ixN (p ++ q) t = ixN p t
  | x :: l, q, t, h => by
    rw [List.cons_append, ixN, ixN]
    by_cases e : x = t
    · rw [if_pos e, if_pos e]
    · rw [if_neg e, if_neg e, ixN_app (by rcases List.mem_cons.1 h with h | h; exact absurd h.symm e; exact h)]
theorem ixN_new : ∀ {p : List Int} {t : Int}, ¬ t ∈ p → ixN (p ++ [t]) t = p.length
  | [], t, _ => by simp [ixN]
  | x :: l, t, h => by
    rw [List.cons_append, ixN, if_neg (fun e => h (by simp [e])), ixN_new (fun e => h (by simp [e]))]; rfl
theorem keyI (x : Int) : WideAt.IsKeyLit (Lit.int .i64 x) := by trivial
/-- What the map answers: the numbers in the order in which they were asked, none twice. -/
structure NvOk (vs : List Int) : Prop where
  t : Maps.Tidy (nv vs)
  h : ∀ x, Maps.has (nv vs) (.int .i64 x) = decide (x ∈ vs)
  a : ∀ x ∈ vs, (nv vs).atKey (.int .i64 x) (.lit (.int .i64 0)) = .lit (.int .i64 (ixN vs x : Int))
  s : Maps.size (nv vs) = vs.length
theorem nvOk_nil : NvOk [] := ⟨Maps.tidy_empty, fun x => by simp [nv, nvF, Maps.has], fun x hx => by simp at hx, rfl⟩
theorem NvOk.snoc {vs : List Int} (H : NvOk vs) {x : Int} (hx : ¬ x ∈ vs) : NvOk (vs ++ [x]) := by
  refine ⟨by rw [nv_snoc]; exact H.t.put (keyI x) _, fun y => ?_, fun y hy => ?_, ?_⟩
  · rw [nv_snoc]
    by_cases e : y = x
    · subst e; rw [Maps.has_put_same H.t.isMap (keyI _)]; simp
    · rw [Maps.has_put_other (fun h => e (by cases h; rfl)), H.h]; simp [e]
  · rw [nv_snoc]
    by_cases e : y = x
    · subst e; rw [Maps.atKey_put_same H.t.isMap (keyI _), ixN_new hx]
    · have hy' : y ∈ vs := by rcases List.mem_append.1 hy with h | h; exact h; exact absurd (List.mem_singleton.1 h) e
      rw [Maps.atKey_put_other (fun h => e (by cases h; rfl)), H.a y hy', ixN_app hy']
  · rw [nv_snoc, Maps.size_put H.t, H.h, if_neg (by simp [hx]), H.s]; simp
/-- The map of numbers in its box P. -/
structure NM (w : World) (P M : Nat) (vs : List Int) : Prop where
  b : CBlk w P #[.map (some M)] 94
  m : w.ownsMap Tryz.prog 3 (plainElem Tryz.prog 3 (H := Unit)) M vs.length (nv vs)
  o : NvOk vs
  ne : P ≠ M
def nst (vs : List Int) (t : Tm) : List Int := if t.var = true then (if t.n ∈ vs then vs else vs ++ [t.n]) else vs
def nsT (vs : List Int) (t : Tm) : Tm := if t.var = true then ⟨3, (ixN (nst vs t) t.n : Int), ⟨#[]⟩⟩ else t
end Go.Proofs.YtnikmcmkbjjcdaaGreatDoor
