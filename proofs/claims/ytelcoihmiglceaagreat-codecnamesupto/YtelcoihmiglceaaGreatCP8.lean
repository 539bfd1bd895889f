import Derived.Test.YtelcoihmiglceaaGreatCP6
import Derived.Test.YtelcoihmiglceaaGreatMD6
import Derived.Deep.RegionHeld3
import Derived.Test.YtelcoihmiglceaaGreatCK2
import Derived.Laws.OwnMore
/-
  hearsayref03.MadeProof. (Written by CP7.py.)
-/
namespace Go.Proofs.YtelcoihmiglceaaGreat
open Go.RowKit
attribute [local go_sem ↓] Go.wp_at_zero Go.wp_at_succ

/-- A step that is being made: its box is the first block behind X1. -/
structure JJ (X1 V : World) (r : Int) (v : Value) (L : List Tm) (u : Value) (U : List Int) : Prop where
  bw : Below X1.heap.size X1 V
  bs : CBlk V X1.heap.size #[.int .i64 r, v, u] 66
  ow : OwnT V (X1.heap.size + 1) v L
  on : OwnN V (X1.heap.size + 1) u U
  sz : X1.heap.size + 1 ≤ V.heap.size
theorem JJ.later {X1 V V' : World} {r : Int} {v : Value} {L : List Tm} {u : Value} {U : List Int} (h : JJ X1 V r v L u U) (hb : Below V.heap.size V V') : JJ X1 V' r v L u U :=
  ⟨below_step h.bw hb, h.bs.later hb, h.ow.later hb, h.on.later hb, Nat.le_trans h.sz hb.size⟩
theorem JJ.args {X1 V V' : World} {r : Int} {v v' : Value} {L L' : List Tm} {u : Value} {U : List Int} (h : JJ X1 V r v L u U) (ho : OwnT V' (X1.heap.size + 1) v' L') (hb : Below (X1.heap.size + 1) V V') (hg : V.grownBy V' v.ownBlock) : JJ X1 (V'.setCell ⟨X1.heap.size, 1, none⟩ v') r v' L' u U := by
  have hs : CBlk V' X1.heap.size #[.int .i64 r, v, u] 66 := (hb.block _ (by omega)).trans h.bs
  have hk : Kt 66 V' (V'.setCell ⟨X1.heap.size, 1, none⟩ v') := Kt.set hs
  have hs2 := hs.set 1 v'
  refine ⟨(h.bw.trans (hb.mono (by omega))).setCell (Nat.le_refl _) _, by simpa using hs2, row_kt ho hk (by decide), row_kt (row_kt h.on (row_grown h.ow hg) (by decide)) hk (by decide), ?_⟩
  have := Nat.le_trans h.sz hb.size
  simpa [World.setCell] using this
/-- Two steps that share no list. -/
def Dj (a b : St) : Prop := (∀ k, a.vv.ownBlock = some k → b.vv.ownBlock ≠ some k) ∧ ∀ k, a.uv.ownBlock = some k → b.uv.ownBlock ≠ some k
/-- Steps that the call made, each with lists of its own. -/
structure OSt (B : Nat) (X : World) (v : Value) (l : List St) : Prop where
  o : OwnS X B v l
  t : ∀ s ∈ l, OwnT X B s.vv s.vals ∧ OwnN X B s.uv s.uses
  d : l.Pairwise Dj
theorem OSt.nil (B : Nat) (X : World) : OSt B X (.slice none 0 0) [] := ⟨OwnS.nil _ _, fun c hc => by simp at hc, List.Pairwise.nil⟩
theorem OSt.later {B : Nat} {X X' : World} {v : Value} {l : List St} (h : OSt B X v l) (hb : Below X.heap.size X X') : OSt B X' v l := ⟨h.o.later hb, fun s hs => ⟨(h.t s hs).1.later hb, (h.t s hs).2.later hb⟩, h.d⟩
theorem OSt.kt {t : TypeId} {B : Nat} {X X' : World} {v : Value} {l : List St} (h : OSt B X v l) (hk : Kt t X X') (h1 : 66 ≠ t) (h2 : 23 ≠ t) (h3 : 3 ≠ t) : OSt B X' v l := ⟨row_kt h.o hk h1, fun s hs => ⟨row_kt (h.t s hs).1 hk h2, row_kt (h.t s hs).2 hk h3⟩, h.d⟩
/-- The blocks of a clause's lists are below M. -/
structure Lo (M : Nat) (d : Cm) : Prop where
  h : ∀ k, d.head.2.ownBlock = some k → k < M
  b : ∀ k, d.bv.ownBlock = some k → k < M
  x : ∀ y ∈ d.body, ∀ k, y.2.ownBlock = some k → k < M
  t : ∀ k, d.tv.ownBlock = some k → k < M
theorem MCl.lo {B : Nat} {X : World} {d : Cm} (h : MCl B X d) : Lo X.heap.size d :=
  ⟨fun k hk => (World.ownsRow.lt h.h k hk).2, fun k hk => (World.ownsRow.lt h.b k hk).2, fun y hy k hk => (World.ownsRow.lt (h.x y hy) k hk).2, fun k hk => (World.ownsRow.lt h.t k hk).2⟩
end Go.Proofs.YtelcoihmiglceaaGreat
/-
  CodecRefuses: what the law makes of a derivation, in memory and plain.
-/
namespace Go.Proofs.YtelcoihmiglceaaGreat
open Go.RowKit

theorem scs_set : ∀ {l : List St} {k i : Nat} {s s' : St} {v : Value}, l[k]? = some s → i < 3 → s'.csl = s.csl.set i v → (scs l).set (k * 3 + i) v = scs (l.set k s')
  | [], k, i, s, s', v, h, _, _ => by simp at h
  | a :: l, 0, i, s, s', v, h, hi, e => by
    simp at h; subst h
    have hl : a.csl.length = 3 := rfl
    simp only [scs, List.flatMap_cons, List.set_cons_zero, Nat.zero_mul, Nat.zero_add]
    rw [List.set_append_left _ _ (by omega), e]
  | a :: l, k + 1, i, s, s', v, h, hi, e => by
    rw [List.getElem?_cons_succ] at h
    have hl : a.csl.length = 3 := rfl
    have := scs_set h hi e
    simp only [scs, List.flatMap_cons, List.set_cons_succ] at this ⊢
    rw [List.set_append_right _ _ (by omega), hl, show (k + 1) * 3 + i - 3 = k * 3 + i by omega, this]
theorem ccs_set : ∀ {l : List Cm} {k i : Nat} {s s' : Cm} {v : Value}, l[k]? = some s → i < 7 → s'.csl = s.csl.set i v → (ccs l).set (k * 7 + i) v = ccs (l.set k s')
  | [], k, i, s, s', v, h, _, _ => by simp at h
  | a :: l, 0, i, s, s', v, h, hi, e => by
    simp at h; subst h
    have hl : a.csl.length = 7 := rfl
    simp only [ccs, List.flatMap_cons, List.set_cons_zero, Nat.zero_mul, Nat.zero_add]
    rw [List.set_append_left _ _ (by omega), e]
  | a :: l, k + 1, i, s, s', v, h, hi, e => by
    rw [List.getElem?_cons_succ] at h
    have hl : a.csl.length = 7 := rfl
    have := ccs_set h hi e
    simp only [ccs, List.flatMap_cons, List.set_cons_succ] at this ⊢
    rw [List.set_append_right _ _ (by omega), hl, show (k + 1) * 7 + i - 7 = k * 7 + i by omega, this]
/-- One cell of a list of steps is written. -/
theorem OwnS.put {w : World} {B g cap n k i : Nat} {l : List St} {s s' : St} {v : Value} (h : OwnS w B (.slice (some ⟨g, 0, none⟩) n cap) l) (hk : l[k]? = some s) (hi : i < 3) (e : s'.csl = s.csl.set i v) : OwnS (w.setCell ⟨g, k * 3 + i, none⟩ v) B (.slice (some ⟨g, 0, none⟩) n cap) (l.set k s') ∧ Kt 66 w (w.setCell ⟨g, k * 3 + i, none⟩ v) := by
  have hn : n = l.length := by obtain ⟨a, c, e⟩ := h.form; simp only [Value.slice.injEq] at e; exact e.2.1
  subst hn
  have h1 := (World.ownsRow.stored h (k * 3 + i) v).1
  obtain ⟨-, cur, hg⟩ := row_block h (k := g) rfl
  refine ⟨?_, Kt.set hg⟩
  unfold OwnS
  rw [List.length_set, ← scs_set hk hi e]
  exact h1
theorem OwnC.put {w : World} {B g cap n k i : Nat} {l : List Cm} {s s' : Cm} {v : Value} (h : OwnC w B (.slice (some ⟨g, 0, none⟩) n cap) l) (hk : l[k]? = some s) (hi : i < 7) (e : s'.csl = s.csl.set i v) : OwnC (w.setCell ⟨g, k * 7 + i, none⟩ v) B (.slice (some ⟨g, 0, none⟩) n cap) (l.set k s') ∧ Kt 30 w (w.setCell ⟨g, k * 7 + i, none⟩ v) := by
  have hn : n = l.length := by obtain ⟨a, c, e⟩ := h.form; simp only [Value.slice.injEq] at e; exact e.2.1
  subst hn
  have h1 := (World.ownsRow.stored h (k * 7 + i) v).1
  obtain ⟨-, cur, hg⟩ := row_block h (k := g) rfl
  refine ⟨?_, Kt.set hg⟩
  unfold OwnC
  rw [List.length_set, ← ccs_set hk hi e]
  exact h1
/-- The cells of one step of an owned list, and that they can be written. -/
theorem OwnS.at_ {w : World} {B g cap n k : Nat} {l : List St} {s : St} (h : OwnS w B (.slice (some ⟨g, 0, none⟩) n cap) l) (hk : l[k]? = some s) : g < w.heap.size ∧ w.cell? ⟨g, k * 3, none⟩ = some (.int .i64 s.rule) ∧ w.cell? ⟨g, k * 3 + 1, none⟩ = some s.vv ∧ w.cell? ⟨g, k * 3 + 2, none⟩ = some s.uv ∧ ∀ i, w.frozen? ⟨g, i, none⟩ = false := by
  obtain ⟨b, o, e, hr⟩ := h.adr hk
  simp only [Option.some.injEq, Addr.mk.injEq, and_true] at e
  obtain ⟨rfl, rfl⟩ := e
  obtain ⟨c0, c1, c2⟩ := hr.three hk
  simp only [Nat.zero_add] at c0 c1 c2
  obtain ⟨-, cur, hg⟩ := row_block h (k := g) rfl
  exact ⟨hr.1, c0, c1, c2, fun i => frozen_of_row _ _ _ _ _ hg⟩
theorem OwnC.at_ {w : World} {B g cap n k : Nat} {l : List Cm} {s : Cm} (h : OwnC w B (.slice (some ⟨g, 0, none⟩) n cap) l) (hk : l[k]? = some s) : g < w.heap.size ∧ (w.cell? ⟨g, k * 7, none⟩ = some (.int .i64 s.head.1.by_.k) ∧ w.cell? ⟨g, k * 7 + 1, none⟩ = some (.int .i64 s.head.1.by_.n) ∧ w.cell? ⟨g, k * 7 + 2, none⟩ = some (.string s.head.1.by_.s)) ∧ ∀ i, w.frozen? ⟨g, i, none⟩ = false := by
  obtain ⟨b, o, e, hr⟩ := h.adr hk
  simp only [Option.some.injEq, Addr.mk.injEq, and_true] at e
  obtain ⟨rfl, rfl⟩ := e
  obtain ⟨c0, c1, c2, -⟩ := hr.seven hk
  simp only [Nat.zero_add] at c0 c1 c2
  obtain ⟨-, cur, hg⟩ := row_block h (k := g) rfl
  exact ⟨hr.1, ⟨c0, c1, c2⟩, fun i => frozen_of_row _ _ _ _ _ hg⟩
/-- The rule that the law puts behind the others; with a variable ahead of its head. -/
def cP : Cm := ⟨(⟨zt, nmP, []⟩, .slice none 0 0), [], .slice none 0 0, [], .slice none 0 0⟩
theorem made_wf {c : Cm} {x : Ck} (h : c.key = madeK x) : c.wf := by
  have hv := made_val nmP_ok x
  have hm : mis 0 (vrs (Ck.terms (madeK x))) = false := norm_mis _
  obtain ⟨m, hd, hvn⟩ := num_vars hm
  have h72 := num_le hv hd
  exact wf_of (fun t ht hvt => by rw [h] at ht; have := hvn t ht hvt; omega) (by rw [h]; exact Nat.le_trans hv.ks.len (by omega))
end Go.Proofs.YtelcoihmiglceaaGreat
