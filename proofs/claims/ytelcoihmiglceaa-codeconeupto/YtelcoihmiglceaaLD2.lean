import Derived.Test.YtelcoihmiglceaaMD8
import Derived.Test.YtelcoihmiglceaaCL27
import Derived.Deep.RegionHeld3
import Derived.BigQuiet
/-
  Lists lent, with a term behind them, and looked at: terms, atoms. (Written by LD1.py.)
-/
namespace Go.Proofs.Ytelcoihmiglceaa
open Go.RowKit
attribute [local go_sem ↓] Go.wp_at_zero Go.wp_at_succ

def bN : ByteArray := ⟨#[98, 101, 104, 105, 110, 100]⟩
def bT : Tm := ⟨901, 902, bN⟩
def bE : Te := ⟨903, zt, zt⟩
theorem TsP.form {w : World} {v : Value} {l : List Tm} (h : TsP w v l) : ∃ a cap, v = .slice a l.length cap := by
  rcases h with ⟨rfl, rfl⟩ | ⟨ad, cap, rfl, _⟩
  · exact ⟨none, 0, rfl⟩
  · exact ⟨some ad, cap, rfl⟩
/-- A list of terms lent. -/
def LentT (X : World) (B : Nat) (v : Value) (l : List Tm) : Prop := ∃ g cap, v = .slice (some ⟨g, 0, none⟩) l.length cap ∧ OwnT X B (.slice (some ⟨g, 0, none⟩) (l.length + 1) cap) (l ++ [bT])
theorem LentT.later {X X' : World} {B : Nat} {v : Value} {l : List Tm} (h : LentT X B v l) (hb : Below X.heap.size X X') : LentT X' B v l := by
  obtain ⟨g, cap, e, ho⟩ := h
  exact ⟨g, cap, e, ho.later hb⟩
theorem LentT.mono {X : World} {B B' : Nat} {v : Value} {l : List Tm} (h : LentT X B v l) (hb : B' ≤ B) : LentT X B' v l := by
  obtain ⟨g, cap, e, ho⟩ := h
  exact ⟨g, cap, e, ho.mono hb⟩
theorem LentT.lt {X : World} {B : Nat} {v : Value} {l : List Tm} (h : LentT X B v l) : ∀ k, v.ownBlock = some k → B ≤ k ∧ k < X.heap.size := by
  obtain ⟨g, cap, rfl, ho⟩ := h
  exact fun k hk => ho.lt k hk
theorem LentT.grown {X X' : World} {B : Nat} {v : Value} {l : List Tm} {row : Option Nat} (h : LentT X B v l) (hg : X.grownBy X' row) (hne : ∀ k, v.ownBlock = some k → row ≠ some k) : LentT X' B v l := by
  obtain ⟨g, cap, rfl, ho⟩ := h
  exact ⟨g, cap, rfl, OwnT.grown ho hg fun k hk => hne k hk⟩
theorem LentT.ts {X : World} {B : Nat} {v : Value} {l : List Tm} (h : LentT X B v l) (hl : l.length < 1000000000000000000) : Ts X v l := by
  obtain ⟨g, cap, rfl, ho⟩ := h
  exact ownT_pre ho hl
theorem LentT.off {X : World} {B G i : Nat} {v c : Value} {l : List Tm} (h : LentT X B v l) (hne : ∀ k, v.ownBlock = some k → k ≠ G) : LentT (X.setCell ⟨G, i, none⟩ c) B v l := by
  obtain ⟨g, cap, rfl, ho⟩ := h
  exact ⟨g, cap, rfl, OwnT.off ho hne⟩
end Go.Proofs.Ytelcoihmiglceaa
/-
  Lists of atoms lent, and looked at. (Written by LD2.py.)
-/
namespace Go.Proofs.Ytelcoihmiglceaa
open Go.RowKit
attribute [local go_sem ↓] Go.wp_at_zero Go.wp_at_succ

def bA : At := ⟨zt, bN, []⟩
structure LA (W X : World) (u : Value) (LB : List (At × Value)) : Prop where
  ow : OwnA X W.heap.size u LB
  ts : ∀ x ∈ LB, LentT X W.heap.size x.2 x.1.args
  ap : ∀ x ∈ LB, ∀ k, u.ownBlock = some k → x.2.ownBlock ≠ some k
  bw : Below W.heap.size W X
theorem LA.later {W X X' : World} {u : Value} {LB : List (At × Value)} (h : LA W X u LB) (hb : Below X.heap.size X X') : LA W X' u LB := ⟨h.ow.later hb, fun x hx => (h.ts x hx).later hb, h.ap, below_step h.bw hb⟩
theorem LA.grow {W X X1 X2 X3 : World} {u v' u' : Value} {LB : List (At × Value)} {x : At} (h : LA W X u LB) (hb1 : Below X.heap.size X X1) (hl : LentT X1 X.heap.size u' x.args) (hb2 : Below X1.heap.size X1 X2) (ho : OwnA X3 W.heap.size v' (LB ++ [(x, u')]))
    (hb : Below W.heap.size X2 X3) (hg : X2.grownBy X3 u.ownBlock) (ha : ∀ k, v'.ownBlock = some k → u.ownBlock = some k ∨ X2.heap.size ≤ k) : LA W X3 v' (LB ++ [(x, u')]) := by
  have hsz := h.bw.size
  have h12 : Below X.heap.size X X2 := below_step hb1 hb2
  have hul : ∀ k, u.ownBlock = some k → k < X.heap.size := fun k hk => (h.ow.lt k hk).2
  have h2 := hl.later hb2
  have hs1 := hb1.size
  have hs2 := hb2.size
  refine ⟨ho, fun y hy => ?_, fun y hy k hk => ?_, (h.bw.trans (h12.mono hsz)).trans hb⟩
  · rcases List.mem_append.1 hy with hy | hy
    · exact ((h.ts y hy).later h12).grown hg fun k hk e => h.ap y hy k e hk
    · rw [List.mem_singleton] at hy
      subst hy
      exact (h2.grown hg fun k hk e => by have := (h2.lt k hk).1; have := hul k e; omega).mono hsz
  · rcases List.mem_append.1 hy with hy | hy
    · intro e
      have hlt := ((h.ts y hy).lt k e).2
      rcases ha k hk with hk | hk
      · exact h.ap y hy k hk e
      · omega
    · rw [List.mem_singleton] at hy
      subst hy
      intro e
      have hlt := hl.lt k e
      rcases ha k hk with hk | hk
      · have := hul k hk; omega
      · omega
/-- A list of atoms lent. -/
structure LentA (X : World) (B : Nat) (v : Value) (LB : List (At × Value)) : Prop where
  o : ∃ g cap, v = .slice (some ⟨g, 0, none⟩) LB.length cap ∧ OwnA X B (.slice (some ⟨g, 0, none⟩) (LB.length + 1) cap) (LB ++ [(bA, .slice none 0 0)])
  ts : ∀ x ∈ LB, LentT X B x.2 x.1.args
theorem LentA.later {X X' : World} {B : Nat} {v : Value} {LB : List (At × Value)} (h : LentA X B v LB) (hb : Below X.heap.size X X') : LentA X' B v LB := by
  obtain ⟨⟨g, cap, e, ho⟩, ht⟩ := h
  exact ⟨⟨g, cap, e, ho.later hb⟩, fun x hx => (ht x hx).later hb⟩
theorem LentA.mono {X : World} {B B' : Nat} {v : Value} {LB : List (At × Value)} (h : LentA X B v LB) (hb : B' ≤ B) : LentA X B' v LB := by
  obtain ⟨⟨g, cap, e, ho⟩, ht⟩ := h
  exact ⟨⟨g, cap, e, ho.mono hb⟩, fun x hx => (ht x hx).mono hb⟩
theorem LentA.lt {X : World} {B : Nat} {v : Value} {LB : List (At × Value)} (h : LentA X B v LB) : ∀ k, v.ownBlock = some k → B ≤ k ∧ k < X.heap.size := by
  obtain ⟨⟨g, cap, rfl, ho⟩, ht⟩ := h
  exact fun k hk => ho.lt k hk
theorem LentA.row {X : World} {B g cap n : Nat} {LB : List (At × Value)} (ho : OwnA X B (.slice (some ⟨g, 0, none⟩) n cap) (LB ++ [(bA, .slice none 0 0)])) : ARow X g 0 LB := by
  refine ⟨(ho.lt g rfl).2, fun i x hx => ?_⟩
  have hi := (List.getElem?_eq_some_iff.1 hx).1
  have hx' : (LB ++ [(bA, .slice none 0 0)])[i]? = some x := by rw [List.getElem?_append_left hi]; exact hx
  rw [Nat.zero_add]
  exact ⟨ho.cells i x hx' 0 (by omega), ho.cells i x hx' 1 (by omega), ho.cells i x hx' 2 (by omega), ho.cells i x hx' 3 (by omega), ho.cells i x hx' 4 (by omega)⟩
theorem LentA.as {X : World} {B : Nat} {v : Value} {LB : List (At × Value)} (h : LentA X B v LB) (hl : LB.length < 1000000000000000000) (hx : ∀ x ∈ LB, x.1.args.length < 1000000000000000000) : As X v LB := by
  obtain ⟨⟨g, cap, rfl, ho⟩, ht⟩ := h
  exact ⟨_, cap, rfl, hl, Or.inr ⟨g, 0, rfl, LentA.row ho⟩, fun x hm => (ht x hm).ts (hx x hm)⟩
end Go.Proofs.Ytelcoihmiglceaa
