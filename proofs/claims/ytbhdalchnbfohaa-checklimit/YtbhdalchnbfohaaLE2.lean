/-
  Clauses that lie above a block: Instance and Made answer such.
-/
import Derived.Test.YtbhdalchnbfohaaLE1
namespace Go.Proofs.Ytbhdalchnbfohaa
open Go.RowKit

/-- The clause d lies in the blocks of X from B on: wherever these are as in X, it is there. -/
def Kp (B : Nat) (X : World) (d : Cm) : Prop := ∀ X' : World, X.heap.size ≤ X'.heap.size → (∀ b, B ≤ b → b < X.heap.size → X'.heap[b]? = X.heap[b]?) → d.ok X'
theorem Kp.ok {B : Nat} {X : World} {d : Cm} (h : Kp B X d) : d.ok X := h X (Nat.le_refl _) fun _ _ _ => rfl
theorem Kp.later {B : Nat} {X X' : World} {d : Cm} (h : Kp B X d) (hb : Below X.heap.size X X') : Kp B X' d := fun Y hs ha =>
  h Y (Nat.le_trans hb.size hs) fun b h1 h2 => (ha b h1 (Nat.lt_of_lt_of_le h2 hb.size)).trans (hb.block b h2)
theorem Kp.mono {B B' : Nat} {X : World} {d : Cm} (h : Kp B X d) (hB : B' ≤ B) : Kp B' X d := fun Y hs ha => h Y hs fun b h1 h2 => ha b (Nat.le_trans hB h1) h2
theorem Kp.off {B G i : Nat} {X : World} {d : Cm} {c : Value} (h : Kp B X d) (hG : G < B) : Kp B (X.setCell ⟨G, i, none⟩ c) d := fun Y hs ha =>
  h Y (by simpa [World.setCell] using hs) fun b h1 h2 => (ha b h1 (by simpa [World.setCell] using h2)).trans (heap_setCell_other _ _ _ _ (show b ≠ G by omega))
theorem Ts.agree {X X' : World} {v : Value} {l : List Tm} (h : Ts X v l) (hs : X.heap.size ≤ X'.heap.size) (hb : ∀ b, v.ownBlock = some b → b < X.heap.size → X'.heap[b]? = X.heap[b]?) : Ts X' v l := by
  obtain ⟨a, cap, rfl, hl, hm⟩ := h
  refine ⟨a, cap, rfl, hl, ?_⟩
  rcases hm with hm | ⟨b, o, rfl, hlt, hm⟩
  · exact Or.inl hm
  · have hc : ∀ j, X'.cell? ⟨b, j, none⟩ = X.cell? ⟨b, j, none⟩ := fun j => World.cell?_of_block (w := X) (a := ⟨b, j, none⟩) (hb b rfl hlt)
    refine Or.inr ⟨b, o, rfl, Nat.lt_of_lt_of_le hlt hs, fun q t ht => ?_⟩
    simp only [hc]
    exact hm q t ht
theorem RJ.kp {B : Nat} {X : World} {c : Cm} {vs : List Tm} {M1 M2 M3 : Nat} {lb : List (At × Value)} (h : RJ B X c.head.1.args.length c.body.length c.tests.length (c.head.1.args.map (ins vs)) ((fsts c.body).map (insA vs)) (c.tests.map (insE vs)) M1 M2 M3 lb)
    (h2 : c.body.length < 1000000000000000000) (h3 : c.tests.length < 1000000000000000000) : Kp B X (c.cpI vs M1 M2 M3 lb) := fun Y hs ha => by
  have hl : lb.length = c.body.length := by have := congrArg List.length h.f; simpa [fsts] using this
  have hA : ABlk Y M2 c.body.length lb := by
    obtain ⟨C, e1, e2, e3⟩ := h.a
    exact ⟨C, (ha M2 h.b2 h.a.lt).trans e1, e2, e3⟩
  have hE : EBlk Y M3 c.tests.length (c.tests.map (insE vs)) := by
    obtain ⟨C, e1, e2, e3⟩ := h.e
    exact ⟨C, (ha M3 (by have := h.b2; have := h.b3; omega) h.e.lt).trans e1, e2, e3⟩
  refine ⟨?_, hA.as hl h2 fun x hx => (h.ts x hx).1.1.agree hs fun b e hlt => ha b ((h.ts x hx).2 b e) hlt, hE.es (by simp) h3⟩
  exact h.t1.agree hs fun b e hlt => by obtain rfl : M1 = b := Option.some.inj e; exact ha M1 h.b1 hlt
theorem inst4_any (c : Cm) (vs : List Tm) (v : Value) (w : World) (h : c.ok w) (hv : Ts w v vs) (hs : KS c.key) :
    Calls Try.prog 24 #[c.v, v] w fun e w' => ∃ d : Cm, e = .returned d.v ∧ d.key = mapC (ins vs) c.key ∧ Kp w.heap.size w' d ∧ Below w.heap.size w w' := by
  obtain ⟨h1, h2, h3, h4⟩ := hs.lens
  refine (inst_any vs v c w hv h (by omega) (by omega) (by omega) (fun x hx => by have := h4 x hx; omega)).mono fun e w' he => ?_
  obtain ⟨M1, M2, M3, lb, rfl, hr, hb⟩ := he
  refine ⟨_, rfl, ?_, hr.kp (by omega) (by omega), hb⟩
  unfold Cm.key mapC Cm.cpI
  simp only
  rw [hr.f]; rfl
/-- A clause in its box. -/
structure Bx (X : World) (G : Nat) (d : Cm) : Prop where
  b : CBlk X G d.cs 50
  o : d.ok X
end Go.Proofs.Ytbhdalchnbfohaa
