import Derived.Test.YtdfgijdededolabGreatDoorMD8
import Derived.Deep.RegionHeld3
/-
  putAtom. (Written by MD9.py.)
-/
namespace Go.Proofs.YtdfgijdededolabGreatDoor
open Go.RowKit
attribute [local go_sem ↓] Go.wp_at_zero Go.wp_at_succ

/-- An atom's box and the answer's. -/
structure PP (w X : World) (x : At) (v : Value) : Prop where
  bc : CBlk X w.heap.size (At.cs x v) 37
  br : CBlk X (w.heap.size + 1) #[.int .i64 0, .int .i64 0, .string ⟨#[]⟩, .string ⟨#[]⟩, .slice none 0 0] 37
  bw : Below w.heap.size w X
  sz : w.heap.size + 1 + 1 ≤ X.heap.size
theorem PP.later {w X X' : World} {x : At} {v : Value} (h : PP w X x v) (hb : Below X.heap.size X X') : PP w X' x v := ⟨h.bc.later hb, h.br.later hb, below_step h.bw hb, Nat.le_trans h.sz hb.size⟩
theorem PP.start (w : World) (x : At) (v : Value) : PP w ((w.alloc (.cells (At.cs x v) 37)).alloc (.cells #[.int .i64 0, .int .i64 0, .string ⟨#[]⟩, .string ⟨#[]⟩, .slice none 0 0] 37)) x v := by
  have x2 := CBlk.new (w.alloc (.cells (At.cs x v) 37)) #[.int .i64 0, .int .i64 0, .string ⟨#[]⟩, .string ⟨#[]⟩, .slice none 0 0] 37
  rw [show (w.alloc (.cells (At.cs x v) 37)).heap.size = w.heap.size + 1 by simp] at x2
  exact ⟨(CBlk.new w (At.cs x v) 37).later (below1 _ _), x2, below2 _ _ _, by simp⟩
end Go.Proofs.YtdfgijdededolabGreatDoor
/-
  A clause that is put together; Put, its boxes. (Written by MD10.py.)
-/
namespace Go.Proofs.YtdfgijdededolabGreatDoor
open Go.RowKit
attribute [local go_sem ↓] Go.wp_at_zero Go.wp_at_succ

/-- A clause whose lists the call made. -/
structure MCl (B : Nat) (X : World) (d : Cm) : Prop where
  h : OwnT X B d.head.2 d.head.1.args
  b : OwnA X B d.bv d.body
  x : ∀ y ∈ d.body, OwnT X B y.2 y.1.args
  t : OwnE X B d.tv d.tests
  s : ∀ k, d.bv.ownBlock = some k → d.head.2.ownBlock ≠ some k ∧ (∀ y ∈ d.body, y.2.ownBlock ≠ some k) ∧ d.tv.ownBlock ≠ some k
theorem MCl.later {B : Nat} {X X' : World} {d : Cm} (h : MCl B X d) (hb : Below X.heap.size X X') : MCl B X' d := ⟨h.h.later hb, h.b.later hb, fun y hy => (h.x y hy).later hb, h.t.later hb, h.s⟩
theorem MCl.mono {B B' : Nat} {X : World} {d : Cm} (h : MCl B X d) (hb : B' ≤ B) : MCl B' X d := ⟨h.h.mono hb, h.b.mono hb, fun y hy => (h.x y hy).mono hb, h.t.mono hb, h.s⟩
theorem MCl.ok {B : Nat} {X : World} {d : Cm} (h : MCl B X d) (h1 : d.head.1.args.length < 1000000000000000000) (h2 : d.body.length < 1000000000000000000) (h3 : ∀ y ∈ d.body, y.1.args.length < 1000000000000000000) (h4 : d.tests.length < 1000000000000000000) : d.ok X :=
  ⟨h.h.tsP.ts h1, h.b.as h2 fun y hy => (h.x y hy).tsP.ts (h3 y hy), h.t.es h4⟩
abbrev ucs (h : At × Value) (bu tu : Value) : Array Value := #[.int .i64 h.1.by_.k, .int .i64 h.1.by_.n, .string h.1.by_.s, .string h.1.name, h.2, bu, tu]
/-- How far it is put together. -/
structure US (w X : World) (o : Array Value) (h : At × Value) (bu : Value) (LB : List (At × Value)) (tu : Value) (LT : List Te) : Prop where
  bc : CBlk X w.heap.size o 41
  br : CBlk X (w.heap.size + 1) zcs 41
  bo : CBlk X (w.heap.size + 1 + 1) (ucs h bu tu) 41
  hw : OwnT X (w.heap.size + 3) h.2 h.1.args
  ba : OwnA X (w.heap.size + 3) bu LB
  bt : ∀ x ∈ LB, OwnT X (w.heap.size + 3) x.2 x.1.args
  et : OwnE X (w.heap.size + 3) tu LT
  s1 : ∀ k, bu.ownBlock = some k → h.2.ownBlock ≠ some k ∧ (∀ x ∈ LB, x.2.ownBlock ≠ some k) ∧ tu.ownBlock ≠ some k
  s2 : ∀ k, tu.ownBlock = some k → h.2.ownBlock ≠ some k ∧ (∀ x ∈ LB, x.2.ownBlock ≠ some k)
  bw : Below w.heap.size w X
  sz : w.heap.size + 3 ≤ X.heap.size
theorem US.later {w X X' : World} {o : Array Value} {h : At × Value} {bu : Value} {LB : List (At × Value)} {tu : Value} {LT : List Te} (H : US w X o h bu LB tu LT) (hb : Below X.heap.size X X') : US w X' o h bu LB tu LT :=
  ⟨H.bc.later hb, H.br.later hb, H.bo.later hb, H.hw.later hb, H.ba.later hb, fun x hx => (H.bt x hx).later hb, H.et.later hb, H.s1, H.s2, below_step H.bw hb, Nat.le_trans H.sz hb.size⟩
/-- No list of it lies in block B. -/
structure Fr (h : At × Value) (bu : Value) (LB : List (At × Value)) (tu : Value) (B : Nat) : Prop where
  h : ∀ k, h.2.ownBlock = some k → k ≠ B
  b : ∀ k, bu.ownBlock = some k → k ≠ B
  x : ∀ x ∈ LB, ∀ k, x.2.ownBlock = some k → k ≠ B
  t : ∀ k, tu.ownBlock = some k → k ≠ B
theorem US.far {w X : World} {o : Array Value} {h : At × Value} {bu : Value} {LB : List (At × Value)} {tu : Value} {LT : List Te} {B i : Nat} (H : US w X o h bu LB tu LT) (hB : w.heap.size + 3 ≤ B) (F : Fr h bu LB tu B) (c : Value) : US w (X.setCell ⟨B, i, none⟩ c) o h bu LB tu LT :=
  ⟨H.bc.off (by omega), H.br.off (by omega), H.bo.off (by omega), H.hw.off F.h, H.ba.off F.b, fun x hx => (H.bt x hx).off (F.x x hx), H.et.off F.t, H.s1, H.s2, H.bw.setCell (show w.heap.size ≤ B by omega) _, by simpa [World.setCell] using H.sz⟩
/-- The boxes ahead of the head. -/
structure U0 (w X : World) (o : Array Value) : Prop where
  bc : CBlk X w.heap.size o 41
  br : CBlk X (w.heap.size + 1) zcs 41
  bo : CBlk X (w.heap.size + 1 + 1) zcs 41
  bw : Below w.heap.size w X
  sz : w.heap.size + 3 ≤ X.heap.size
theorem U0.later {w X X' : World} {o : Array Value} (H : U0 w X o) (hb : Below X.heap.size X X') : U0 w X' o := ⟨H.bc.later hb, H.br.later hb, H.bo.later hb, below_step H.bw hb, Nat.le_trans H.sz hb.size⟩
theorem U0.start (w : World) (o : Array Value) : U0 w (((w.alloc (.cells o 41)).alloc (.cells zcs 41)).alloc (.cells zcs 41)) o := by
  have b3 := below_step (below2 w (.cells o 41) (.cells zcs 41)) (below1 _ (.cells zcs 41))
  have x1 := (CBlk.new w o 41).later (below2 (w.alloc (.cells o 41)) (.cells zcs 41) (.cells zcs 41))
  have x2 := (CBlk.new (w.alloc (.cells o 41)) zcs 41).later (below1 _ (.cells zcs 41))
  have x3 := CBlk.new ((w.alloc (.cells o 41)).alloc (.cells zcs 41)) zcs 41
  rw [show (w.alloc (.cells o 41)).heap.size = w.heap.size + 1 by simp] at x2
  rw [show ((w.alloc (.cells o 41)).alloc (.cells zcs 41)).heap.size = w.heap.size + 1 + 1 by simp] at x3
  exact ⟨x1, x2, x3, b3, by simp⟩
abbrev Hput (X : World) (g : Nat) (h : At × Value) : World := ((((X.setCell ⟨g, 0, none⟩ (.int .i64 h.1.by_.k)).setCell ⟨g, 1, none⟩ (.int .i64 h.1.by_.n)).setCell ⟨g, 2, none⟩ (.string h.1.by_.s)).setCell ⟨g, 3, none⟩ (.string h.1.name)).setCell ⟨g, 4, none⟩ h.2
theorem U0.head {w X : World} {o : Array Value} (H : U0 w X o) (h : At × Value) (hh : OwnT X (w.heap.size + 3) h.2 h.1.args) : US w (Hput X (w.heap.size + 1 + 1) h) o h (.slice none 0 0) [] (.slice none 0 0) [] := by
  have n1 : w.heap.size ≠ w.heap.size + 1 + 1 := by omega
  have n2 : w.heap.size + 1 ≠ w.heap.size + 1 + 1 := by omega
  have n3 : w.heap.size + 1 + 1 < w.heap.size + 3 := by omega
  have n4 : w.heap.size ≤ w.heap.size + 1 + 1 := by omega
  refine ⟨((((H.bc.off n1).off n1).off n1).off n1).off n1, ((((H.br.off n2).off n2).off n2).off n2).off n2, ?_, ((((hh.set n3).set n3).set n3).set n3).set n3, OwnA.nil _ _, fun x hx => by simp at hx, OwnE.nil _ _, fun k hk => by simp [Value.ownBlock] at hk, fun k hk => by simp [Value.ownBlock] at hk, ((((H.bw.setCell n4 _).setCell n4 _).setCell n4 _).setCell n4 _).setCell n4 _, by simpa [World.setCell] using H.sz⟩
  have := ((((H.bo.set 0 (.int .i64 h.1.by_.k)).set 1 (.int .i64 h.1.by_.n)).set 2 (.string h.1.by_.s)).set 3 (.string h.1.name)).set 4 h.2
  simpa [zcs] using this
/-- At the end: the clause in its answer's box. -/
theorem US.mc {w X : World} {o : Array Value} {h : At × Value} {bu : Value} {LB : List (At × Value)} {tu : Value} {LT : List Te} (H : US w X o h bu LB tu LT) : MCl (w.heap.size + 3) X ⟨h, LB, bu, LT, tu⟩ := ⟨H.hw, H.ba, H.bt, H.et, H.s1⟩
theorem MCl.set {B : Nat} {X : World} {d : Cm} {G i : Nat} (h : MCl B X d) (hG : G < B) (c : Value) : MCl B (X.setCell ⟨G, i, none⟩ c) d := ⟨h.h.set hG, h.b.set hG, fun y hy => (h.x y hy).set hG, h.t.set hG, h.s⟩
end Go.Proofs.YtdfgijdededolabGreatDoor
