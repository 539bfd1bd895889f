/-
  A clause that is put together; Put, its boxes. (Written by MD10.py.)
-/
import Derived.Test.YtllgffmhbddigaaGreatMD9
namespace Go.Proofs.YtllgffmhbddigaaGreat
open Go.RowKit
attribute [local go_sem ↓] Go.wp_at_zero Go.wp_at_succ

/-- A clause whose lists the call made. -/
structure MCl (B : Nat) (X : World) (d : Cm) : Prop where
  h : OwnT X B d.head.2 d.head.1.args
  b : OwnA X B d.bv d.body
  x : ∀ y ∈ d.body, OwnT X B y.2 y.1.args
  t : OwnE X B d.tv d.tests
  s : ∀ k, d.bv.ownBlock = some k → d.head.2.ownBlock ≠ some k ∧ (∀ y ∈ d.body, y.2.ownBlock ≠ some k) ∧ d.tv.ownBlock ≠ some k
theorem MCl.mono {B B' : Nat} {X : World} {d : Cm} (h : MCl B X d) (hb : B' ≤ B) : MCl B' X d := ⟨h.h.mono hb, h.b.mono hb, fun y hy => (h.x y hy).mono hb, h.t.mono hb, h.s⟩
theorem MCl.ok {B : Nat} {X : World} {d : Cm} (h : MCl B X d) (h1 : d.head.1.args.length < 1000000000000000000) (h2 : d.body.length < 1000000000000000000) (h3 : ∀ y ∈ d.body, y.1.args.length < 1000000000000000000) (h4 : d.tests.length < 1000000000000000000) : d.ok X :=
  ⟨h.h.tsP.ts h1, h.b.as h2 fun y hy => (h.x y hy).tsP.ts (h3 y hy), h.t.es h4⟩
abbrev ucs (h : At × Value) (bu tu : Value) : Array Value := #[.int .i64 h.1.by_.k, .int .i64 h.1.by_.n, .string h.1.by_.s, .string h.1.name, h.2, bu, tu]
/-- How far it is put together. -/
structure US (w X : World) (o : Array Value) (h : At × Value) (bu : Value) (LB : List (At × Value)) (tu : Value) (LT : List Te) : Prop where
  bc : CBlk X w.heap.size o 30
  br : CBlk X (w.heap.size + 1) zcs 30
  bo : CBlk X (w.heap.size + 1 + 1) (ucs h bu tu) 30
  hw : OwnT X (w.heap.size + 3) h.2 h.1.args
  ba : OwnA X (w.heap.size + 3) bu LB
  bt : ∀ x ∈ LB, OwnT X (w.heap.size + 3) x.2 x.1.args
  et : OwnE X (w.heap.size + 3) tu LT
  s1 : ∀ k, bu.ownBlock = some k → h.2.ownBlock ≠ some k ∧ (∀ x ∈ LB, x.2.ownBlock ≠ some k) ∧ tu.ownBlock ≠ some k
  s2 : ∀ k, tu.ownBlock = some k → h.2.ownBlock ≠ some k ∧ (∀ x ∈ LB, x.2.ownBlock ≠ some k)
  bw : Below w.heap.size w X
  sz : w.heap.size + 3 ≤ X.heap.size
theorem US.later {w X X' : World} {o : Array Value} {h : At × Value} {bu : Value} {LB : List (At × Value)} {tu : Value} {LT : List Te} (H : US w X o h bu LB tu LT) (hb : Below X.heap.size X X') : US w X' o h bu LB tu LT :=
  ⟨H.bc.later hb, H.br.later hb, H.bo.later hb, H.hw.later hb, H.ba.later hb, fun x hx => (H.bt x hx).later hb, H.et.later hb, H.s1, H.s2, below_step H.bw hb, Nat.le_trans H.sz hb.size⟩
/-- No list of it lies in block B. -/
structure FrU (h : At × Value) (bu : Value) (LB : List (At × Value)) (tu : Value) (B : Nat) : Prop where
  h : ∀ k, h.2.ownBlock = some k → k ≠ B
  b : ∀ k, bu.ownBlock = some k → k ≠ B
  x : ∀ x ∈ LB, ∀ k, x.2.ownBlock = some k → k ≠ B
  t : ∀ k, tu.ownBlock = some k → k ≠ B
theorem US.fresh {w X : World} {o : Array Value} {h : At × Value} {bu : Value} {LB : List (At × Value)} {tu : Value} {LT : List Te} (H : US w X o h bu LB tu LT) {B : Nat} (hB : X.heap.size ≤ B) : FrU h bu LB tu B :=
  ⟨fun k hk => by have := (H.hw.lt k hk).2; omega, fun k hk => by have := (H.ba.lt k hk).2; omega, fun x hx k hk => by have := ((H.bt x hx).lt k hk).2; omega, fun k hk => by have := (H.et.lt k hk).2; omega⟩
theorem US.far {w X : World} {o : Array Value} {h : At × Value} {bu : Value} {LB : List (At × Value)} {tu : Value} {LT : List Te} {B i : Nat} (H : US w X o h bu LB tu LT) (hB : w.heap.size + 3 ≤ B) (F : FrU h bu LB tu B) (c : Value) : US w (X.setCell ⟨B, i, none⟩ c) o h bu LB tu LT :=
  ⟨H.bc.off (by omega), H.br.off (by omega), H.bo.off (by omega), H.hw.off F.h, H.ba.off F.b, fun x hx => (H.bt x hx).off (F.x x hx), H.et.off F.t, H.s1, H.s2, H.bw.setCell (show w.heap.size ≤ B by omega) _, by simpa [World.setCell] using H.sz⟩
/-- One atom more. -/
theorem US.grow_b {w X X' : World} {o : Array Value} {h : At × Value} {bu bu' : Value} {LB : List (At × Value)} {tu : Value} {LT : List Te} {x : At × Value} (H : US w X o h bu LB tu LT) (hx : OwnT X (w.heap.size + 3) x.2 x.1.args)
    (n1 : ∀ k, bu.ownBlock = some k → x.2.ownBlock ≠ some k) (n2 : ∀ k, tu.ownBlock = some k → x.2.ownBlock ≠ some k) (ho : OwnA X' (w.heap.size + 3) bu' (LB ++ [x])) (hb : Below (w.heap.size + 3) X X') (hg : X.grownBy X' bu.ownBlock)
    (ha : ∀ k, bu'.ownBlock = some k → bu.ownBlock = some k ∨ X.heap.size ≤ k) : US w (X'.setCell ⟨w.heap.size + 1 + 1, 5, none⟩ bu') o h bu' (LB ++ [x]) tu LT := by
  have n3 : w.heap.size + 1 + 1 < w.heap.size + 3 := by omega
  have n4 : w.heap.size ≤ w.heap.size + 1 + 1 := by omega
  have l1 : CBlk X' w.heap.size o 30 := (hb.block _ (by omega)).trans H.bc
  have l2 : CBlk X' (w.heap.size + 1) zcs 30 := (hb.block _ (by omega)).trans H.br
  have l3 : CBlk X' (w.heap.size + 1 + 1) _ 30 := (hb.block _ (by omega)).trans H.bo
  have e1 : ∀ (v : Value), (∀ k, v.ownBlock = some k → k < X.heap.size) → (∀ k, bu.ownBlock = some k → v.ownBlock ≠ some k) → (∀ k, bu'.ownBlock = some k → v.ownBlock ≠ some k) := fun v h1 h2 k hk e => by
    rcases ha k hk with h | h
    · exact h2 k h e
    · have := h1 k e; omega
  have m1 : ∀ v : Value, (∀ k, bu.ownBlock = some k → v.ownBlock ≠ some k) → ∀ k, v.ownBlock = some k → bu.ownBlock ≠ some k := fun v h k hk e => h k e hk
  refine ⟨l1.off (by omega), l2.off (by omega), ?_, (H.hw.grown hg (m1 _ fun k hk => (H.s1 k hk).1)).set n3, ho.set n3, fun y hy => ?_, (H.et.grown hg (m1 _ fun k hk => (H.s1 k hk).2.2)).set n3, fun k hk => ⟨e1 _ (fun k hk => (H.hw.lt k hk).2) (fun k hk => (H.s1 k hk).1) k hk, fun y hy => ?_, e1 _ (fun k hk => (H.et.lt k hk).2) (fun k hk => (H.s1 k hk).2.2) k hk⟩, fun k hk => ⟨(H.s2 k hk).1, fun y hy => ?_⟩, (H.bw.trans (hb.mono (by omega))).setCell n4 _, by simpa [World.setCell] using Nat.le_trans H.sz hb.size⟩
  · have := l3.set 5 bu'
    simpa using this
  · rcases List.mem_append.1 hy with hy | hy
    · exact ((H.bt y hy).grown hg (m1 _ fun k hk => (H.s1 k hk).2.1 y hy)).set n3
    · rw [List.mem_singleton] at hy; subst hy
      exact (hx.grown hg (m1 _ n1)).set n3
  · rcases List.mem_append.1 hy with hy | hy
    · exact e1 _ (fun k hk => ((H.bt y hy).lt k hk).2) (fun k hk => (H.s1 k hk).2.1 y hy) k hk
    · rw [List.mem_singleton] at hy; subst hy
      exact e1 _ (fun k hk => (hx.lt k hk).2) n1 k hk
  · rcases List.mem_append.1 hy with hy | hy
    · exact (H.s2 k hk).2 y hy
    · rw [List.mem_singleton] at hy; subst hy
      exact n2 k hk
/-- One test more. -/
theorem US.grow_t {w X X' : World} {o : Array Value} {h : At × Value} {bu : Value} {LB : List (At × Value)} {tu tu' : Value} {LT LT' : List Te} (H : US w X o h bu LB tu LT) (ho : OwnE X' (w.heap.size + 3) tu' LT') (hb : Below (w.heap.size + 3) X X') (hg : X.grownBy X' tu.ownBlock)
    (ha : ∀ k, tu'.ownBlock = some k → tu.ownBlock = some k ∨ X.heap.size ≤ k) : US w (X'.setCell ⟨w.heap.size + 1 + 1, 6, none⟩ tu') o h bu LB tu' LT' := by
  have n3 : w.heap.size + 1 + 1 < w.heap.size + 3 := by omega
  have n4 : w.heap.size ≤ w.heap.size + 1 + 1 := by omega
  have l1 : CBlk X' w.heap.size o 30 := (hb.block _ (by omega)).trans H.bc
  have l2 : CBlk X' (w.heap.size + 1) zcs 30 := (hb.block _ (by omega)).trans H.br
  have l3 : CBlk X' (w.heap.size + 1 + 1) _ 30 := (hb.block _ (by omega)).trans H.bo
  have e1 : ∀ (v : Value), (∀ k, v.ownBlock = some k → k < X.heap.size) → (∀ k, tu.ownBlock = some k → v.ownBlock ≠ some k) → (∀ k, tu'.ownBlock = some k → v.ownBlock ≠ some k) := fun v h1 h2 k hk e => by
    rcases ha k hk with h | h
    · exact h2 k h e
    · have := h1 k e; omega
  have m1 : ∀ v : Value, (∀ k, tu.ownBlock = some k → v.ownBlock ≠ some k) → ∀ k, v.ownBlock = some k → tu.ownBlock ≠ some k := fun v h k hk e => h k e hk
  have sb : ∀ k, tu.ownBlock = some k → bu.ownBlock ≠ some k := fun k hk e => (H.s1 k e).2.2 hk
  refine ⟨l1.off (by omega), l2.off (by omega), ?_, (H.hw.grown hg (m1 _ fun k hk => (H.s2 k hk).1)).set n3, (H.ba.grown hg (m1 _ sb)).set n3, fun y hy => ((H.bt y hy).grown hg (m1 _ fun k hk => (H.s2 k hk).2 y hy)).set n3, ho.set n3,
    fun k hk => ⟨(H.s1 k hk).1, (H.s1 k hk).2.1, fun e => e1 bu (fun k hk => (H.ba.lt k hk).2) sb k e hk⟩, fun k hk => ⟨e1 _ (fun k hk => (H.hw.lt k hk).2) (fun k hk => (H.s2 k hk).1) k hk, fun y hy => e1 _ (fun k hk => ((H.bt y hy).lt k hk).2) (fun k hk => (H.s2 k hk).2 y hy) k hk⟩, (H.bw.trans (hb.mono (by omega))).setCell n4 _, by simpa [World.setCell] using Nat.le_trans H.sz hb.size⟩
  have := l3.set 6 tu'
  simpa using this
/-- The boxes ahead of the head. -/
structure U0 (w X : World) (o : Array Value) : Prop where
  bc : CBlk X w.heap.size o 30
  br : CBlk X (w.heap.size + 1) zcs 30
  bo : CBlk X (w.heap.size + 1 + 1) zcs 30
  bw : Below w.heap.size w X
  sz : w.heap.size + 3 ≤ X.heap.size
theorem U0.later {w X X' : World} {o : Array Value} (H : U0 w X o) (hb : Below X.heap.size X X') : U0 w X' o := ⟨H.bc.later hb, H.br.later hb, H.bo.later hb, below_step H.bw hb, Nat.le_trans H.sz hb.size⟩
theorem U0.start (w : World) (o : Array Value) : U0 w (((w.alloc (.cells o 30)).alloc (.cells zcs 30)).alloc (.cells zcs 30)) o := by
  have b3 := below_step (below2 w (.cells o 30) (.cells zcs 30)) (below1 _ (.cells zcs 30))
  have x1 := (CBlk.new w o 30).later (below2 (w.alloc (.cells o 30)) (.cells zcs 30) (.cells zcs 30))
  have x2 := (CBlk.new (w.alloc (.cells o 30)) zcs 30).later (below1 _ (.cells zcs 30))
  have x3 := CBlk.new ((w.alloc (.cells o 30)).alloc (.cells zcs 30)) zcs 30
  rw [show (w.alloc (.cells o 30)).heap.size = w.heap.size + 1 by simp] at x2
  rw [show ((w.alloc (.cells o 30)).alloc (.cells zcs 30)).heap.size = w.heap.size + 1 + 1 by simp] at x3
  exact ⟨x1, x2, x3, b3, by simp⟩
abbrev Hput (X : World) (g : Nat) (h : At × Value) : World := ((((X.setCell ⟨g, 0, none⟩ (.int .i64 h.1.by_.k)).setCell ⟨g, 1, none⟩ (.int .i64 h.1.by_.n)).setCell ⟨g, 2, none⟩ (.string h.1.by_.s)).setCell ⟨g, 3, none⟩ (.string h.1.name)).setCell ⟨g, 4, none⟩ h.2
theorem U0.head {w X : World} {o : Array Value} (H : U0 w X o) (h : At × Value) (hh : OwnT X (w.heap.size + 3) h.2 h.1.args) : US w (Hput X (w.heap.size + 1 + 1) h) o h (.slice none 0 0) [] (.slice none 0 0) [] := by
  have n1 : w.heap.size ≠ w.heap.size + 1 + 1 := by omega
  have n2 : w.heap.size + 1 ≠ w.heap.size + 1 + 1 := by omega
  have n3 : w.heap.size + 1 + 1 < w.heap.size + 3 := by omega
  have n4 : w.heap.size ≤ w.heap.size + 1 + 1 := by omega
  refine ⟨((((H.bc.off n1).off n1).off n1).off n1).off n1, ((((H.br.off n2).off n2).off n2).off n2).off n2, ?_, ((((hh.set n3).set n3).set n3).set n3).set n3, OwnA.nil _ _, fun x hx => by simp at hx, OwnE.nil _ _, fun k hk => by simp [Value.ownBlock] at hk, fun k hk => by simp [Value.ownBlock] at hk, ((((H.bw.setCell n4 _).setCell n4 _).setCell n4 _).setCell n4 _).setCell n4 _, by simpa [World.setCell] using H.sz⟩
  have := ((((H.bo.set 0 (.int .i64 h.1.by_.k)).set 1 (.int .i64 h.1.by_.n)).set 2 (.string h.1.by_.s)).set 3 (.string h.1.name)).set 4 h.2
  simpa [zcs] using this
/-- At the end: the clause in its answer's box. -/
theorem US.mc {w X : World} {o : Array Value} {h : At × Value} {bu : Value} {LB : List (At × Value)} {tu : Value} {LT : List Te} (H : US w X o h bu LB tu LT) : MCl (w.heap.size + 3) X ⟨h, LB, bu, LT, tu⟩ := ⟨H.hw, H.ba, H.bt, H.et, H.s1⟩
theorem MCl.set {B : Nat} {X : World} {d : Cm} {G i : Nat} (h : MCl B X d) (hG : G < B) (c : Value) : MCl B (X.setCell ⟨G, i, none⟩ c) d := ⟨h.h.set hG, h.b.set hG, fun y hy => (h.x y hy).set hG, h.t.set hG, h.s⟩
end Go.Proofs.YtllgffmhbddigaaGreat
