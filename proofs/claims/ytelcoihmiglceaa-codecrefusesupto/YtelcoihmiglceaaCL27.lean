import Derived.Test.YtelcoihmiglceaaCL17
import Derived.Test.YtelcoihmiglceaaCL5
import Derived.Test.YtelcoihmiglceaaCL12
/-
  replaced, with what copies each term. (Written by CL18.py.)
-/
namespace Go.Proofs.Ytelcoihmiglceaa
open Go.RowKit
attribute [local go_sem ↓] Go.wp_at_zero Go.wp_at_succ

def Cm.hcs (c : Cm) (M1 : Nat) : Array Value := #[.int .i64 c.head.1.by_.k, .int .i64 c.head.1.by_.n, .string c.head.1.by_.s, .string c.head.1.name, .slice (some ⟨M1, 0, none⟩) c.head.1.args.length c.head.1.args.length]
def zcs : Array Value := #[.int .i64 0, .int .i64 0, .string ⟨#[]⟩, .string ⟨#[]⟩, .slice none 0 0, .slice none 0 0, .slice none 0 0]
/-- How far replaced has come: its boxes, the head, the atoms so far. -/
structure RS (w X : World) (c : Cm) (M1 Bh M2 : Nat) (l : List (At × Value)) : Prop where
  bc : CBlk X w.heap.size c.cs 38
  br : CBlk X (w.heap.size + 1) zcs 38
  bh : CBlk X Bh (c.hcs M1) 34
  a : ABlk X M2 c.body.length l
  t1 : TsN X M2 (.slice (some ⟨M1, 0, none⟩) c.head.1.args.length c.head.1.args.length) c.head.1.args
  ts : ∀ x ∈ l, TsN X M2 x.2 x.1.args ∧ ∀ b, x.2.ownBlock = some b → b < X.heap.size ∧ w.heap.size + 2 ≤ b
  bw : Below w.heap.size w X
  o1 : w.heap.size + 1 < Bh
  o2 : Bh < M2
  m1 : w.heap.size + 2 ≤ M1
  m2 : M1 < Bh
theorem RS.later {w X X' : World} {c : Cm} {M1 Bh M2 : Nat} {l : List (At × Value)} (h : RS w X c M1 Bh M2 l) (hb : Below X.heap.size X X') : RS w X' c M1 Bh M2 l :=
  ⟨h.bc.later hb, h.br.later hb, h.bh.later hb, h.a.later hb, h.t1.later hb, fun x hx => ⟨(h.ts x hx).1.later hb, fun b e => ⟨Nat.lt_of_lt_of_le ((h.ts x hx).2 b e).1 hb.size, ((h.ts x hx).2 b e).2⟩⟩, below_step h.bw hb, h.o1, h.o2, h.m1, h.m2⟩
theorem RS.put {w X : World} {c : Cm} {M1 Bh M2 : Nat} {l : List (At × Value)} (h : RS w X c M1 Bh M2 l) (hl : l.length < c.body.length) (x : At × Value) (hx : TsN X M2 x.2 x.1.args) (hx' : ∀ b, x.2.ownBlock = some b → b < X.heap.size ∧ w.heap.size + 2 ≤ b) : RS w (Aput X M2 l.length x) c M1 Bh M2 (l ++ [x]) := by
  have o1 := h.o1
  have o2 := h.o2
  have n1 : w.heap.size ≠ M2 := by omega
  have n2 : w.heap.size + 1 ≠ M2 := by omega
  have n3 : Bh ≠ M2 := by omega
  have n4 : w.heap.size ≤ M2 := by omega
  refine ⟨((((h.bc.off n1).off n1).off n1).off n1).off n1, ((((h.br.off n2).off n2).off n2).off n2).off n2, ((((h.bh.off n3).off n3).off n3).off n3).off n3, h.a.put hl x, ((((h.t1.off).off).off).off).off, fun y hy => ?_, ((((h.bw.setCell n4 _).setCell n4 _).setCell n4 _).setCell n4 _).setCell n4 _, o1, o2, h.m1, h.m2⟩
  rcases List.mem_append.1 hy with hy | hy
  · exact ⟨((((((h.ts y hy).1).off).off).off).off).off, fun b e => ⟨by simpa [World.setCell] using ((h.ts y hy).2 b e).1, ((h.ts y hy).2 b e).2⟩⟩
  · rw [List.mem_singleton] at hy; subst hy; exact ⟨((((hx.off).off).off).off).off, fun b e => ⟨by simpa [World.setCell] using (hx' b e).1, (hx' b e).2⟩⟩
/-- .. and the tests so far. -/
structure QS (w X : World) (c : Cm) (M1 Bh M2 : Nat) (lb : List (At × Value)) (M3 : Nat) (lt : List Te) : Prop where
  bc : CBlk X w.heap.size c.cs 38
  br : CBlk X (w.heap.size + 1) zcs 38
  bh : CBlk X Bh (c.hcs M1) 34
  a : ABlk X M2 c.body.length lb
  t1 : TsN X M3 (.slice (some ⟨M1, 0, none⟩) c.head.1.args.length c.head.1.args.length) c.head.1.args
  t2 : M1 ≠ M2
  ts : ∀ x ∈ lb, TsN X M3 x.2 x.1.args ∧ x.2.ownBlock ≠ some M2 ∧ ∀ b, x.2.ownBlock = some b → w.heap.size + 2 ≤ b
  e : EBlk X M3 c.tests.length lt
  bw : Below w.heap.size w X
  o1 : w.heap.size + 1 < Bh
  o2 : Bh < M2
  o3 : M2 < M3
  m1 : w.heap.size + 2 ≤ M1
theorem QS.later {w X X' : World} {c : Cm} {M1 Bh M2 M3 : Nat} {l : List (At × Value)} {lt : List Te} (h : QS w X c M1 Bh M2 l M3 lt) (hb : Below X.heap.size X X') : QS w X' c M1 Bh M2 l M3 lt :=
  ⟨h.bc.later hb, h.br.later hb, h.bh.later hb, h.a.later hb, h.t1.later hb, h.t2, fun x hx => ⟨(h.ts x hx).1.later hb, (h.ts x hx).2⟩, h.e.later hb, below_step h.bw hb, h.o1, h.o2, h.o3, h.m1⟩
theorem QS.put {w X : World} {c : Cm} {M1 Bh M2 M3 : Nat} {l : List (At × Value)} {lt : List Te} (h : QS w X c M1 Bh M2 l M3 lt) (hl : lt.length < c.tests.length) (x : Te) : QS w (Eput X M3 lt.length x) c M1 Bh M2 l M3 (lt ++ [x]) := by
  have o1 := h.o1
  have o2 := h.o2
  have o3 := h.o3
  have n1 : w.heap.size ≠ M3 := by omega
  have n2 : w.heap.size + 1 ≠ M3 := by omega
  have n3 : Bh ≠ M3 := by omega
  have n5 : M2 ≠ M3 := by omega
  have n4 : w.heap.size ≤ M3 := by omega
  exact ⟨((((((h.bc.off n1).off n1).off n1).off n1).off n1).off n1).off n1, ((((((h.br.off n2).off n2).off n2).off n2).off n2).off n2).off n2, ((((((h.bh.off n3).off n3).off n3).off n3).off n3).off n3).off n3, ((((((h.a.other n5).other n5).other n5).other n5).other n5).other n5).other n5, ((((((h.t1.off).off).off).off).off).off).off, h.t2, fun y hy => ⟨(((((((h.ts y hy).1.off).off).off).off).off).off).off, (h.ts y hy).2⟩, h.e.put hl x, ((((((h.bw.setCell n4 _).setCell n4 _).setCell n4 _).setCell n4 _).setCell n4 _).setCell n4 _).setCell n4 _, o1, o2, o3, h.m1⟩
/-- A clause copied, at and above B. -/
structure RP (B : Nat) (X : World) (c : Cm) (M1 M2 M3 : Nat) (lb : List (At × Value)) : Prop where
  f : fsts lb = fsts c.body
  a : ABlk X M2 c.body.length lb
  t1 : Ts X (.slice (some ⟨M1, 0, none⟩) c.head.1.args.length c.head.1.args.length) c.head.1.args
  n1 : M1 ≠ M2
  ts : ∀ x ∈ lb, TsN X M2 x.2 x.1.args ∧ ∀ b, x.2.ownBlock = some b → B ≤ b
  e : EBlk X M3 c.tests.length c.tests
  b1 : B ≤ M1
  b2 : B ≤ M2
  b3 : M2 < M3
theorem RP.later {B : Nat} {X X' : World} {c : Cm} {M1 M2 M3 : Nat} {lb : List (At × Value)} (h : RP B X c M1 M2 M3 lb) (hb : Below X.heap.size X X') : RP B X' c M1 M2 M3 lb :=
  ⟨h.f, h.a.later hb, h.t1.later hb, h.n1, fun x hx => ⟨(h.ts x hx).1.later hb, (h.ts x hx).2⟩, h.e.later hb, h.b1, h.b2, h.b3⟩
theorem RP.mono {B B' : Nat} {X : World} {c : Cm} {M1 M2 M3 : Nat} {lb : List (At × Value)} (h : RP B X c M1 M2 M3 lb) (hB : B' ≤ B) : RP B' X c M1 M2 M3 lb :=
  ⟨h.f, h.a, h.t1, h.n1, fun x hx => ⟨(h.ts x hx).1, fun b e => Nat.le_trans hB ((h.ts x hx).2 b e)⟩, h.e, Nat.le_trans hB h.b1, Nat.le_trans hB h.b2, h.b3⟩
theorem RP.off {B g i : Nat} {v : Value} {X : World} {c : Cm} {M1 M2 M3 : Nat} {lb : List (At × Value)} (h : RP B X c M1 M2 M3 lb) (hg : g < B) : RP B (X.setCell ⟨g, i, none⟩ v) c M1 M2 M3 lb := by
  have b1 := h.b1
  have b2 := h.b2
  have b3 := h.b3
  exact ⟨h.f, h.a.other (by omega), h.t1.off (fun e => by have : M1 = g := Option.some.inj e; omega), h.n1, fun x hx => ⟨⟨(h.ts x hx).1.1.off (fun e => by have := (h.ts x hx).2 _ e; omega), (h.ts x hx).1.2⟩, (h.ts x hx).2⟩, h.e.other (by omega), b1, b2, b3⟩
def Cm.cp (c : Cm) (M1 M2 M3 : Nat) (lb : List (At × Value)) : Cm := ⟨(c.head.1, .slice (some ⟨M1, 0, none⟩) c.head.1.args.length c.head.1.args.length), lb, .slice (some ⟨M2, 0, none⟩) c.body.length c.body.length, c.tests, .slice (some ⟨M3, 0, none⟩) c.tests.length c.tests.length⟩
end Go.Proofs.Ytelcoihmiglceaa
/-
  copied; unqualified; what a clause quoted is. (Written by CL19.py.)
-/
namespace Go.Proofs.Ytelcoihmiglceaa
open Go.RowKit
attribute [local go_sem ↓] Go.wp_at_zero Go.wp_at_succ

/-- Cells of an atom's qualifier set anew. -/
abbrev Aby (w : World) (g k : Nat) (t : Tm) : World := ((w.setCell ⟨g, k * 5, none⟩ (.int .i64 t.k)).setCell ⟨g, k * 5 + 1, none⟩ (.int .i64 t.n)).setCell ⟨g, k * 5 + 2, none⟩ (.string t.s)
theorem ABlk.by_ {w : World} {g n k : Nat} {l : List (At × Value)} {x : At × Value} (h : ABlk w g n l) (hx : l[k]? = some x) (hk : k < n) (t : Tm) : ABlk (Aby w g k t) g n (l.set k (⟨t, x.1.name, x.1.args⟩, x.2)) := by
  obtain ⟨C, h1, h2, h3⟩ := h
  have e0 := heap_setCell_same _ _ (k * 5) _ _ (.int .i64 t.k) h1
  have e1 := heap_setCell_same _ _ (k * 5 + 1) _ _ (.int .i64 t.n) e0
  have e2 := heap_setCell_same _ _ (k * 5 + 2) _ _ (.string t.s) e1
  refine ⟨_, e2, by simp [h2], fun i u hu => ?_⟩
  by_cases hik : i = k
  · subst hik
    have hlt : i < l.length := (List.getElem?_eq_some_iff.1 hx).1
    rw [List.getElem?_set_self hlt] at hu
    obtain rfl := Option.some.inj hu
    obtain ⟨q0, q1, q2, q3, q4⟩ := h3 i x hx
    refine ⟨?_, ?_, ?_, ?_, ?_⟩
    · simp [Array.getElem?_setIfInBounds, h2]; omega
    · simp [Array.getElem?_setIfInBounds, h2]; omega
    · simp [Array.getElem?_setIfInBounds, h2]; omega
    · rw [Array.getElem?_setIfInBounds_ne (by omega), Array.getElem?_setIfInBounds_ne (by omega), Array.getElem?_setIfInBounds_ne (by omega)]; exact q3
    · rw [Array.getElem?_setIfInBounds_ne (by omega), Array.getElem?_setIfInBounds_ne (by omega), Array.getElem?_setIfInBounds_ne (by omega)]; exact q4
  · rw [List.getElem?_set_ne (fun e => hik e.symm)] at hu
    obtain ⟨q0, q1, q2, q3, q4⟩ := h3 i u hu
    refine ⟨?_, ?_, ?_, ?_, ?_⟩ <;> rw [Array.getElem?_setIfInBounds_ne (by omega), Array.getElem?_setIfInBounds_ne (by omega), Array.getElem?_setIfInBounds_ne (by omega)] <;> assumption
end Go.Proofs.Ytelcoihmiglceaa
/-
  Quote, of a clause that may be quoted. (Written by CL20.py.)
-/
namespace Go.Proofs.Ytelcoihmiglceaa
open Go.RowKit
attribute [local go_sem ↓] Go.wp_at_zero Go.wp_at_succ

/-- An atom quoted. -/
def qa (u : ByteArray) (x : At) : At := if x.by_ = zt then ⟨⟨2, 0, u⟩, x.name, x.args⟩ else x
theorem ABlk.froz {w : World} {g n i : Nat} {l : List (At × Value)} (h : ABlk w g n l) : w.frozen? ⟨g, i, none⟩ = false := by
  obtain ⟨C, h1, -⟩ := h
  exact frozen_of_row _ _ _ _ _ h1
theorem CBlk.froz {w : World} {g i : Nat} {c : Array Value} {t : TypeId} (h : CBlk w g c t) : w.frozen? ⟨g, i, none⟩ = false := frozen_of_row _ _ _ _ _ h

/-- Quote's boxes. -/
structure QB (w X : World) (c : Cm) (u : ByteArray) : Prop where
  bc : CBlk X w.heap.size c.cs 38
  br : CBlk X (w.heap.size + 1) zcs 38
  bb : CBlk X (w.heap.size + 1 + 1) #[.int .i64 2, .int .i64 0, .string u] 31
  ok : c.ok X
  bw : Below w.heap.size w X
  sz : w.heap.size + 3 ≤ X.heap.size
theorem QB.later {w X X' : World} {c : Cm} {u : ByteArray} (h : QB w X c u) (hb : Below X.heap.size X X') : QB w X' c u :=
  ⟨h.bc.later hb, h.br.later hb, h.bb.later hb, h.ok.later hb, below_step h.bw hb, Nat.le_trans h.sz hb.size⟩
theorem QB.start (w : World) (c : Cm) (u : ByteArray) (h : c.ok w) : QB w (((w.alloc (.cells c.cs 38)).alloc (.cells zcs 38)).alloc (.cells #[.int .i64 2, .int .i64 0, .string u] 31)) c u := by
  have b3 := below_step (below2 w (.cells c.cs 38) (.cells zcs 38)) (below1 _ (.cells #[.int .i64 2, .int .i64 0, .string u] 31))
  have x1 := (CBlk.new w c.cs 38).later (below2 (w.alloc (.cells c.cs 38)) (.cells zcs 38) (.cells #[.int .i64 2, .int .i64 0, .string u] 31))
  have x2 := (CBlk.new (w.alloc (.cells c.cs 38)) zcs 38).later (below1 _ (.cells #[.int .i64 2, .int .i64 0, .string u] 31))
  have x3 := CBlk.new ((w.alloc (.cells c.cs 38)).alloc (.cells zcs 38)) #[.int .i64 2, .int .i64 0, .string u] 31
  rw [show (w.alloc (.cells c.cs 38)).heap.size = w.heap.size + 1 by simp] at x2
  rw [show ((w.alloc (.cells c.cs 38)).alloc (.cells zcs 38)).heap.size = w.heap.size + 1 + 1 by simp] at x3
  exact ⟨x1, x2, x3, h.later b3, b3, by simp⟩
/-- .. and its loop. -/
structure QU (w X : World) (c : Cm) (u : ByteArray) (Bo M1 M2 M3 : Nat) (L : List (At × Value)) : Prop where
  br : CBlk X (w.heap.size + 1) zcs 38
  bb : CBlk X (w.heap.size + 1 + 1) #[.int .i64 2, .int .i64 0, .string u] 31
  bo : CBlk X Bo #[.int .i64 2, .int .i64 0, .string u, .string c.head.1.name, .slice (some ⟨M1, 0, none⟩) c.head.1.args.length c.head.1.args.length, .slice (some ⟨M2, 0, none⟩) c.body.length c.body.length, .slice (some ⟨M3, 0, none⟩) c.tests.length c.tests.length] 38
  a : ABlk X M2 c.body.length L
  t1 : Ts X (.slice (some ⟨M1, 0, none⟩) c.head.1.args.length c.head.1.args.length) c.head.1.args
  n1 : M1 ≠ M2
  ts : ∀ x ∈ L, TsN X M2 x.2 x.1.args ∧ ∀ b, x.2.ownBlock = some b → w.heap.size + 3 ≤ b
  e : EBlk X M3 c.tests.length c.tests
  bw : Below w.heap.size w X
  b1 : w.heap.size + 3 ≤ M1
  b2 : w.heap.size + 3 ≤ M2
  b3 : M2 < M3
  b4 : M3 < Bo
theorem QU.later {w X X' : World} {c : Cm} {u : ByteArray} {Bo M1 M2 M3 : Nat} {L : List (At × Value)} (h : QU w X c u Bo M1 M2 M3 L) (hb : Below X.heap.size X X') : QU w X' c u Bo M1 M2 M3 L :=
  ⟨h.br.later hb, h.bb.later hb, h.bo.later hb, h.a.later hb, h.t1.later hb, h.n1, fun x hx => ⟨(h.ts x hx).1.later hb, (h.ts x hx).2⟩, h.e.later hb, below_step h.bw hb, h.b1, h.b2, h.b3, h.b4⟩
theorem QU.by_ {w X : World} {c : Cm} {u : ByteArray} {Bo M1 M2 M3 j : Nat} {L : List (At × Value)} {x : At × Value} (h : QU w X c u Bo M1 M2 M3 L) (hx : L[j]? = some x) (hj : j < c.body.length) (t : Tm) :
    QU w (Aby X M2 j t) c u Bo M1 M2 M3 (L.set j (⟨t, x.1.name, x.1.args⟩, x.2)) := by
  have b2 := h.b2
  have b3 := h.b3
  have b4 := h.b4
  have n1 : w.heap.size + 1 ≠ M2 := by omega
  have n2 : w.heap.size + 1 + 1 ≠ M2 := by omega
  have n3 : Bo ≠ M2 := by omega
  have n4 : M3 ≠ M2 := by omega
  have nw : w.heap.size ≤ M2 := by omega
  have hm1 : (Value.slice (some ⟨M1, 0, none⟩) c.head.1.args.length c.head.1.args.length).ownBlock ≠ some M2 := fun e => h.n1 (Option.some.inj e)
  refine ⟨((h.br.off n1).off n1).off n1, ((h.bb.off n2).off n2).off n2, ((h.bo.off n3).off n3).off n3, h.a.by_ hx hj t, ((h.t1.off hm1).off hm1).off hm1, h.n1, fun y hy => ?_, ((h.e.other n4).other n4).other n4, ((h.bw.setCell nw _).setCell nw _).setCell nw _, h.b1, b2, b3, b4⟩
  rcases List.mem_or_eq_of_mem_set hy with hy | rfl
  · exact ⟨(((h.ts y hy).1.off).off).off, (h.ts y hy).2⟩
  · have hm := List.mem_of_getElem? hx
    exact ⟨(((h.ts x hm).1.off).off).off, (h.ts x hm).2⟩
end Go.Proofs.Ytelcoihmiglceaa
/-
  What Instance makes of a term.
-/
namespace Go.Proofs.Ytelcoihmiglceaa
open Go.RowKit
attribute [local go_sem ↓] Go.wp_at_zero Go.wp_at_succ

/-- The list of values in its box. -/
def VB (w : World) (P : Nat) (v : Value) (vs : List Tm) : Prop := CBlk w P #[v] 32 ∧ Ts w v vs
theorem VB.later {w w' : World} {P : Nat} {v : Value} {vs : List Tm} (h : VB w P v vs) (hb : Below w.heap.size w w') : VB w' P v vs := ⟨h.1.later hb, h.2.later hb⟩
theorem two3 (w : World) (t : Tm) : CBlk ((w.alloc (.cells #[.int .i64 t.k, .int .i64 t.n, .string t.s] 31)).alloc (.cells #[.int .i64 0, .int .i64 0, .string ⟨#[]⟩] 31)) w.heap.size #[.int .i64 t.k, .int .i64 t.n, .string t.s] 31 ∧
    CBlk ((w.alloc (.cells #[.int .i64 t.k, .int .i64 t.n, .string t.s] 31)).alloc (.cells #[.int .i64 0, .int .i64 0, .string ⟨#[]⟩] 31)) (w.heap.size + 1) #[.int .i64 0, .int .i64 0, .string ⟨#[]⟩] 31 := by
  have x2 := CBlk.new (w.alloc (.cells #[.int .i64 t.k, .int .i64 t.n, .string t.s] 31)) #[.int .i64 0, .int .i64 0, .string ⟨#[]⟩] 31
  rw [show (w.alloc (.cells #[.int .i64 t.k, .int .i64 t.n, .string t.s] 31)).heap.size = w.heap.size + 1 by simp] at x2
  exact ⟨(CBlk.new w _ _).later (below1 _ _), x2⟩
end Go.Proofs.Ytelcoihmiglceaa
