/-
  replaced, with what Instance makes of a term. (Written by CL29.py.)
-/
import Derived.Test.YtelcoihmiglceaaCL27
namespace Go.Proofs.Ytelcoihmiglceaa
open Go.RowKit
attribute [local go_sem ↓] Go.wp_at_zero Go.wp_at_succ

/-- How far replaced has come: its boxes, the head, the atoms so far. -/
structure RI (w X : World) (o : Array Value) (k1 kb : Nat) (hd : Tm) (nm : ByteArray) (L1 : List Tm) (M1 Bh M2 : Nat) (l : List (At × Value)) : Prop where
  bc : CBlk X w.heap.size o 38
  br : CBlk X (w.heap.size + 1) zcs 38
  bh : CBlk X Bh #[.int .i64 hd.k, .int .i64 hd.n, .string hd.s, .string nm, .slice (some ⟨M1, 0, none⟩) k1 k1] 34
  a : ABlk X M2 kb l
  t1 : TsN X M2 (.slice (some ⟨M1, 0, none⟩) k1 k1) L1
  ts : ∀ x ∈ l, TsN X M2 x.2 x.1.args ∧ ∀ b, x.2.ownBlock = some b → b < X.heap.size ∧ w.heap.size + 2 ≤ b
  bw : Below w.heap.size w X
  o1 : w.heap.size + 1 < Bh
  o2 : Bh < M2
  m1 : w.heap.size + 2 ≤ M1
  m2 : M1 < Bh
/-- .. and the tests so far. -/
structure QI (w X : World) (o : Array Value) (k1 kb kt : Nat) (hd : Tm) (nm : ByteArray) (L1 : List Tm) (M1 Bh M2 : Nat) (lb : List (At × Value)) (M3 : Nat) (lt : List Te) : Prop where
  bc : CBlk X w.heap.size o 38
  br : CBlk X (w.heap.size + 1) zcs 38
  bh : CBlk X Bh #[.int .i64 hd.k, .int .i64 hd.n, .string hd.s, .string nm, .slice (some ⟨M1, 0, none⟩) k1 k1] 34
  a : ABlk X M2 kb lb
  t1 : TsN X M3 (.slice (some ⟨M1, 0, none⟩) k1 k1) L1
  t2 : M1 ≠ M2
  ts : ∀ x ∈ lb, TsN X M3 x.2 x.1.args ∧ x.2.ownBlock ≠ some M2 ∧ ∀ b, x.2.ownBlock = some b → w.heap.size + 2 ≤ b
  e : EBlk X M3 kt lt
  bw : Below w.heap.size w X
  o1 : w.heap.size + 1 < Bh
  o2 : Bh < M2
  o3 : M2 < M3
  m1 : w.heap.size + 2 ≤ M1
theorem RI.later {w X X' : World} {o : Array Value} {k1 kb : Nat} {hd : Tm} {nm : ByteArray} {L1 : List Tm} {M1 Bh M2 : Nat} {l : List (At × Value)} (h : RI w X o k1 kb hd nm L1 M1 Bh M2 l) (hb : Below X.heap.size X X') : RI w X' o k1 kb hd nm L1 M1 Bh M2 l :=
  ⟨h.bc.later hb, h.br.later hb, h.bh.later hb, h.a.later hb, h.t1.later hb, fun x hx => ⟨(h.ts x hx).1.later hb, fun b e => ⟨Nat.lt_of_lt_of_le ((h.ts x hx).2 b e).1 hb.size, ((h.ts x hx).2 b e).2⟩⟩, below_step h.bw hb, h.o1, h.o2, h.m1, h.m2⟩
theorem RI.put {w X : World} {o : Array Value} {k1 kb : Nat} {hd : Tm} {nm : ByteArray} {L1 : List Tm} {M1 Bh M2 : Nat} {l : List (At × Value)} (h : RI w X o k1 kb hd nm L1 M1 Bh M2 l) (hl : l.length < kb) (x : At × Value) (hx : TsN X M2 x.2 x.1.args) (hx' : ∀ b, x.2.ownBlock = some b → b < X.heap.size ∧ w.heap.size + 2 ≤ b) : RI w (Aput X M2 l.length x) o k1 kb hd nm L1 M1 Bh M2 (l ++ [x]) := by
  have o1 := h.o1
  have o2 := h.o2
  have n1 : w.heap.size ≠ M2 := by omega
  have n2 : w.heap.size + 1 ≠ M2 := by omega
  have n3 : Bh ≠ M2 := by omega
  have n4 : w.heap.size ≤ M2 := by omega
  refine ⟨((((h.bc.off n1).off n1).off n1).off n1).off n1, ((((h.br.off n2).off n2).off n2).off n2).off n2, ((((h.bh.off n3).off n3).off n3).off n3).off n3, h.a.put hl x, ((((h.t1.off).off).off).off).off, fun y hy => ?_, ((((h.bw.setCell n4 _).setCell n4 _).setCell n4 _).setCell n4 _).setCell n4 _, o1, o2, h.m1, h.m2⟩
  rcases List.mem_append.1 hy with hy | hy
  · exact ⟨((((((h.ts y hy).1).off).off).off).off).off, fun b e => ⟨by simpa [World.setCell] using ((h.ts y hy).2 b e).1, ((h.ts y hy).2 b e).2⟩⟩
  · rw [List.mem_singleton] at hy; subst hy; exact ⟨((((hx.off).off).off).off).off, fun b e => ⟨by simpa [World.setCell] using (hx' b e).1, (hx' b e).2⟩⟩
theorem QI.later {w X X' : World} {o : Array Value} {k1 kb kt : Nat} {hd : Tm} {nm : ByteArray} {L1 : List Tm} {M1 Bh M2 M3 : Nat} {l : List (At × Value)} {lt : List Te} (h : QI w X o k1 kb kt hd nm L1 M1 Bh M2 l M3 lt) (hb : Below X.heap.size X X') : QI w X' o k1 kb kt hd nm L1 M1 Bh M2 l M3 lt :=
  ⟨h.bc.later hb, h.br.later hb, h.bh.later hb, h.a.later hb, h.t1.later hb, h.t2, fun x hx => ⟨(h.ts x hx).1.later hb, (h.ts x hx).2⟩, h.e.later hb, below_step h.bw hb, h.o1, h.o2, h.o3, h.m1⟩
theorem QI.put {w X : World} {o : Array Value} {k1 kb kt : Nat} {hd : Tm} {nm : ByteArray} {L1 : List Tm} {M1 Bh M2 M3 : Nat} {l : List (At × Value)} {lt : List Te} (h : QI w X o k1 kb kt hd nm L1 M1 Bh M2 l M3 lt) (hl : lt.length < kt) (x : Te) : QI w (Eput X M3 lt.length x) o k1 kb kt hd nm L1 M1 Bh M2 l M3 (lt ++ [x]) := by
  have o1 := h.o1
  have o2 := h.o2
  have o3 := h.o3
  have n1 : w.heap.size ≠ M3 := by omega
  have n2 : w.heap.size + 1 ≠ M3 := by omega
  have n3 : Bh ≠ M3 := by omega
  have n5 : M2 ≠ M3 := by omega
  have n4 : w.heap.size ≤ M3 := by omega
  exact ⟨((((((h.bc.off n1).off n1).off n1).off n1).off n1).off n1).off n1, ((((((h.br.off n2).off n2).off n2).off n2).off n2).off n2).off n2, ((((((h.bh.off n3).off n3).off n3).off n3).off n3).off n3).off n3, ((((((h.a.other n5).other n5).other n5).other n5).other n5).other n5).other n5, ((((((h.t1.off).off).off).off).off).off).off, h.t2, fun y hy => ⟨(((((((h.ts y hy).1.off).off).off).off).off).off).off, (h.ts y hy).2⟩, h.e.put hl x, ((((((h.bw.setCell n4 _).setCell n4 _).setCell n4 _).setCell n4 _).setCell n4 _).setCell n4 _).setCell n4 _, o1, o2, o3, h.m1⟩
/-- A clause instanced, at and above B. -/
structure RJ (B : Nat) (X : World) (k1 kb kt : Nat) (L1 : List Tm) (F : List At) (E : List Te) (M1 M2 M3 : Nat) (lb : List (At × Value)) : Prop where
  f : fsts lb = F
  a : ABlk X M2 kb lb
  t1 : Ts X (.slice (some ⟨M1, 0, none⟩) k1 k1) L1
  n1 : M1 ≠ M2
  ts : ∀ x ∈ lb, TsN X M2 x.2 x.1.args ∧ ∀ b, x.2.ownBlock = some b → B ≤ b
  e : EBlk X M3 kt E
  b1 : B ≤ M1
  b2 : B ≤ M2
  b3 : M2 < M3
theorem RJ.later {B : Nat} {X X' : World} {k1 kb kt : Nat} {L1 : List Tm} {F : List At} {E : List Te} {M1 M2 M3 : Nat} {lb : List (At × Value)} (h : RJ B X k1 kb kt L1 F E M1 M2 M3 lb) (hb : Below X.heap.size X X') : RJ B X' k1 kb kt L1 F E M1 M2 M3 lb :=
  ⟨h.f, h.a.later hb, h.t1.later hb, h.n1, fun x hx => ⟨(h.ts x hx).1.later hb, (h.ts x hx).2⟩, h.e.later hb, h.b1, h.b2, h.b3⟩
theorem RJ.mono {B B' : Nat} {X : World} {k1 kb kt : Nat} {L1 : List Tm} {F : List At} {E : List Te} {M1 M2 M3 : Nat} {lb : List (At × Value)} (h : RJ B X k1 kb kt L1 F E M1 M2 M3 lb) (hB : B' ≤ B) : RJ B' X k1 kb kt L1 F E M1 M2 M3 lb :=
  ⟨h.f, h.a, h.t1, h.n1, fun x hx => ⟨(h.ts x hx).1, fun b e => Nat.le_trans hB ((h.ts x hx).2 b e)⟩, h.e, Nat.le_trans hB h.b1, Nat.le_trans hB h.b2, h.b3⟩
theorem RJ.off {B g i : Nat} {v : Value} {X : World} {k1 kb kt : Nat} {L1 : List Tm} {F : List At} {E : List Te} {M1 M2 M3 : Nat} {lb : List (At × Value)} (h : RJ B X k1 kb kt L1 F E M1 M2 M3 lb) (hg : g < B) : RJ B (X.setCell ⟨g, i, none⟩ v) k1 kb kt L1 F E M1 M2 M3 lb := by
  have b1 := h.b1
  have b2 := h.b2
  have b3 := h.b3
  exact ⟨h.f, h.a.other (by omega), h.t1.off (fun e => by have : M1 = g := Option.some.inj e; omega), h.n1, fun x hx => ⟨⟨(h.ts x hx).1.1.off (fun e => by have := (h.ts x hx).2 _ e; omega), (h.ts x hx).1.2⟩, (h.ts x hx).2⟩, h.e.other (by omega), b1, b2, b3⟩
end Go.Proofs.Ytelcoihmiglceaa
