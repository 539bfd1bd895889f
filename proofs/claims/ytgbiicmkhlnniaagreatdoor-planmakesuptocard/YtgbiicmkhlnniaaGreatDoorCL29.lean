/-
  replaced, with what Instance makes of a term. (Written by CL29.py.)
-/
import Derived.Test.YtgbiicmkhlnniaaGreatDoorCL28
namespace Go.Proofs.YtgbiicmkhlnniaaGreatDoor
open Go.RowKit
attribute [local go_sem ↓] Go.wp_at_zero Go.wp_at_succ

def insA (vs : List Tm) (x : At) : At := ⟨ins vs x.by_, x.name, x.args.map (ins vs)⟩
def insE (vs : List Tm) (x : Te) : Te := ⟨x.op, ins vs x.l, ins vs x.r⟩
/-- How far replaced has come: its boxes, the head, the atoms so far. -/
structure RI (w X : World) (o : Array Value) (k1 kb : Nat) (hd : Tm) (nm : ByteArray) (L1 : List Tm) (M1 Bh M2 : Nat) (l : List (At × Value)) : Prop where
  bc : CBlk X w.heap.size o 30
  br : CBlk X (w.heap.size + 1) zcs 30
  bh : CBlk X Bh #[.int .i64 hd.k, .int .i64 hd.n, .string hd.s, .string nm, .slice (some ⟨M1, 0, none⟩) k1 k1] 26
  a : ABlk X M2 kb l
  t1 : TsN X M2 (.slice (some ⟨M1, 0, none⟩) k1 k1) L1
  ts : ∀ x ∈ l, TsN X M2 x.2 x.1.args ∧ ∀ b, x.2.ownBlock = some b → b < X.heap.size ∧ w.heap.size + 2 ≤ b
  bw : Below w.heap.size w X
  o1 : w.heap.size + 1 < Bh
  o2 : Bh < M2
  m1 : w.heap.size + 2 ≤ M1
  m2 : M1 < Bh
/-- .. and the tests so far. -/
structure QI (w X : World) (o : Array Value) (k1 kb kt : Nat) (hd : Tm) (nm : ByteArray) (L1 : List Tm) (M1 Bh M2 : Nat) (lb : List (At × Value)) (M3 : Nat) (lt : List Te) : Prop where
  bc : CBlk X w.heap.size o 30
  br : CBlk X (w.heap.size + 1) zcs 30
  bh : CBlk X Bh #[.int .i64 hd.k, .int .i64 hd.n, .string hd.s, .string nm, .slice (some ⟨M1, 0, none⟩) k1 k1] 26
  a : ABlk X M2 kb lb
  t1 : TsN X M3 (.slice (some ⟨M1, 0, none⟩) k1 k1) L1
  t2 : M1 ≠ M2
  ts : ∀ x ∈ lb, TsN X M3 x.2 x.1.args ∧ x.2.ownBlock ≠ some M2 ∧ ∀ b, x.2.ownBlock = some b → w.heap.size + 2 ≤ b
  e : EBlk X M3 kt lt
  bw : Below w.heap.size w X
  o1 : w.heap.size + 1 < Bh
  o2 : Bh < M2
  o3 : M2 < M3
  m1 : w.heap.size + 2 ≤ M1
theorem RI.later {w X X' : World} {o : Array Value} {k1 kb : Nat} {hd : Tm} {nm : ByteArray} {L1 : List Tm} {M1 Bh M2 : Nat} {l : List (At × Value)} (h : RI w X o k1 kb hd nm L1 M1 Bh M2 l) (hb : Below X.heap.size X X') : RI w X' o k1 kb hd nm L1 M1 Bh M2 l :=
  ⟨h.bc.later hb, h.br.later hb, h.bh.later hb, h.a.later hb, h.t1.later hb, fun x hx => ⟨(h.ts x hx).1.later hb, fun b e => ⟨Nat.lt_of_lt_of_le ((h.ts x hx).2 b e).1 hb.size, ((h.ts x hx).2 b e).2⟩⟩, below_step h.bw hb, h.o1, h.o2, h.m1, h.m2⟩
theorem RI.put {w X : World} {o : Array Value} {k1 kb : Nat} {hd : Tm} {nm : ByteArray} {L1 : List Tm} {M1 Bh M2 : Nat} {l : List (At × Value)} (h : RI w X o k1 kb hd nm L1 M1 Bh M2 l) (hl : l.length < kb) (x : At × Value) (hx : TsN X M2 x.2 x.1.args) (hx' : ∀ b, x.2.ownBlock = some b → b < X.heap.size ∧ w.heap.size + 2 ≤ b) : RI w (Aput X M2 l.length x) o k1 kb hd nm L1 M1 Bh M2 (l ++ [x]) := by
  have o1 := h.o1
  have o2 := h.o2
  have n1 : w.heap.size ≠ M2 := by omega
  have n2 : w.heap.size + 1 ≠ M2 := by omega
  have n3 : Bh ≠ M2 := by omega
  have n4 : w.heap.size ≤ M2 := by omega
  refine ⟨((((h.bc.off n1).off n1).off n1).off n1).off n1, ((((h.br.off n2).off n2).off n2).off n2).off n2, ((((h.bh.off n3).off n3).off n3).off n3).off n3, h.a.put hl x, ((((h.t1.off).off).off).off).off, fun y hy => ?_, ((((h.bw.setCell n4 _).setCell n4 _).setCell n4 _).setCell n4 _).setCell n4 _, o1, o2, h.m1, h.m2⟩
  rcases List.mem_append.1 hy with hy | hy
  · exact ⟨((((((h.ts y hy).1).off).off).off).off).off, fun b e => ⟨by simpa [World.setCell] using ((h.ts y hy).2 b e).1, ((h.ts y hy).2 b e).2⟩⟩
  · rw [List.mem_singleton] at hy; subst hy; exact ⟨((((hx.off).off).off).off).off, fun b e => ⟨by simpa [World.setCell] using (hx' b e).1, (hx' b e).2⟩⟩
theorem QI.later {w X X' : World} {o : Array Value} {k1 kb kt : Nat} {hd : Tm} {nm : ByteArray} {L1 : List Tm} {M1 Bh M2 M3 : Nat} {l : List (At × Value)} {lt : List Te} (h : QI w X o k1 kb kt hd nm L1 M1 Bh M2 l M3 lt) (hb : Below X.heap.size X X') : QI w X' o k1 kb kt hd nm L1 M1 Bh M2 l M3 lt :=
  ⟨h.bc.later hb, h.br.later hb, h.bh.later hb, h.a.later hb, h.t1.later hb, h.t2, fun x hx => ⟨(h.ts x hx).1.later hb, (h.ts x hx).2⟩, h.e.later hb, below_step h.bw hb, h.o1, h.o2, h.o3, h.m1⟩
theorem QI.put {w X : World} {o : Array Value} {k1 kb kt : Nat} {hd : Tm} {nm : ByteArray} {L1 : List Tm} {M1 Bh M2 M3 : Nat} {l : List (At × Value)} {lt : List Te} (h : QI w X o k1 kb kt hd nm L1 M1 Bh M2 l M3 lt) (hl : lt.length < kt) (x : Te) : QI w (Eput X M3 lt.length x) o k1 kb kt hd nm L1 M1 Bh M2 l M3 (lt ++ [x]) := by
  have o1 := h.o1
  have o2 := h.o2
  have o3 := h.o3
  have n1 : w.heap.size ≠ M3 := by omega
  have n2 : w.heap.size + 1 ≠ M3 := by omega
  have n3 : Bh ≠ M3 := by omega
  have n5 : M2 ≠ M3 := by omega
  have n4 : w.heap.size ≤ M3 := by omega
  exact ⟨((((((h.bc.off n1).off n1).off n1).off n1).off n1).off n1).off n1, ((((((h.br.off n2).off n2).off n2).off n2).off n2).off n2).off n2, ((((((h.bh.off n3).off n3).off n3).off n3).off n3).off n3).off n3, ((((((h.a.other n5).other n5).other n5).other n5).other n5).other n5).other n5, ((((((h.t1.off).off).off).off).off).off).off, h.t2, fun y hy => ⟨(((((((h.ts y hy).1.off).off).off).off).off).off).off, (h.ts y hy).2⟩, h.e.put hl x, ((((((h.bw.setCell n4 _).setCell n4 _).setCell n4 _).setCell n4 _).setCell n4 _).setCell n4 _).setCell n4 _, o1, o2, o3, h.m1⟩
/-- A clause instanced, at and above B. -/
structure RJ (B : Nat) (X : World) (k1 kb kt : Nat) (L1 : List Tm) (F : List At) (E : List Te) (M1 M2 M3 : Nat) (lb : List (At × Value)) : Prop where
  f : fsts lb = F
  a : ABlk X M2 kb lb
  t1 : Ts X (.slice (some ⟨M1, 0, none⟩) k1 k1) L1
  n1 : M1 ≠ M2
  ts : ∀ x ∈ lb, TsN X M2 x.2 x.1.args ∧ ∀ b, x.2.ownBlock = some b → B ≤ b
  e : EBlk X M3 kt E
  b1 : B ≤ M1
  b2 : B ≤ M2
  b3 : M2 < M3
theorem RJ.mono {B B' : Nat} {X : World} {k1 kb kt : Nat} {L1 : List Tm} {F : List At} {E : List Te} {M1 M2 M3 : Nat} {lb : List (At × Value)} (h : RJ B X k1 kb kt L1 F E M1 M2 M3 lb) (hB : B' ≤ B) : RJ B' X k1 kb kt L1 F E M1 M2 M3 lb :=
  ⟨h.f, h.a, h.t1, h.n1, fun x hx => ⟨(h.ts x hx).1, fun b e => Nat.le_trans hB ((h.ts x hx).2 b e)⟩, h.e, Nat.le_trans hB h.b1, Nat.le_trans hB h.b2, h.b3⟩
theorem RJ.off {B g i : Nat} {v : Value} {X : World} {k1 kb kt : Nat} {L1 : List Tm} {F : List At} {E : List Te} {M1 M2 M3 : Nat} {lb : List (At × Value)} (h : RJ B X k1 kb kt L1 F E M1 M2 M3 lb) (hg : g < B) : RJ B (X.setCell ⟨g, i, none⟩ v) k1 kb kt L1 F E M1 M2 M3 lb := by
  have b1 := h.b1
  have b2 := h.b2
  have b3 := h.b3
  exact ⟨h.f, h.a.other (by omega), h.t1.off (fun e => by have : M1 = g := Option.some.inj e; omega), h.n1, fun x hx => ⟨⟨(h.ts x hx).1.1.off (fun e => by have := (h.ts x hx).2 _ e; omega), (h.ts x hx).1.2⟩, (h.ts x hx).2⟩, h.e.other (by omega), b1, b2, b3⟩
def Cm.cpI (c : Cm) (vs : List Tm) (M1 M2 M3 : Nat) (lb : List (At × Value)) : Cm := ⟨(insA vs c.head.1, .slice (some ⟨M1, 0, none⟩) c.head.1.args.length c.head.1.args.length), lb, .slice (some ⟨M2, 0, none⟩) c.body.length c.body.length, c.tests.map (insE vs), .slice (some ⟨M3, 0, none⟩) c.tests.length c.tests.length⟩
/-- What replaced answers: a clause of its own, each term replaced. -/
def IPost (w : World) (c : Cm) (vs : List Tm) (e : Ending) (w' : World) : Prop :=
  ∃ (M1 M2 M3 : Nat) (lb : List (At × Value)), e = .returned (c.cpI vs M1 M2 M3 lb).v ∧ RJ w.heap.size w' c.head.1.args.length c.body.length c.tests.length (c.head.1.args.map (ins vs)) ((fsts c.body).map (insA vs)) (c.tests.map (insE vs)) M1 M2 M3 lb ∧ Below w.heap.size w w'
set_option maxRecDepth 20000 in
set_option maxHeartbeats 8000000 in
theorem rep_inst (vs : List Tm) (vv : Value) (P : Nat) (c : Cm) (w : World) (hP : VB w P vv vs) (h : c.ok w) (hl1 : c.head.1.args.length ≤ 1900000000000) (hl2 : c.body.length ≤ 1900000000000) (hl3 : c.tests.length ≤ 1900000000000) (hl4 : ∀ x ∈ c.body, x.1.args.length ≤ 1900000000000) :
    Calls Tryz.prog 82 #[c.v, (.func (.func 83) #[] #[.pointer (some ⟨P, 0, none⟩)])] w (IPost w c vs) := by
  obtain ⟨⟨a, hn, cap, h1⟩, ⟨a', cap', h2⟩, ⟨a'', cap'', h3⟩, hbl, htl⟩ := h.shape
  have HOK : Hid (c.ok w) := h
  have HL4 : Hid (∀ x ∈ c.body, x.1.args.length ≤ 1900000000000) := hl4
  have hb2 := below2 w (.cells c.cs 30) (.cells zcs 30)
  have K1 := repIn_inst vs vv P c.head.1 c.head.2 ((w.alloc (.cells c.cs 30)).alloc (.cells zcs 30)) (hP.later hb2) (h.h.later hb2) (by omega)
  have HVB : Hid (VB w P vv vs) := hP
  have z2 : ((w.alloc (.cells c.cs 30)).alloc (.cells zcs 30)).heap.size = w.heap.size + 2 := by simp
  have hmk2 := mk_atoms c.body.length hl2
  have hmk3 := mk_tests c.tests.length hl3
  clear h hl4 hP
  obtain ⟨⟨⟨⟨k, m, s⟩, nm, ls⟩, hx⟩, body, bv, tests, tv⟩ := c
  simp only at h1 h2 h3 hbl htl K1 hl1 hl2 hl3 hmk2 hmk3 hb2 z2
  subst h1 h2 h3
  obtain ⟨⟨bk, bn, bz⟩, hbk⟩ : ∃ b, ins vs ⟨k, m, s⟩ = b := ⟨_, rfl⟩
  rw [hbk] at K1
  have HBK : Hid (ins vs ⟨k, m, s⟩ = ⟨bk, bn, bz⟩) := hbk
  clear hbk
  go_enter Tryz.func82, Tryz.ntmps82
  go_upto_region 2 with (go_at_call 116; refine K1.mono ?_; clear K1; rintro e w1 ⟨M1, rfl, ht1, hm1, hm1', hb1⟩)
  have hbx := two_boxes hb1
  rw [z2] at hm1
  have z1 := hb1.size
  rw [z2] at z1
  have HW1 : Hid (Below w.heap.size w w1) := below_step hb2 hb1
  have g1 := hbx.1.later (below1 w1 (.cells (#[.int .i64 bk, .int .i64 bn, .string bz, .string nm, .slice (some ⟨M1, 0, none⟩) ls.length ls.length]) 26))
  have g2 := hbx.2.later (below1 w1 (.cells (#[.int .i64 bk, .int .i64 bn, .string bz, .string nm, .slice (some ⟨M1, 0, none⟩) ls.length ls.length]) 26))
  have g3 := CBlk.new w1 (#[.int .i64 bk, .int .i64 bn, .string bz, .string nm, .slice (some ⟨M1, 0, none⟩) ls.length ls.length]) 26
  have g4 := ht1.later (below1 w1 (.cells (#[.int .i64 bk, .int .i64 bn, .string bz, .string nm, .slice (some ⟨M1, 0, none⟩) ls.length ls.length]) 26))
  have g5 := below_step HW1.out (below1 w1 (.cells (#[.int .i64 bk, .int .i64 bn, .string bz, .string nm, .slice (some ⟨M1, 0, none⟩) ls.length ls.length]) 26))
  obtain ⟨c0, c1, c2, c3, c4, c5, c6⟩ := cseven g1
  simp only at c0 c1 c2 c3 c4 c5 c6
  go_upto_region 3 with fail
  clear c0 c1 c2 c3 c4 c5 c6
  have f1 := g1.later (below1 (w1.alloc (.cells #[.int .i64 bk, .int .i64 bn, .string bz, .string nm, .slice (some ⟨M1, 0, none⟩) ls.length ls.length] 26)) (.cells (MA body.length) 26))
  have f2 := g2.later (below1 (w1.alloc (.cells #[.int .i64 bk, .int .i64 bn, .string bz, .string nm, .slice (some ⟨M1, 0, none⟩) ls.length ls.length] 26)) (.cells (MA body.length) 26))
  have f3 := g3.later (below1 (w1.alloc (.cells #[.int .i64 bk, .int .i64 bn, .string bz, .string nm, .slice (some ⟨M1, 0, none⟩) ls.length ls.length] 26)) (.cells (MA body.length) 26))
  have f4 := g4.later (below1 (w1.alloc (.cells #[.int .i64 bk, .int .i64 bn, .string bz, .string nm, .slice (some ⟨M1, 0, none⟩) ls.length ls.length] 26)) (.cells (MA body.length) 26))
  have f5 := below_step g5 (below1 (w1.alloc (.cells #[.int .i64 bk, .int .i64 bn, .string bz, .string nm, .slice (some ⟨M1, 0, none⟩) ls.length ls.length] 26)) (.cells (MA body.length) 26))
  have f6 := ABlk.start (heap_alloc_new (w1.alloc (.cells #[.int .i64 bk, .int .i64 bn, .string bz, .string nm, .slice (some ⟨M1, 0, none⟩) ls.length ls.length] 26)) (.cells (MA body.length) 26))
  rw [show (w1.alloc (.cells #[.int .i64 bk, .int .i64 bn, .string bz, .string nm, .slice (some ⟨M1, 0, none⟩) ls.length ls.length] 26)).heap.size = w1.heap.size + 1 by simp] at f6
  obtain ⟨Bh, hBh⟩ : ∃ B, w1.heap.size = B := ⟨_, rfl⟩
  rw [hBh] at f3 f6 hm1' z1
  have hRS : RI w ((w1.alloc (.cells #[.int .i64 bk, .int .i64 bn, .string bz, .string nm, .slice (some ⟨M1, 0, none⟩) ls.length ls.length] 26)).alloc (.cells (MA body.length) 26)) #[.int .i64 k, .int .i64 m, .string s, .string nm, .slice a hn cap, .slice a' body.length cap', .slice a'' tests.length cap''] ls.length body.length ⟨bk, bn, bz⟩ nm (ls.map (ins vs)) M1 Bh (Bh + 1) [] :=
    ⟨f1, f2, f3, f6, ⟨f4, fun e => by have : M1 = Bh + 1 := Option.some.inj e; omega⟩, fun x hx => by simp at hx, f5, by omega, by omega, by omega, by omega⟩
  obtain ⟨c0, c1, c2, c3, c4, c5, c6⟩ := cseven f1
  simp only at c0 c1 c2 c3 c4 c5 c6
  have HRS0 : Hid (RI w ((w1.alloc (.cells #[.int .i64 bk, .int .i64 bn, .string bz, .string nm, .slice (some ⟨M1, 0, none⟩) ls.length ls.length] 26)).alloc (.cells (MA body.length) 26)) #[.int .i64 k, .int .i64 m, .string s, .string nm, .slice a hn cap, .slice a' body.length cap', .slice a'' tests.length cap''] ls.length body.length ⟨bk, bn, bz⟩ nm (ls.map (ins vs)) M1 Bh (Bh + 1) []) := hRS
  clear f1 f2 f3 f4 f5 f6 g1 g2 g3 g4 g5 hbx ht1 hRS hb1 hb2
  go_wp2
  revert HRS0 c0 c1 c2 c3 c4 c5 c6
  rw [hBh]
  generalize (w1.alloc (.cells #[.int .i64 bk, .int .i64 bn, .string bz, .string nm, .slice (some ⟨M1, 0, none⟩) ls.length ls.length] 26)).alloc (.cells (MA body.length) 26) = X1
  intro c0 c1 c2 c3 c4 c5 c6 HRS0
  clear c0 c1 c2 c3 c4 c5 c6 hBh
  go_loopg [23] body.length (fun g i wr => ∃ (j : Nat) (l : List (At × Value)), j + g = body.length ∧ i = .int .i64 (j : Int) ∧ l.length = j ∧ fsts l = ((fsts body).map (insA vs)).take j ∧ RI w wr #[.int .i64 k, .int .i64 m, .string s, .string nm, .slice a hn cap, .slice a' body.length cap', .slice a'' tests.length cap''] ls.length body.length ⟨bk, bn, bz⟩ nm (ls.map (ins vs)) M1 Bh (Bh + 1) l)
  case atStart => exact ⟨0, [], by omega, rfl, rfl, rfl, HRS0.out⟩
  case round =>
    obtain ⟨j, l, hj, rfl, hlj, hfl, hrs⟩ := hrel
    have HR : Hid (RI w wr #[.int .i64 k, .int .i64 m, .string s, .string nm, .slice a hn cap, .slice a' body.length cap', .slice a'' tests.length cap''] ls.length body.length ⟨bk, bn, bz⟩ nm (ls.map (ins vs)) M1 Bh (Bh + 1) l) := hrs
    have HFL : Hid (fsts l = ((fsts body).map (insA vs)).take j) := hfl
    have HO1 := hrs.o1
    have HM2 := hrs.m2
    clear hfl HRS0
    cases gk with
    | succ g =>
      have hlt : j < body.length := by omega
      have i0 : (0 : Int) ≤ (j : Int) := by omega
      have i1 : (j : Int) < (body.length : Int) := by omega
      obtain ⟨x, hx⟩ : ∃ x, body[j]? = some x := ⟨_, List.getElem?_eq_getElem hlt⟩
      have hcl4 := HL4.out x (List.mem_of_getElem? hx)
      obtain ⟨a1, cap1, hv, -, hm, hts⟩ := (HOK.out.later hrs.bw).b
      simp only [Value.slice.injEq, true_and] at hv
      obtain ⟨rfl, rfl⟩ := hv
      rcases hm with hm | ⟨b, o, rfl, hm⟩
      · simp only at hm; rw [hm] at hlt; simp at hlt
      obtain ⟨e0, e1, e2, e3, e4⟩ := hm.2 j x hx
      have tsx := hts x (List.mem_of_getElem? hx)
      have hK := repIn_inst vs vv P x.1 x.2 (wr.alloc (.cells #[.int .i64 x.1.by_.k, .int .i64 x.1.by_.n, .string x.1.by_.s, .string x.1.name, x.2] 26)) (HVB.out.later (below_step hrs.bw (below1 _ _))) (tsx.later (below1 _ _)) (by omega)
      have zY : (wr.alloc (.cells #[.int .i64 x.1.by_.k, .int .i64 x.1.by_.n, .string x.1.by_.s, .string x.1.name, x.2] 26)).heap.size = wr.heap.size + 1 := by simp
      have hzm := hrs.a.lt
      have HX : Hid (body[j]? = some x) := hx
      obtain ⟨ax, cx, hax, -⟩ := tsx
      clear hm hts hx hrs hcl4
      obtain ⟨⟨⟨kx, mx, sx⟩, nx, lx⟩, vx⟩ := x
      simp only at e0 e1 e2 e3 e4 hax hK zY
      subst hax
      obtain ⟨⟨ck, cn, cz⟩, hck⟩ : ∃ b, ins vs ⟨kx, mx, sx⟩ = b := ⟨_, rfl⟩
      rw [hck] at hK
      have HCX : Hid (ins vs ⟨kx, mx, sx⟩ = ⟨ck, cn, cz⟩) := hck
      clear hck
      go_wp2_with (go_at_call 116; refine hK.mono ?_; clear hK; rintro e w2 ⟨M, rfl, ht, hm, hm', hb⟩; rw [zY] at hm; have HR2 : Hid (RI w w2 #[.int .i64 k, .int .i64 m, .string s, .string nm, .slice a hn cap, .slice (some ⟨b, o, none⟩) body.length cap', .slice a'' tests.length cap''] ls.length body.length ⟨bk, bn, bz⟩ nm (ls.map (ins vs)) M1 Bh (Bh + 1) l) := (HR.out.later (below1 _ _)).later hb; have hcl := fun i (hi : i < 5) => HR2.out.a.cells (j := j * 5 + i) (by show j * 5 + i < body.length * 5; omega); obtain ⟨⟨dd0, ue0⟩, ve0⟩ := hcl 0 (by omega); obtain ⟨⟨dd1, ue1⟩, ve1⟩ := hcl 1 (by omega); obtain ⟨⟨dd2, ue2⟩, ve2⟩ := hcl 2 (by omega); obtain ⟨⟨dd3, ue3⟩, ve3⟩ := hcl 3 (by omega); obtain ⟨⟨dd4, ue4⟩, ve4⟩ := hcl 4 (by omega); have uz0 : w2.cell? ⟨Bh + 1, j * 5, none⟩ = some dd0 := ue0; have vz0 : w2.frozen? ⟨Bh + 1, j * 5, none⟩ = false := ve0; clear hcl ue0 ve0; have hput := HR2.out.put (by rw [hlj]; exact hlt) (At.mk ⟨ck, cn, cz⟩ nx (lx.map (ins vs)), .slice (some ⟨M, 0, none⟩) lx.length lx.length) ⟨ht, fun e => by have : M = Bh + 1 := Option.some.inj e; omega⟩ (fun q e => by have : M = q := Option.some.inj e; constructor <;> omega); rw [hlj] at hput; have HP : Hid (RI w (Aput w2 (Bh + 1) j (At.mk ⟨ck, cn, cz⟩ nx (lx.map (ins vs)), .slice (some ⟨M, 0, none⟩) lx.length lx.length)) #[.int .i64 k, .int .i64 m, .string s, .string nm, .slice a hn cap, .slice (some ⟨b, o, none⟩) body.length cap', .slice a'' tests.length cap''] ls.length body.length ⟨bk, bn, bz⟩ nm (ls.map (ins vs)) M1 Bh (Bh + 1) (l ++ [(At.mk ⟨ck, cn, cz⟩ nx (lx.map (ins vs)), .slice (some ⟨M, 0, none⟩) lx.length lx.length)])) := hput; clear hput ht hb)
      go_roundg g
      case measure => omega
      case rel => exact ⟨j + 1, _, by omega, by go_num, by rw [List.length_append, hlj]; rfl, by rw [fsts_app, HFL.out, take_next (l := (fsts body).map (insA vs)) (by rw [List.getElem?_map, fsts_get HX.out]; rfl)]; simp only [insA, HCX.out]; rfl, HP.out⟩
    | zero =>
      obtain rfl : j = body.length := by omega
      have hz : ¬ ((body.length : Int) < (body.length : Int)) := by omega
      obtain ⟨c0, c1, c2, c3, c4, c5, c6⟩ := cseven hrs.bc
      have hfl : fsts l = (fsts body).map (insA vs) := by have := HFL.out; rw [List.take_of_length_le (by simp [fsts])] at this; exact this
      have hzm := hrs.a.lt
      have hzc := hrs.bc.lt
      have hb3 := below1 wr (.cells (ME tests.length) 46)
      have hQS : QI w (wr.alloc (.cells (ME tests.length) 46)) #[.int .i64 k, .int .i64 m, .string s, .string nm, .slice a hn cap, .slice a' body.length cap', .slice a'' tests.length cap''] ls.length body.length tests.length ⟨bk, bn, bz⟩ nm (ls.map (ins vs)) M1 Bh (Bh + 1) l wr.heap.size [] :=
        ⟨hrs.bc.later hb3, hrs.br.later hb3, hrs.bh.later hb3, hrs.a.later hb3, ⟨hrs.t1.1.later hb3, fun e => by have : M1 = wr.heap.size := Option.some.inj e; omega⟩, by omega,
          fun x hx => ⟨⟨(hrs.ts x hx).1.1.later hb3, fun e => by have := (hrs.ts x hx).2 _ e; omega⟩, (hrs.ts x hx).1.2, fun b e => ((hrs.ts x hx).2 b e).2⟩, EBlk.start (heap_alloc_new wr _), below_step hrs.bw hb3, hrs.o1, by omega, by omega, hrs.m1⟩
      have HQ0 : Hid (QI w (wr.alloc (.cells (ME tests.length) 46)) #[.int .i64 k, .int .i64 m, .string s, .string nm, .slice a hn cap, .slice a' body.length cap', .slice a'' tests.length cap''] ls.length body.length tests.length ⟨bk, bn, bz⟩ nm (ls.map (ins vs)) M1 Bh (Bh + 1) l wr.heap.size []) := hQS
      have HFB : Hid (fsts l = (fsts body).map (insA vs)) := hfl
      have HLJ : Hid (l.length = body.length) := hlj
      clear hQS hrs HFL hfl hlj
      go_wp2
      clear c0 c1 c2 c3 c4 c5 c6
      obtain ⟨M3, hM3⟩ : ∃ M, wr.heap.size = M := ⟨_, rfl⟩
      revert HQ0
      rw [hM3]
      generalize wr.alloc (.cells (ME tests.length) 46) = X2
      intro HQ0
      have hM31 := HQ0.out.o3
      clear hM3 hzm hzc
      go_loopg [42] tests.length (fun g i wr => ∃ (j : Nat) (lt : List Te), j + g = tests.length ∧ i = .int .i64 (j : Int) ∧ lt.length = j ∧ lt = (tests.map (insE vs)).take j ∧ QI w wr #[.int .i64 k, .int .i64 m, .string s, .string nm, .slice a hn cap, .slice a' body.length cap', .slice a'' tests.length cap''] ls.length body.length tests.length ⟨bk, bn, bz⟩ nm (ls.map (ins vs)) M1 Bh (Bh + 1) l M3 lt)
      case atStart => exact ⟨0, [], by omega, rfl, rfl, rfl, HQ0.out⟩
      case round =>
        obtain ⟨j, lt, hj, rfl, hlj, hfl, hqs⟩ := hrel
        have HQ : Hid (QI w wr #[.int .i64 k, .int .i64 m, .string s, .string nm, .slice a hn cap, .slice a' body.length cap', .slice a'' tests.length cap''] ls.length body.length tests.length ⟨bk, bn, bz⟩ nm (ls.map (ins vs)) M1 Bh (Bh + 1) l M3 lt) := hqs
        have HL : Hid (lt = (tests.map (insE vs)).take j) := hfl
        clear hfl HQ0
        cases gk with
        | succ g =>
          have hlt : j < tests.length := by omega
          have i0 : (0 : Int) ≤ (j : Int) := by omega
          have i1 : (j : Int) < (tests.length : Int) := by omega
          obtain ⟨x, hx⟩ : ∃ x, tests[j]? = some x := ⟨_, List.getElem?_eq_getElem hlt⟩
          obtain ⟨a1, cap1, hv, -, hm⟩ := (HOK.out.later hqs.bw).t
          simp only [Value.slice.injEq, true_and] at hv
          obtain ⟨rfl, rfl⟩ := hv
          rcases hm with hm | ⟨b, o, rfl, hm⟩
          · simp only at hm; rw [hm] at hlt; simp at hlt
          obtain ⟨e0, e1, e2, e3, e4, e5, e6⟩ := hm.2 j x hx
          have HT : Hid (tests[j]? = some x) := hx
          have hM3lt := hqs.e.lt
          clear hm hx hqs
          obtain ⟨op, ⟨kl, ml, sl⟩, ⟨kr, mr, sr⟩⟩ := x
          simp only at e0 e1 e2 e3 e4 e5 e6
          obtain ⟨⟨pk, pn, pz⟩, hpl⟩ : ∃ b, ins vs ⟨kl, ml, sl⟩ = b := ⟨_, rfl⟩
          obtain ⟨⟨rk, rn, rz⟩, hpr⟩ : ∃ b, ins vs ⟨kr, mr, sr⟩ = b := ⟨_, rfl⟩
          have HPL : Hid (ins vs ⟨kl, ml, sl⟩ = ⟨pk, pn, pz⟩) := hpl
          have HPR : Hid (ins vs ⟨kr, mr, sr⟩ = ⟨rk, rn, rz⟩) := hpr
          clear hpl hpr
          go_upto_region 12 with fail
          clear e0 e1 e2 e3 e4 e5 e6
          have hBx := CBlk.new wr #[.int .i64 op, .int .i64 kl, .int .i64 ml, .string sl, .int .i64 kr, .int .i64 mr, .string sr] 46
          have HSY : Hid (QI w (wr.alloc (.cells #[.int .i64 op, .int .i64 kl, .int .i64 ml, .string sl, .int .i64 kr, .int .i64 mr, .string sr] 46)) #[.int .i64 k, .int .i64 m, .string s, .string nm, .slice a hn cap, .slice a' body.length cap', .slice (some ⟨b, o, none⟩) tests.length cap''] ls.length body.length tests.length ⟨bk, bn, bz⟩ nm (ls.map (ins vs)) M1 Bh (Bh + 1) l M3 lt) := HQ.out.later (below1 _ _)
          obtain ⟨Bx, hBxe⟩ : ∃ B, wr.heap.size = B := ⟨_, rfl⟩
          revert hBx HSY
          rw [hBxe] at hM3lt ⊢
          generalize wr.alloc (.cells #[.int .i64 op, .int .i64 kl, .int .i64 ml, .string sl, .int .i64 kr, .int .i64 mr, .string sr] 46) = Y
          intro hBx HSY
          clear hBxe
          refine wp_region_held_drew (S := fun w' => CBlk w' Bx #[.int .i64 op, .int .i64 kl, .int .i64 ml, .string sl, .int .i64 kr, .int .i64 mr, .string sr] 46) (by kernel_rfl) hBx (fun hH => ?_)
          have HSV0 : Hid (QI w Y.drew #[.int .i64 k, .int .i64 m, .string s, .string nm, .slice a hn cap, .slice a' body.length cap', .slice (some ⟨b, o, none⟩) tests.length cap''] ls.length body.length tests.length ⟨bk, bn, bz⟩ nm (ls.map (ins vs)) M1 Bh (Bh + 1) l M3 lt) := HSY.out.later (Below.refl _ _).drew
          revert hH HSV0
          generalize Y.drew = V0
          intro hH HSV0
          clear HSY hBx
          refine wpAnyH_take (i := 0) (oi := ⟨_, _, _, _, _, _⟩) (v := .slice (some ⟨M3, 0, none⟩) tests.length tests.length) rfl (by kernel_rfl) (by kernel_rfl) (by kernel_rfl) (fun _ _ _ h => h) (Or.inl ⟨by rfl, fun w' h => by clear h; go_simp⟩) hH ?_
          simp only [Act.put, List.setIfInBounds_toArray, List.set_cons_zero, List.set_cons_succ]
          refine wpAnyH_take (i := 1) (oi := ⟨_, _, _, _, _, _⟩) (v := .int .i64 (j : Int)) rfl (by kernel_rfl) (by kernel_rfl) (by kernel_rfl) (fun _ _ _ h => h) (Or.inl ⟨by rfl, fun w' h => by clear h; go_simp⟩) hH ?_
          simp only [Act.put, List.setIfInBounds_toArray, List.set_cons_zero, List.set_cons_succ]
          refine wpAnyH_take (i := 2) (oi := ⟨_, _, _, _, _, _⟩) (v := .pointer (some ⟨Bx, 0, none⟩)) rfl (by kernel_rfl) (by kernel_rfl) (by kernel_rfl) (fun _ _ _ h => h) (Or.inl ⟨by rfl, fun w' h => by clear h; go_simp⟩) hH ?_
          simp only [Act.put, List.setIfInBounds_toArray, List.set_cons_zero, List.set_cons_succ]
          refine wpAnyH_take (i := 3) (oi := ⟨_, _, _, _, _, _⟩) (v := .int .i64 op) rfl (by kernel_rfl) (by kernel_rfl) (by kernel_rfl) (fun _ _ _ h => h) (Or.inl ⟨by rfl, fun w' h => by obtain ⟨a0, a1, a2, a3, a4, a5, a6⟩ := cseven h; clear h; go_simp⟩) hH ?_
          simp only [Act.put, List.setIfInBounds_toArray, List.set_cons_zero, List.set_cons_succ]
          refine wpAnyH_take (i := 4) (oi := ⟨_, _, _, _, _, _⟩) (v := (.func (.func 83) #[] #[.pointer (some ⟨P, 0, none⟩)])) rfl (by kernel_rfl) (by kernel_rfl) (by kernel_rfl) (fun _ _ _ h => h) (Or.inl ⟨by rfl, fun w' h => by clear h; go_simp⟩) hH ?_
          simp only [Act.put, List.setIfInBounds_toArray, List.set_cons_zero, List.set_cons_succ]
          refine wpAnyH_take (i := 5) (oi := ⟨_, _, _, _, _, _⟩) (v := .pointer (some ⟨Bx, 1, none⟩)) rfl (by kernel_rfl) (by kernel_rfl) (by kernel_rfl) (fun _ _ _ h => h) (Or.inl ⟨by rfl, fun w' h => by clear h; go_simp⟩) hH ?_
          simp only [Act.put, List.setIfInBounds_toArray, List.set_cons_zero, List.set_cons_succ]
          refine wpAnyH_take (i := 6) (oi := ⟨_, _, _, _, _, _⟩) (v := Tm.v ⟨kl, ml, sl⟩) rfl (by kernel_rfl) (by kernel_rfl) (by kernel_rfl) (fun _ _ _ h => h) (Or.inl ⟨by rfl, fun w' h => by obtain ⟨a0, a1, a2, a3, a4, a5, a6⟩ := cseven h; clear h; go_simp⟩) hH ?_
          simp only [Act.put, List.setIfInBounds_toArray, List.set_cons_zero, List.set_cons_succ]
          refine wpAnyH_take (i := 8) (oi := ⟨_, _, _, _, _, _⟩) (v := (.func (.func 83) #[] #[.pointer (some ⟨P, 0, none⟩)])) rfl (by kernel_rfl) (by kernel_rfl) (by kernel_rfl) (fun _ _ _ h => h) (Or.inl ⟨by rfl, fun w' h => by clear h; go_simp⟩) hH ?_
          simp only [Act.put, List.setIfInBounds_toArray, List.set_cons_zero, List.set_cons_succ]
          refine wpAnyH_take (i := 9) (oi := ⟨_, _, _, _, _, _⟩) (v := .pointer (some ⟨Bx, 4, none⟩)) rfl (by kernel_rfl) (by kernel_rfl) (by kernel_rfl) (fun _ _ _ h => h) (Or.inl ⟨by rfl, fun w' h => by clear h; go_simp⟩) hH ?_
          simp only [Act.put, List.setIfInBounds_toArray, List.set_cons_zero, List.set_cons_succ]
          refine wpAnyH_take (i := 10) (oi := ⟨_, _, _, _, _, _⟩) (v := Tm.v ⟨kr, mr, sr⟩) rfl (by kernel_rfl) (by kernel_rfl) (by kernel_rfl) (fun _ _ _ h => h) (Or.inl ⟨by rfl, fun w' h => by obtain ⟨a0, a1, a2, a3, a4, a5, a6⟩ := cseven h; clear h; go_simp⟩) hH ?_
          simp only [Act.put, List.setIfInBounds_toArray, List.set_cons_zero, List.set_cons_succ]
          refine wpAnyH_ready (rs := [7]) (by kernel_rfl) (by simp) ?_
          refine (AllReadyH.cons (o := ⟨_, _, _, _, _, _⟩) rfl (fun K hK => ?_) AllReadyH.nil)
          go_simp
          refine (ins1_any vs vv P ⟨kl, ml, sl⟩ _ (HVB.out.later HSV0.out.bw)).mono ?_
          rw [HPL.out]
          rintro x1 V1 ⟨rfl, hb⟩
          have HSV1 : Hid (QI _ V1 _ _ _ _ _ _ _ _ _ _ _ _ _) := HSV0.out.later hb
          refine hK.out _ _ (CBlk.later hH hb) (fun hH => ?_)
          clear hK K hb
          refine wpAnyH_ready (rs := [11]) (by kernel_rfl) (by simp) ?_
          refine (AllReadyH.cons (o := ⟨_, _, _, _, _, _⟩) rfl (fun K hK => ?_) AllReadyH.nil)
          go_simp
          refine (ins1_any vs vv P ⟨kr, mr, sr⟩ _ (HVB.out.later HSV1.out.bw)).mono ?_
          rw [HPR.out]
          rintro x1 V2 ⟨rfl, hb⟩
          have HSV2 : Hid (QI _ V2 _ _ _ _ _ _ _ _ _ _ _ _ _) := HSV1.out.later hb
          refine hK.out _ _ (CBlk.later hH hb) (fun hH => ?_)
          clear hK K hb
          refine wpAnyH_take (i := 12) (oi := ⟨_, _, _, _, _, _⟩) (v := .agg #[.int .i64 op, .int .i64 pk, .int .i64 pn, .string pz, .int .i64 rk, .int .i64 rn, .string rz]) rfl (by kernel_rfl) (by kernel_rfl) (by kernel_rfl) (fun _ _ _ h => h) (Or.inl ⟨by rfl, fun w' h => by clear h; go_simp⟩) hH ?_
          simp only [Act.put, List.setIfInBounds_toArray, List.set_cons_zero, List.set_cons_succ]
          refine wpAnyH_take (i := 13) (oi := ⟨_, _, _, _, _, _⟩) (v := .pointer (some ⟨M3, j * 7, none⟩)) rfl (by kernel_rfl) (by kernel_rfl) (by kernel_rfl) (fun _ _ _ h => h) (Or.inl ⟨by rfl, fun w' h => by clear h; go_simp⟩) hH ?_
          simp only [Act.put, List.setIfInBounds_toArray, List.set_cons_zero, List.set_cons_succ]
          have hcl := fun i (hi : i < 7) => HSV2.out.e.cells (j := j * 7 + i) (by show j * 7 + i < tests.length * 7; omega)
          obtain ⟨⟨d0, e0⟩, f0⟩ := hcl 0 (by omega)
          obtain ⟨⟨d1, e1⟩, f1⟩ := hcl 1 (by omega)
          obtain ⟨⟨d2, e2⟩, f2⟩ := hcl 2 (by omega)
          obtain ⟨⟨d3, e3⟩, f3⟩ := hcl 3 (by omega)
          obtain ⟨⟨d4, e4⟩, f4⟩ := hcl 4 (by omega)
          obtain ⟨⟨d5, e5⟩, f5⟩ := hcl 5 (by omega)
          obtain ⟨⟨d6, e6⟩, f6⟩ := hcl 6 (by omega)
          have ez0 : V2.cell? ⟨M3, j * 7, none⟩ = some d0 := e0
          have fz0 : V2.frozen? ⟨M3, j * 7, none⟩ = false := f0
          clear hcl e0 f0
          refine wpAnyH_ready (rs := [14]) (by kernel_rfl) (by simp) ?_
          refine (AllReadyH.cons (o := ⟨_, _, _, _, _, _⟩) rfl (fun K hK => ?_) AllReadyH.nil)
          go_simp
          clear ez0 fz0 e1 f1 e2 f2 e3 f3 e4 f4 e5 f5 e6 f6
          have hput := HSV2.out.put (by rw [hlj]; exact hlt) (Te.mk op ⟨pk, pn, pz⟩ ⟨rk, rn, rz⟩)
          rw [hlj] at hput
          have HP : Hid (QI w (Eput V2 M3 j (Te.mk op ⟨pk, pn, pz⟩ ⟨rk, rn, rz⟩)) #[.int .i64 k, .int .i64 m, .string s, .string nm, .slice a hn cap, .slice a' body.length cap', .slice (some ⟨b, o, none⟩) tests.length cap''] ls.length body.length tests.length ⟨bk, bn, bz⟩ nm (ls.map (ins vs)) M1 Bh (Bh + 1) l M3 (lt ++ [Te.mk op ⟨pk, pn, pz⟩ ⟨rk, rn, rz⟩])) := hput
          clear hput
          refine hK.out _ _ (((((((CBlk.off hH (by omega)).off (by omega)).off (by omega)).off (by omega)).off (by omega)).off (by omega)).off (by omega)) (fun hH => ?_)
          clear hK K
          refine wpAnyH_done (by kernel_rfl) ?_ _
          clear hH
          go_wp2
          go_roundg g
          case measure => omega
          case rel => exact ⟨j + 1, _, by omega, by go_num, by rw [List.length_append, hlj]; rfl, by rw [HL.out, take_next (l := tests.map (insE vs)) (by rw [List.getElem?_map, HT.out]; rfl)]; simp only [insE, HPL.out, HPR.out], HP.out⟩
        | zero =>
          obtain rfl : j = tests.length := by omega
          have hz : ¬ ((tests.length : Int) < (tests.length : Int)) := by omega
          have hlt' : lt = tests.map (insE vs) := by have := HL.out; rw [List.take_of_length_le (by simp)] at this; exact this
          subst hlt'
          obtain ⟨⟨q0, q1, q2, q3, q4⟩, -⟩ := fiveF hqs.bh
          obtain ⟨r0, r1, r2, r3, r4, r5, r6⟩ := cseven hqs.br
          have hfr : ∀ i, wr.frozen? ⟨w.heap.size + 1, i, none⟩ = false := fun i => frozen_of_row _ _ _ _ _ hqs.br
          have s0 := hfr 0
          have s1 := hfr 1
          have s2 := hfr 2
          have s3 := hfr 3
          have s4 := hfr 4
          have s5 := hfr 5
          have s6 := hfr 6
          simp only at q0 q1 q2 q3 q4 r0 r1 r2 r3 r4 r5 r6
          clear hfr hqs
          go_wp2
          have hq := HQ.out
          have o1 := hq.o1
          have o2 := hq.o2
          have o3 := hq.o3
          have m1 := hq.m1
          have n3 : M3 ≠ w.heap.size + 1 := by omega
          have n2 : Bh + 1 ≠ w.heap.size + 1 := by omega
          have nw : w.heap.size ≤ w.heap.size + 1 := by omega
          have hrp : RJ (w.heap.size + 2) wr ls.length body.length tests.length (ls.map (ins vs)) ((fsts body).map (insA vs)) (tests.map (insE vs)) M1 (Bh + 1) M3 l :=
            ⟨HFB.out, hq.a, hq.t1.1, hq.t2, fun x hx => ⟨⟨(hq.ts x hx).1.1, (hq.ts x hx).2.1⟩, (hq.ts x hx).2.2⟩, hq.e, hq.m1, by omega, o3⟩
          have ng : w.heap.size + 1 < w.heap.size + 2 := by omega
          exact bodyPost_ret (v := Cm.v ⟨(⟨⟨bk, bn, bz⟩, nm, ls.map (ins vs)⟩, .slice (some ⟨M1, 0, none⟩) ls.length ls.length), l, .slice (some ⟨Bh + 1, 0, none⟩) body.length body.length, tests.map (insE vs), .slice (some ⟨M3, 0, none⟩) tests.length tests.length⟩) (by simp [results, Tryz.results82, go_sem, Cm.v, r0, r1, r2, r3, r4, r5, r6]) rfl
            ⟨M1, Bh + 1, M3, l, by simp only [Cm.cpI, insA, HBK.out], (((((((hrp.off ng).off ng).off ng).off ng).off ng).off ng).off ng).mono (by omega), ((((((hq.bw.setCell nw _).setCell nw _).setCell nw _).setCell nw _).setCell nw _).setCell nw _).setCell nw _⟩
end Go.Proofs.YtgbiicmkhlnniaaGreatDoor
