/-
  hearsaylaw03.ClauseTotal: the walk. (Written by CL23.py.)
-/
import Derived.Test.YtminmpaamomecaaCL21
import Derived.Test.YtminmpaamomecaaCL22
import Derived.Deep.CutRange
namespace Go.Proofs.Ytminmpaamomecaa
open Go.RowKit

/-- Three clauses in their boxes. -/
structure XB (w X : World) (a b c : Array Value) : Prop where
  a : CBlk X w.heap.size a 30
  b : CBlk X (w.heap.size + 1) b 30
  c : CBlk X (w.heap.size + 1 + 1) c 30
  bw : Below w.heap.size w X
theorem XB.later {w X X' : World} {a b c : Array Value} (h : XB w X a b c) (hb : Below X.heap.size X X') : XB w X' a b c := ⟨h.a.later hb, h.b.later hb, h.c.later hb, below_step h.bw hb⟩
theorem XB.start (w : World) (a b c : Array Value) : XB w (((w.alloc (.cells a 30)).alloc (.cells b 30)).alloc (.cells c 30)) a b c := by
  have x1 := (CBlk.new w a 30).later (below2 (w.alloc (.cells a 30)) (.cells b 30) (.cells c 30))
  have x2 := (CBlk.new (w.alloc (.cells a 30)) b 30).later (below1 _ (.cells c 30))
  have x3 := CBlk.new ((w.alloc (.cells a 30)).alloc (.cells b 30)) c 30
  rw [show (w.alloc (.cells a 30)).heap.size = w.heap.size + 1 by simp] at x2
  rw [show ((w.alloc (.cells a 30)).alloc (.cells b 30)).heap.size = w.heap.size + 1 + 1 by simp] at x3
  exact ⟨x1, x2, x3, below_step (below2 w _ _) (below1 _ _)⟩

set_option maxRecDepth 20000 in
set_option maxHeartbeats 8000000 in
theorem total_go (k1 n1 k2 n2 k3 n3 : Int) (s1 m1 s2 m2 s3 m3 : ByteArray) (x1 x2 x3 y1 y2 y3 z1 z2 z3 : Value) (A B C : Cm) (eA : A.v = .agg #[.int .i64 k1, .int .i64 n1, .string s1, .string m1, x1, y1, z1]) (eB : B.v = .agg #[.int .i64 k2, .int .i64 n2, .string s2, .string m2, x2, y2, z2]) (eC : C.v = .agg #[.int .i64 k3, .int .i64 n3, .string s3, .string m3, x3, y3, z3])
    (w : World) (h1 : A.ok w) (h2 : B.ok w) (h3 : C.ok w) :
    Calls Try.prog 4 #[.agg #[.int .i64 k1, .int .i64 n1, .string s1, .string m1, x1, y1, z1], .agg #[.int .i64 k2, .int .i64 n2, .string s2, .string m2, x2, y2, z2], .agg #[.int .i64 k3, .int .i64 n3, .string s3, .string m3, x3, y3, z3]] w fun e w' => e = .returned (.bool true) ∧ Below w.heap.size w w' := by
  have c1 := fun W (h : Below w.heap.size w W) => compareC_any A B W (h1.later h) (h2.later h)
  have c2 := fun W (h : Below w.heap.size w W) => compareC_any B C W (h2.later h) (h3.later h)
  have c3 := fun W (h : Below w.heap.size w W) => compareC_any A C W (h1.later h) (h3.later h)
  have c4 := fun W (h : Below w.heap.size w W) => compareC_any B A W (h2.later h) (h1.later h)
  have c5 := fun W (h : Below w.heap.size w W) => sameC_any A B W (h1.later h) (h2.later h)
  have o1 := ord_c.rng A.key B.key
  have o2 := ord_c.rng B.key C.key
  have o3 := ord_c.rng A.key C.key
  have o4 := ord_c.neg A.key B.key
  have o7 := ord_c.tr A.key B.key C.key
  have o9 : decide (A.key = B.key) = decide (cmpC A.key B.key = 0) := by
    by_cases h : A.key = B.key
    · rw [decide_eq_true h, h, ord_c.refl]; rfl
    · rw [decide_eq_false h, decide_eq_false fun e => h (ord_c.zero _ _ e)]
  simp only [cmp_key, same_key] at c1 c2 c3 c4 c5
  rw [o9] at c5
  rw [o4] at c4
  obtain ⟨X, hX⟩ : ∃ X, cmpC A.key B.key = X := ⟨_, rfl⟩
  obtain ⟨Y, hY⟩ : ∃ Y, cmpC B.key C.key = Y := ⟨_, rfl⟩
  obtain ⟨Z, hZ⟩ : ∃ Z, cmpC A.key C.key = Z := ⟨_, rfl⟩
  rw [hX] at c1 c4 c5 o1
  rw [hY] at c2 o2
  rw [hZ] at c3 o3
  have OO : Hid ((X = -1 ∨ X = 0 ∨ X = 1) ∧ (Y = -1 ∨ Y = 0 ∨ Y = 1) ∧ (Z = -1 ∨ Z = 0 ∨ Z = 1) ∧ (X ≤ 0 → Y ≤ 0 → Z ≤ 0 ∧ (X < 0 ∨ Y < 0 → Z < 0))) := by
    refine ⟨o1, o2, o3, ?_⟩
    rw [hX, hY, hZ] at o7; exact o7
  rw [eA, eB] at c1
  rw [eB, eC] at c2
  rw [eA, eC] at c3
  rw [eB, eA] at c4
  rw [eA, eB] at c5
  have C1 : Hid (∀ W, Below w.heap.size w W → Calls Try.prog 11 #[.agg #[.int .i64 k1, .int .i64 n1, .string s1, .string m1, x1, y1, z1], .agg #[.int .i64 k2, .int .i64 n2, .string s2, .string m2, x2, y2, z2]] W fun e w' => e = .returned (.int .i64 X) ∧ Below W.heap.size W w') := c1
  have C2 : Hid (∀ W, Below w.heap.size w W → Calls Try.prog 11 #[.agg #[.int .i64 k2, .int .i64 n2, .string s2, .string m2, x2, y2, z2], .agg #[.int .i64 k3, .int .i64 n3, .string s3, .string m3, x3, y3, z3]] W fun e w' => e = .returned (.int .i64 Y) ∧ Below W.heap.size W w') := c2
  have C3 : Hid (∀ W, Below w.heap.size w W → Calls Try.prog 11 #[.agg #[.int .i64 k1, .int .i64 n1, .string s1, .string m1, x1, y1, z1], .agg #[.int .i64 k3, .int .i64 n3, .string s3, .string m3, x3, y3, z3]] W fun e w' => e = .returned (.int .i64 Z) ∧ Below W.heap.size W w') := c3
  have C4 : Hid (∀ W, Below w.heap.size w W → Calls Try.prog 11 #[.agg #[.int .i64 k2, .int .i64 n2, .string s2, .string m2, x2, y2, z2], .agg #[.int .i64 k1, .int .i64 n1, .string s1, .string m1, x1, y1, z1]] W fun e w' => e = .returned (.int .i64 (-X)) ∧ Below W.heap.size W w') := c4
  have C5 : Hid (∀ W, Below w.heap.size w W → Calls Try.prog 12 #[.agg #[.int .i64 k1, .int .i64 n1, .string s1, .string m1, x1, y1, z1], .agg #[.int .i64 k2, .int .i64 n2, .string s2, .string m2, x2, y2, z2]] W fun e w' => e = .returned (.bool (decide (X = 0))) ∧ Below W.heap.size W w') := c5
  clear c1 c2 c3 c4 c5 o1 o2 o3 o4 o7 o9 hX hY hZ h1 h2 h3 eA eB eC A B C
  go_enter Try.func4, Try.ntmps4
  go_upto_region 2 with (go_at_call 11; refine (C1.out _ (XB.start _ _ _ _).bw).mono ?_; clear C1; rintro e w1 ⟨rfl, hb1⟩; have BB : Hid (XB w w1 #[.int .i64 k1, .int .i64 n1, .string s1, .string m1, x1, y1, z1] #[.int .i64 k2, .int .i64 n2, .string s2, .string m2, x2, y2, z2] #[.int .i64 k3, .int .i64 n3, .string s3, .string m3, x3, y3, z3]) := (XB.start _ _ _ _).later hb1; clear hb1; obtain ⟨a0, a1, a2, a3, a4, a5, a6⟩ := cseven BB.out.a; obtain ⟨b0, b1, b2, b3, b4, b5, b6⟩ := cseven BB.out.b; obtain ⟨d0, d1, d2, d3, d4, d5, d6⟩ := cseven BB.out.c)
  go_upto_region 3 with (go_at_call 11; refine (C2.out _ BB.out.bw).mono ?_; clear C2; rintro e w2 ⟨rfl, hb2⟩; have D : XB w w2 #[.int .i64 k1, .int .i64 n1, .string s1, .string m1, x1, y1, z1] #[.int .i64 k2, .int .i64 n2, .string s2, .string m2, x2, y2, z2] #[.int .i64 k3, .int .i64 n3, .string s3, .string m3, x3, y3, z3] := BB.out.later hb2; clear a0 a1 a2 a3 a4 a5 a6 b0 b1 b2 b3 b4 b5 b6 d0 d1 d2 d3 d4 d5 d6 BB hb2; have BB : Hid (XB w w2 #[.int .i64 k1, .int .i64 n1, .string s1, .string m1, x1, y1, z1] #[.int .i64 k2, .int .i64 n2, .string s2, .string m2, x2, y2, z2] #[.int .i64 k3, .int .i64 n3, .string s3, .string m3, x3, y3, z3]) := D; clear D; obtain ⟨a0, a1, a2, a3, a4, a5, a6⟩ := cseven BB.out.a; obtain ⟨b0, b1, b2, b3, b4, b5, b6⟩ := cseven BB.out.b; obtain ⟨d0, d1, d2, d3, d4, d5, d6⟩ := cseven BB.out.c)
  go_upto_region 4 with (go_at_call 11; refine (C3.out _ BB.out.bw).mono ?_; clear C3; rintro e w3 ⟨rfl, hb3⟩; have D : XB w w3 #[.int .i64 k1, .int .i64 n1, .string s1, .string m1, x1, y1, z1] #[.int .i64 k2, .int .i64 n2, .string s2, .string m2, x2, y2, z2] #[.int .i64 k3, .int .i64 n3, .string s3, .string m3, x3, y3, z3] := BB.out.later hb3; clear a0 a1 a2 a3 a4 a5 a6 b0 b1 b2 b3 b4 b5 b6 d0 d1 d2 d3 d4 d5 d6 BB hb3; have BB : Hid (XB w w3 #[.int .i64 k1, .int .i64 n1, .string s1, .string m1, x1, y1, z1] #[.int .i64 k2, .int .i64 n2, .string s2, .string m2, x2, y2, z2] #[.int .i64 k3, .int .i64 n3, .string s3, .string m3, x3, y3, z3]) := D; clear D; obtain ⟨a0, a1, a2, a3, a4, a5, a6⟩ := cseven BB.out.a; obtain ⟨b0, b1, b2, b3, b4, b5, b6⟩ := cseven BB.out.b; obtain ⟨d0, d1, d2, d3, d4, d5, d6⟩ := cseven BB.out.c)
  go_cut [40] from 19 (fun s40 wx => s40 = .bool false ∧ XB w wx #[.int .i64 k1, .int .i64 n1, .string s1, .string m1, x1, y1, z1] #[.int .i64 k2, .int .i64 n2, .string s2, .string m2, x2, y2, z2] #[.int .i64 k3, .int .i64 n3, .string s3, .string m3, x3, y3, z3])
  case first =>
    obtain ⟨oX, -⟩ := OO.out
    rcases oX with rfl | rfl | rfl
    all_goals
      go_wp2_with (first
        | (go_at_call 11; refine (C4.out _ BB.out.bw).mono ?_; clear C4; rintro e w4 ⟨rfl, hb4⟩; have D : XB w w4 #[.int .i64 k1, .int .i64 n1, .string s1, .string m1, x1, y1, z1] #[.int .i64 k2, .int .i64 n2, .string s2, .string m2, x2, y2, z2] #[.int .i64 k3, .int .i64 n3, .string s3, .string m3, x3, y3, z3] := BB.out.later hb4; clear a0 a1 a2 a3 a4 a5 a6 b0 b1 b2 b3 b4 b5 b6 d0 d1 d2 d3 d4 d5 d6 BB hb4; have BB : Hid (XB w w4 #[.int .i64 k1, .int .i64 n1, .string s1, .string m1, x1, y1, z1] #[.int .i64 k2, .int .i64 n2, .string s2, .string m2, x2, y2, z2] #[.int .i64 k3, .int .i64 n3, .string s3, .string m3, x3, y3, z3]) := D; clear D; obtain ⟨a0, a1, a2, a3, a4, a5, a6⟩ := cseven BB.out.a; obtain ⟨b0, b1, b2, b3, b4, b5, b6⟩ := cseven BB.out.b; obtain ⟨d0, d1, d2, d3, d4, d5, d6⟩ := cseven BB.out.c)
        | (go_at_call 12; refine (C5.out _ BB.out.bw).mono ?_; clear C5; rintro e w5 ⟨rfl, hb5⟩; have D : XB w w5 #[.int .i64 k1, .int .i64 n1, .string s1, .string m1, x1, y1, z1] #[.int .i64 k2, .int .i64 n2, .string s2, .string m2, x2, y2, z2] #[.int .i64 k3, .int .i64 n3, .string s3, .string m3, x3, y3, z3] := BB.out.later hb5; clear a0 a1 a2 a3 a4 a5 a6 b0 b1 b2 b3 b4 b5 b6 d0 d1 d2 d3 d4 d5 d6 BB hb5; have BB : Hid (XB w w5 #[.int .i64 k1, .int .i64 n1, .string s1, .string m1, x1, y1, z1] #[.int .i64 k2, .int .i64 n2, .string s2, .string m2, x2, y2, z2] #[.int .i64 k3, .int .i64 n3, .string s3, .string m3, x3, y3, z3]) := D; clear D))
      go_meet
      case rel => exact ⟨by simp, BB.out⟩
  case rest =>
    obtain ⟨rfl, hbx⟩ := hcut
    clear a0 a1 a2 a3 a4 a5 a6 b0 b1 b2 b3 b4 b5 b6 d0 d1 d2 d3 d4 d5 d6 BB C4 C5
    go_upto_region 6 with fail
    go_cut [62] from 41 (fun s62 wx => s62 = .bool false ∧ wx = wc)
    case first =>
      obtain ⟨oX, oY, oZ, t1⟩ := OO.out
      clear OO
      rcases oX with rfl | rfl | rfl <;> rcases oY with rfl | rfl | rfl <;> rcases oZ with rfl | rfl | rfl
      all_goals first | (exfalso; omega) | skip
      all_goals
        clear t1
        go_wp2_with fail
        go_meet
        case rel => exact ⟨rfl, rfl⟩
    case rest =>
      obtain ⟨rfl, rfl⟩ := hcut
      have HBX : Hid (Below w.heap.size w wc) := hbx.bw
      clear OO hbx
      go_wp2_with (go_at_call 13; refine (first3_any _).mono ?_; rintro e w9 ⟨rfl, hb9⟩)
      go_ret
      exact ⟨rfl, below_step HBX.out hb9⟩
theorem total_any (a b c : Cm) (w : World) (h1 : a.ok w) (h2 : b.ok w) (h3 : c.ok w) :
    Calls Try.prog 4 #[a.v, b.v, c.v] w fun e w' => e = .returned (.bool true) ∧ Below w.heap.size w w' :=
  total_go a.head.1.by_.k a.head.1.by_.n b.head.1.by_.k b.head.1.by_.n c.head.1.by_.k c.head.1.by_.n a.head.1.by_.s a.head.1.name b.head.1.by_.s b.head.1.name c.head.1.by_.s c.head.1.name a.head.2 b.head.2 c.head.2 a.bv b.bv c.bv a.tv b.tv c.tv a b c rfl rfl rfl w h1 h2 h3
end Go.Proofs.Ytminmpaamomecaa
