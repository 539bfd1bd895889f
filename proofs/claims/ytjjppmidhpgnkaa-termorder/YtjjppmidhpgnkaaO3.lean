/-
  hearsaylaw02.TermOrder: its first half.
-/
import Derived.Test.YtjjppmidhpgnkaaO2
import Derived.Test.YtjjppmidhpgnkaaM2
import Derived.Test.YtjjppmidhpgnkaaB9
namespace Go.Proofs.Ytjjppmidhpgnkaa
open Go.RowKit
attribute [local go_sem ↓] Go.wp_at_zero Go.wp_at_succ

def Box3 (w W : World) (c d e : Array Value) : Prop := W.heap[w.heap.size]? = some (.cells c 26 (0, 0)) ∧ W.heap[w.heap.size + 1]? = some (.cells d 26 (0, 0)) ∧ W.heap[w.heap.size + 2]? = some (.cells e 26 (0, 0)) ∧ Below w.heap.size w W
theorem Box3.start (w : World) (c d e : Array Value) : Box3 w (((w.alloc (.cells c 26)).alloc (.cells d 26)).alloc (.cells e 26)) c d e := by
  refine ⟨?_, ?_, ?_, (below2 _ _ _).alloc (by simp; omega) _⟩
  · rw [Below.heap_alloc _ _ _ (by simp; omega)]; exact heap_alloc2_old _ _ _
  · rw [Below.heap_alloc _ _ _ (by simp)]; exact heap_alloc2_new _ _ _
  · have h : w.heap.size + 2 = ((w.alloc (.cells c 26)).alloc (.cells d 26)).heap.size := by simp
    rw [h]; exact heap_alloc_new _ _
theorem Box3.later {w W W' : World} {c d e : Array Value} (h : Box3 w W c d e) (hb : Below W.heap.size W W') : Box3 w W' c d e :=
  ⟨(hb.block _ (Array.getElem?_eq_some_iff.1 h.1).1).trans h.1, (hb.block _ (Array.getElem?_eq_some_iff.1 h.2.1).1).trans h.2.1, (hb.block _ (Array.getElem?_eq_some_iff.1 h.2.2.1).1).trans h.2.2.1, h.2.2.2.trans (hb.mono h.2.2.2.size)⟩
theorem Box3.lt {w W : World} {c d e : Array Value} (h : Box3 w W c d e) : w.heap.size + 2 < W.heap.size := (Array.getElem?_eq_some_iff.1 h.2.2.1).1
def Inv4 (w : World) (G : Nat) (W : World) (c d e n : Array Value) : Prop := Box3 w W c d e ∧ W.heap[G]? = some (.cells n 23 (0, 0))
theorem Inv4.later {w W W' : World} {G : Nat} {c d e n : Array Value} (h : Inv4 w G W c d e n) (hb : Below W.heap.size W W') : Inv4 w G W' c d e n :=
  ⟨h.1.later hb, (hb.block _ (Array.getElem?_eq_some_iff.1 h.2).1).trans h.2⟩
theorem nine {W : World} {G : Nat} {k1 n1 k2 n2 k3 n3 : Int} {s1 s2 s3 : ByteArray} {ty : TypeId} (h : W.heap[G]? = some (.cells #[.int .i64 k1, .int .i64 n1, .string s1, .int .i64 k2, .int .i64 n2, .string s2, .int .i64 k3, .int .i64 n3, .string s3] ty (0, 0)))
    (i : Nat) (t : Tm) (ht : [Tm.mk k1 n1 s1, ⟨k2, n2, s2⟩, ⟨k3, n3, s3⟩][i]? = some t) :
    W.cell? ⟨G, i * 3, none⟩ = some (.int .i64 t.k) ∧ W.cell? ⟨G, i * 3 + 1, none⟩ = some (.int .i64 t.n) ∧ W.cell? ⟨G, i * 3 + 2, none⟩ = some (.string t.s) := by
  rw [cell_of_row _ _ _ _ _ _ h, cell_of_row _ _ _ _ _ _ h, cell_of_row _ _ _ _ _ _ h]
  match i, ht with
  | 0, ht => simp at ht; subst ht; exact ⟨rfl, rfl, rfl⟩
  | 1, ht => simp at ht; subst ht; exact ⟨rfl, rfl, rfl⟩
  | 2, ht => simp at ht; subst ht; exact ⟨rfl, rfl, rfl⟩
theorem cmp_one (n : ByteArray) (t u : Tm) : At.cmp ⟨zt, n, [t]⟩ ⟨zt, n, [u]⟩ = t.cmp u := by
  have h0 : zt.cmp zt = 0 := ord_tm.refl zt
  unfold At.cmp; simp only [ne_eq, not_true_eq_false, if_false, List.length_cons, At.pl, cmpL, h0]
  split
  · rfl
  · rename_i h; simpa using Eq.symm (Classical.not_not.1 h)
theorem store5 {W : World} {G : Nat} {a b c d e a' b' c' d' e' : Value} {t : TypeId} (h : W.heap[G]? = some (.cells #[a, b, c, d, e] t (0, 0))) :
    (((((W.setCell ⟨G, 0, none⟩ a').setCell ⟨G, 1, none⟩ b').setCell ⟨G, 2, none⟩ c').setCell ⟨G, 3, none⟩ d').setCell ⟨G, 4, none⟩ e').heap[G]? = some (.cells #[a', b', c', d', e'] t (0, 0)) := by
  have h1 := heap_setCell_same _ _ 0 _ _ a' h
  have h2 := heap_setCell_same _ _ 1 _ _ b' h1
  have h3 := heap_setCell_same _ _ 2 _ _ c' h2
  have h4 := heap_setCell_same _ _ 3 _ _ d' h3
  exact heap_setCell_same _ _ 4 _ _ e' h4
theorem store5_other {W : World} {G k : Nat} {o : Obj} (a' b' c' d' e' : Value) (hk : k ≠ G) (h : W.heap[k]? = some o) :
    (((((W.setCell ⟨G, 0, none⟩ a').setCell ⟨G, 1, none⟩ b').setCell ⟨G, 2, none⟩ c').setCell ⟨G, 3, none⟩ d').setCell ⟨G, 4, none⟩ e').heap[k]? = some o := by
  rw [heap_setCell_other _ _ _ _ hk, heap_setCell_other _ _ _ _ hk, heap_setCell_other _ _ _ _ hk, heap_setCell_other _ _ _ _ hk, heap_setCell_other _ _ _ _ hk]; exact h
set_option maxHeartbeats 2000000 in
set_option maxRecDepth 20000 in
theorem order_go (k1 n1 k2 n2 k3 n3 : Int) (s1 m1 s2 m2 s3 m3 : ByteArray) (A B C : At) (hA : A.by_ = ⟨k1, n1, s1⟩ ∧ A.name = m1) (hB : B.by_ = ⟨k2, n2, s2⟩ ∧ B.name = m2) (hC : C.by_ = ⟨k3, n3, s3⟩ ∧ C.name = m3)
    (x1 x2 x3 : Value) (w : World) (h1 : Ts w x1 A.args) (h2 : Ts w x2 B.args) (h3 : Ts w x3 C.args) :
    Calls Try.prog 5 #[.agg #[.int .i64 k1, .int .i64 n1, .string s1, .string m1, x1], .agg #[.int .i64 k2, .int .i64 n2, .string s2, .string m2, x2], .agg #[.int .i64 k3, .int .i64 n3, .string s3, .string m3, x3]] w fun e w' => e = .returned (.bool true) ∧ Below w.heap.size w w' := by
  have eA : ∀ z, A.v z = .agg #[.int .i64 k1, .int .i64 n1, .string s1, .string m1, z] := fun z => by unfold At.v; rw [hA.1, hA.2]
  have eB : ∀ z, B.v z = .agg #[.int .i64 k2, .int .i64 n2, .string s2, .string m2, z] := fun z => by unfold At.v; rw [hB.1, hB.2]
  have eC : ∀ z, C.v z = .agg #[.int .i64 k3, .int .i64 n3, .string s3, .string m3, z] := fun z => by unfold At.v; rw [hC.1, hC.2]
  have c1 := fun W (h : Below w.heap.size w W) => cmpA_any A B x1 x2 W (h1.later h) (h2.later h)
  have c2 := fun W (h : Below w.heap.size w W) => cmpA_any B C x2 x3 W (h2.later h) (h3.later h)
  have c3 := fun W (h : Below w.heap.size w W) => cmpA_any A C x1 x3 W (h1.later h) (h3.later h)
  have c4 := fun W (h : Below w.heap.size w W) => cmpA_any B A x2 x1 W (h2.later h) (h1.later h)
  have c5 := fun W (h : Below w.heap.size w W) => same_any A B x1 x2 W (h1.later h) (h2.later h)
  have o1 := ord_at.rng A B
  have o2 := ord_at.rng B C
  have o3 := ord_at.rng A C
  have o4 := ord_at.neg A B
  have o5 := ord_at.neg B C
  have o6 := ord_at.neg A C
  have o7 := ord_at.tr A B C
  have o8 := ord_at.tr C B A
  have o9 : decide (A = B) = decide (A.cmp B = 0) := by
    by_cases h : A = B
    · rw [decide_eq_true h, h, ord_at.refl]; rfl
    · rw [decide_eq_false h, decide_eq_false fun e => h (ord_at.zero _ _ e)]
  rw [o9] at c5
  rw [o4] at c4
  obtain ⟨X, hX⟩ : ∃ X, A.cmp B = X := ⟨_, rfl⟩
  obtain ⟨Y, hY⟩ : ∃ Y, B.cmp C = Y := ⟨_, rfl⟩
  obtain ⟨Z, hZ⟩ : ∃ Z, A.cmp C = Z := ⟨_, rfl⟩
  rw [hX] at c1 c4 c5 o1
  rw [hY] at c2 o2
  rw [hZ] at c3 o3
  have OO : Hid ((X = -1 ∨ X = 0 ∨ X = 1) ∧ (Y = -1 ∨ Y = 0 ∨ Y = 1) ∧ (Z = -1 ∨ Z = 0 ∨ Z = 1) ∧ (X ≤ 0 → Y ≤ 0 → Z ≤ 0 ∧ (X < 0 ∨ Y < 0 → Z < 0)) ∧ (0 ≤ Y → 0 ≤ X → 0 ≤ Z)) := by
    refine ⟨o1, o2, o3, ?_, ?_⟩
    · rw [hX, hY, hZ] at o7; exact o7
    · rw [o5, o4, o6, hX, hY, hZ] at o8
      intro a b
      have := (o8 (by omega) (by omega)).1
      omega
  rw [eA, eB] at c1
  rw [eB, eC] at c2
  rw [eA, eC] at c3
  rw [eB, eA] at c4
  rw [eA, eB] at c5
  have C1 : Hid (∀ W, Below w.heap.size w W → Calls Try.prog 19 #[.agg #[.int .i64 k1, .int .i64 n1, .string s1, .string m1, x1], .agg #[.int .i64 k2, .int .i64 n2, .string s2, .string m2, x2]] W fun e w' => e = .returned (.int .i64 X) ∧ Below W.heap.size W w') := c1
  have C2 : Hid (∀ W, Below w.heap.size w W → Calls Try.prog 19 #[.agg #[.int .i64 k2, .int .i64 n2, .string s2, .string m2, x2], .agg #[.int .i64 k3, .int .i64 n3, .string s3, .string m3, x3]] W fun e w' => e = .returned (.int .i64 Y) ∧ Below W.heap.size W w') := c2
  have C3 : Hid (∀ W, Below w.heap.size w W → Calls Try.prog 19 #[.agg #[.int .i64 k1, .int .i64 n1, .string s1, .string m1, x1], .agg #[.int .i64 k3, .int .i64 n3, .string s3, .string m3, x3]] W fun e w' => e = .returned (.int .i64 Z) ∧ Below W.heap.size W w') := c3
  have C4 : Hid (∀ W, Below w.heap.size w W → Calls Try.prog 19 #[.agg #[.int .i64 k2, .int .i64 n2, .string s2, .string m2, x2], .agg #[.int .i64 k1, .int .i64 n1, .string s1, .string m1, x1]] W fun e w' => e = .returned (.int .i64 (-X)) ∧ Below W.heap.size W w') := c4
  have C5 : Hid (∀ W, Below w.heap.size w W → Calls Try.prog 16 #[.agg #[.int .i64 k1, .int .i64 n1, .string s1, .string m1, x1], .agg #[.int .i64 k2, .int .i64 n2, .string s2, .string m2, x2]] W fun e w' => e = .returned (.bool (decide (X = 0))) ∧ Below W.heap.size W w') := c5
  clear c1 c2 c3 c4 c5 o1 o2 o3 o4 o5 o6 o7 o8 o9 hX hY hZ h1 h2 h3 eA eB eC hA hB hC A B C
  go_enter Try.func5, Try.ntmps5
  go_upto_region 2 with (go_at_call 19; refine (C1.out _ (Box3.start _ _ _ _).2.2.2).mono ?_; rintro e w1 ⟨rfl, hb1⟩; have D := (Box3.start _ _ _ _).later hb1; clear hb1; obtain ⟨a0, a1, a2, a3, a4⟩ := five D.1; obtain ⟨b0, b1, b2, b3, b4⟩ := five D.2.1; obtain ⟨d0, d1, d2, d3, d4⟩ := five D.2.2.1; have BB : Hid (Box3 _ _ _ _ _) := D; clear D)
  go_upto_region 3 with (go_at_call 19; refine (C2.out _ (Hid.out BB).2.2.2).mono ?_; rintro e w2 ⟨rfl, hb2⟩; have D := (Hid.out BB).later hb2; clear hb2 BB a0 a1 a2 a3 a4 b0 b1 b2 b3 b4 d0 d1 d2 d3 d4; obtain ⟨a0, a1, a2, a3, a4⟩ := five D.1; obtain ⟨b0, b1, b2, b3, b4⟩ := five D.2.1; obtain ⟨d0, d1, d2, d3, d4⟩ := five D.2.2.1; have BB : Hid (Box3 _ _ _ _ _) := D; clear D)
  go_upto_region 4 with (go_at_call 19; refine (C3.out _ (Hid.out BB).2.2.2).mono ?_; rintro e w3 ⟨rfl, hb3⟩; have D := (Hid.out BB).later hb3; clear hb3 BB a0 a1 a2 a3 a4 b0 b1 b2 b3 b4 d0 d1 d2 d3 d4; obtain ⟨a0, a1, a2, a3, a4⟩ := five D.1; obtain ⟨b0, b1, b2, b3, b4⟩ := five D.2.1; obtain ⟨d0, d1, d2, d3, d4⟩ := five D.2.2.1; have BB : Hid (Box3 _ _ _ _ _) := D; clear D)
  go_cut [45] from 24 (fun s45 wx => s45 = .bool false ∧ Box3 w wx #[.int .i64 k1, .int .i64 n1, .string s1, .string m1, x1] #[.int .i64 k2, .int .i64 n2, .string s2, .string m2, x2] #[.int .i64 k3, .int .i64 n3, .string s3, .string m3, x3])
  case first =>
    obtain ⟨oX, -⟩ := OO.out
    rcases oX with rfl | rfl | rfl
    all_goals
      go_wp2_with (first
        | (go_at_call 19; refine (C4.out _ (Hid.out BB).2.2.2).mono ?_; rintro e w4 ⟨rfl, hb4⟩; have D := (Hid.out BB).later hb4; clear hb4 BB a0 a1 a2 a3 a4 b0 b1 b2 b3 b4 d0 d1 d2 d3 d4; obtain ⟨a0, a1, a2, a3, a4⟩ := five D.1; obtain ⟨b0, b1, b2, b3, b4⟩ := five D.2.1; have BB : Hid (Box3 _ _ _ _ _) := D; clear D)
        | (go_at_call 16; refine (C5.out _ (Hid.out BB).2.2.2).mono ?_; rintro e w5 ⟨rfl, hb5⟩; have D := (Hid.out BB).later hb5; clear hb5 BB a0 a1 a2 a3 a4 b0 b1 b2 b3 b4; have BB : Hid (Box3 _ _ _ _ _) := D; clear D))
      go_meet
      case rel => exact ⟨by simp, Hid.out BB⟩
  case rest =>
    obtain ⟨rfl, hbx⟩ := hcut
    clear BB a0 a1 a2 a3 a4 b0 b1 b2 b3 b4 d0 d1 d2 d3 d4 C1 C2 C3 C4 C5
    go_upto_region 6 with fail
    go_cut [79] from 46 (fun s79 wx => s79 = .bool false ∧ wx = wc)
    case first =>
      obtain ⟨oX, oY, oZ, t1, t2⟩ := OO.out
      clear OO
      rcases oX with rfl | rfl | rfl <;> rcases oY with rfl | rfl | rfl <;> rcases oZ with rfl | rfl | rfl
      all_goals first | (exfalso; omega) | skip
      all_goals
        clear t1 t2
        go_wp2_with fail
        go_meet
        case rel => exact ⟨rfl, rfl⟩
    case rest =>
      obtain ⟨rfl, rfl⟩ := hcut
      obtain ⟨a0, a1, a2, a3, a4⟩ := five hbx.1
      obtain ⟨b0, b1, b2, b3, b4⟩ := five hbx.2.1
      obtain ⟨d0, d1, d2, d3, d4⟩ := five hbx.2.2.1
      clear OO
      go_wp2
      have I0 : Inv4 w wc.heap.size (wc.alloc (.cells #[.int .i64 k1, .int .i64 n1, .string s1, .int .i64 k2, .int .i64 n2, .string s2, .int .i64 k3, .int .i64 n3, .string s3] 23)) #[.int .i64 k1, .int .i64 n1, .string s1, .string m1, x1] #[.int .i64 k2, .int .i64 n2, .string s2, .string m2, x2] #[.int .i64 k3, .int .i64 n3, .string s3, .string m3, x3] #[.int .i64 k1, .int .i64 n1, .string s1, .int .i64 k2, .int .i64 n2, .string s2, .int .i64 k3, .int .i64 n3, .string s3] := ⟨hbx.later (below1 wc _), heap_alloc_new wc _⟩
      clear a0 a1 a2 a3 a4 b0 b1 b2 b3 b4 d0 d1 d2 d3 d4 hbx
      revert I0
      generalize wc.alloc (.cells #[.int .i64 k1, .int .i64 n1, .string s1, .int .i64 k2, .int .i64 n2, .string s2, .int .i64 k3, .int .i64 n3, .string s3] 23) = W9
      generalize wc.heap.size = GL
      intro I0
      go_loopg [11] 3 (fun g i wr => ∃ j : Nat, j + g = 3 ∧ i = .int .i64 j ∧ Inv4 w GL wr #[.int .i64 k1, .int .i64 n1, .string s1, .string m1, x1] #[.int .i64 k2, .int .i64 n2, .string s2, .string m2, x2] #[.int .i64 k3, .int .i64 n3, .string s3, .string m3, x3] #[.int .i64 k1, .int .i64 n1, .string s1, .int .i64 k2, .int .i64 n2, .string s2, .int .i64 k3, .int .i64 n3, .string s3])
      case atStart => exact ⟨0, by omega, rfl, I0⟩
      case round =>
        clear I0
        obtain ⟨j, hj, rfl, hi⟩ := hrel
        have HI : Hid (Inv4 w GL wr #[.int .i64 k1, .int .i64 n1, .string s1, .string m1, x1] #[.int .i64 k2, .int .i64 n2, .string s2, .string m2, x2] #[.int .i64 k3, .int .i64 n3, .string s3, .string m3, x3] #[.int .i64 k1, .int .i64 n1, .string s1, .int .i64 k2, .int .i64 n2, .string s2, .int .i64 k3, .int .i64 n3, .string s3]) := hi
        clear hi
        cases gk with
        | zero =>
          have hlt : ¬ (j : Int) < 3 := by omega
          clear hj
          go_wp2_with (go_at_call 10; refine (first_any _).mono ?_; rintro e w9 ⟨rfl, hb9⟩)
          go_ret
          exact ⟨rfl, (HI.out.1.later hb9).2.2.2⟩
        | succ g =>
          have hlt : (j : Int) < 3 := by omega
          have j0 : (0 : Int) ≤ (j : Int) := by omega
          generalize wr = wo at *
          go_wp2
          go_loopg [12] 3 (fun g2 i wr => ∃ m : Nat, m + g2 = 3 ∧ i = .int .i64 m ∧ Inv4 w GL wr #[.int .i64 k1, .int .i64 n1, .string s1, .string m1, x1] #[.int .i64 k2, .int .i64 n2, .string s2, .string m2, x2] #[.int .i64 k3, .int .i64 n3, .string s3, .string m3, x3] #[.int .i64 k1, .int .i64 n1, .string s1, .int .i64 k2, .int .i64 n2, .string s2, .int .i64 k3, .int .i64 n3, .string s3])
          case atStart => exact ⟨0, by omega, rfl, HI.out⟩
          case round =>
            clear HI
            obtain ⟨m, hm, rfl, hi⟩ := hrel
            have HI : Hid (Inv4 w GL wr #[.int .i64 k1, .int .i64 n1, .string s1, .string m1, x1] #[.int .i64 k2, .int .i64 n2, .string s2, .string m2, x2] #[.int .i64 k3, .int .i64 n3, .string s3, .string m3, x3] #[.int .i64 k1, .int .i64 n1, .string s1, .int .i64 k2, .int .i64 n2, .string s2, .int .i64 k3, .int .i64 n3, .string s3]) := hi
            clear hi
            cases gk with
            | zero =>
              have hltm : ¬ (m : Int) < 3 := by omega
              clear hm
              go_wp2
              go_roundg g
              case measure => omega
              case rel => exact ⟨j + 1, by omega, by go_num, HI.out⟩
            | succ g2 =>
              have hltm : (m : Int) < 3 := by omega
              have m0 : (0 : Int) ≤ (m : Int) := by omega
              obtain ⟨⟨tk, tn, ts⟩, ht⟩ : ∃ t, [Tm.mk k1 n1 s1, ⟨k2, n2, s2⟩, ⟨k3, n3, s3⟩][j]? = some t := ⟨_, List.getElem?_eq_getElem (by simp; omega)⟩
              obtain ⟨⟨uk, un, us⟩, hu⟩ : ∃ t, [Tm.mk k1 n1 s1, ⟨k2, n2, s2⟩, ⟨k3, n3, s3⟩][m]? = some t := ⟨_, List.getElem?_eq_getElem (by simp; omega)⟩
              obtain ⟨c, hc⟩ : ∃ c, Tm.cmp ⟨tk, tn, ts⟩ ⟨uk, un, us⟩ = c := ⟨_, rfl⟩
              have HC : Hid (Tm.cmp ⟨tk, tn, ts⟩ ⟨uk, un, us⟩ = c) := hc
              have he := run_eql_tm ⟨tk, tn, ts⟩ ⟨uk, un, us⟩
              have e0 : decide (Tm.mk tk tn ts = ⟨uk, un, us⟩) = (c == 0) := by
                rw [← hc, Bool.eq_iff_iff]; simp [Tm.cmp_zero]
              rw [e0] at he
              have PT : Hid (∀ W : World, W.heap[GL]? = some (.cells #[.int .i64 k1, .int .i64 n1, .string s1, .int .i64 k2, .int .i64 n2, .string s2, .int .i64 k3, .int .i64 n3, .string s3] 23 (0, 0)) → W.cell? ⟨GL, j * 3, none⟩ = some (.int .i64 tk) ∧ W.cell? ⟨GL, j * 3 + 1, none⟩ = some (.int .i64 tn) ∧ W.cell? ⟨GL, j * 3 + 2, none⟩ = some (.string ts)) := fun W h => nine h j _ ht
              have PU : Hid (∀ W : World, W.heap[GL]? = some (.cells #[.int .i64 k1, .int .i64 n1, .string s1, .int .i64 k2, .int .i64 n2, .string s2, .int .i64 k3, .int .i64 n3, .string s3] 23 (0, 0)) → W.cell? ⟨GL, m * 3, none⟩ = some (.int .i64 uk) ∧ W.cell? ⟨GL, m * 3 + 1, none⟩ = some (.int .i64 un) ∧ W.cell? ⟨GL, m * 3 + 2, none⟩ = some (.string us)) := fun W h => nine h m _ hu
              clear ht hu hc e0
              go_upto_region 15 with fail
              go_cut [13] from 91 to 145 (fun s13 wx => ∃ G1 G2 : Nat, s13 = .pointer (some ⟨G1, 0, none⟩) ∧ wx.heap[G1]? = some (.cells #[.int .i64 0, .int .i64 0, .string ⟨#[]⟩, .string m1, .slice (some ⟨G2, 0, none⟩) 1 1] 26 (0, 0)) ∧ wx.heap[G2]? = some (.cells #[.int .i64 tk, .int .i64 tn, .string ts] 23 (0, 0)) ∧ Below wr.heap.size wr wx)
              case first =>
                have a3 := (five HI.out.1.1).2.2.2.1
                have za : w.heap.size < wr.heap.size := (Array.getElem?_eq_some_iff.1 HI.out.1.1).1
                have zg : GL < wr.heap.size := (Array.getElem?_eq_some_iff.1 HI.out.2).1
                obtain ⟨p0, p1, p2⟩ := PT.out _ HI.out.2
                obtain ⟨q0, q1, q2⟩ := PU.out _ HI.out.2
                clear he
                refine wp_region_held_drew (S := fun w' => Below wr.heap.size wr w') (by kernel_rfl) (Below.refl _ _).drew (fun hH => ?_)
                revert hH
                generalize wr.drew = W
                intro hH
                refine wpAnyH_take (i := 0) (oi := ⟨_, _, _, _, _, _⟩) (v := .pointer (some ⟨w.heap.size, 3, none⟩)) rfl (by kernel_rfl) (by kernel_rfl) (by kernel_rfl) (fun _ _ _ h => h) (Or.inl ⟨by rfl, fun w' _ => by go_simp⟩) hH ?_
                simp only [Act.put, List.setIfInBounds_toArray, List.set_cons_zero, List.set_cons_succ]
                refine wpAnyH_take (i := 1) (oi := ⟨_, _, _, _, _, _⟩) (v := .string m1) rfl (by kernel_rfl) (by kernel_rfl) (by kernel_rfl) (fun _ _ _ h => h) (Or.inl ⟨by rfl, fun w' h => by have y0 := cell_step h za a3; clear a3; go_simp⟩) hH ?_
                simp only [Act.put, List.setIfInBounds_toArray, List.set_cons_zero, List.set_cons_succ]
                refine wpAnyH_take (i := 2) (oi := ⟨_, _, _, _, _, _⟩) (v := .slice (some ⟨GL, 0, none⟩) 3 3) rfl (by kernel_rfl) (by kernel_rfl) (by kernel_rfl) (fun _ _ _ h => h) (Or.inl ⟨by rfl, fun w' _ => by go_simp⟩) hH ?_
                simp only [Act.put, List.setIfInBounds_toArray, List.set_cons_zero, List.set_cons_succ]
                refine wpAnyH_take (i := 3) (oi := ⟨_, _, _, _, _, _⟩) (v := .int .i64 j) rfl (by kernel_rfl) (by kernel_rfl) (by kernel_rfl) (fun _ _ _ h => h) (Or.inl ⟨by rfl, fun w' _ => by go_simp⟩) hH ?_
                simp only [Act.put, List.setIfInBounds_toArray, List.set_cons_zero, List.set_cons_succ]
                refine wpAnyH_take (i := 4) (oi := ⟨_, _, _, _, _, _⟩) (v := .pointer (some ⟨GL, j * 3, none⟩)) rfl (by kernel_rfl) (by kernel_rfl) (by kernel_rfl) (fun _ _ _ h => h) (Or.inl ⟨by rfl, fun w' _ => by go_simp⟩) hH ?_
                simp only [Act.put, List.setIfInBounds_toArray, List.set_cons_zero, List.set_cons_succ]
                refine wpAnyH_take (i := 5) (oi := ⟨_, _, _, _, _, _⟩) (v := .agg #[.int .i64 tk, .int .i64 tn, .string ts]) rfl (by kernel_rfl) (by kernel_rfl) (by kernel_rfl) (fun _ _ _ h => h) (Or.inl ⟨by rfl, fun w' h => by have y0 := cell_step h zg p0; have y1 := cell_step h zg p1; have y2 := cell_step h zg p2; clear p0 p1 p2 q0 q1 q2 a3; go_simp⟩) hH ?_
                simp only [Act.put, List.setIfInBounds_toArray, List.set_cons_zero, List.set_cons_succ]
                refine wpAnyH_ready (rs := [6, 8]) (by kernel_rfl) (by simp) ?_
                refine (AllReadyH.cons (o := ⟨_, _, _, _, _, _⟩) rfl (fun K hK => ?_) (AllReadyH.cons (o := ⟨_, _, _, _, _, _⟩) rfl (fun K hK => ?_) AllReadyH.nil))
                · go_simp
                  have gS := hH.size
                  refine hK.out _ _ (balloc hH) (fun hH => ?_)
                  clear hK K
                  have fS := heap_alloc_new W (.cells #[.int .i64 tk, .int .i64 tn, .string ts] 23)
                  have lS : W.heap.size < (W.alloc (.cells #[.int .i64 tk, .int .i64 tn, .string ts] 23)).heap.size := by simp
                  revert hH fS lS
                  generalize W.alloc (.cells #[.int .i64 tk, .int .i64 tn, .string ts] 23) = V1
                  intro hH fS lS
                  refine wpAnyH_take (i := 7) (oi := ⟨_, _, _, _, _, _⟩) (v := .agg #[.int .i64 0, .int .i64 0, .string ⟨#[]⟩, .string m1, .slice (some ⟨W.heap.size, 0, none⟩) 1 1]) rfl (by kernel_rfl) (by kernel_rfl) (by kernel_rfl) (fun _ _ _ h => h) (Or.inl ⟨by rfl, fun w' _ => by go_simp⟩) hH ?_
                  simp only [Act.put, List.setIfInBounds_toArray, List.set_cons_zero, List.set_cons_succ]
                  refine wpAnyH_ready (rs := [8]) (by kernel_rfl) (by simp) ?_
                  refine (AllReadyH.cons (o := ⟨_, _, _, _, _, _⟩) rfl (fun K hK => ?_) AllReadyH.nil)
                  go_simp
                  have gA := hH.size
                  refine hK.out _ _ (balloc hH) (fun hH => ?_)
                  clear hK K
                  have fS := (Below.heap_alloc _ (.cells #[.int .i64 0, .int .i64 0, .string ⟨#[]⟩, .string ⟨#[]⟩, .slice none 0 0] 26) _ lS).trans fS
                  have hne := Nat.ne_of_lt lS
                  have fA := heap_alloc_new V1 (.cells #[.int .i64 0, .int .i64 0, .string ⟨#[]⟩, .string ⟨#[]⟩, .slice none 0 0] 26)
                  have lA : V1.heap.size < (V1.alloc (.cells #[.int .i64 0, .int .i64 0, .string ⟨#[]⟩, .string ⟨#[]⟩, .slice none 0 0] 26)).heap.size := by simp
                  have lS := lt_step (below1 V1 (.cells #[.int .i64 0, .int .i64 0, .string ⟨#[]⟩, .string ⟨#[]⟩, .slice none 0 0] 26)) lS
                  revert hH fS fA lA lS
                  generalize V1.alloc (.cells #[.int .i64 0, .int .i64 0, .string ⟨#[]⟩, .string ⟨#[]⟩, .slice none 0 0] 26) = V2
                  intro hH fS fA lA lS
                  refine wpAnyH_ready (rs := [9]) (by kernel_rfl) (by simp) ?_
                  refine (AllReadyH.cons (o := ⟨_, _, _, _, _, _⟩) rfl (fun K hK => ?_) AllReadyH.nil)
                  have c0 := (five fA).1; have c1 := (five fA).2.1; have c2 := (five fA).2.2.1; have c3 := (five fA).2.2.2.1; have c4 := (five fA).2.2.2.2; have r0 := frozen_of_row _ _ 0 _ _ fA; have r1 := frozen_of_row _ _ 1 _ _ fA; have r2 := frozen_of_row _ _ 2 _ _ fA; have r3 := frozen_of_row _ _ 3 _ _ fA; have r4 := frozen_of_row _ _ 4 _ _ fA
                  go_simp
                  clear c0 c1 c2 c3 c4 r0 r1 r2 r3 r4
                  refine hK.out _ _ (bset (bset (bset (bset (bset hH gA) gA) gA) gA) gA) (fun hH => ?_)
                  clear hK K
                  have fA := store5 (a' := .int .i64 0) (b' := .int .i64 0) (c' := .string ⟨#[]⟩) (d' := .string m1) (e' := .slice (some ⟨W.heap.size, 0, none⟩) 1 1) fA
                  have fS := store5_other (G := V1.heap.size) (.int .i64 0) (.int .i64 0) (.string ⟨#[]⟩) (.string m1) (.slice (some ⟨W.heap.size, 0, none⟩) 1 1) hne fS
                  refine wpAnyH_done (by kernel_rfl) ?_ _
                  go_wp2_with fail
                  go_meet
                  case rel => exact ⟨V1.heap.size, W.heap.size, rfl, fA, fS, hH⟩
                · go_simp
                  have gA := hH.size
                  refine hK.out _ _ (balloc hH) (fun hH => ?_)
                  clear hK K
                  have fA := heap_alloc_new W (.cells #[.int .i64 0, .int .i64 0, .string ⟨#[]⟩, .string ⟨#[]⟩, .slice none 0 0] 26)
                  have lA : W.heap.size < (W.alloc (.cells #[.int .i64 0, .int .i64 0, .string ⟨#[]⟩, .string ⟨#[]⟩, .slice none 0 0] 26)).heap.size := by simp
                  revert hH fA lA
                  generalize W.alloc (.cells #[.int .i64 0, .int .i64 0, .string ⟨#[]⟩, .string ⟨#[]⟩, .slice none 0 0] 26) = V1
                  intro hH fA lA
                  refine wpAnyH_ready (rs := [6]) (by kernel_rfl) (by simp) ?_
                  refine (AllReadyH.cons (o := ⟨_, _, _, _, _, _⟩) rfl (fun K hK => ?_) AllReadyH.nil)
                  go_simp
                  have gS := hH.size
                  refine hK.out _ _ (balloc hH) (fun hH => ?_)
                  clear hK K
                  have fA := (Below.heap_alloc _ (.cells #[.int .i64 tk, .int .i64 tn, .string ts] 23) _ lA).trans fA
                  have hne := Nat.ne_of_lt lA
                  have fS := heap_alloc_new V1 (.cells #[.int .i64 tk, .int .i64 tn, .string ts] 23)
                  have lS : V1.heap.size < (V1.alloc (.cells #[.int .i64 tk, .int .i64 tn, .string ts] 23)).heap.size := by simp
                  have lA := lt_step (below1 V1 (.cells #[.int .i64 tk, .int .i64 tn, .string ts] 23)) lA
                  revert hH fA fS lS lA
                  generalize V1.alloc (.cells #[.int .i64 tk, .int .i64 tn, .string ts] 23) = V2
                  intro hH fA fS lS lA
                  refine wpAnyH_take (i := 7) (oi := ⟨_, _, _, _, _, _⟩) (v := .agg #[.int .i64 0, .int .i64 0, .string ⟨#[]⟩, .string m1, .slice (some ⟨V1.heap.size, 0, none⟩) 1 1]) rfl (by kernel_rfl) (by kernel_rfl) (by kernel_rfl) (fun _ _ _ h => h) (Or.inl ⟨by rfl, fun w' _ => by go_simp⟩) hH ?_
                  simp only [Act.put, List.setIfInBounds_toArray, List.set_cons_zero, List.set_cons_succ]
                  refine wpAnyH_ready (rs := [9]) (by kernel_rfl) (by simp) ?_
                  refine (AllReadyH.cons (o := ⟨_, _, _, _, _, _⟩) rfl (fun K hK => ?_) AllReadyH.nil)
                  have c0 := (five fA).1; have c1 := (five fA).2.1; have c2 := (five fA).2.2.1; have c3 := (five fA).2.2.2.1; have c4 := (five fA).2.2.2.2; have r0 := frozen_of_row _ _ 0 _ _ fA; have r1 := frozen_of_row _ _ 1 _ _ fA; have r2 := frozen_of_row _ _ 2 _ _ fA; have r3 := frozen_of_row _ _ 3 _ _ fA; have r4 := frozen_of_row _ _ 4 _ _ fA
                  go_simp
                  clear c0 c1 c2 c3 c4 r0 r1 r2 r3 r4
                  refine hK.out _ _ (bset (bset (bset (bset (bset hH gA) gA) gA) gA) gA) (fun hH => ?_)
                  clear hK K
                  have fA := store5 (a' := .int .i64 0) (b' := .int .i64 0) (c' := .string ⟨#[]⟩) (d' := .string m1) (e' := .slice (some ⟨V1.heap.size, 0, none⟩) 1 1) fA
                  have fS := store5_other (G := W.heap.size) (.int .i64 0) (.int .i64 0) (.string ⟨#[]⟩) (.string m1) (.slice (some ⟨V1.heap.size, 0, none⟩) 1 1) (Ne.symm hne) fS
                  refine wpAnyH_done (by kernel_rfl) ?_ _
                  go_wp2_with fail
                  go_meet
                  case rel => exact ⟨W.heap.size, V1.heap.size, rfl, fA, fS, hH⟩
              case rest =>
                obtain ⟨G1, S1, rfl, gA, gS, hb1⟩ := hcut
                have HI1 : Hid (Inv4 w GL wc #[.int .i64 k1, .int .i64 n1, .string s1, .string m1, x1] #[.int .i64 k2, .int .i64 n2, .string s2, .string m2, x2] #[.int .i64 k3, .int .i64 n3, .string s3, .string m3, x3] #[.int .i64 k1, .int .i64 n1, .string s1, .int .i64 k2, .int .i64 n2, .string s2, .int .i64 k3, .int .i64 n3, .string s3]) := HI.out.later hb1
                have GA : Hid (wc.heap[G1]? = some (.cells #[.int .i64 0, .int .i64 0, .string ⟨#[]⟩, .string m1, .slice (some ⟨S1, 0, none⟩) 1 1] 26 (0, 0))) := gA
                have GS : Hid (wc.heap[S1]? = some (.cells #[.int .i64 tk, .int .i64 tn, .string ts] 23 (0, 0))) := gS
                clear HI gA gS hb1
                generalize wc = vo at *
                go_upto_region 16 with fail
                go_cut [14] from 91 to 145 (fun s14 wx => ∃ G2 S2 : Nat, s14 = .pointer (some ⟨G2, 0, none⟩) ∧ wx.heap[G2]? = some (.cells #[.int .i64 0, .int .i64 0, .string ⟨#[]⟩, .string m1, .slice (some ⟨S2, 0, none⟩) 1 1] 26 (0, 0)) ∧ wx.heap[S2]? = some (.cells #[.int .i64 uk, .int .i64 un, .string us] 23 (0, 0)) ∧ Below vo.heap.size vo wx)
                case first =>
                  have a3 := (five HI1.out.1.1).2.2.2.1
                  have za : w.heap.size < vo.heap.size := (Array.getElem?_eq_some_iff.1 HI1.out.1.1).1
                  have zg : GL < vo.heap.size := (Array.getElem?_eq_some_iff.1 HI1.out.2).1
                  obtain ⟨p0, p1, p2⟩ := PT.out _ HI1.out.2
                  obtain ⟨q0, q1, q2⟩ := PU.out _ HI1.out.2
                  clear he
                  refine wp_region_held_drew (S := fun w' => Below vo.heap.size vo w') (by kernel_rfl) (Below.refl _ _).drew (fun hH => ?_)
                  revert hH
                  generalize vo.drew = W
                  intro hH
                  refine wpAnyH_take (i := 0) (oi := ⟨_, _, _, _, _, _⟩) (v := .pointer (some ⟨w.heap.size, 3, none⟩)) rfl (by kernel_rfl) (by kernel_rfl) (by kernel_rfl) (fun _ _ _ h => h) (Or.inl ⟨by rfl, fun w' _ => by go_simp⟩) hH ?_
                  simp only [Act.put, List.setIfInBounds_toArray, List.set_cons_zero, List.set_cons_succ]
                  refine wpAnyH_take (i := 1) (oi := ⟨_, _, _, _, _, _⟩) (v := .string m1) rfl (by kernel_rfl) (by kernel_rfl) (by kernel_rfl) (fun _ _ _ h => h) (Or.inl ⟨by rfl, fun w' h => by have y0 := cell_step h za a3; clear a3; go_simp⟩) hH ?_
                  simp only [Act.put, List.setIfInBounds_toArray, List.set_cons_zero, List.set_cons_succ]
                  refine wpAnyH_take (i := 2) (oi := ⟨_, _, _, _, _, _⟩) (v := .slice (some ⟨GL, 0, none⟩) 3 3) rfl (by kernel_rfl) (by kernel_rfl) (by kernel_rfl) (fun _ _ _ h => h) (Or.inl ⟨by rfl, fun w' _ => by go_simp⟩) hH ?_
                  simp only [Act.put, List.setIfInBounds_toArray, List.set_cons_zero, List.set_cons_succ]
                  refine wpAnyH_take (i := 3) (oi := ⟨_, _, _, _, _, _⟩) (v := .int .i64 m) rfl (by kernel_rfl) (by kernel_rfl) (by kernel_rfl) (fun _ _ _ h => h) (Or.inl ⟨by rfl, fun w' _ => by go_simp⟩) hH ?_
                  simp only [Act.put, List.setIfInBounds_toArray, List.set_cons_zero, List.set_cons_succ]
                  refine wpAnyH_take (i := 4) (oi := ⟨_, _, _, _, _, _⟩) (v := .pointer (some ⟨GL, m * 3, none⟩)) rfl (by kernel_rfl) (by kernel_rfl) (by kernel_rfl) (fun _ _ _ h => h) (Or.inl ⟨by rfl, fun w' _ => by go_simp⟩) hH ?_
                  simp only [Act.put, List.setIfInBounds_toArray, List.set_cons_zero, List.set_cons_succ]
                  refine wpAnyH_take (i := 5) (oi := ⟨_, _, _, _, _, _⟩) (v := .agg #[.int .i64 uk, .int .i64 un, .string us]) rfl (by kernel_rfl) (by kernel_rfl) (by kernel_rfl) (fun _ _ _ h => h) (Or.inl ⟨by rfl, fun w' h => by have y0 := cell_step h zg q0; have y1 := cell_step h zg q1; have y2 := cell_step h zg q2; clear p0 p1 p2 q0 q1 q2 a3; go_simp⟩) hH ?_
                  simp only [Act.put, List.setIfInBounds_toArray, List.set_cons_zero, List.set_cons_succ]
                  refine wpAnyH_ready (rs := [6, 8]) (by kernel_rfl) (by simp) ?_
                  refine (AllReadyH.cons (o := ⟨_, _, _, _, _, _⟩) rfl (fun K hK => ?_) (AllReadyH.cons (o := ⟨_, _, _, _, _, _⟩) rfl (fun K hK => ?_) AllReadyH.nil))
                  · go_simp
                    have gS := hH.size
                    refine hK.out _ _ (balloc hH) (fun hH => ?_)
                    clear hK K
                    have fS := heap_alloc_new W (.cells #[.int .i64 uk, .int .i64 un, .string us] 23)
                    have lS : W.heap.size < (W.alloc (.cells #[.int .i64 uk, .int .i64 un, .string us] 23)).heap.size := by simp
                    revert hH fS lS
                    generalize W.alloc (.cells #[.int .i64 uk, .int .i64 un, .string us] 23) = V1
                    intro hH fS lS
                    refine wpAnyH_take (i := 7) (oi := ⟨_, _, _, _, _, _⟩) (v := .agg #[.int .i64 0, .int .i64 0, .string ⟨#[]⟩, .string m1, .slice (some ⟨W.heap.size, 0, none⟩) 1 1]) rfl (by kernel_rfl) (by kernel_rfl) (by kernel_rfl) (fun _ _ _ h => h) (Or.inl ⟨by rfl, fun w' _ => by go_simp⟩) hH ?_
                    simp only [Act.put, List.setIfInBounds_toArray, List.set_cons_zero, List.set_cons_succ]
                    refine wpAnyH_ready (rs := [8]) (by kernel_rfl) (by simp) ?_
                    refine (AllReadyH.cons (o := ⟨_, _, _, _, _, _⟩) rfl (fun K hK => ?_) AllReadyH.nil)
                    go_simp
                    have gA := hH.size
                    refine hK.out _ _ (balloc hH) (fun hH => ?_)
                    clear hK K
                    have fS := (Below.heap_alloc _ (.cells #[.int .i64 0, .int .i64 0, .string ⟨#[]⟩, .string ⟨#[]⟩, .slice none 0 0] 26) _ lS).trans fS
                    have hne := Nat.ne_of_lt lS
                    have fA := heap_alloc_new V1 (.cells #[.int .i64 0, .int .i64 0, .string ⟨#[]⟩, .string ⟨#[]⟩, .slice none 0 0] 26)
                    have lA : V1.heap.size < (V1.alloc (.cells #[.int .i64 0, .int .i64 0, .string ⟨#[]⟩, .string ⟨#[]⟩, .slice none 0 0] 26)).heap.size := by simp
                    have lS := lt_step (below1 V1 (.cells #[.int .i64 0, .int .i64 0, .string ⟨#[]⟩, .string ⟨#[]⟩, .slice none 0 0] 26)) lS
                    revert hH fS fA lA lS
                    generalize V1.alloc (.cells #[.int .i64 0, .int .i64 0, .string ⟨#[]⟩, .string ⟨#[]⟩, .slice none 0 0] 26) = V2
                    intro hH fS fA lA lS
                    refine wpAnyH_ready (rs := [9]) (by kernel_rfl) (by simp) ?_
                    refine (AllReadyH.cons (o := ⟨_, _, _, _, _, _⟩) rfl (fun K hK => ?_) AllReadyH.nil)
                    have c0 := (five fA).1; have c1 := (five fA).2.1; have c2 := (five fA).2.2.1; have c3 := (five fA).2.2.2.1; have c4 := (five fA).2.2.2.2; have r0 := frozen_of_row _ _ 0 _ _ fA; have r1 := frozen_of_row _ _ 1 _ _ fA; have r2 := frozen_of_row _ _ 2 _ _ fA; have r3 := frozen_of_row _ _ 3 _ _ fA; have r4 := frozen_of_row _ _ 4 _ _ fA
                    go_simp
                    clear c0 c1 c2 c3 c4 r0 r1 r2 r3 r4
                    refine hK.out _ _ (bset (bset (bset (bset (bset hH gA) gA) gA) gA) gA) (fun hH => ?_)
                    clear hK K
                    have fA := store5 (a' := .int .i64 0) (b' := .int .i64 0) (c' := .string ⟨#[]⟩) (d' := .string m1) (e' := .slice (some ⟨W.heap.size, 0, none⟩) 1 1) fA
                    have fS := store5_other (G := V1.heap.size) (.int .i64 0) (.int .i64 0) (.string ⟨#[]⟩) (.string m1) (.slice (some ⟨W.heap.size, 0, none⟩) 1 1) hne fS
                    refine wpAnyH_done (by kernel_rfl) ?_ _
                    go_wp2_with fail
                    go_meet
                    case rel => exact ⟨V1.heap.size, W.heap.size, rfl, fA, fS, hH⟩
                  · go_simp
                    have gA := hH.size
                    refine hK.out _ _ (balloc hH) (fun hH => ?_)
                    clear hK K
                    have fA := heap_alloc_new W (.cells #[.int .i64 0, .int .i64 0, .string ⟨#[]⟩, .string ⟨#[]⟩, .slice none 0 0] 26)
                    have lA : W.heap.size < (W.alloc (.cells #[.int .i64 0, .int .i64 0, .string ⟨#[]⟩, .string ⟨#[]⟩, .slice none 0 0] 26)).heap.size := by simp
                    revert hH fA lA
                    generalize W.alloc (.cells #[.int .i64 0, .int .i64 0, .string ⟨#[]⟩, .string ⟨#[]⟩, .slice none 0 0] 26) = V1
                    intro hH fA lA
                    refine wpAnyH_ready (rs := [6]) (by kernel_rfl) (by simp) ?_
                    refine (AllReadyH.cons (o := ⟨_, _, _, _, _, _⟩) rfl (fun K hK => ?_) AllReadyH.nil)
                    go_simp
                    have gS := hH.size
                    refine hK.out _ _ (balloc hH) (fun hH => ?_)
                    clear hK K
                    have fA := (Below.heap_alloc _ (.cells #[.int .i64 uk, .int .i64 un, .string us] 23) _ lA).trans fA
                    have hne := Nat.ne_of_lt lA
                    have fS := heap_alloc_new V1 (.cells #[.int .i64 uk, .int .i64 un, .string us] 23)
                    have lS : V1.heap.size < (V1.alloc (.cells #[.int .i64 uk, .int .i64 un, .string us] 23)).heap.size := by simp
                    have lA := lt_step (below1 V1 (.cells #[.int .i64 uk, .int .i64 un, .string us] 23)) lA
                    revert hH fA fS lS lA
                    generalize V1.alloc (.cells #[.int .i64 uk, .int .i64 un, .string us] 23) = V2
                    intro hH fA fS lS lA
                    refine wpAnyH_take (i := 7) (oi := ⟨_, _, _, _, _, _⟩) (v := .agg #[.int .i64 0, .int .i64 0, .string ⟨#[]⟩, .string m1, .slice (some ⟨V1.heap.size, 0, none⟩) 1 1]) rfl (by kernel_rfl) (by kernel_rfl) (by kernel_rfl) (fun _ _ _ h => h) (Or.inl ⟨by rfl, fun w' _ => by go_simp⟩) hH ?_
                    simp only [Act.put, List.setIfInBounds_toArray, List.set_cons_zero, List.set_cons_succ]
                    refine wpAnyH_ready (rs := [9]) (by kernel_rfl) (by simp) ?_
                    refine (AllReadyH.cons (o := ⟨_, _, _, _, _, _⟩) rfl (fun K hK => ?_) AllReadyH.nil)
                    have c0 := (five fA).1; have c1 := (five fA).2.1; have c2 := (five fA).2.2.1; have c3 := (five fA).2.2.2.1; have c4 := (five fA).2.2.2.2; have r0 := frozen_of_row _ _ 0 _ _ fA; have r1 := frozen_of_row _ _ 1 _ _ fA; have r2 := frozen_of_row _ _ 2 _ _ fA; have r3 := frozen_of_row _ _ 3 _ _ fA; have r4 := frozen_of_row _ _ 4 _ _ fA
                    go_simp
                    clear c0 c1 c2 c3 c4 r0 r1 r2 r3 r4
                    refine hK.out _ _ (bset (bset (bset (bset (bset hH gA) gA) gA) gA) gA) (fun hH => ?_)
                    clear hK K
                    have fA := store5 (a' := .int .i64 0) (b' := .int .i64 0) (c' := .string ⟨#[]⟩) (d' := .string m1) (e' := .slice (some ⟨V1.heap.size, 0, none⟩) 1 1) fA
                    have fS := store5_other (G := W.heap.size) (.int .i64 0) (.int .i64 0) (.string ⟨#[]⟩) (.string m1) (.slice (some ⟨V1.heap.size, 0, none⟩) 1 1) (Ne.symm hne) fS
                    refine wpAnyH_done (by kernel_rfl) ?_ _
                    go_wp2_with fail
                    go_meet
                    case rel => exact ⟨W.heap.size, V1.heap.size, rfl, fA, fS, hH⟩
                case rest =>
                  obtain ⟨G2, S2, rfl, gB, gT, hb2⟩ := hcut
                  have HI2 := HI1.out.later hb2
                  have gA := (hb2.block _ (Array.getElem?_eq_some_iff.1 GA.out).1).trans GA.out
                  have gS := (hb2.block _ (Array.getElem?_eq_some_iff.1 GS.out).1).trans GS.out
                  obtain ⟨c0, c1, c2, c3, c4⟩ := five gA
                  obtain ⟨e0, e1, e2, e3, e4⟩ := five gB
                  obtain ⟨p0, p1, p2⟩ := PT.out _ HI2.2
                  obtain ⟨q0, q1, q2⟩ := PU.out _ HI2.2
                  have zg : GL < wc.heap.size := (Array.getElem?_eq_some_iff.1 HI2.2).1
                  have z1 : G1 < wc.heap.size := (Array.getElem?_eq_some_iff.1 gA).1
                  have z2 : G2 < wc.heap.size := (Array.getElem?_eq_some_iff.1 gB).1
                  have HPQ : Hid (∀ V, Below wc.heap.size wc V → Calls Try.prog 19 #[.agg #[.int .i64 0, .int .i64 0, .string ⟨#[]⟩, .string m1, .slice (some ⟨S1, 0, none⟩) 1 1], .agg #[.int .i64 0, .int .i64 0, .string ⟨#[]⟩, .string m1, .slice (some ⟨S2, 0, none⟩) 1 1]] V fun e w' => e = .returned (.int .i64 c) ∧ Below V.heap.size V w') := fun V h => by
                    have t1 : Ts V (.slice (some ⟨S1, 0, none⟩) 1 1) [⟨tk, tn, ts⟩] := (ts_block (t := ⟨tk, tn, ts⟩) gS).later h
                    have t2 : Ts V (.slice (some ⟨S2, 0, none⟩) 1 1) [⟨uk, un, us⟩] := (ts_block (t := ⟨uk, un, us⟩) gT).later h
                    have := cmpA_any ⟨zt, m1, [⟨tk, tn, ts⟩]⟩ ⟨zt, m1, [⟨uk, un, us⟩]⟩ _ _ V t1 t2
                    rw [cmp_one, HC.out] at this
                    exact this
                  have HI2 : Hid (Inv4 w GL wc #[.int .i64 k1, .int .i64 n1, .string s1, .string m1, x1] #[.int .i64 k2, .int .i64 n2, .string s2, .string m2, x2] #[.int .i64 k3, .int .i64 n3, .string s3, .string m3, x3] #[.int .i64 k1, .int .i64 n1, .string s1, .int .i64 k2, .int .i64 n2, .string s2, .int .i64 k3, .int .i64 n3, .string s3]) := HI2
                  clear gA gB gS gT hb2 HI1 GA GS
                  go_upto_region 17 with fail
                  refine wp_region_held_drew (S := fun w' => Below wc.heap.size wc w') (by kernel_rfl) (Below.refl _ _).drew (fun hH => ?_)
                  refine wpAnyH_take (i := 0) (oi := ⟨_, _, _, _, _, _⟩) (v := .agg #[.int .i64 0, .int .i64 0, .string ⟨#[]⟩, .string m1, .slice (some ⟨S1, 0, none⟩) 1 1]) rfl (by kernel_rfl) (by kernel_rfl) (by kernel_rfl) (fun _ _ _ h => h) (Or.inl ⟨by rfl, fun w' h => by have y0 := cell_step h z1 c0; have y1 := cell_step h z1 c1; have y2 := cell_step h z1 c2; have y3 := cell_step h z1 c3; have y4 := cell_step h z1 c4; clear p0 p1 p2 q0 q1 q2 c0 c1 c2 c3 c4 e0 e1 e2 e3 e4; go_simp⟩) hH ?_
                  simp only [Act.put, List.setIfInBounds_toArray, List.set_cons_zero, List.set_cons_succ]
                  refine wpAnyH_take (i := 1) (oi := ⟨_, _, _, _, _, _⟩) (v := .agg #[.int .i64 0, .int .i64 0, .string ⟨#[]⟩, .string m1, .slice (some ⟨S2, 0, none⟩) 1 1]) rfl (by kernel_rfl) (by kernel_rfl) (by kernel_rfl) (fun _ _ _ h => h) (Or.inl ⟨by rfl, fun w' h => by have y0 := cell_step h z2 e0; have y1 := cell_step h z2 e1; have y2 := cell_step h z2 e2; have y3 := cell_step h z2 e3; have y4 := cell_step h z2 e4; clear p0 p1 p2 q0 q1 q2 c0 c1 c2 c3 c4 e0 e1 e2 e3 e4; go_simp⟩) hH ?_
                  simp only [Act.put, List.setIfInBounds_toArray, List.set_cons_zero, List.set_cons_succ]
                  refine wpAnyH_take (i := 3) (oi := ⟨_, _, _, _, _, _⟩) (v := .slice (some ⟨GL, 0, none⟩) 3 3) rfl (by kernel_rfl) (by kernel_rfl) (by kernel_rfl) (fun _ _ _ h => h) (Or.inl ⟨by rfl, fun w' _ => by go_simp⟩) hH ?_
                  simp only [Act.put, List.setIfInBounds_toArray, List.set_cons_zero, List.set_cons_succ]
                  refine wpAnyH_take (i := 4) (oi := ⟨_, _, _, _, _, _⟩) (v := .int .i64 j) rfl (by kernel_rfl) (by kernel_rfl) (by kernel_rfl) (fun _ _ _ h => h) (Or.inl ⟨by rfl, fun w' _ => by go_simp⟩) hH ?_
                  simp only [Act.put, List.setIfInBounds_toArray, List.set_cons_zero, List.set_cons_succ]
                  refine wpAnyH_take (i := 5) (oi := ⟨_, _, _, _, _, _⟩) (v := .pointer (some ⟨GL, j * 3, none⟩)) rfl (by kernel_rfl) (by kernel_rfl) (by kernel_rfl) (fun _ _ _ h => h) (Or.inl ⟨by rfl, fun w' _ => by go_simp⟩) hH ?_
                  simp only [Act.put, List.setIfInBounds_toArray, List.set_cons_zero, List.set_cons_succ]
                  refine wpAnyH_take (i := 6) (oi := ⟨_, _, _, _, _, _⟩) (v := .agg #[.int .i64 tk, .int .i64 tn, .string ts]) rfl (by kernel_rfl) (by kernel_rfl) (by kernel_rfl) (fun _ _ _ h => h) (Or.inl ⟨by rfl, fun w' h => by have y0 := cell_step h zg p0; have y1 := cell_step h zg p1; have y2 := cell_step h zg p2; clear p0 p1 p2 q0 q1 q2 c0 c1 c2 c3 c4 e0 e1 e2 e3 e4; go_simp⟩) hH ?_
                  simp only [Act.put, List.setIfInBounds_toArray, List.set_cons_zero, List.set_cons_succ]
                  refine wpAnyH_take (i := 7) (oi := ⟨_, _, _, _, _, _⟩) (v := .slice (some ⟨GL, 0, none⟩) 3 3) rfl (by kernel_rfl) (by kernel_rfl) (by kernel_rfl) (fun _ _ _ h => h) (Or.inl ⟨by rfl, fun w' _ => by go_simp⟩) hH ?_
                  simp only [Act.put, List.setIfInBounds_toArray, List.set_cons_zero, List.set_cons_succ]
                  refine wpAnyH_take (i := 8) (oi := ⟨_, _, _, _, _, _⟩) (v := .int .i64 m) rfl (by kernel_rfl) (by kernel_rfl) (by kernel_rfl) (fun _ _ _ h => h) (Or.inl ⟨by rfl, fun w' _ => by go_simp⟩) hH ?_
                  simp only [Act.put, List.setIfInBounds_toArray, List.set_cons_zero, List.set_cons_succ]
                  refine wpAnyH_take (i := 9) (oi := ⟨_, _, _, _, _, _⟩) (v := .pointer (some ⟨GL, m * 3, none⟩)) rfl (by kernel_rfl) (by kernel_rfl) (by kernel_rfl) (fun _ _ _ h => h) (Or.inl ⟨by rfl, fun w' _ => by go_simp⟩) hH ?_
                  simp only [Act.put, List.setIfInBounds_toArray, List.set_cons_zero, List.set_cons_succ]
                  refine wpAnyH_take (i := 10) (oi := ⟨_, _, _, _, _, _⟩) (v := .agg #[.int .i64 uk, .int .i64 un, .string us]) rfl (by kernel_rfl) (by kernel_rfl) (by kernel_rfl) (fun _ _ _ h => h) (Or.inl ⟨by rfl, fun w' h => by have y0 := cell_step h zg q0; have y1 := cell_step h zg q1; have y2 := cell_step h zg q2; clear p0 p1 p2 q0 q1 q2 c0 c1 c2 c3 c4 e0 e1 e2 e3 e4; go_simp⟩) hH ?_
                  simp only [Act.put, List.setIfInBounds_toArray, List.set_cons_zero, List.set_cons_succ]
                  refine wpAnyH_ready (rs := [2]) (by kernel_rfl) (by simp) ?_
                  refine (AllReadyH.cons (o := ⟨_, _, _, _, _, _⟩) rfl (fun K hK => ?_) AllReadyH.nil)
                  go_simp
                  refine (HPQ.out _ hH).mono ?_
                  rintro e v1 ⟨rfl, hb⟩
                  refine hK.out _ _ (below_step hH hb) (fun hH => ?_)
                  clear hb hK K
                  refine wpAnyH_ready (rs := [11]) (by kernel_rfl) (by simp) ?_
                  refine (AllReadyH.cons (o := ⟨_, _, _, _, _, _⟩) rfl (fun K hK => ?_) AllReadyH.nil)
                  go_simp
                  refine (compare_any ⟨tk, tn, ts⟩ ⟨uk, un, us⟩ _).mono ?_
                  rw [HC.out]
                  rintro e v2 ⟨rfl, hb⟩
                  refine hK.out _ _ (below_step hH hb) (fun hH => ?_)
                  clear hb hK K
                  refine wpAnyH_take (i := 12) (oi := ⟨_, _, _, _, _, _⟩) (v := .bool false) rfl (by kernel_rfl) (by kernel_rfl) (by kernel_rfl) (fun _ _ _ h => h) (Or.inl ⟨by rfl, fun w' _ => by go_simp⟩) hH ?_
                  simp only [Act.put, List.setIfInBounds_toArray, List.set_cons_zero, List.set_cons_succ]
                  refine wpAnyH_take (i := 13) (oi := ⟨_, _, _, _, _, _⟩) (v := .bool false) rfl (by kernel_rfl) (by kernel_rfl) (by kernel_rfl) (fun _ _ _ h => h) (Or.inl ⟨by rfl, fun w' _ => by go_simp⟩) hH ?_
                  simp only [Act.put, List.setIfInBounds_toArray, List.set_cons_zero, List.set_cons_succ]
                  refine wpAnyH_take (i := 14) (oi := ⟨_, _, _, _, _, _⟩) (v := .slice (some ⟨GL, 0, none⟩) 3 3) rfl (by kernel_rfl) (by kernel_rfl) (by kernel_rfl) (fun _ _ _ h => h) (Or.inl ⟨by rfl, fun w' _ => by go_simp⟩) hH ?_
                  simp only [Act.put, List.setIfInBounds_toArray, List.set_cons_zero, List.set_cons_succ]
                  refine wpAnyH_take (i := 15) (oi := ⟨_, _, _, _, _, _⟩) (v := .int .i64 j) rfl (by kernel_rfl) (by kernel_rfl) (by kernel_rfl) (fun _ _ _ h => h) (Or.inl ⟨by rfl, fun w' _ => by go_simp⟩) hH ?_
                  simp only [Act.put, List.setIfInBounds_toArray, List.set_cons_zero, List.set_cons_succ]
                  refine wpAnyH_take (i := 16) (oi := ⟨_, _, _, _, _, _⟩) (v := .pointer (some ⟨GL, j * 3, none⟩)) rfl (by kernel_rfl) (by kernel_rfl) (by kernel_rfl) (fun _ _ _ h => h) (Or.inl ⟨by rfl, fun w' _ => by go_simp⟩) hH ?_
                  simp only [Act.put, List.setIfInBounds_toArray, List.set_cons_zero, List.set_cons_succ]
                  refine wpAnyH_take (i := 17) (oi := ⟨_, _, _, _, _, _⟩) (v := .agg #[.int .i64 tk, .int .i64 tn, .string ts]) rfl (by kernel_rfl) (by kernel_rfl) (by kernel_rfl) (fun _ _ _ h => h) (Or.inl ⟨by rfl, fun w' h => by have y0 := cell_step h zg p0; have y1 := cell_step h zg p1; have y2 := cell_step h zg p2; clear p0 p1 p2 q0 q1 q2 c0 c1 c2 c3 c4 e0 e1 e2 e3 e4; go_simp⟩) hH ?_
                  simp only [Act.put, List.setIfInBounds_toArray, List.set_cons_zero, List.set_cons_succ]
                  refine wpAnyH_take (i := 18) (oi := ⟨_, _, _, _, _, _⟩) (v := .slice (some ⟨GL, 0, none⟩) 3 3) rfl (by kernel_rfl) (by kernel_rfl) (by kernel_rfl) (fun _ _ _ h => h) (Or.inl ⟨by rfl, fun w' _ => by go_simp⟩) hH ?_
                  simp only [Act.put, List.setIfInBounds_toArray, List.set_cons_zero, List.set_cons_succ]
                  refine wpAnyH_take (i := 19) (oi := ⟨_, _, _, _, _, _⟩) (v := .int .i64 m) rfl (by kernel_rfl) (by kernel_rfl) (by kernel_rfl) (fun _ _ _ h => h) (Or.inl ⟨by rfl, fun w' _ => by go_simp⟩) hH ?_
                  simp only [Act.put, List.setIfInBounds_toArray, List.set_cons_zero, List.set_cons_succ]
                  refine wpAnyH_take (i := 20) (oi := ⟨_, _, _, _, _, _⟩) (v := .pointer (some ⟨GL, m * 3, none⟩)) rfl (by kernel_rfl) (by kernel_rfl) (by kernel_rfl) (fun _ _ _ h => h) (Or.inl ⟨by rfl, fun w' _ => by go_simp⟩) hH ?_
                  simp only [Act.put, List.setIfInBounds_toArray, List.set_cons_zero, List.set_cons_succ]
                  refine wpAnyH_take (i := 21) (oi := ⟨_, _, _, _, _, _⟩) (v := .agg #[.int .i64 uk, .int .i64 un, .string us]) rfl (by kernel_rfl) (by kernel_rfl) (by kernel_rfl) (fun _ _ _ h => h) (Or.inl ⟨by rfl, fun w' h => by have y0 := cell_step h zg q0; have y1 := cell_step h zg q1; have y2 := cell_step h zg q2; clear p0 p1 p2 q0 q1 q2 c0 c1 c2 c3 c4 e0 e1 e2 e3 e4; go_simp⟩) hH ?_
                  simp only [Act.put, List.setIfInBounds_toArray, List.set_cons_zero, List.set_cons_succ]
                  refine wpAnyH_take (i := 24) (oi := ⟨_, _, _, _, _, _⟩) (v := .slice (some ⟨GL, 0, none⟩) 3 3) rfl (by kernel_rfl) (by kernel_rfl) (by kernel_rfl) (fun _ _ _ h => h) (Or.inl ⟨by rfl, fun w' _ => by go_simp⟩) hH ?_
                  simp only [Act.put, List.setIfInBounds_toArray, List.set_cons_zero, List.set_cons_succ]
                  refine wpAnyH_take (i := 25) (oi := ⟨_, _, _, _, _, _⟩) (v := .int .i64 j) rfl (by kernel_rfl) (by kernel_rfl) (by kernel_rfl) (fun _ _ _ h => h) (Or.inl ⟨by rfl, fun w' _ => by go_simp⟩) hH ?_
                  simp only [Act.put, List.setIfInBounds_toArray, List.set_cons_zero, List.set_cons_succ]
                  refine wpAnyH_take (i := 26) (oi := ⟨_, _, _, _, _, _⟩) (v := .pointer (some ⟨GL, j * 3, none⟩)) rfl (by kernel_rfl) (by kernel_rfl) (by kernel_rfl) (fun _ _ _ h => h) (Or.inl ⟨by rfl, fun w' _ => by go_simp⟩) hH ?_
                  simp only [Act.put, List.setIfInBounds_toArray, List.set_cons_zero, List.set_cons_succ]
                  refine wpAnyH_take (i := 27) (oi := ⟨_, _, _, _, _, _⟩) (v := .agg #[.int .i64 tk, .int .i64 tn, .string ts]) rfl (by kernel_rfl) (by kernel_rfl) (by kernel_rfl) (fun _ _ _ h => h) (Or.inl ⟨by rfl, fun w' h => by have y0 := cell_step h zg p0; have y1 := cell_step h zg p1; have y2 := cell_step h zg p2; clear p0 p1 p2 q0 q1 q2 c0 c1 c2 c3 c4 e0 e1 e2 e3 e4; go_simp⟩) hH ?_
                  simp only [Act.put, List.setIfInBounds_toArray, List.set_cons_zero, List.set_cons_succ]
                  refine wpAnyH_take (i := 28) (oi := ⟨_, _, _, _, _, _⟩) (v := .slice (some ⟨GL, 0, none⟩) 3 3) rfl (by kernel_rfl) (by kernel_rfl) (by kernel_rfl) (fun _ _ _ h => h) (Or.inl ⟨by rfl, fun w' _ => by go_simp⟩) hH ?_
                  simp only [Act.put, List.setIfInBounds_toArray, List.set_cons_zero, List.set_cons_succ]
                  refine wpAnyH_take (i := 29) (oi := ⟨_, _, _, _, _, _⟩) (v := .int .i64 m) rfl (by kernel_rfl) (by kernel_rfl) (by kernel_rfl) (fun _ _ _ h => h) (Or.inl ⟨by rfl, fun w' _ => by go_simp⟩) hH ?_
                  simp only [Act.put, List.setIfInBounds_toArray, List.set_cons_zero, List.set_cons_succ]
                  refine wpAnyH_take (i := 30) (oi := ⟨_, _, _, _, _, _⟩) (v := .pointer (some ⟨GL, m * 3, none⟩)) rfl (by kernel_rfl) (by kernel_rfl) (by kernel_rfl) (fun _ _ _ h => h) (Or.inl ⟨by rfl, fun w' _ => by go_simp⟩) hH ?_
                  simp only [Act.put, List.setIfInBounds_toArray, List.set_cons_zero, List.set_cons_succ]
                  refine wpAnyH_take (i := 31) (oi := ⟨_, _, _, _, _, _⟩) (v := .agg #[.int .i64 uk, .int .i64 un, .string us]) rfl (by kernel_rfl) (by kernel_rfl) (by kernel_rfl) (fun _ _ _ h => h) (Or.inl ⟨by rfl, fun w' h => by have y0 := cell_step h zg q0; have y1 := cell_step h zg q1; have y2 := cell_step h zg q2; clear p0 p1 p2 q0 q1 q2 c0 c1 c2 c3 c4 e0 e1 e2 e3 e4; go_simp⟩) hH ?_
                  simp only [Act.put, List.setIfInBounds_toArray, List.set_cons_zero, List.set_cons_succ]
                  refine wpAnyH_take (i := 32) (oi := ⟨_, _, _, _, _, _⟩) (v := .bool (c == 0)) rfl (by kernel_rfl) (by kernel_rfl) (by kernel_rfl) (fun _ _ _ h => h) (Or.inl ⟨by rfl, fun w' _ => by go_simp⟩) hH ?_
                  simp only [Act.put, List.setIfInBounds_toArray, List.set_cons_zero, List.set_cons_succ]
                  refine wpAnyH_ready (rs := [22]) (by kernel_rfl) (by simp) ?_
                  refine (AllReadyH.cons (o := ⟨_, _, _, _, _, _⟩) rfl (fun K hK => ?_) AllReadyH.nil)
                  go_simp
                  refine (compare_any ⟨tk, tn, ts⟩ ⟨uk, un, us⟩ _).mono ?_
                  rw [HC.out]
                  rintro e v3 ⟨rfl, hb⟩
                  refine hK.out _ _ (below_step hH hb) (fun hH => ?_)
                  clear hb hK K
                  refine wpAnyH_take (i := 23) (oi := ⟨_, _, _, _, _, _⟩) (v := .bool (c == 0)) rfl (by kernel_rfl) (by kernel_rfl) (by kernel_rfl) (fun _ _ _ h => h) (Or.inl ⟨by rfl, fun w' _ => by go_simp⟩) hH ?_
                  simp only [Act.put, List.setIfInBounds_toArray, List.set_cons_zero, List.set_cons_succ]
                  refine wpAnyH_take (i := 33) (oi := ⟨_, _, _, _, _, _⟩) (v := .bool false) rfl (by kernel_rfl) (by kernel_rfl) (by kernel_rfl) (fun _ _ _ h => h) (Or.inl ⟨by rfl, fun w' _ => by go_simp⟩) hH ?_
                  simp only [Act.put, List.setIfInBounds_toArray, List.set_cons_zero, List.set_cons_succ]
                  refine wpAnyH_take (i := 34) (oi := ⟨_, _, _, _, _, _⟩) (v := .bool false) rfl (by kernel_rfl) (by kernel_rfl) (by kernel_rfl) (fun _ _ _ h => h) (Or.inl ⟨by rfl, fun w' _ => by go_simp⟩) hH ?_
                  simp only [Act.put, List.setIfInBounds_toArray, List.set_cons_zero, List.set_cons_succ]
                  refine wpAnyH_done (by kernel_rfl) ?_ _
                  go_wp2
                  go_roundg g2
                  case measure => omega
                  case rel => exact ⟨m + 1, by omega, by go_num, HI2.out.later hH⟩
end Go.Proofs.Ytjjppmidhpgnkaa
