/-
  hearsaylaw04.TokensFront: the walk.
-/
import Derived.Test.YtkobpmekonaemaaDoorK18
namespace Go.Proofs.YtkobpmekonaemaaDoor
open Go.RowKit

theorem kpost_parts {w : World} {R : List Tk × Int × Int} {f : Nat} {args : Array Value} {e p : Int} (h : Calls Tryd.prog f args w (KPost w R)) (he : R.2.1 = e) (hp : R.2.2 = p) :
    Calls Tryd.prog f args w fun e' w' => ∃ v', e' = .returned (.tuple #[v', .agg #[.int .i64 e, .int .i64 p]]) ∧ Below w.heap.size w w' := by
  subst he hp
  exact h.mono fun e' w' ⟨v', h1, _, h3⟩ => ⟨v', h1, h3⟩
set_option maxRecDepth 20000 in
set_option maxHeartbeats 2000000 in
theorem front_any (s t : ByteArray) (hs : s.size ≤ 2000000) (ht : t.size ≤ 2000000) (w : World) (hE : EnvOk w) :
    Calls Tryd.prog 4 #[.string s, .string t] w fun e w' => e = .returned (.bool true) ∧ Below w.heap.size w w' := by
  have HE : Hid (EnvOk w) := hE
  have ch := fun (X : World) (h : EnvOk X) => head_any X h
  have c1 := fun (X : World) (h : EnvOk X) => cut_any s s.size (by omega) X h
  rcases front_plain s t with ⟨h1, h2⟩ | ⟨p, h1, h2, h3, h4, h5⟩
  · have c1' := fun (X : World) (h : EnvOk X) => kpost_parts (c1 X h) h1 h2
    clear c1 h1 h2 hE
    go_enter Tryd.func4, Tryd.ntmps4
    go_upto_region 2 with (go_at_call 13; refine (c1' _ HE.out).mono ?_; rintro e w1 ⟨v', rfl, hb1⟩)
    have bx := below1 w1 (.cells #[.int .i64 0, .int .i64 0] 27)
    have fx := Blk.new w1 #[.int .i64 0, .int .i64 0] 27
    revert bx fx
    generalize w1.alloc (.cells #[.int .i64 0, .int .i64 0] 27) = W
    intro bx fx
    have HB : Hid (Below w.heap.size w W) := below_step hb1 bx
    have HF : Hid (Blk W w1.heap.size #[.int .i64 0, .int .i64 0] 27) := fx
    have HEW : Hid (EnvOk W) := HE.out.later (below_step hb1 bx)
    clear bx fx hb1 c1'
    go_wp2_with (go_at_call 14; refine (ch _ HEW.out).mono ?_; rintro e w2 ⟨rfl, hb2⟩; obtain ⟨b0, b1, -, -⟩ := two (HF.out.later hb2); have HB2 : Hid (Below _ _ _) := hb2; clear hb2)
    go_ret
    exact ⟨rfl, below_step HB.out HB2.out⟩
  · obtain ⟨E, hEE⟩ : ∃ E, (cutL (bl s) s.size).2.1 = E := ⟨_, rfl⟩
    have c1' := fun (X : World) (h : EnvOk X) => kpost_parts (c1 X h) hEE h1
    have hxz : (s.extract 0 p).size ≤ 9000000 := by rw [ByteArray.size_extract]; omega
    have hyz : (s ++ ⟨#[32]⟩ ++ t).size ≤ 9000000 := by
      rw [ByteArray.size_append, ByteArray.size_append]
      have : (⟨#[32]⟩ : ByteArray).size = 1 := rfl
      omega
    rw [hEE] at h3 h4 h5
    have c2 := fun (X : World) (h : EnvOk X) => kpost_parts (cut_any (s.extract 0 p) (s.extract 0 p).size hxz X h) h4 rfl
    have c3 := fun (X : World) (h : EnvOk X) => kpost_parts (cut_any (s ++ ⟨#[32]⟩ ++ t) (s ++ ⟨#[32]⟩ ++ t).size hyz X h) rfl rfl
    have HQ : Hid (E = 42 ∨ E = 45 → (cutL (bl (s ++ ⟨#[32]⟩ ++ t)) ((s ++ ⟨#[32]⟩ ++ t).size : Nat)).2.1 = E ∧ (cutL (bl (s ++ ⟨#[32]⟩ ++ t)) ((s ++ ⟨#[32]⟩ ++ t).size : Nat)).2.2 = p) := fun h => by
      rw [h5 h]; exact ⟨hEE, h1⟩
    generalize (cutL (bl (s ++ ⟨#[32]⟩ ++ t)) ((s ++ ⟨#[32]⟩ ++ t).size : Nat)).2.1 = E3 at *
    generalize (cutL (bl (s ++ ⟨#[32]⟩ ++ t)) ((s ++ ⟨#[32]⟩ ++ t).size : Nat)).2.2 = P3 at *
    generalize (cutL (bl (s.extract 0 p)) (s.extract 0 p).size).2.2 = P2 at *
    have hq := run_eql_ft E3 P3 E p
    have i0 : (0 : Int) ≤ (p : Int) := by omega
    have i1 : (p : Int) < (s.size : Int) := by omega
    have i2 : (p : Int) ≤ (s.size : Int) := by omega
    clear c1 h1 h2 h4 h5 hE hEE hxz hyz
    obtain ⟨X, hX⟩ : ∃ X, s.extract 0 p = X := ⟨_, rfl⟩
    rw [hX] at c2
    obtain ⟨Y, hY⟩ : ∃ Y, s ++ ⟨#[32]⟩ ++ t = Y := ⟨_, rfl⟩
    rw [hY] at c3
    rcases h3 with rfl | rfl | rfl | rfl
    all_goals
      simp only [Int.reduceEq, if_false, if_true] at c2
    · go_enter Tryd.func4, Tryd.ntmps4
      go_upto_region 2 with (go_at_call 13; refine (c1' _ HE.out).mono ?_; rintro e w1 ⟨v1, rfl, hb1⟩)
      have bx := below1 w1 (.cells #[.int .i64 42, .int .i64 p] 27)
      have fx := Blk.new w1 #[.int .i64 42, .int .i64 p] 27
      revert bx fx
      generalize w1.alloc (.cells #[.int .i64 42, .int .i64 p] 27) = W
      intro bx fx
      have HB : Hid (Below w.heap.size w W) := below_step hb1 bx
      have HF : Hid (Blk W w1.heap.size #[.int .i64 42, .int .i64 p] 27) := fx
      have HEW : Hid (EnvOk W) := HE.out.later (below_step hb1 bx)
      clear bx fx hb1 c1'
      go_upto_region 9 with (go_at_call 14; refine (ch _ HEW.out).mono ?_; rintro e w2 ⟨rfl, hb2⟩; obtain ⟨b0, b1, -, -⟩ := two (HF.out.later hb2); have HB2 : Hid (Below W.heap.size W w2) := hb2; clear hb2)
      have HF2 : Hid (Blk w2 w1.heap.size #[.int .i64 42, .int .i64 p] 27) := HF.out.later HB2.out
      have HE2 : Hid (EnvOk w2) := HEW.out.later HB2.out
      go_upto_region 10 with (go_at_call 13; refine (c2 _ HE2.out).mono ?_; rintro e w3 ⟨v3, rfl, hb3⟩; have HB3 : Hid (Below w2.heap.size w2 w3) := hb3; clear hb3)
      have bx := below1 w3 (.cells #[.int .i64 0, .int .i64 P2] 27)
      have fx := Blk.new w3 #[.int .i64 0, .int .i64 P2] 27
      revert bx fx
      generalize w3.alloc (.cells #[.int .i64 0, .int .i64 P2] 27) = W3
      intro bx fx
      have HBW3 : Hid (Below w2.heap.size w2 W3) := below_step HB3.out bx
      have HF3 : Hid (Blk W3 w1.heap.size #[.int .i64 42, .int .i64 p] 27) := HF2.out.later HBW3.out
      have HE3 : Hid (EnvOk W3) := HE2.out.later HBW3.out
      clear b0 b1
      obtain ⟨b0, b1, -, -⟩ := two HF3.out
      obtain ⟨d0, d1, -, -⟩ := two fx
      clear bx fx c2 ch
      go_upto_region 17 with (go_at_call 13; refine (c3 _ HE3.out).mono ?_; rintro e w4 ⟨v4, rfl, hb4⟩; have HB4 : Hid (Below W3.heap.size W3 w4) := hb4; clear hb4)
      have bx := below1 w4 (.cells #[.int .i64 E3, .int .i64 P3] 27)
      have fx := Blk.new w4 #[.int .i64 E3, .int .i64 P3] 27
      revert bx fx
      generalize w4.alloc (.cells #[.int .i64 E3, .int .i64 P3] 27) = W4
      intro bx fx
      have HBW4 : Hid (Below W3.heap.size W3 W4) := below_step HB4.out bx
      clear b0 b1 d0 d1
      obtain ⟨b0, b1, -, -⟩ := two (HF3.out.later HBW4.out)
      obtain ⟨d0, d1, -, -⟩ := two fx
      clear bx fx c3
      have hd : decide (E3 = 42 ∧ P3 = (p : Int)) = true := decide_eq_true (HQ.out (by simp))
      rw [hd] at hq
      clear hd
      go_wp2
      go_ret
      exact ⟨rfl, below_step (below_step (below_step HB.out HB2.out) HBW3.out) HBW4.out⟩
    · go_enter Tryd.func4, Tryd.ntmps4
      go_upto_region 2 with (go_at_call 13; refine (c1' _ HE.out).mono ?_; rintro e w1 ⟨v1, rfl, hb1⟩)
      have bx := below1 w1 (.cells #[.int .i64 43, .int .i64 p] 27)
      have fx := Blk.new w1 #[.int .i64 43, .int .i64 p] 27
      revert bx fx
      generalize w1.alloc (.cells #[.int .i64 43, .int .i64 p] 27) = W
      intro bx fx
      have HB : Hid (Below w.heap.size w W) := below_step hb1 bx
      have HF : Hid (Blk W w1.heap.size #[.int .i64 43, .int .i64 p] 27) := fx
      have HEW : Hid (EnvOk W) := HE.out.later (below_step hb1 bx)
      clear bx fx hb1 c1'
      go_upto_region 9 with (go_at_call 14; refine (ch _ HEW.out).mono ?_; rintro e w2 ⟨rfl, hb2⟩; obtain ⟨b0, b1, -, -⟩ := two (HF.out.later hb2); have HB2 : Hid (Below W.heap.size W w2) := hb2; clear hb2)
      have HF2 : Hid (Blk w2 w1.heap.size #[.int .i64 43, .int .i64 p] 27) := HF.out.later HB2.out
      have HE2 : Hid (EnvOk w2) := HEW.out.later HB2.out
      go_upto_region 10 with (go_at_call 13; refine (c2 _ HE2.out).mono ?_; rintro e w3 ⟨v3, rfl, hb3⟩; have HB3 : Hid (Below w2.heap.size w2 w3) := hb3; clear hb3)
      have bx := below1 w3 (.cells #[.int .i64 0, .int .i64 P2] 27)
      have fx := Blk.new w3 #[.int .i64 0, .int .i64 P2] 27
      revert bx fx
      generalize w3.alloc (.cells #[.int .i64 0, .int .i64 P2] 27) = W3
      intro bx fx
      have HBW3 : Hid (Below w2.heap.size w2 W3) := below_step HB3.out bx
      have HF3 : Hid (Blk W3 w1.heap.size #[.int .i64 43, .int .i64 p] 27) := HF2.out.later HBW3.out
      have HE3 : Hid (EnvOk W3) := HE2.out.later HBW3.out
      clear b0 b1
      obtain ⟨b0, b1, -, -⟩ := two HF3.out
      obtain ⟨d0, d1, -, -⟩ := two fx
      clear bx fx c2 ch
      go_upto_region 17 with (go_at_call 13; refine (c3 _ HE3.out).mono ?_; rintro e w4 ⟨v4, rfl, hb4⟩; have HB4 : Hid (Below W3.heap.size W3 w4) := hb4; clear hb4)
      have bx := below1 w4 (.cells #[.int .i64 E3, .int .i64 P3] 27)
      have fx := Blk.new w4 #[.int .i64 E3, .int .i64 P3] 27
      revert bx fx
      generalize w4.alloc (.cells #[.int .i64 E3, .int .i64 P3] 27) = W4
      intro bx fx
      have HBW4 : Hid (Below W3.heap.size W3 W4) := below_step HB4.out bx
      clear b0 b1 d0 d1
      obtain ⟨b0, b1, -, -⟩ := two (HF3.out.later HBW4.out)
      obtain ⟨d0, d1, -, -⟩ := two fx
      clear bx fx c3
      cases hd : decide (E3 = 43 ∧ P3 = (p : Int))
      · rw [hd] at hq
        clear hd
        go_wp2
        go_ret
        exact ⟨rfl, below_step (below_step (below_step HB.out HB2.out) HBW3.out) HBW4.out⟩
      · rw [hd] at hq
        clear hd
        go_wp2
        go_ret
        exact ⟨rfl, below_step (below_step (below_step HB.out HB2.out) HBW3.out) HBW4.out⟩
    · go_enter Tryd.func4, Tryd.ntmps4
      go_upto_region 2 with (go_at_call 13; refine (c1' _ HE.out).mono ?_; rintro e w1 ⟨v1, rfl, hb1⟩)
      have bx := below1 w1 (.cells #[.int .i64 44, .int .i64 p] 27)
      have fx := Blk.new w1 #[.int .i64 44, .int .i64 p] 27
      revert bx fx
      generalize w1.alloc (.cells #[.int .i64 44, .int .i64 p] 27) = W
      intro bx fx
      have HB : Hid (Below w.heap.size w W) := below_step hb1 bx
      have HF : Hid (Blk W w1.heap.size #[.int .i64 44, .int .i64 p] 27) := fx
      have HEW : Hid (EnvOk W) := HE.out.later (below_step hb1 bx)
      clear bx fx hb1 c1'
      go_upto_region 9 with (go_at_call 14; refine (ch _ HEW.out).mono ?_; rintro e w2 ⟨rfl, hb2⟩; obtain ⟨b0, b1, -, -⟩ := two (HF.out.later hb2); have HB2 : Hid (Below W.heap.size W w2) := hb2; clear hb2)
      have HF2 : Hid (Blk w2 w1.heap.size #[.int .i64 44, .int .i64 p] 27) := HF.out.later HB2.out
      have HE2 : Hid (EnvOk w2) := HEW.out.later HB2.out
      go_upto_region 10 with (go_at_call 13; refine (c2 _ HE2.out).mono ?_; rintro e w3 ⟨v3, rfl, hb3⟩; have HB3 : Hid (Below w2.heap.size w2 w3) := hb3; clear hb3)
      have bx := below1 w3 (.cells #[.int .i64 43, .int .i64 P2] 27)
      have fx := Blk.new w3 #[.int .i64 43, .int .i64 P2] 27
      revert bx fx
      generalize w3.alloc (.cells #[.int .i64 43, .int .i64 P2] 27) = W3
      intro bx fx
      have HBW3 : Hid (Below w2.heap.size w2 W3) := below_step HB3.out bx
      have HF3 : Hid (Blk W3 w1.heap.size #[.int .i64 44, .int .i64 p] 27) := HF2.out.later HBW3.out
      have HE3 : Hid (EnvOk W3) := HE2.out.later HBW3.out
      clear b0 b1
      obtain ⟨b0, b1, -, -⟩ := two HF3.out
      obtain ⟨d0, d1, -, -⟩ := two fx
      clear bx fx c2 ch
      go_upto_region 17 with (go_at_call 13; refine (c3 _ HE3.out).mono ?_; rintro e w4 ⟨v4, rfl, hb4⟩; have HB4 : Hid (Below W3.heap.size W3 w4) := hb4; clear hb4)
      have bx := below1 w4 (.cells #[.int .i64 E3, .int .i64 P3] 27)
      have fx := Blk.new w4 #[.int .i64 E3, .int .i64 P3] 27
      revert bx fx
      generalize w4.alloc (.cells #[.int .i64 E3, .int .i64 P3] 27) = W4
      intro bx fx
      have HBW4 : Hid (Below W3.heap.size W3 W4) := below_step HB4.out bx
      clear b0 b1 d0 d1
      obtain ⟨b0, b1, -, -⟩ := two (HF3.out.later HBW4.out)
      obtain ⟨d0, d1, -, -⟩ := two fx
      clear bx fx c3
      cases hd : decide (E3 = 44 ∧ P3 = (p : Int))
      · rw [hd] at hq
        clear hd
        go_wp2
        go_ret
        exact ⟨rfl, below_step (below_step (below_step HB.out HB2.out) HBW3.out) HBW4.out⟩
      · rw [hd] at hq
        clear hd
        go_wp2
        go_ret
        exact ⟨rfl, below_step (below_step (below_step HB.out HB2.out) HBW3.out) HBW4.out⟩
    · go_enter Tryd.func4, Tryd.ntmps4
      go_upto_region 2 with (go_at_call 13; refine (c1' _ HE.out).mono ?_; rintro e w1 ⟨v1, rfl, hb1⟩)
      have bx := below1 w1 (.cells #[.int .i64 45, .int .i64 p] 27)
      have fx := Blk.new w1 #[.int .i64 45, .int .i64 p] 27
      revert bx fx
      generalize w1.alloc (.cells #[.int .i64 45, .int .i64 p] 27) = W
      intro bx fx
      have HB : Hid (Below w.heap.size w W) := below_step hb1 bx
      have HF : Hid (Blk W w1.heap.size #[.int .i64 45, .int .i64 p] 27) := fx
      have HEW : Hid (EnvOk W) := HE.out.later (below_step hb1 bx)
      clear bx fx hb1 c1'
      go_upto_region 9 with (go_at_call 14; refine (ch _ HEW.out).mono ?_; rintro e w2 ⟨rfl, hb2⟩; obtain ⟨b0, b1, -, -⟩ := two (HF.out.later hb2); have HB2 : Hid (Below W.heap.size W w2) := hb2; clear hb2)
      have HF2 : Hid (Blk w2 w1.heap.size #[.int .i64 45, .int .i64 p] 27) := HF.out.later HB2.out
      have HE2 : Hid (EnvOk w2) := HEW.out.later HB2.out
      go_upto_region 10 with (go_at_call 13; refine (c2 _ HE2.out).mono ?_; rintro e w3 ⟨v3, rfl, hb3⟩; have HB3 : Hid (Below w2.heap.size w2 w3) := hb3; clear hb3)
      have bx := below1 w3 (.cells #[.int .i64 0, .int .i64 P2] 27)
      have fx := Blk.new w3 #[.int .i64 0, .int .i64 P2] 27
      revert bx fx
      generalize w3.alloc (.cells #[.int .i64 0, .int .i64 P2] 27) = W3
      intro bx fx
      have HBW3 : Hid (Below w2.heap.size w2 W3) := below_step HB3.out bx
      have HF3 : Hid (Blk W3 w1.heap.size #[.int .i64 45, .int .i64 p] 27) := HF2.out.later HBW3.out
      have HE3 : Hid (EnvOk W3) := HE2.out.later HBW3.out
      clear b0 b1
      obtain ⟨b0, b1, -, -⟩ := two HF3.out
      obtain ⟨d0, d1, -, -⟩ := two fx
      clear bx fx c2 ch
      go_upto_region 17 with (go_at_call 13; refine (c3 _ HE3.out).mono ?_; rintro e w4 ⟨v4, rfl, hb4⟩; have HB4 : Hid (Below W3.heap.size W3 w4) := hb4; clear hb4)
      have bx := below1 w4 (.cells #[.int .i64 E3, .int .i64 P3] 27)
      have fx := Blk.new w4 #[.int .i64 E3, .int .i64 P3] 27
      revert bx fx
      generalize w4.alloc (.cells #[.int .i64 E3, .int .i64 P3] 27) = W4
      intro bx fx
      have HBW4 : Hid (Below W3.heap.size W3 W4) := below_step HB4.out bx
      clear b0 b1 d0 d1
      obtain ⟨b0, b1, -, -⟩ := two (HF3.out.later HBW4.out)
      obtain ⟨d0, d1, -, -⟩ := two fx
      clear bx fx c3
      have hd : decide (E3 = 45 ∧ P3 = (p : Int)) = true := decide_eq_true (HQ.out (by simp))
      rw [hd] at hq
      clear hd
      go_wp2
      go_ret
      exact ⟨rfl, below_step (below_step (below_step HB.out HB2.out) HBW3.out) HBW4.out⟩
end Go.Proofs.YtkobpmekonaemaaDoor
