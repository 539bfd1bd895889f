/-
  hearsaylaw04.TokensSpells: the walk.
-/
import Derived.Test.YtekjicklbgpdcabDoorKR11
namespace Go.Proofs.YtekjicklbgpdcabDoor
open Go.RowKit

set_option maxRecDepth 20000 in
set_option maxHeartbeats 2000000 in
theorem spells_any (t : Tk) (ho : okt t) (w : World) (hE : EnvOk w) (hQ : QOk w) :
    Calls Tryd.prog 6 #[t.v] w fun e w' => e = .returned (.bool true) ∧ Below w.heap.size w w' := by
  have c1 := fun (X : World) (h : EnvOk X) => spell_any t ho.1 ho.2.1 ho.2.2 X h
  have c2 := fun (X : World) (h : QOk X) => qspell_any t ho X h
  have ch := fun (X : World) (h : EnvOk X) => head_any X h
  obtain ⟨S, hS⟩ : ∃ S, (spl t).getD ⟨#[]⟩ = S := ⟨_, rfl⟩
  obtain ⟨b, hb⟩ : ∃ b, (spl t).isSome = b := ⟨_, rfl⟩
  rw [hS, hb] at c1 c2
  have e1 := str_dec S S
  rw [decide_eq_true rfl] at e1
  have HE : Hid (EnvOk w) := hE
  have HQ : Hid (QOk w) := hQ
  obtain ⟨k, x, n, a, e⟩ := t
  clear ho hE hQ hS hb
  go_enter Tryd.func6, Tryd.ntmps6
  go_upto_region 1 with fail
  have hb1 := below1 w (.cells #[.int .i64 k, .string x, .int .i64 n, .int .i64 a, .int .i64 e] 37)
  have B1 := Blk.new w #[.int .i64 k, .string x, .int .i64 n, .int .i64 a, .int .i64 e] 37
  revert hb1 B1
  generalize w.alloc (.cells #[.int .i64 k, .string x, .int .i64 n, .int .i64 a, .int .i64 e] 37) = W
  intro hb1 B1
  have HB : Hid (Below w.heap.size w W) := hb1
  have BT : Hid (Blk W w.heap.size #[.int .i64 k, .string x, .int .i64 n, .int .i64 a, .int .i64 e] 37) := B1
  obtain ⟨d0, d1, d2, d3, d4⟩ := five B1
  clear hb1 B1
  go_upto_region 2 with (go_at_call 17; refine (c1 _ (HE.out.later HB.out)).mono ?_; rintro y w1 ⟨rfl, hb1⟩)
  have HB1 : Hid (Below w.heap.size w w1) := below_step HB.out hb1
  clear d0 d1 d2 d3 d4
  obtain ⟨d0, d1, d2, d3, d4⟩ := five (BT.out.later hb1)
  clear hb1 c1 BT HB
  go_upto_region 3 with (go_at_call 18; refine (c2 _ (HQ.out.later HB1.out)).mono ?_; rintro y w2 ⟨rfl, hb2⟩)
  have HB2 : Hid (Below w.heap.size w w2) := below_step HB1.out hb2
  clear d0 d1 d2 d3 d4 hb2 c2 HB1
  cases b <;>
  · go_wp2_with (go_at_call 9; refine (ch _ (HE.out.later HB2.out)).mono ?_; rintro y w3 ⟨rfl, hb3⟩)
    go_ret
    exact ⟨rfl, below_step HB2.out hb3⟩
end Go.Proofs.YtekjicklbgpdcabDoor
