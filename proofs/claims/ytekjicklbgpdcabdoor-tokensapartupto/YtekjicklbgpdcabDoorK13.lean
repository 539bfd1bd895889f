/-
  head: its text, cut and joined.
-/
import Derived.Test.YtekjicklbgpdcabDoorK12
namespace Go.Proofs.YtekjicklbgpdcabDoor
open Go.RowKit

def hB : ByteArray := ⟨#[112, 40, 88, 41, 58, 45, 34, 97, 34, 32, 115, 97, 121, 115, 32, 113, 44, 32, 88, 60, 61, 45, 55, 46]⟩
def hT : List Tk := [⟨1, ⟨#[112]⟩, 0, 0, 1⟩, ⟨6, ⟨#[]⟩, 0, 1, 2⟩, ⟨2, ⟨#[88]⟩, 0, 2, 3⟩, ⟨7, ⟨#[]⟩, 0, 3, 4⟩, ⟨11, ⟨#[]⟩, 0, 4, 6⟩, ⟨3, ⟨#[97]⟩, 0, 6, 9⟩, ⟨5, ⟨#[]⟩, 0, 10, 14⟩, ⟨1, ⟨#[113]⟩, 0, 15, 16⟩, ⟨8, ⟨#[]⟩, 0, 16, 17⟩, ⟨2, ⟨#[88]⟩, 0, 18, 19⟩, ⟨16, ⟨#[]⟩, 0, 19, 21⟩, ⟨4, ⟨#[]⟩, -7, 21, 23⟩, ⟨10, ⟨#[]⟩, 0, 23, 24⟩]
theorem hT_cut : cutL (bl hB) 100 = (hT, 0, 0) := by kernel_rfl
theorem hT_join : jn hT = some (bl ⟨#[112, 40, 88, 41, 58, 45, 34, 97, 34, 115, 97, 121, 115, 32, 113, 44, 88, 60, 61, 45, 55, 46]⟩) := by kernel_rfl
theorem run_neq_tk (t : Tk) (w : World) : (binOp .neq 37 t.v t.v).run Tryd.prog w = .ok (.bool false) w := by
  obtain ⟨k, x, n, a, e⟩ := t
  go_simp
theorem hT_len : hT.length = 13 := rfl
theorem hT_ok : ∀ t ∈ hT, okt t := by
  intro t ht
  simp only [hT, List.mem_cons, List.not_mem_nil, or_false] at ht
  rcases ht with rfl | rfl | rfl | rfl | rfl | rfl | rfl | rfl | rfl | rfl | rfl | rfl | rfl <;> exact ⟨by decide, by decide, by decide⟩
set_option maxRecDepth 20000 in
set_option maxHeartbeats 1000000 in
theorem head_any (w : World) (hE : EnvOk w) : Calls Tryd.prog 9 #[] w fun e w' => e = .returned (.bool true) ∧ Below w.heap.size w w' := by
  have cc : Calls Tryd.prog 8 #[.string ⟨#[112, 40, 88, 41, 58, 45, 34, 97, 34, 32, 115, 97, 121, 115, 32, 113, 44, 32, 88, 60, 61, 45, 55, 46]⟩, .int .i64 100] w (KPost w (hT, 0, 0)) := by
    have := cut_any hB 100 (by decide) w hE
    rw [hT_cut] at this
    exact this
  have HE : Hid (EnvOk w) := hE
  have n0 := run_neq_tk ⟨1, ⟨#[112]⟩, 0, 0, 1⟩
  have n1 := run_neq_tk ⟨4, ⟨#[]⟩, -7, 21, 23⟩
  have e1 := str_dec ⟨#[112, 40, 88, 41, 58, 45, 34, 97, 34, 115, 97, 121, 115, 32, 113, 44, 88, 60, 61, 45, 55, 46]⟩ ⟨#[112, 40, 88, 41, 58, 45, 34, 97, 34, 115, 97, 121, 115, 32, 113, 44, 88, 60, 61, 45, 55, 46]⟩
  rw [decide_eq_true rfl] at e1
  clear hE
  go_enter Tryd.func9, Tryd.ntmps9
  go_upto_region 2 with (go_at_call 8; refine cc.mono ?_; rintro e w1 ⟨v', rfl, ho, hb⟩)
  obtain ⟨g, cap, rfl, -, -⟩ := World.ownsRow.form ho (by rw [hT_len]; omega)
  have bx := below1 w1 (.cells #[.int .i64 0, .int .i64 0] 25)
  have fx := Blk.new w1 #[.int .i64 0, .int .i64 0] 25
  have hok := ho.later bx
  simp only [hT_len] at *
  revert bx fx hok
  generalize w1.alloc (.cells #[.int .i64 0, .int .i64 0] 25) = W
  intro bx fx hok
  obtain ⟨b0, b1, -, -⟩ := two fx
  have hks := hok.ks
  have HKS : Hid (Ks W (.slice (some ⟨g, 0, none⟩) 13 cap) hT) := hks
  have HB : Hid (Below w.heap.size w W) := below_step hb bx
  obtain ⟨a', cap', hva, hmem⟩ := hks
  simp only [Value.slice.injEq, hT_len, true_and] at hva
  obtain ⟨rfl, rfl⟩ := hva
  rcases hmem with hmem | ⟨b, o, hbo, hblt, hmem⟩
  · have := congrArg List.length hmem; rw [hT_len] at this; simp at this
  simp only [Option.some.injEq, Addr.mk.injEq, and_true] at hbo
  obtain ⟨rfl, rfl⟩ := hbo
  obtain ⟨c0, c1, c2, c3, c4⟩ := hmem 0 _ rfl
  obtain ⟨d0, d1, d2, d3, d4⟩ := hmem 11 _ rfl
  have cj := fun (X : World) (h : Below W.heap.size W X) => join_any hT (.slice (some ⟨g, 0, none⟩) 13 cap) X (HKS.out.later h) (HE.out.later (below_step HB.out h)) hT_ok (by decide) (by decide)
  rw [hT_join] at cj
  simp only [Option.getD_some, Option.isSome_some, ofL_bl] at cj
  clear bx fx hok ho hb hmem cc hblt
  simp only [Nat.zero_add, Nat.zero_mul, Nat.reduceMul, Nat.reduceAdd] at c0 c1 c2 c3 c4 d0 d1 d2 d3 d4
  go_wp2_with (go_at_call 10; refine (cj _ (Below.refl _ _)).mono ?_; rintro e w2 ⟨rfl, hb2⟩)
  go_ret
  exact ⟨rfl, below_step HB.out hb2⟩
end Go.Proofs.YtekjicklbgpdcabDoor
