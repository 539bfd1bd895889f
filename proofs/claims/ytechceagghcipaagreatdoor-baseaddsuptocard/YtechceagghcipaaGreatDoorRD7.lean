import Derived.Test.YtechceagghcipaaGreatDoorRD5
namespace Go.Proofs.YtechceagghcipaaGreatDoor
open Go.RowKit
attribute [local go_sem ↓] Go.wp_at_zero Go.wp_at_succ

theorem row7_ne {w : World} {base base' n n' m m' : Nat} {e e' : TypeId} {v v' : Value} {xs xs' : List Value} (h : w.ownsRow base e n v m xs) (h' : w.ownsRow base' e' n' v' m' xs') (hne : e ≠ e') : ∀ b, v.ownBlock = some b -> v'.ownBlock ≠ some b := fun b hb hb' => by
 obtain ⟨c, hc⟩ := row7_blk h hb
 obtain ⟨c', hc'⟩ := row7_blk h' hb'
 exact hne (hc.ty hc')
theorem cut7 (t : TypeId) (hT : Tryz.prog.underlying t = some (.slice (Tryz.prog.elem t))) (hz : ∀ W, (sizeOf (Tryz.prog.elem t)).run Tryz.prog W = .ok 1 W) (a : Option Addr) {n cap k : Nat} (hk : k <= n) (W : World) : (Instr.sliceAt t (.slice a n cap) (some (.int .i64 (k : Int))) none none).run Tryz.prog W = .ok (.slice (if cap = k then a else a.map (·.add (k * 1))) (n - k) (cap - k)) W := by
 rw [run_sliceAt_slice _ _ _ _ _ _ hT, run_slice_l _ _ _ _ _ hT _ _ (by omega) (by omega), hz]
 simp [Result.andThen, sliced]
theorem cutI7 (a : Option Addr) {n cap k : Nat} (hk : k <= n) (W : World) : (Instr.sliceAt 71 (.slice a n cap) (some (.int .i64 (k : Int))) none none).run Tryz.prog W = .ok (.slice (if cap = k then a else a.map (·.add (k * 1))) (n - k) (cap - k)) W := cut7 _ (by kernel_rfl) (fun W => by kernel_rfl) a hk W
end Go.Proofs.YtechceagghcipaaGreatDoor
