/-
  A text's Quote, as its bytes are written (plain).
-/
import Derived.Test.YtekjicklbgpdcabDoorK24
namespace Go.Proofs.YtekjicklbgpdcabDoor

theorem bl_qtB (s : ByteArray) : bl (qtB s) = 34 :: (rpl (fun i => kq (at_ s i)) 0 (bl s) ++ [34]) := by
  have e : qtB s = ofL (qtl s s.size ++ [34]) := rfl
  rw [e, bl_ofL (fun x hx => ?_), qtl_rpl s s.size (Nat.le_refl _), List.take_of_length_le (by rw [bl_len]; exact Nat.le_refl _)]
  · rfl
  · rcases List.mem_append.1 hx with hx | hx
    · exact qtl_byt s _ x hx
    · simp at hx; omega
end Go.Proofs.YtekjicklbgpdcabDoor
