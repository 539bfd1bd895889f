import Derived.Test.YtcejljehjhlonaaGreatDoorMD11
import Derived.Deep.RegionHeld3
namespace Go.Proofs.YtcejljehjhlonaaGreatDoor
open Go.RowKit
attribute [local go_sem ↓] Go.wp_at_zero Go.wp_at_succ

structure C2 (w X : World) (o : Array Value) : Prop where
 bc : CBlk X w.heap.size o 60
 br : CBlk X (w.heap.size + 1) zcs 60
 bw : Below w.heap.size w X
 sz : w.heap.size + 1 + 1 <= X.heap.size
theorem C2.later {w X X' : World} {o : Array Value} (H : C2 w X o) (hb : Below X.heap.size X X') : C2 w X' o := ⟨H.bc.later hb, H.br.later hb, below_step H.bw hb, Nat.le_trans H.sz hb.size⟩
theorem C2.start (w : World) (o : Array Value) : C2 w ((w.alloc (.cells o 60)).alloc (.cells zcs 60)) o := by
 have x2 := CBlk.new (w.alloc (.cells o 60)) zcs 60
 rw [show (w.alloc (.cells o 60)).heap.size = w.heap.size + 1 by simp] at x2
 exact ⟨(CBlk.new w o 60).later (below1 _ _), x2, below2 _ _ _, by simp⟩
theorem Cm.form {B : Nat} {X : World} {d : Cm} (h : MCl B X d) : ∃ a n cap a' n' cap' a'' n'' cap'', d.head.2 = .slice a n cap /\ d.bv = .slice a' n' cap' /\ d.tv = .slice a'' n'' cap'' := by
 obtain ⟨a, n, cap, e1⟩ := ownT_form4 h.h
 obtain ⟨a', cap', e2⟩ := h.b.form
 obtain ⟨a'', cap'', e3⟩ := h.t.form
 exact ⟨a, n, cap, a', _, cap', a'', _, cap'', e1, e2, e3⟩
structure LS (W X : World) (u : Value) (L : List Tm) : Prop where
 ow : OwnT X W.heap.size u L
 bw : Below W.heap.size W X
theorem LS.later {W X X' : World} {u : Value} {L : List Tm} (h : LS W X u L) (hb : Below X.heap.size X X') : LS W X' u L := ⟨h.ow.later hb, below_step h.bw hb⟩
theorem LS.far {W X : World} {u : Value} {L : List Tm} {B i : Nat} (h : LS W X u L) (hB : W.heap.size <= B) (hu : ∀ k, u.ownBlock = some k -> k < B) (c : Value) : LS W (X.setCell ⟨B, i, none⟩ c) u L :=
 ⟨h.ow.off (fun k hk => Nat.ne_of_lt (hu k hk)), h.bw.setCell (show W.heap.size <= B from hB) _⟩
end Go.Proofs.YtcejljehjhlonaaGreatDoor
namespace Go.Proofs.YtcejljehjhlonaaGreatDoor
open Go.RowKit
attribute [local go_sem ↓] Go.wp_at_zero Go.wp_at_succ

theorem flat_len9 : ∀ (l : List At), (∀ a ∈ l, a.pl.length <= 9) -> (l.flatMap At.pl).length <= l.length * 9
 | [], _ => by simp
 | a :: l, h => by
  rw [List.flatMap_cons, List.length_append, List.length_cons]
  have h1 := h a (by simp)
  have h2 := flat_len9 l fun b hb => h b (by simp [hb])
  omega
end Go.Proofs.YtcejljehjhlonaaGreatDoor
