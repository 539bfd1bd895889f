import Derived.Test.YtjnipcakjoiplaaDoorMD8
import Derived.Deep.RegionHeld3
/-
  putAtom. (Written by MD9.py.)
-/
namespace Go.Proofs.YtjnipcakjoiplaaDoor
open Go.RowKit
attribute [local go_sem ↓] Go.wp_at_zero Go.wp_at_succ

/-- An atom's box and the answer's. -/
structure PP (w X : World) (x : At) (v : Value) : Prop where
  bc : CBlk X w.heap.size (At.cs x v) 26
  br : CBlk X (w.heap.size + 1) #[.int .i64 0, .int .i64 0, .string ⟨#[]⟩, .string ⟨#[]⟩, .slice none 0 0] 26
  bw : Below w.heap.size w X
  sz : w.heap.size + 1 + 1 ≤ X.heap.size
theorem PP.later {w X X' : World} {x : At} {v : Value} (h : PP w X x v) (hb : Below X.heap.size X X') : PP w X' x v := ⟨h.bc.later hb, h.br.later hb, below_step h.bw hb, Nat.le_trans h.sz hb.size⟩
theorem PP.start (w : World) (x : At) (v : Value) : PP w ((w.alloc (.cells (At.cs x v) 26)).alloc (.cells #[.int .i64 0, .int .i64 0, .string ⟨#[]⟩, .string ⟨#[]⟩, .slice none 0 0] 26)) x v := by
  have x2 := CBlk.new (w.alloc (.cells (At.cs x v) 26)) #[.int .i64 0, .int .i64 0, .string ⟨#[]⟩, .string ⟨#[]⟩, .slice none 0 0] 26
  rw [show (w.alloc (.cells (At.cs x v) 26)).heap.size = w.heap.size + 1 by simp] at x2
  exact ⟨(CBlk.new w (At.cs x v) 26).later (below1 _ _), x2, below2 _ _ _, by simp⟩
end Go.Proofs.YtjnipcakjoiplaaDoor
/-
  ref's Normal. (Written by MD12.py.)
-/
namespace Go.Proofs.YtjnipcakjoiplaaDoor
open Go.RowKit
attribute [local go_sem ↓] Go.wp_at_zero Go.wp_at_succ

/-- The list so far, since W. -/
structure LS (W X : World) (u : Value) (L : List Tm) : Prop where
  ow : OwnT X W.heap.size u L
  bw : Below W.heap.size W X
theorem LS.later {W X X' : World} {u : Value} {L : List Tm} (h : LS W X u L) (hb : Below X.heap.size X X') : LS W X' u L := ⟨h.ow.later hb, below_step h.bw hb⟩
end Go.Proofs.YtjnipcakjoiplaaDoor
/-
  Made: what it does to its clause.
-/
namespace Go.Proofs.YtjnipcakjoiplaaDoor
open Go.RowKit

theorem tcs_set : ∀ (l : List Tm) (j : Nat) (t : Tm), j < l.length → tcs (l.set j t) = (((tcs l).set (j * 3) (.int .i64 t.k)).set (j * 3 + 1) (.int .i64 t.n)).set (j * 3 + 2) (.string t.s)
  | a :: l, 0, t, _ => by simp [tcs, Tm.cs]
  | a :: l, j + 1, t, h => by
    have ih := tcs_set l j t (by simpa using h)
    have e : ∀ m : List Tm, tcs (a :: m) = a.cs ++ tcs m := fun m => by simp [tcs]
    have hc : a.cs.length = 3 := rfl
    rw [List.set_cons_succ, e, e, ih, List.set_append_right _ _ (by omega), List.set_append_right _ _ (by omega), List.set_append_right _ _ (by omega), hc]
    rw [show (j + 1) * 3 - 3 = j * 3 by omega, show (j + 1) * 3 + 1 - 3 = j * 3 + 1 by omega, show (j + 1) * 3 + 2 - 3 = j * 3 + 2 by omega]
abbrev Tput (X : World) (g j : Nat) (t : Tm) : World := ((X.setCell ⟨g, j * 3, none⟩ (.int .i64 t.k)).setCell ⟨g, j * 3 + 1, none⟩ (.int .i64 t.n)).setCell ⟨g, j * 3 + 2, none⟩ (.string t.s)
theorem OwnT.put {X : World} {base g n cap j : Nat} {L : List Tm} (h : OwnT X base (.slice (some ⟨g, 0, none⟩) n cap) L) (hj : j < L.length) (t : Tm) : OwnT (Tput X g j t) base (.slice (some ⟨g, 0, none⟩) n cap) (L.set j t) := by
  have hlen := h.1
  rcases h.2 with ⟨h, _⟩ | ⟨g', cap', cur, hv, hb, hg, hn, hc, hs, ht⟩
  · cases h
  · simp only [Value.slice.injEq, Option.some.injEq, Addr.mk.injEq] at hv
    obtain ⟨⟨rfl, -⟩, rfl, rfl⟩ := hv
    have k1 := heap_setCell_same _ _ (j * 3) _ _ (.int .i64 t.k) hg
    have k2 := heap_setCell_same _ _ (j * 3 + 1) _ _ (.int .i64 t.n) k1
    have k3 := heap_setCell_same _ _ (j * 3 + 2) _ _ (.string t.s) k2
    refine ⟨by rw [tcs_len, List.length_set], Or.inr ⟨g, cap, _, by rw [List.length_set], hb, k3, by rw [List.length_set]; exact hn, hc, by simpa using hs, ?_⟩⟩
    rw [List.length_set, tcs_set L j t hj, ← ht]
    simp [List.take_set]
theorem OwnT.some {X : World} {base : Nat} {v : Value} {L : List Tm} (h : OwnT X base v L) (hL : 0 < L.length) : ∃ g cap, v = .slice (some ⟨g, 0, none⟩) L.length cap := by
  rcases h.2 with ⟨_, hn⟩ | ⟨g', cap', cur, hv, -⟩
  · omega
  · exact ⟨g', cap', hv⟩
end Go.Proofs.YtjnipcakjoiplaaDoor
