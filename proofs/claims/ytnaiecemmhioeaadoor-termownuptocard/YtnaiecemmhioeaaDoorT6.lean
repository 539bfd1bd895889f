/-
  still of the laws.
-/
import Derived.Test.YtnaiecemmhioeaaDoorT5
namespace Go.Proofs.YtnaiecemmhioeaaDoor
open Go.RowKit

theorem own_pre {w : World} {base g cap : Nat} {s : List Bd} {d : Bd} (h : Own w base (.slice (some ⟨g, 0, none⟩) (s.length + 1) cap) (s ++ [d])) (hs : s.length < 1000000000000000000) : Bs w (.slice (some ⟨g, 0, none⟩) s.length cap) s := by
  have hlt : g < w.heap.size := (h.lt g rfl).2
  refine ⟨_, cap, rfl, hs, Or.inr ⟨g, 0, rfl, hlt, fun i t ht => ?_⟩⟩
  have hi := (List.getElem?_eq_some_iff.1 ht).1
  have := own_cells h i t (by rw [List.getElem?_append_left hi]; exact ht)
  simpa using this
theorem own_cap {w : World} {base g cap n : Nat} {l : List Bd} (h : Own w base (.slice (some ⟨g, 0, none⟩) n cap) l) : n ≤ cap := by
  rcases h.2 with ⟨h, _⟩ | ⟨g', c, cur, hv, _, _, hn, _⟩
  · cases h
  · simp only [Value.slice.injEq] at hv; omega
set_option maxHeartbeats 1000000 in
theorem still_any (s : List Bd) (v : Value) (g cap base : Nat) (w : World) (h : Bs w v s) (ho : Own w base (.slice (some ⟨g, 0, none⟩) (s.length + 1) cap) (s ++ [late])) (hL : LateOk w) :
    Calls Tryd.prog 9 #[.slice (some ⟨g, 0, none⟩) s.length cap, v] w fun e w' => e = .returned (.bool true) ∧ Below w.heap.size w w' := by
  have hs : s.length < 1000000000000000000 := by obtain ⟨_, _, _, h, _⟩ := h; exact h
  have hcap := own_cap ho
  have HB := bindings_any s s _ v w (own_pre ho hs) h
  rw [decide_eq_true rfl] at HB
  have HB : Hid (Calls Tryd.prog 19 #[.slice (some ⟨g, 0, none⟩) s.length cap, v] w fun e w' => e = .returned (.bool true) ∧ Below w.heap.size w w') := HB
  have HO : Hid (Own w base (.slice (some ⟨g, 0, none⟩) (s.length + 1) cap) (s ++ [late])) := ho
  have HL : Hid (LateOk w) := hL
  obtain ⟨ad, cap', rfl, -, -⟩ := h
  have he := run_eql_bd late late
  rw [decide_eq_true rfl] at he
  unfold late at he
  have i0 : (0 : Int) ≤ (s.length : Int) := by omega
  have i1 : (s.length : Int) < (s.length : Int) + 1 := by omega
  have hcap' : (s.length : Int) + 1 ≤ (cap : Int) := by omega
  clear ho hL
  go_enter Tryd.func9, Tryd.ntmps9
  go_wp2_with (go_at_call 19; refine HB.out.mono ?_; rintro e w1 ⟨rfl, hb1⟩; obtain ⟨z0, l0, l1, l2, l3⟩ := HL.out.later hb1; obtain ⟨c0, c1, c2, c3⟩ := own_cells (HO.out.later hb1) s.length late (by simp); simp only [late] at c0 c1 c2 c3)
  go_quiet (fail)
  go_wp2
  go_ret
  exact ⟨ret_b rfl, below_drewN hb1 _⟩
end Go.Proofs.YtnaiecemmhioeaaDoor
