import Derived.Test.YtjnipcakjoiplaaDoorB7
import Derived.Test.YtjnipcakjoiplaaDoorB4
/-
  Blocks of memory.
-/
namespace Go.Proofs.YtjnipcakjoiplaaDoor
open Go.RowKit

/-- Block g holds these cells. -/
def Blk (W : World) (g : Nat) (c : Array Value) (t : TypeId) : Prop := W.heap[g]? = some (.cells c t (0, 0))
theorem Blk.lt {W : World} {g : Nat} {c : Array Value} {t : TypeId} (h : Blk W g c t) : g < W.heap.size := (Array.getElem?_eq_some_iff.1 h).1
theorem Blk.later {W W' : World} {g : Nat} {c : Array Value} {t : TypeId} (h : Blk W g c t) (hb : Below W.heap.size W W') : Blk W' g c t := (hb.block _ h.lt).trans h
theorem Blk.new (W : World) (c : Array Value) (t : TypeId) : Blk (W.alloc (.cells c t)) W.heap.size c t := heap_alloc_new _ _
theorem Blk.old (W : World) (c : Array Value) (t : TypeId) (o : Obj) : Blk ((W.alloc (.cells c t)).alloc o) W.heap.size c t := (Blk.new W c t).later (below1 _ _)
theorem Blk.new2 (W : World) (c : Array Value) (t : TypeId) (o : Obj) : Blk ((W.alloc o).alloc (.cells c t)) (W.heap.size + 1) c t := by
  have h := Blk.new (W.alloc o) c t
  rwa [show (W.alloc o).heap.size = W.heap.size + 1 by simp] at h
end Go.Proofs.YtjnipcakjoiplaaDoor
/-
  The reference's Const, Principal, Variable, Compare.
-/
namespace Go.Proofs.YtjnipcakjoiplaaDoor
open Go.RowKit

set_option maxHeartbeats 400000 in
theorem rvar_any (t : Tm) (w : World) :
    Calls Tryd.prog 33 #[t.v] w fun e w' => e = .returned (.bool t.var) ∧ Below w.heap.size w w' := by
  obtain ⟨k, n, s⟩ := t
  unfold Tm.var
  go_enter Tryd.func33, Tryd.ntmps33
  go_wp2
  all_goals
    go_ret
    refine ⟨ret_b ?_, below1 _ _⟩
    simp_all [isE]
    try omega
set_option maxHeartbeats 400000 in
theorem rcon_any (t : Tm) (w : World) :
    Calls Tryd.prog 34 #[t.v] w fun e w' => e = .returned (.bool t.con) ∧ Below w.heap.size w w' := by
  obtain ⟨k, n, s⟩ := t
  cases h2 : s.toList.isEmpty
  all_goals
    have h3 := isE s
    rw [h2] at h3
    by_cases h1 : k = 1
    · unfold Tm.con
      subst h1
      clear h3
      go_enter Tryd.func34, Tryd.ntmps34
      go_wp2
      all_goals
        go_ret
        refine ⟨ret_b ?_, below1 _ _⟩
        simp_all [isE]
        try omega
    · by_cases h4 : k = 2
      · by_cases h5 : n = 0
        all_goals
          unfold Tm.con
          subst h4
          clear h3
          go_enter Tryd.func34, Tryd.ntmps34
          go_wp2
          all_goals
            go_ret
            refine ⟨ret_b ?_, below1 _ _⟩
            simp_all [isE]
            try omega
      · unfold Tm.con
        clear h3
        go_enter Tryd.func34, Tryd.ntmps34
        go_wp2
        all_goals
          go_ret
          refine ⟨ret_b ?_, below1 _ _⟩
          simp_all [isE]
set_option maxHeartbeats 400000 in
theorem rprin_any (t : Tm) (w : World) :
    Calls Tryd.prog 32 #[t.v] w fun e w' => e = .returned (.bool t.prin) ∧ Below w.heap.size w w' := by
  obtain ⟨k, n, s⟩ := t
  cases hc : Tm.con ⟨k, n, s⟩
  · have hp : Hid (false = Tm.prin ⟨k, n, s⟩) := by
      show false = Tm.prin ⟨k, n, s⟩
      by_cases h : k = 2 ∧ s ≠ ⟨#[]⟩
      · rw [← prin_eq _ _ _ h.1 h.2, hc]
      · exact prin_no _ _ _ h
    have HC : Hid (Tm.con ⟨k, n, s⟩ = false) := hc
    clear hc
    go_enter Tryd.func32, Tryd.ntmps32
    go_wp2_with (go_at_call 34; refine (rcon_any ⟨k, n, s⟩ _).mono ?_; rw [HC.out]; rintro e w1 ⟨rfl, hb⟩)
    go_ret
    exact ⟨ret_b hp.out, (below1 _ _).trans (hb.mono (by simp))⟩
  · have HC : Hid (Tm.con ⟨k, n, s⟩ = true) := hc
    clear hc
    go_enter Tryd.func32, Tryd.ntmps32
    go_wp2_with (go_at_call 34; refine (rcon_any ⟨k, n, s⟩ _).mono ?_; rw [HC.out]; rintro e w1 ⟨rfl, hb⟩; obtain ⟨hcl, hfr⟩ := bcell hb)
    all_goals
      go_ret
      refine ⟨ret_b ?_, (below1 _ _).trans (hb.mono (by simp))⟩
      have := HC.out
      simp_all [isE, Tm.prin, Tm.con]
end Go.Proofs.YtjnipcakjoiplaaDoor
