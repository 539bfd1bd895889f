/-
  replace, ApplyTest.
-/
import Derived.Test.YtnaiecemmhioeaaDoorD1
import Derived.Test.YtnaiecemmhioeaaDoorB7
namespace Go.Proofs.YtnaiecemmhioeaaDoor
open Go.RowKit
attribute [local go_sem ↓] Go.wp_at_zero Go.wp_at_succ

/-- What a term becomes. -/
def become (s : List Bd) (t : Tm) : Tm := if t.var then (look s t.n).getD t else t
def BoxB (w W : World) (c d : Array Value) (t t' : TypeId) : Prop := W.heap[w.heap.size]? = some (.cells c t (0, 0)) ∧ W.heap[w.heap.size + 1]? = some (.cells d t' (0, 0)) ∧ Below w.heap.size w W
theorem BoxB.start (w : World) (c d : Array Value) (t t' : TypeId) : BoxB w ((w.alloc (.cells c t)).alloc (.cells d t')) c d t t' := ⟨heap_alloc2_old _ _ _, heap_alloc2_new _ _ _, below2 _ _ _⟩
theorem BoxB.later {w W W' : World} {c d : Array Value} {t t' : TypeId} (h : BoxB w W c d t t') (hb : Below W.heap.size W W') : BoxB w W' c d t t' :=
  ⟨(hb.block _ (Array.getElem?_eq_some_iff.1 h.1).1).trans h.1, (hb.block _ (Array.getElem?_eq_some_iff.1 h.2.1).1).trans h.2.1, h.2.2.trans (hb.mono h.2.2.size)⟩
theorem BoxB.lt {w W : World} {c d : Array Value} {t t' : TypeId} (h : BoxB w W c d t t') : w.heap.size + 1 < W.heap.size := (Array.getElem?_eq_some_iff.1 h.2.1).1
set_option maxHeartbeats 1000000 in
theorem replace_any (s : List Bd) (v : Value) (t : Tm) (w : World) (h : Bs w v s) :
    Calls Tryd.prog 24 #[v, t.v] w fun e w' => e = .returned (become s t).v ∧ Below w.heap.size w w' := by
  have HS : Hid (Bs w v s) := h
  clear h
  obtain ⟨k, n, ss⟩ := t
  cases hv : Tm.var ⟨k, n, ss⟩
  · have HV : Hid (Tm.var ⟨k, n, ss⟩ = false) := hv
    have HB : Hid (become s ⟨k, n, ss⟩ = ⟨k, n, ss⟩) := by show become s _ = _; unfold become; rw [hv]; rfl
    clear hv
    go_enter Tryd.func24, Tryd.ntmps24
    go_wp2_with (go_at_call 27; refine (var_any ⟨k, n, ss⟩ _).mono ?_; rw [HV.out]; rintro e w1 ⟨rfl, hb1⟩; have C1 := (BoxB.start _ _ _ _ _).later hb1; obtain ⟨p0, p1, p2, -, -, -⟩ := three C1.1; obtain ⟨q0, q1, q2, f0, f1, f2⟩ := three C1.2.1; have B1 : Hid (BoxB _ _ _ _ _ _) := C1; clear C1)
    refine bodyPost_ret (v := Tm.v ⟨k, n, ss⟩) (by simp [results, Tryd.results24, go_sem, q0, q1, q2]) rfl ⟨?_, ?_⟩
    · rw [HB.out]
    · exact bset (bset (bset (Hid.out B1).2.2 (Nat.le_succ _)) (Nat.le_succ _)) (Nat.le_succ _)
  · have HV : Hid (Tm.var ⟨k, n, ss⟩ = true) := hv
    cases hl : look s n with
    | none =>
      have HB : Hid (become s ⟨k, n, ss⟩ = ⟨k, n, ss⟩) := by show become s _ = _; unfold become; rw [hv, if_pos rfl, hl]; rfl
      have LT : Hid (lookT s n = zt) := by show lookT s n = zt; unfold lookT; rw [hl]; rfl
      have LB : Hid (lookB s n = false) := by show lookB s n = false; unfold lookB; rw [hl]; rfl
      clear hv hl
      go_enter Tryd.func24, Tryd.ntmps24
      go_wp2_with (first
        | (go_at_call 27; refine (var_any ⟨k, n, ss⟩ _).mono ?_; rw [HV.out]; rintro e w1 ⟨rfl, hb1⟩; have C1 := (BoxB.start _ _ _ _ _).later hb1; obtain ⟨p0, p1, p2, -, -, -⟩ := three C1.1; have B1 : Hid (BoxB _ _ _ _ _ _) := C1; clear C1)
        | (go_at_call 31; refine (look_any s v n _ (HS.out.later (Hid.out B1).2.2)).mono ?_; rw [LT.out, LB.out]; rintro e w2 ⟨rfl, hb2⟩; clear p0 p1 p2; have C2 := (Hid.out B1).later hb2; obtain ⟨p0, p1, p2, -, -, -⟩ := three C2.1; obtain ⟨q0, q1, q2, f0, f1, f2⟩ := three C2.2.1; have zz := C2.lt; have zz0 : w.heap.size < w2.heap.size := Nat.lt_of_succ_lt zz; have B2 : Hid (BoxB _ _ _ _ _ _) := C2; clear C2))
      refine bodyPost_ret (v := Tm.v ⟨k, n, ss⟩) (by simp [results, Tryd.results24, go_sem, q0, q1, q2, zz]) rfl ⟨?_, ?_⟩
      · rw [HB.out]
      · exact balloc (bset (bset (bset (Hid.out B2).2.2 (Nat.le_succ _)) (Nat.le_succ _)) (Nat.le_succ _))
    | some q =>
      have HB : Hid (become s ⟨k, n, ss⟩ = q) := by show become s _ = _; unfold become; rw [hv, if_pos rfl, hl]; rfl
      have LT : Hid (lookT s n = q) := by show lookT s n = q; unfold lookT; rw [hl]; rfl
      have LB : Hid (lookB s n = true) := by show lookB s n = true; unfold lookB; rw [hl]; rfl
      obtain ⟨qk, qn, qs⟩ := q
      clear hv hl
      go_enter Tryd.func24, Tryd.ntmps24
      go_wp2_with (first
        | (go_at_call 27; refine (var_any ⟨k, n, ss⟩ _).mono ?_; rw [HV.out]; rintro e w1 ⟨rfl, hb1⟩; have C1 := (BoxB.start _ _ _ _ _).later hb1; obtain ⟨p0, p1, p2, -, -, -⟩ := three C1.1; have B1 : Hid (BoxB _ _ _ _ _ _) := C1; clear C1)
        | (go_at_call 31; refine (look_any s v n _ (HS.out.later (Hid.out B1).2.2)).mono ?_; rw [LT.out, LB.out]; rintro e w2 ⟨rfl, hb2⟩; clear p0 p1 p2; have C2 := (Hid.out B1).later hb2; obtain ⟨p0, p1, p2, -, -, -⟩ := three C2.1; obtain ⟨q0, q1, q2, f0, f1, f2⟩ := three C2.2.1; have zz := C2.lt; have zz0 : w.heap.size < w2.heap.size := Nat.lt_of_succ_lt zz; have B2 : Hid (BoxB _ _ _ _ _ _) := C2; clear C2))
      refine bodyPost_ret (v := Tm.v ⟨qk, qn, qs⟩) (by simp [results, Tryd.results24, go_sem, q0, q1, q2, zz]) rfl ⟨?_, ?_⟩
      · rw [HB.out]
      · exact balloc (bset (bset (bset (Hid.out B2).2.2 (Nat.le_succ _)) (Nat.le_succ _)) (Nat.le_succ _))
end Go.Proofs.YtnaiecemmhioeaaDoor
