/-
  replace, ApplyTest.
-/
import Derived.Test.YtlojgaigbdnjjabD1
import Derived.Test.YtlojgaigbdnjjabB7
namespace Go.Proofs.Ytlojgaigbdnjjab
open Go.RowKit
attribute [local go_sem ↓] Go.wp_at_zero Go.wp_at_succ

/-- What a term becomes. -/
def become (s : List Bd) (t : Tm) : Tm := if t.var then (look s t.n).getD t else t
def BoxB (w W : World) (c d : Array Value) (t t' : TypeId) : Prop := W.heap[w.heap.size]? = some (.cells c t (0, 0)) ∧ W.heap[w.heap.size + 1]? = some (.cells d t' (0, 0)) ∧ Below w.heap.size w W
theorem BoxB.start (w : World) (c d : Array Value) (t t' : TypeId) : BoxB w ((w.alloc (.cells c t)).alloc (.cells d t')) c d t t' := ⟨heap_alloc2_old _ _ _, heap_alloc2_new _ _ _, below2 _ _ _⟩
theorem BoxB.later {w W W' : World} {c d : Array Value} {t t' : TypeId} (h : BoxB w W c d t t') (hb : Below W.heap.size W W') : BoxB w W' c d t t' :=
  ⟨(hb.block _ (Array.getElem?_eq_some_iff.1 h.1).1).trans h.1, (hb.block _ (Array.getElem?_eq_some_iff.1 h.2.1).1).trans h.2.1, h.2.2.trans (hb.mono h.2.2.size)⟩
theorem BoxB.lt {w W : World} {c d : Array Value} {t t' : TypeId} (h : BoxB w W c d t t') : w.heap.size + 1 < W.heap.size := (Array.getElem?_eq_some_iff.1 h.2.1).1
set_option maxHeartbeats 1000000 in
theorem replace_any (s : List Bd) (v : Value) (t : Tm) (w : World) (h : Bs w v s) :
    Calls Try.prog 17 #[v, t.v] w fun e w' => e = .returned (become s t).v ∧ Below w.heap.size w w' := by
  have HS : Hid (Bs w v s) := h
  clear h
  obtain ⟨k, n, ss⟩ := t
  cases hv : Tm.var ⟨k, n, ss⟩
  · have HV : Hid (Tm.var ⟨k, n, ss⟩ = false) := hv
    have HB : Hid (become s ⟨k, n, ss⟩ = ⟨k, n, ss⟩) := by show become s _ = _; unfold become; rw [hv]; rfl
    clear hv
    go_enter Try.func17, Try.ntmps17
    go_wp2_with (go_at_call 19; refine (var_any ⟨k, n, ss⟩ _).mono ?_; rw [HV.out]; rintro e w1 ⟨rfl, hb1⟩; have C1 := (BoxB.start _ _ _ _ _).later hb1; obtain ⟨p0, p1, p2, -, -, -⟩ := three C1.1; obtain ⟨q0, q1, q2, f0, f1, f2⟩ := three C1.2.1; have B1 : Hid (BoxB _ _ _ _ _ _) := C1; clear C1)
    refine bodyPost_ret (v := Tm.v ⟨k, n, ss⟩) (by simp [results, Try.results17, go_sem, q0, q1, q2]) rfl ⟨?_, ?_⟩
    · rw [HB.out]
    · exact bset (bset (bset (Hid.out B1).2.2 (Nat.le_succ _)) (Nat.le_succ _)) (Nat.le_succ _)
  · have HV : Hid (Tm.var ⟨k, n, ss⟩ = true) := hv
    cases hl : look s n with
    | none =>
      have HB : Hid (become s ⟨k, n, ss⟩ = ⟨k, n, ss⟩) := by show become s _ = _; unfold become; rw [hv, if_pos rfl, hl]; rfl
      have LT : Hid (lookT s n = zt) := by show lookT s n = zt; unfold lookT; rw [hl]; rfl
      have LB : Hid (lookB s n = false) := by show lookB s n = false; unfold lookB; rw [hl]; rfl
      clear hv hl
      go_enter Try.func17, Try.ntmps17
      go_wp2_with (first
        | (go_at_call 19; refine (var_any ⟨k, n, ss⟩ _).mono ?_; rw [HV.out]; rintro e w1 ⟨rfl, hb1⟩; have C1 := (BoxB.start _ _ _ _ _).later hb1; obtain ⟨p0, p1, p2, -, -, -⟩ := three C1.1; have B1 : Hid (BoxB _ _ _ _ _ _) := C1; clear C1)
        | (go_at_call 26; refine (look_any s v n _ (HS.out.later (Hid.out B1).2.2)).mono ?_; rw [LT.out, LB.out]; rintro e w2 ⟨rfl, hb2⟩; clear p0 p1 p2; have C2 := (Hid.out B1).later hb2; obtain ⟨p0, p1, p2, -, -, -⟩ := three C2.1; obtain ⟨q0, q1, q2, f0, f1, f2⟩ := three C2.2.1; have zz := C2.lt; have zz0 : w.heap.size < w2.heap.size := Nat.lt_of_succ_lt zz; have B2 : Hid (BoxB _ _ _ _ _ _) := C2; clear C2))
      refine bodyPost_ret (v := Tm.v ⟨k, n, ss⟩) (by simp [results, Try.results17, go_sem, q0, q1, q2, zz]) rfl ⟨?_, ?_⟩
      · rw [HB.out]
      · exact balloc (bset (bset (bset (Hid.out B2).2.2 (Nat.le_succ _)) (Nat.le_succ _)) (Nat.le_succ _))
    | some q =>
      have HB : Hid (become s ⟨k, n, ss⟩ = q) := by show become s _ = _; unfold become; rw [hv, if_pos rfl, hl]; rfl
      have LT : Hid (lookT s n = q) := by show lookT s n = q; unfold lookT; rw [hl]; rfl
      have LB : Hid (lookB s n = true) := by show lookB s n = true; unfold lookB; rw [hl]; rfl
      obtain ⟨qk, qn, qs⟩ := q
      clear hv hl
      go_enter Try.func17, Try.ntmps17
      go_wp2_with (first
        | (go_at_call 19; refine (var_any ⟨k, n, ss⟩ _).mono ?_; rw [HV.out]; rintro e w1 ⟨rfl, hb1⟩; have C1 := (BoxB.start _ _ _ _ _).later hb1; obtain ⟨p0, p1, p2, -, -, -⟩ := three C1.1; have B1 : Hid (BoxB _ _ _ _ _ _) := C1; clear C1)
        | (go_at_call 26; refine (look_any s v n _ (HS.out.later (Hid.out B1).2.2)).mono ?_; rw [LT.out, LB.out]; rintro e w2 ⟨rfl, hb2⟩; clear p0 p1 p2; have C2 := (Hid.out B1).later hb2; obtain ⟨p0, p1, p2, -, -, -⟩ := three C2.1; obtain ⟨q0, q1, q2, f0, f1, f2⟩ := three C2.2.1; have zz := C2.lt; have zz0 : w.heap.size < w2.heap.size := Nat.lt_of_succ_lt zz; have B2 : Hid (BoxB _ _ _ _ _ _) := C2; clear C2))
      refine bodyPost_ret (v := Tm.v ⟨qk, qn, qs⟩) (by simp [results, Try.results17, go_sem, q0, q1, q2, zz]) rfl ⟨?_, ?_⟩
      · rw [HB.out]
      · exact balloc (bset (bset (bset (Hid.out B2).2.2 (Nat.le_succ _)) (Nat.le_succ _)) (Nat.le_succ _))
def applyTe (s : List Bd) (t : Te) : Te := ⟨t.op, become s t.l, become s t.r⟩
theorem seven {w : World} {x : Nat} {a b c d e f g : Value} {ty : TypeId} (h : w.heap[x]? = some (.cells #[a, b, c, d, e, f, g] ty (0, 0))) :
    (w.cell? ⟨x, 0, none⟩ = some a ∧ w.cell? ⟨x, 1, none⟩ = some b ∧ w.cell? ⟨x, 2, none⟩ = some c ∧ w.cell? ⟨x, 3, none⟩ = some d ∧ w.cell? ⟨x, 4, none⟩ = some e ∧ w.cell? ⟨x, 5, none⟩ = some f ∧ w.cell? ⟨x, 6, none⟩ = some g) ∧
    (w.frozen? ⟨x, 0, none⟩ = false ∧ w.frozen? ⟨x, 1, none⟩ = false ∧ w.frozen? ⟨x, 2, none⟩ = false ∧ w.frozen? ⟨x, 3, none⟩ = false ∧ w.frozen? ⟨x, 4, none⟩ = false ∧ w.frozen? ⟨x, 5, none⟩ = false ∧ w.frozen? ⟨x, 6, none⟩ = false) :=
  ⟨⟨cell_of_row _ _ _ _ _ _ h, cell_of_row _ _ _ _ _ _ h, cell_of_row _ _ _ _ _ _ h, cell_of_row _ _ _ _ _ _ h, cell_of_row _ _ _ _ _ _ h, cell_of_row _ _ _ _ _ _ h, cell_of_row _ _ _ _ _ _ h⟩,
   ⟨frozen_of_row _ _ _ _ _ h, frozen_of_row _ _ _ _ _ h, frozen_of_row _ _ _ _ _ h, frozen_of_row _ _ _ _ _ h, frozen_of_row _ _ _ _ _ h, frozen_of_row _ _ _ _ _ h, frozen_of_row _ _ _ _ _ h⟩⟩
theorem cell_stepB {B : Nat} {w' w3 : World} {b o : Nat} {v : Value} (h3 : Below B w' w3) (hb : b < B) (hc : w'.cell? ⟨b, o, none⟩ = some v) : w3.cell? ⟨b, o, none⟩ = some v := by
  rw [h3.cell (p := ⟨b, o, none⟩) hb]; exact hc
end Go.Proofs.Ytlojgaigbdnjjab
