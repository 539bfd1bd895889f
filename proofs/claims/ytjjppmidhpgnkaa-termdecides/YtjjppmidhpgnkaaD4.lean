/-
  hearsaylaw02.TermDecides of two constants; the whole.
-/
import Derived.Test.YtjjppmidhpgnkaaD3
namespace Go.Proofs.Ytjjppmidhpgnkaa
open Go.RowKit

theorem holds_of (op : Int) (l r : Tm) (h1 : 1 ≤ op ∧ op ≤ 4) (hl : l.con = true) (hr : r.con = true) : Te.known ⟨op, l, r⟩ = true ∧ Te.holds ⟨op, l, r⟩ = (if op = 1 then decide (l = r) else if op = 2 then !decide (l = r) else if op = 3 then decide (l.cmp r < 0) else decide (l.cmp r ≤ 0)) := by
  have hk : Te.known ⟨op, l, r⟩ = true := by unfold Te.known; simp [hl, hr, h1]
  refine ⟨hk, ?_⟩
  unfold Te.holds; rw [hk]; simp
theorem three_ways (l r : Tm) (hl : l.con = true) (hr : r.con = true) : ∃ lt eq gt le ne : Bool, Te.holds ⟨3, l, r⟩ = lt ∧ Te.holds ⟨1, l, r⟩ = eq ∧ Te.holds ⟨3, r, l⟩ = gt ∧ Te.holds ⟨4, l, r⟩ = le ∧ Te.holds ⟨2, l, r⟩ = ne ∧ decide (l = r) = eq ∧
    ((lt = true ∧ eq = false ∧ gt = false ∧ le = true ∧ ne = true) ∨ (lt = false ∧ eq = true ∧ gt = false ∧ le = true ∧ ne = false) ∨ (lt = false ∧ eq = false ∧ gt = true ∧ le = false ∧ ne = true)) := by
  refine ⟨_, _, _, _, _, rfl, rfl, rfl, rfl, rfl, ?_, ?_⟩
  · rw [(holds_of 1 l r (by omega) hl hr).2]; rfl
  · rw [(holds_of 3 l r (by omega) hl hr).2, (holds_of 1 l r (by omega) hl hr).2, (holds_of 3 r l (by omega) hr hl).2, (holds_of 4 l r (by omega) hl hr).2, (holds_of 2 l r (by omega) hl hr).2]
    have hz := Tm.cmp_zero l r
    rw [cmp_neg l r]
    by_cases e : l = r
    · have h0 := hz.2 e
      rw [h0]
      right; left; simp [e]
    · have h0 : ¬ l.cmp r = 0 := fun x => e (hz.1 x)
      by_cases hlt : l.cmp r < 0
      · left; simp [e]; omega
      · right; right; simp [e]; omega
set_option maxHeartbeats 2000000 in
theorem decides_yes (l r : Tm) (w : World) (hl : l.con = true) (hr : r.con = true) :
    Calls Try.prog 6 #[l.v, r.v] w fun e w' => e = .returned (.bool true) ∧ Below w.heap.size w w' := by
  obtain ⟨lt, eq, gt, le, ne, e1, e2, e3, e4, e5, e6, hw⟩ := three_ways l r hl hr
  have d1 := (holds_of 3 l r (by omega) hl hr).1
  have d2 := (holds_of 1 l r (by omega) hl hr).1
  have d3 := (holds_of 3 r l (by omega) hr hl).1
  have d4 := (holds_of 4 l r (by omega) hl hr).1
  have d5 := (holds_of 2 l r (by omega) hl hr).1
  have d6 : Te.known ⟨4, x4, r⟩ = false := by unfold Te.known; rw [x4_con]; simp
  have d7 : Te.holds ⟨4, x4, r⟩ = false := by unfold Te.holds; rw [d6]; rfl
  have d8 := apply_x4 l r hr
  have he := run_eql_tm l r
  rw [e6] at he
  obtain ⟨k, n, s⟩ := l
  obtain ⟨k', n', s'⟩ := r
  have E1 : Hid (Te.holds ⟨3, ⟨k, n, s⟩, ⟨k', n', s'⟩⟩ = lt ∧ Te.known ⟨3, ⟨k, n, s⟩, ⟨k', n', s'⟩⟩ = true) := ⟨e1, d1⟩
  have E2 : Hid (Te.holds ⟨1, ⟨k, n, s⟩, ⟨k', n', s'⟩⟩ = eq ∧ Te.known ⟨1, ⟨k, n, s⟩, ⟨k', n', s'⟩⟩ = true) := ⟨e2, d2⟩
  have E3 : Hid (Te.holds ⟨3, ⟨k', n', s'⟩, ⟨k, n, s⟩⟩ = gt ∧ Te.known ⟨3, ⟨k', n', s'⟩, ⟨k, n, s⟩⟩ = true) := ⟨e3, d3⟩
  have E4 : Hid (Te.holds ⟨4, ⟨k, n, s⟩, ⟨k', n', s'⟩⟩ = le ∧ Te.known ⟨4, ⟨k, n, s⟩, ⟨k', n', s'⟩⟩ = true) := ⟨e4, d4⟩
  have E5 : Hid (Te.holds ⟨2, ⟨k, n, s⟩, ⟨k', n', s'⟩⟩ = ne ∧ Te.known ⟨2, ⟨k, n, s⟩, ⟨k', n', s'⟩⟩ = true) := ⟨e5, d5⟩
  have E6 : Hid (Te.holds ⟨4, ⟨3, 4, ⟨#[]⟩⟩, ⟨k', n', s'⟩⟩ = false ∧ Te.known ⟨4, ⟨3, 4, ⟨#[]⟩⟩, ⟨k', n', s'⟩⟩ = false) := ⟨d7, d6⟩
  have E7 : Hid (applyTe [⟨4, ⟨k, n, s⟩⟩] ⟨4, ⟨3, 4, ⟨#[]⟩⟩, ⟨k', n', s'⟩⟩ = ⟨4, ⟨k, n, s⟩, ⟨k', n', s'⟩⟩) := d8
  have H1 : Hid (Tm.con ⟨k, n, s⟩ = true) := hl
  have H2 : Hid (Tm.con ⟨k', n', s'⟩ = true) := hr
  clear e1 e2 e3 e4 e5 e6 d1 d2 d3 d4 d5 d6 d7 d8 hl hr
  rcases hw with ⟨rfl, rfl, rfl, rfl, rfl⟩ | ⟨rfl, rfl, rfl, rfl, rfl⟩ | ⟨rfl, rfl, rfl, rfl, rfl⟩
  all_goals
    go_enter Try.func6, Try.ntmps6
    go_wp2_with (first
      | (go_at_call 21; refine (con_any ⟨_, _, _⟩ _).mono ?_; first | (rw [H1.out]; rintro e w1 ⟨rfl, hb1⟩; have C1 := (BoxB.start _ _ _ _ _).later hb1; obtain ⟨p0, p1, p2, -, -, -⟩ := three C1.1; obtain ⟨q0, q1, q2, -, -, -⟩ := three C1.2.1; have zz := C1.lt; have zz0 := Nat.lt_of_succ_lt zz; have BB : Hid (BoxB _ _ _ _ _ _) := C1; clear C1) | (rw [H2.out]; rintro e w1 ⟨rfl, hb1⟩; have C1 := (Hid.out BB).later hb1; clear p0 p1 p2 q0 q1 q2 BB zz zz0; obtain ⟨p0, p1, p2, -, -, -⟩ := three C1.1; obtain ⟨q0, q1, q2, -, -, -⟩ := three C1.2.1; have zz := C1.lt; have zz0 := Nat.lt_of_succ_lt zz; have BB : Hid (BoxB _ _ _ _ _ _) := C1; clear C1))
      | (go_at_call 22; refine (decide_any ⟨_, ⟨_, _, _⟩, ⟨_, _, _⟩⟩ _).mono ?_; (first | rw [E1.out.1, E1.out.2] | rw [E2.out.1, E2.out.2] | rw [E3.out.1, E3.out.2] | rw [E4.out.1, E4.out.2] | rw [E5.out.1, E5.out.2]); rintro e w1 ⟨rfl, hb1⟩; have C1 := (Hid.out BB).later hb1; clear p0 p1 p2 q0 q1 q2 BB zz zz0; obtain ⟨p0, p1, p2, -, -, -⟩ := three C1.1; obtain ⟨q0, q1, q2, -, -, -⟩ := three C1.2.1; have zz := C1.lt; have zz0 := Nat.lt_of_succ_lt zz; have BB : Hid (BoxB _ _ _ _ _ _) := C1; clear C1)
      | (go_at_call 22; refine (decide_any ⟨_, ⟨_, _, _⟩, ⟨_, _, _⟩⟩ _).mono ?_; rw [E6.out.1, E6.out.2]; rintro e w5 ⟨rfl, hb5⟩; have C1 := ((Hid.out BB).later (below2 w1 _ _)).later hb5; have g19 := (hb5.block (w1.heap.size + 1) (by simp)).trans (heap_alloc2_new w1 _ _); clear p0 p1 p2 q0 q1 q2 BB zz zz0; obtain ⟨⟨a0, a1, a2, a3, a4, a5, a6⟩, -⟩ := seven g19; have l19 : w1.heap.size + 1 < w5.heap.size := (Array.getElem?_eq_some_iff.1 g19).1; clear g19; obtain ⟨p0, p1, p2, -, -, -⟩ := three C1.1; obtain ⟨q0, q1, q2, -, -, -⟩ := three C1.2.1; have zz := C1.lt; have zz0 := Nat.lt_of_succ_lt zz; have BB : Hid (BoxB _ _ _ _ _ _) := C1; clear C1)
      | (go_at_call 23; refine (applyTest_any [⟨4, ⟨k, n, s⟩⟩] _ ⟨4, ⟨3, 4, ⟨#[]⟩⟩, ⟨k', n', s'⟩⟩ _ (bs_one (d := ⟨4, ⟨k, n, s⟩⟩) (heap_alloc_new w5 _))).mono ?_; rw [E7.out]; rintro e w6 ⟨rfl, hb6⟩; have C1 := ((Hid.out BB).later (below1 w5 _)).later hb6; clear p0 p1 p2 q0 q1 q2 BB zz zz0; obtain ⟨p0, p1, p2, -, -, -⟩ := three C1.1; obtain ⟨q0, q1, q2, -, -, -⟩ := three C1.2.1; have zz := C1.lt; have zz0 := Nat.lt_of_succ_lt zz; have BB : Hid (BoxB _ _ _ _ _ _) := C1; clear C1))
    go_ret
    exact ⟨rfl, (Hid.out BB).2.2⟩
theorem decides_any (l r : Tm) (w : World) :
    Calls Try.prog 6 #[l.v, r.v] w fun e w' => e = .returned (.bool true) ∧ Below w.heap.size w w' := by
  cases hl : l.con
  · exact decides_no l r w (Or.inl hl)
  · cases hr : r.con
    · exact decides_no l r w (Or.inr ⟨hl, hr⟩)
    · exact decides_yes l r w hl hr
end Go.Proofs.Ytjjppmidhpgnkaa
