/-
  hearsaylaw02.TermDecides, for every two terms.
-/
import Derived.Test.YtjjppmidhpgnkaaD2
import Derived.Test.YtjjppmidhpgnkaaB9
namespace Go.Proofs.Ytjjppmidhpgnkaa
open Go.RowKit
attribute [local go_sem ↓] Go.wp_at_zero Go.wp_at_succ

theorem sgI_neg (a b : Int) : M.sgI b a = - M.sgI a b := by unfold M.sgI; repeat' split
                                                            all_goals omega
theorem cmp_neg (a b : Tm) : b.cmp a = - a.cmp b := by
  unfold Tm.cmp
  by_cases h1 : a.k = b.k
  · by_cases h2 : a.n = b.n
    · simp [h1, h2]; exact M.sgL_neg _ _
    · have h2' : ¬ b.n = a.n := fun e => h2 e.symm
      simp [h1, h2, h2']; exact sgI_neg _ _
  · have h1' : ¬ b.k = a.k := fun e => h1 e.symm
    simp [h1, h1']; exact sgI_neg _ _
theorem con_var (t : Tm) (h : t.con = true) : t.var = false := by
  unfold Tm.con at h; unfold Tm.var
  simp only [decide_eq_true_eq, decide_eq_false_iff_not] at *
  omega
def x4 : Tm := ⟨3, 4, ⟨#[]⟩⟩
theorem x4_con : x4.con = false := by decide
theorem x4_var : x4.var = true := by simp [x4, Tm.var]
theorem apply_x4 (l r : Tm) (h : r.con = true) : applyTe [⟨4, l⟩] ⟨4, x4, r⟩ = ⟨4, l, r⟩ := by
  unfold applyTe become
  rw [x4_var, con_var r h]; simp [look, x4]
theorem bs_one {w : World} {g : Nat} {d : Bd} {ty : TypeId} (h : w.heap[g]? = some (.cells #[.int .i64 d.x, .int .i64 d.to.k, .int .i64 d.to.n, .string d.to.s] ty (0, 0))) : Bs w (.slice (some ⟨g, 0, none⟩) 1 1) [d] := by
  refine ⟨_, 1, rfl, by simp, Or.inr ⟨g, 0, rfl, (Array.getElem?_eq_some_iff.1 h).1, ?_⟩⟩
  intro i u hu
  match i, hu with
  | 0, hu =>
    simp only [List.getElem?_cons_zero, Option.some.injEq] at hu
    subst hu
    have := four h
    exact ⟨this.1, this.2.1, this.2.2.1, this.2.2.2⟩
set_option maxHeartbeats 1000000 in
theorem decides_no (l r : Tm) (w : World) (h : l.con = false ∨ (l.con = true ∧ r.con = false)) :
    Calls Try.prog 6 #[l.v, r.v] w fun e w' => e = .returned (.bool true) ∧ Below w.heap.size w w' := by
  obtain ⟨k, n, s⟩ := l
  obtain ⟨k', n', s'⟩ := r
  have hk : Te.known ⟨4, ⟨k, n, s⟩, ⟨k', n', s'⟩⟩ = false := by
    unfold Te.known
    rcases h with h | ⟨_, h⟩ <;> simp [h]
  have hh : Te.holds ⟨4, ⟨k, n, s⟩, ⟨k', n', s'⟩⟩ = false := by unfold Te.holds; rw [hk]; rfl
  have HK : Hid (Te.known ⟨4, ⟨k, n, s⟩, ⟨k', n', s'⟩⟩ = false) := hk
  have HH : Hid (Te.holds ⟨4, ⟨k, n, s⟩, ⟨k', n', s'⟩⟩ = false) := hh
  clear hk hh
  rcases h with h | ⟨h, h'⟩
  · have H1 : Hid (Tm.con ⟨k, n, s⟩ = false) := h
    clear h
    go_enter Try.func6, Try.ntmps6
    go_wp2_with (first
      | (go_at_call 21; refine (con_any ⟨_, _, _⟩ _).mono ?_; rw [H1.out]; rintro e w1 ⟨rfl, hb1⟩; have C1 := (BoxB.start _ _ _ _ _).later hb1; obtain ⟨p0, p1, p2, -, -, -⟩ := three C1.1; obtain ⟨q0, q1, q2, -, -, -⟩ := three C1.2.1; have B1 : Hid (BoxB _ _ _ _ _ _) := C1; clear C1)
      | (go_at_call 22; refine (decide_any ⟨4, ⟨k, n, s⟩, ⟨k', n', s'⟩⟩ _).mono ?_; rw [HK.out, HH.out]; rintro e w2 ⟨rfl, hb2⟩)
      | (go_at_call 10; refine (first_any _).mono ?_; rintro e w3 ⟨rfl, hb3⟩))
    go_ret
    exact ⟨rfl, below_step ((Hid.out B1).later hb2).2.2 hb3⟩
  · have H1 : Hid (Tm.con ⟨k, n, s⟩ = true) := h
    have H2 : Hid (Tm.con ⟨k', n', s'⟩ = false) := h'
    clear h h'
    go_enter Try.func6, Try.ntmps6
    go_wp2_with (first
      | (go_at_call 21; refine (con_any ⟨_, _, _⟩ _).mono ?_; first | (rw [H1.out]; rintro e w1 ⟨rfl, hb1⟩; have C1 := (BoxB.start _ _ _ _ _).later hb1; obtain ⟨p0, p1, p2, -, -, -⟩ := three C1.1; obtain ⟨q0, q1, q2, -, -, -⟩ := three C1.2.1; have B1 : Hid (BoxB _ _ _ _ _ _) := C1; clear C1) | (rw [H2.out]; rintro e w4 ⟨rfl, hb4⟩; clear p0 p1 p2 q0 q1 q2; have C4 := (Hid.out B1).later hb4; obtain ⟨p0, p1, p2, -, -, -⟩ := three C4.1; obtain ⟨q0, q1, q2, -, -, -⟩ := three C4.2.1; have B4 : Hid (BoxB _ _ _ _ _ _) := C4; clear C4))
      | (go_at_call 22; refine (decide_any ⟨4, ⟨k, n, s⟩, ⟨k', n', s'⟩⟩ _).mono ?_; rw [HK.out, HH.out]; rintro e w2 ⟨rfl, hb2⟩)
      | (go_at_call 10; refine (first_any _).mono ?_; rintro e w3 ⟨rfl, hb3⟩))
    go_ret
    exact ⟨rfl, below_step ((Hid.out B4).later hb2).2.2 hb3⟩
end Go.Proofs.Ytjjppmidhpgnkaa
