/-
  within, place, ground, safe, MadeConst.
-/
import Derived.Test.YtllgffmhbddigaaGreatMP1
import Derived.Test.YtllgffmhbddigaaGreatW2
import Derived.Test.YtllgffmhbddigaaGreatCL1
namespace Go.Proofs.YtllgffmhbddigaaGreat
open Go.RowKit
attribute [local go_sem ↓] Go.wp_at_zero Go.wp_at_succ

set_option maxHeartbeats 1000000 in
theorem within_any (l : List Tm) (v : Value) (t : Tm) (w : World) (h : Ts w v l) :
    Calls Tryz.prog 77 #[v, t.v] w fun e w' => e = .returned (.bool (decide (t ∈ l))) ∧ Below w.heap.size w w' := by
  obtain ⟨ad, cap, rfl, hl, h⟩ := h
  obtain ⟨r, hr⟩ : ∃ r, decide (t ∈ l) = r := ⟨_, rfl⟩
  rw [hr]
  obtain ⟨k, n, s⟩ := t
  have HR : Hid (decide (Tm.mk k n s ∈ l) = r) := hr
  clear hr
  go_enter Tryz.func77, Tryz.ntmps77
  go_wp2
  have bx := Blk.new w #[.int .i64 k, .int .i64 n, .string s] 23
  have hbx := below1 w (.cells #[.int .i64 k, .int .i64 n, .string s] 23)
  have h' : l = [] ∨ ∃ b o, ad = some ⟨b, o, none⟩ ∧ TRow (w.alloc (.cells #[.int .i64 k, .int .i64 n, .string s] 23)) b o l := by
    rcases h with h | ⟨b, o, h1, h2⟩
    · exact Or.inl h
    · exact Or.inr ⟨b, o, h1, h2.later hbx⟩
  revert bx hbx h'
  generalize w.alloc (.cells #[.int .i64 k, .int .i64 n, .string s] 23) = X
  intro bx hbx h'
  clear h
  have HBX : Hid (Below w.heap.size w X) := hbx
  have BX : Hid (Blk X w.heap.size #[.int .i64 k, .int .i64 n, .string s] 23) := bx
  clear hbx bx
  go_loopg [5] l.length (fun g i wr => ∃ j : Nat, j + g = l.length ∧ i = .int .i64 j ∧ (¬ Tm.mk k n s ∈ l.take j) ∧ Below X.heap.size X wr)
  case atStart => exact ⟨0, by omega, rfl, by simp, Below.refl _ _⟩
  case round =>
    obtain ⟨j, hj, rfl, hno, hb⟩ := hrel
    have HN : Hid (¬ Tm.mk k n s ∈ l.take j) := hno
    clear hno
    cases gk with
    | succ g =>
      have hlt : (j : Int) < (l.length : Int) := by omega
      have j0 : (0 : Int) ≤ (j : Int) := by omega
      obtain ⟨u, hu⟩ : ∃ u, l[j]? = some u := ⟨_, List.getElem?_eq_getElem (by omega)⟩
      rcases h' with h | ⟨b1, o1, rfl, hb1, h⟩
      · subst h; simp at hj
      obtain ⟨p0, p1, p2⟩ := h j u hu
      rw [← hb.cell (p := ⟨b1, _, none⟩) hb1] at p0 p1 p2
      obtain ⟨q0, q1, q2, -, -, -⟩ := three (Blk.later (Hid.out BX) hb)
      have he := run_eql_tm u ⟨k, n, s⟩
      have HU : Hid (l[j]? = some u) := hu
      by_cases htu : u = ⟨k, n, s⟩
      · have HY : Hid (decide (Tm.mk k n s ∈ l) = true) := decide_eq_true (by rw [← htu]; exact List.mem_of_getElem? hu)
        rw [decide_eq_true htu] at he
        clear htu hu h
        obtain ⟨uk, un, us⟩ := u
        simp only at p0 p1 p2
        go_wp2
        go_quiet (fail)
        go_wp2
        go_ret
        exact ⟨ret_b (HY.out.symm.trans HR.out), below_step (Hid.out HBX) (below_drewN hb _)⟩
      · have HY : Hid (¬ Tm.mk k n s ∈ l.take (j + 1)) := by
          show ¬ _
          rw [List.take_add_one, hu]
          simp only [Option.toList_some, List.mem_append, List.mem_singleton, not_or]
          exact ⟨HN.out, fun e => htu e.symm⟩
        rw [decide_eq_false htu] at he
        clear htu hu h
        obtain ⟨uk, un, us⟩ := u
        simp only at p0 p1 p2
        go_wp2
        go_quiet (fail)
        go_wp2
        go_roundg g
        case measure => omega
        case rel => exact ⟨j + 1, by omega, by go_num, HY.out, below_drewN hb _⟩
    | zero =>
      obtain rfl : j = l.length := by omega
      have HY : Hid (decide (Tm.mk k n s ∈ l) = false) := decide_eq_false (by have := HN.out; rwa [List.take_length] at this)
      have hz : ¬ ((l.length : Int) < (l.length : Int)) := by omega
      clear h'
      go_wp2
      go_ret
      exact ⟨ret_b (HY.out.symm.trans HR.out), below_step (Hid.out HBX) hb⟩

/-- Where a term stands; -1: nowhere. -/
def plc (l : List Tm) (t : Tm) : Int := if t ∈ l then (ix l t : Int) else -1
theorem plc_at {l : List Tm} {t : Tm} {j : Nat} (h : l[j]? = some t) (hn : ¬ t ∈ l.take j) : plc l t = j := by
  unfold plc; rw [if_pos (List.mem_of_getElem? h), ix_at h hn]
theorem plc_no {l : List Tm} {t : Tm} (h : ¬ t ∈ l) : plc l t = -1 := if_neg h
set_option maxHeartbeats 1000000 in
theorem place3_any (l : List Tm) (v : Value) (t : Tm) (w : World) (h : Ts w v l) :
    Calls Tryz.prog 81 #[v, t.v] w fun e w' => e = .returned (.int .i64 (plc l t)) ∧ Below w.heap.size w w' := by
  obtain ⟨ad, cap, rfl, hl, h⟩ := h
  obtain ⟨r, hr⟩ : ∃ r, plc l t = r := ⟨_, rfl⟩
  rw [hr]
  obtain ⟨k, n, s⟩ := t
  have HR : Hid (plc l ⟨k, n, s⟩ = r) := hr
  clear hr
  go_enter Tryz.func81, Tryz.ntmps81
  go_wp2
  have bx := Blk.new w #[.int .i64 k, .int .i64 n, .string s] 23
  have hbx := below1 w (.cells #[.int .i64 k, .int .i64 n, .string s] 23)
  have h' : l = [] ∨ ∃ b o, ad = some ⟨b, o, none⟩ ∧ TRow (w.alloc (.cells #[.int .i64 k, .int .i64 n, .string s] 23)) b o l := by
    rcases h with h | ⟨b, o, h1, h2⟩
    · exact Or.inl h
    · exact Or.inr ⟨b, o, h1, h2.later hbx⟩
  revert bx hbx h'
  generalize w.alloc (.cells #[.int .i64 k, .int .i64 n, .string s] 23) = X
  intro bx hbx h'
  clear h
  have HBX : Hid (Below w.heap.size w X) := hbx
  have BX : Hid (Blk X w.heap.size #[.int .i64 k, .int .i64 n, .string s] 23) := bx
  clear hbx bx
  go_loopg [5] l.length (fun g i wr => ∃ j : Nat, j + g = l.length ∧ i = .int .i64 j ∧ (¬ Tm.mk k n s ∈ l.take j) ∧ Below X.heap.size X wr)
  case atStart => exact ⟨0, by omega, rfl, by simp, Below.refl _ _⟩
  case round =>
    obtain ⟨j, hj, rfl, hno, hb⟩ := hrel
    have HN : Hid (¬ Tm.mk k n s ∈ l.take j) := hno
    clear hno
    cases gk with
    | succ g =>
      have hlt : (j : Int) < (l.length : Int) := by omega
      have j0 : (0 : Int) ≤ (j : Int) := by omega
      obtain ⟨u, hu⟩ : ∃ u, l[j]? = some u := ⟨_, List.getElem?_eq_getElem (by omega)⟩
      rcases h' with h | ⟨b1, o1, rfl, hb1, h⟩
      · subst h; simp at hj
      obtain ⟨p0, p1, p2⟩ := h j u hu
      rw [← hb.cell (p := ⟨b1, _, none⟩) hb1] at p0 p1 p2
      obtain ⟨q0, q1, q2, -, -, -⟩ := three (Blk.later (Hid.out BX) hb)
      have he := run_eql_tm u ⟨k, n, s⟩
      have HU : Hid (l[j]? = some u) := hu
      by_cases htu : u = ⟨k, n, s⟩
      · have HY : Hid (plc l ⟨k, n, s⟩ = (j : Int)) := plc_at (by rw [← htu]; exact hu) HN.out
        rw [decide_eq_true htu] at he
        clear htu hu h
        obtain ⟨uk, un, us⟩ := u
        simp only at p0 p1 p2
        go_wp2
        go_quiet (fail)
        go_wp2
        go_ret
        exact ⟨ret_i (HY.out.symm.trans HR.out), below_step (Hid.out HBX) (below_drewN hb _)⟩
      · have HY : Hid (¬ Tm.mk k n s ∈ l.take (j + 1)) := by
          show ¬ _
          rw [List.take_add_one, hu]
          simp only [Option.toList_some, List.mem_append, List.mem_singleton, not_or]
          exact ⟨HN.out, fun e => htu e.symm⟩
        rw [decide_eq_false htu] at he
        clear htu hu h
        obtain ⟨uk, un, us⟩ := u
        simp only at p0 p1 p2
        go_wp2
        go_quiet (fail)
        go_wp2
        go_roundg g
        case measure => omega
        case rel => exact ⟨j + 1, by omega, by go_num, HY.out, below_drewN hb _⟩
    | zero =>
      obtain rfl : j = l.length := by omega
      have HY : Hid (plc l ⟨k, n, s⟩ = -1) := plc_no (by have := HN.out; rwa [List.take_length] at this)
      have hz : ¬ ((l.length : Int) < (l.length : Int)) := by omega
      clear h'
      go_wp2
      go_ret
      exact ⟨ret_i (HY.out.symm.trans HR.out), below_step (Hid.out HBX) hb⟩

set_option maxHeartbeats 400000 in
theorem ground_any (t : Tm) (w : World) : Calls Tryz.prog 78 #[t.v] w fun e w' => e = .returned (grd t).v ∧ Below w.heap.size w w' := by
  obtain ⟨k, n, s⟩ := t
  obtain ⟨r, hr⟩ : ∃ r, grd ⟨k, n, s⟩ = r := ⟨_, rfl⟩
  rw [hr]
  have HR : Hid (grd ⟨k, n, s⟩ = r) := hr
  clear hr
  by_cases h3 : k = 3
  · subst h3
    have hx : r = ⟨1, n, ⟨#[]⟩⟩ := HR.out.symm.trans (by simp [grd])
    subst hx
    clear HR
    go_enter Tryz.func78, Tryz.ntmps78
    go_wp2
    refine bodyPost_ret (v := Tm.v ⟨1, n, ⟨#[]⟩⟩) (by simp [results, Tryz.results78, go_sem]) rfl ⟨rfl, ?_⟩
    first | exact below2 _ _ _ | exact (((below2 _ _ _).setCell (by simp) _).setCell (by simp) _).setCell (by simp) _
  · have hx : r = ⟨k, n, s⟩ := HR.out.symm.trans (by simp [grd, h3])
    subst hx
    clear HR
    go_enter Tryz.func78, Tryz.ntmps78
    go_wp2
    refine bodyPost_ret (v := Tm.v ⟨k, n, s⟩) (by simp [results, Tryz.results78, go_sem]) rfl ⟨rfl, ?_⟩
    first | exact below2 _ _ _ | exact (((below2 _ _ _).setCell (by simp) _).setCell (by simp) _).setCell (by simp) _
end Go.Proofs.YtllgffmhbddigaaGreat
