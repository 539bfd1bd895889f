/-
  ref's variables.
-/
import Derived.Test.YtllgffmhbddigaaGreatMD6
namespace Go.Proofs.YtllgffmhbddigaaGreat
open Go.RowKit
attribute [local go_sem ↓] Go.wp_at_zero Go.wp_at_succ

theorem disT_no {l : List Tm} {j : Nat} {t : Tm} (h : l[j]? = some t) (hv : t.var = false) : disT (l.take (j + 1)) = disT (l.take j) := by
  unfold disT; rw [List.take_add_one, h, Option.toList_some, List.filter_append]; simp [hv]
theorem disT_yes {l : List Tm} {j : Nat} {t : Tm} (h : l[j]? = some t) (hv : t.var = true) : disT (l.take (j + 1)) = dstepT (disT (l.take j)) t := by
  unfold disT; rw [List.take_add_one, h, Option.toList_some, List.filter_append, List.foldl_append]; simp [hv]
theorem foldT_len : ∀ (l acc : List Tm), (l.foldl dstepT acc).length ≤ acc.length + l.length
  | [], acc => by simp
  | x :: l, acc => by
    rw [List.foldl_cons]
    refine Nat.le_trans (foldT_len l _) ?_
    unfold dstepT
    split
    · simp only [List.length_cons]; omega
    · simp only [List.length_append, List.length_cons, List.length_nil]; omega
theorem disT_len (l : List Tm) : (disT l).length ≤ l.length := by
  have h1 := foldT_len (l.filter Tm.var) []
  have h2 := List.length_filter_le Tm.var l
  unfold disT
  simp only [List.length_nil, Nat.zero_add] at h1
  omega
set_option maxRecDepth 20000 in
set_option maxHeartbeats 4000000 in
theorem variables3_any (l : List Tm) (v : Value) (w : World) (h : Ts w v l) (hl : l.length ≤ 3900000000000) :
    Calls Tryz.prog 80 #[v] w fun e w' => ∃ v', e = .returned v' ∧ OwnT w' w.heap.size v' (disT l) ∧ Below w.heap.size w w' := by
  obtain ⟨ad, cap, rfl, -, h⟩ := h
  go_enter Tryz.func80, Tryz.ntmps80
  go_wp2
  go_loopg [3, 4] l.length (fun g u i wr => ∃ j : Nat, j + g = l.length ∧ i = .int .i64 j ∧ OwnT wr w.heap.size u (disT (l.take j)) ∧ Below w.heap.size w wr)
  case atStart => exact ⟨0, by omega, rfl, ownT_nil _ _, Below.refl _ _⟩
  case round =>
    obtain ⟨j, hj, rfl, hown, hb⟩ := hrel
    have HO : Hid (OwnT wr w.heap.size u3 (disT (l.take j))) := hown
    have HB : Hid (Below w.heap.size w wr) := hb
    clear hown hb
    cases gk with
    | succ g =>
      have hlt : (j : Int) < (l.length : Int) := by omega
      have j0 : (0 : Int) ≤ (j : Int) := by omega
      obtain ⟨t, ht⟩ : ∃ t, l[j]? = some t := ⟨_, List.getElem?_eq_getElem (by omega)⟩
      rcases h with h | ⟨b1, o1, rfl, hb1, h⟩
      · subst h; simp at hj
      obtain ⟨p0, p1, p2⟩ := h j t ht
      have q0 := cell_step HB.out hb1 p0
      have q1 := cell_step HB.out hb1 p1
      have q2 := cell_step HB.out hb1 p2
      have hbW := lt_step HB.out hb1
      have HD : Hid ((disT (l.take j)).length ≤ j) := by show _ ≤ _; refine Nat.le_trans (disT_len _) ?_; rw [List.length_take]; omega
      have HVA : Hid (∀ X : World, Calls Tryz.prog 74 #[t.v] X fun e w' => e = .returned (.bool t.var) ∧ Below X.heap.size X w') := fun X => rvar_any t X
      cases hv : t.var
      · have HN : Hid (disT (l.take (j + 1)) = disT (l.take j)) := disT_no ht hv
        rw [hv] at HVA
        clear h ht hv p0 p1 p2
        obtain ⟨tk, tn, ts⟩ := t
        simp only at q0 q1 q2
        go_wp2_with (go_at_call 74; refine (HVA.out _).mono ?_; clear HVA; rintro e w1 ⟨rfl, hb⟩; have HO1 : Hid (OwnT w1 w.heap.size u3 (disT (l.take j))) := HO.out.later hb; have HB1 : Hid (Below w.heap.size w w1) := below_step HB.out hb; clear hb HO HB)
        go_roundg g
        case measure => omega
        case rel => exact ⟨j + 1, by omega, by go_num, by rw [HN.out]; exact HO1.out, HB1.out⟩
      · have hn := disT_yes ht hv
        rw [hv] at HVA
        have HWI : Hid (∀ X : World, Below wr.heap.size wr X → Calls Tryz.prog 77 #[u3, t.v] X fun e w' => e = .returned (.bool (decide (t ∈ disT (l.take j)))) ∧ Below X.heap.size X w') := fun X hX => within_any _ u3 t X ((HO.out.later hX).tsP.ts (by have := HD.out; omega))
        by_cases hm : t ∈ disT (l.take j)
        · have HN : Hid (disT (l.take (j + 1)) = disT (l.take j)) := by show _ = _; rw [hn, dstepT, if_pos hm]
          rw [decide_eq_true hm] at HWI
          clear h ht hv p0 p1 p2 hn hm
          obtain ⟨tk, tn, ts⟩ := t
          simp only at q0 q1 q2
          go_wp2_with (first
            | (go_at_call 74; refine (HVA.out _).mono ?_; clear HVA; rintro e w1 ⟨rfl, hb⟩; have HBx : Hid (Below wr.heap.size wr w1) := hb; have q0 := cell_step hb hbW q0; have q1 := cell_step hb hbW q1; have q2 := cell_step hb hbW q2; clear hb)
            | (go_at_call 77; refine (HWI.out _ HBx.out).mono ?_; clear HWI; rintro e w2 ⟨rfl, hb⟩; have HO1 : Hid (OwnT w2 w.heap.size u3 (disT (l.take j))) := HO.out.later (below_step HBx.out hb); have HB1 : Hid (Below w.heap.size w w2) := below_step (below_step HB.out HBx.out) hb; clear hb HO HB HBx))
          go_roundg g
          case measure => omega
          case rel => exact ⟨j + 1, by omega, by go_num, by rw [HN.out]; exact HO1.out, HB1.out⟩
        · have HN : Hid (disT (l.take (j + 1)) = disT (l.take j) ++ [t]) := by show _ = _; rw [hn, dstepT, if_neg hm]
          rw [decide_eq_false hm] at HWI
          clear h ht hv p0 p1 p2 hn hm
          obtain ⟨tk, tn, ts⟩ := t
          simp only at q0 q1 q2
          generalize disT (l.take j) = DJ at HO HN HD HWI
          go_upto_if 24 with (first
            | (go_at_call 74; refine (HVA.out _).mono ?_; clear HVA; rintro e w1 ⟨rfl, hb⟩; have HBx : Hid (Below wr.heap.size wr w1) := hb; have q0 := cell_step hb hbW q0; have q1 := cell_step hb hbW q1; have q2 := cell_step hb hbW q2; clear hb)
            | (go_at_call 77; refine (HWI.out _ HBx.out).mono ?_; clear HWI; rintro e w2 ⟨rfl, hb⟩; have HO1 : Hid (OwnT w2 w.heap.size u3 DJ) := HO.out.later (below_step HBx.out hb); have HB1 : Hid (Below w.heap.size w w2) := below_step (below_step HB.out HBx.out) hb; have hbW := lt_step HBx.out hbW; have q0 := cell_step hb hbW q0; have q1 := cell_step hb hbW q1; have q2 := cell_step hb hbW q2; clear hb HO HB HBx))
          have HG : Hid (CBlk (w2.alloc (.cells #[.int .i64 tk, .int .i64 tn, .string ts] 23)) w2.heap.size #[.int .i64 tk, .int .i64 tn, .string ts] 23) := CBlk.new _ _ _
          have hsz := HB1.out.size
          go_wp2_with (at_builtin; refine app_terms rfl _ _ rfl w.heap.size u3 DJ (by rfl) (HO1.out.later (below1 _ _)) (.slice (some ⟨w2.heap.size, 0, none⟩) 1 1) [⟨tk, tn, ts⟩] (by rfl) (TsP.one HG.out) (by have := HD.out; simp; omega) (by simp; omega) ?_; intro v' w3 hown hb3 hg3; have HO3 : Hid (OwnT w3 w.heap.size v' (DJ ++ [⟨tk, tn, ts⟩])) := hown; have HB3 : Hid (Below w.heap.size w w3) := (below_step HB1.out (below1 _ _)).trans hb3; clear hown hb3 hg3)
          go_roundg g
          case measure => omega
          case rel => exact ⟨j + 1, by omega, by go_num, by rw [HN.out]; exact HO3.out, HB3.out⟩
    | zero =>
      obtain rfl : j = l.length := by omega
      have hz : ¬ ((l.length : Int) < (l.length : Int)) := by omega
      rw [List.take_length] at HO
      clear h
      go_wp2
      go_ret
      exact ⟨_, rfl, HO.out, HB.out⟩
end Go.Proofs.YtllgffmhbddigaaGreat
