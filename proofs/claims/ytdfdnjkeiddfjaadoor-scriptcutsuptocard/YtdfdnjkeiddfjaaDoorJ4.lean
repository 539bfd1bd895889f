/-
  Quote, and ref's Quote: the walks.
-/
import Derived.Test.YtdfdnjkeiddfjaaDoorJ3
namespace Go.Proofs.YtdfdnjkeiddfjaaDoor
open Go.RowKit

set_option maxRecDepth 20000 in
set_option maxHeartbeats 1000000 in
theorem quote_any (s : ByteArray) (hs : s.size ≤ 2000000) (w : World) :
    Calls Tryd.prog 72 #[.string s] w fun e w' => e = .returned (.string (qtB s)) ∧ Below w.heap.size w w' := by
  go_enter Tryd.func72, Tryd.ntmps72
  go_upto_region 2 with fail
  have ho := OwnB.lit w [34] (by simp)
  have hb := below1K w (.cells #[.int .u8 34] 5)
  simp only [ibs, List.map_cons, List.map_nil, List.length_cons, List.length_nil] at ho
  revert ho hb
  generalize w.alloc (.cells #[.int .u8 34] 5) = W1
  generalize (Value.slice (some ⟨w.heap.size, 0, none⟩) 1 1) = v1
  intro hb ho
  have HO : Hid (OwnB W1 w.heap.size v1 [34]) := ho
  have HB : Hid (Below w.heap.size w W1) := hb
  clear ho hb
  go_wp2
  go_loopg [3, 9] s.size (fun g u i wr => ∃ j : Nat, j + g = s.size ∧ i = .int .i64 j ∧ OwnB wr w.heap.size u (qtl s j) ∧ Below w.heap.size w wr)
  case atStart => exact ⟨0, by omega, rfl, HO.out, HB.out⟩
  case round =>
    obtain ⟨j, hj, rfl, ho, hb⟩ := hrel
    have hlen := qtl_len s j
    cases gk with
    | succ g =>
      have hlt : j < s.size := by omega
      have i1 : (j : Int) < (s.size : Int) := by omega
      have hidx := run_index_atK s j hlt (j : Int) rfl
      have hr := at_range s j
      have HR : Hid (∀ v' w', OwnB w' w.heap.size v' (qtl s j ++ qb (atK_ s j)) → OwnB w' w.heap.size v' (qtl s (j + 1))) := fun v' w' h => by rw [qtl_succ]; exact h
      obtain ⟨c, hc⟩ : ∃ c, atK_ s j = c := ⟨_, rfl⟩
      rw [hc] at hidx hr HR
      obtain ⟨l, hl⟩ : ∃ l, qtl s j = l := ⟨_, rfl⟩
      rw [hl] at ho HR hlen
      have h0 := hr.1
      have h1 := hr.2
      have HOw : Hid (OwnB wr w.heap.size u3 l) := ho
      have HBw : Hid (Below w.heap.size w wr) := hb
      have hsz := hb.size
      clear ho hb hc hl hr
      by_cases q1 : c = 34 ∨ c = 92
      · have HQ : Hid (qb c = [92, c]) := by show _ = _; unfold qb; rw [if_pos q1]
        rcases q1 with rfl | rfl <;>
        · go_wp2_with (at_builtin; refine app_bytes rfl _ _ rfl w.heap.size u3 l rfl (HOw.out.later (below1K _ _)) wr.heap.size [92, _] rfl (heap_alloc_new wr _) (by simp) (by simp; omega) (by simp; omega) ?_; intro v' w1 ho1 hb1)
          go_roundg g
          case measure => omega
          case rel => exact ⟨j + 1, by omega, by go_num, HR.out _ _ (by rw [HQ.out]; exact ho1), HBw.out.trans (((below1K _ _).mono hsz).trans hb1)⟩
      · have n1 : (c == 34) = false := beq_eq_false_iff_ne.2 fun e => q1 (Or.inl e)
        have n2 : (c == 92) = false := beq_eq_false_iff_ne.2 fun e => q1 (Or.inr e)
        by_cases q2 : c = 10
        · have HQ : Hid (qb c = [92, 110]) := by show _ = _; unfold qb; rw [if_neg q1, if_pos q2]
          clear q1 n1 n2
          subst q2
          go_wp2_with (at_builtin; refine app_bytes rfl _ _ rfl w.heap.size u3 l rfl (HOw.out.later (below1K _ _)) wr.heap.size [92, 110] rfl (heap_alloc_new wr _) (by simp) (by simp; omega) (by simp; omega) ?_; intro v' w1 ho1 hb1)
          go_roundg g
          case measure => omega
          case rel => exact ⟨j + 1, by omega, by go_num, HR.out _ _ (by rw [HQ.out]; exact ho1), HBw.out.trans (((below1K _ _).mono hsz).trans hb1)⟩
        · have n3 : (c == 10) = false := beq_eq_false_iff_ne.2 q2
          by_cases q3 : c = 9
          · have HQ : Hid (qb c = [92, 116]) := by show _ = _; unfold qb; rw [if_neg q1, if_neg q2, if_pos q3]
            clear q1 n1 n2 q2 n3
            subst q3
            go_wp2_with (at_builtin; refine app_bytes rfl _ _ rfl w.heap.size u3 l rfl (HOw.out.later (below1K _ _)) wr.heap.size [92, 116] rfl (heap_alloc_new wr _) (by simp) (by simp; omega) (by simp; omega) ?_; intro v' w1 ho1 hb1)
            go_roundg g
            case measure => omega
            case rel => exact ⟨j + 1, by omega, by go_num, HR.out _ _ (by rw [HQ.out]; exact ho1), HBw.out.trans (((below1K _ _).mono hsz).trans hb1)⟩
          · have n4 : (c == 9) = false := beq_eq_false_iff_ne.2 q3
            by_cases q4 : 32 ≤ c ∧ c ≤ 126
            · have HQ : Hid (qb c = [c]) := by show _ = _; unfold qb; rw [if_neg q1, if_neg q2, if_neg q3, if_pos q4]
              have m1 := q4.1
              have m2 := q4.2
              have m3 : ¬ c < 32 := by omega
              have m4 : ¬ 126 < c := by omega
              clear q1 q2 q3 q4
              go_wp2_with (at_builtin; refine app_bytes rfl _ _ rfl w.heap.size u3 l rfl (HOw.out.later (below1K _ _)) wr.heap.size [c] rfl (heap_alloc_new wr _) (by simp) (by simp; omega) (by simp; omega) ?_; intro v' w1 ho1 hb1)
              go_roundg g
              case measure => omega
              case rel => exact ⟨j + 1, by omega, by go_num, HR.out _ _ (by rw [HQ.out]; exact ho1), HBw.out.trans (((below1K _ _).mono hsz).trans hb1)⟩
            · have HQ : Hid (qb c = [92, 120, hxd (c / 16), hxd (c % 16)]) := by show _ = _; unfold qb; rw [if_neg q1, if_neg q2, if_neg q3, if_neg q4]
              have a0 := hxd_rng (c / 16) (by omega) (by omega)
              have hd1 := fun W K => run_index_hx W K (c / 16) (by omega) (by omega)
              have hd2 := fun W K => run_index_hx W K (c % 16) (by omega) (by omega)
              have ha := and15' c h0 h1
              obtain ⟨x1, e1⟩ : ∃ x, hxd (c / 16) = x := ⟨_, rfl⟩
              obtain ⟨x2, e2⟩ : ∃ x, hxd (c % 16) = x := ⟨_, rfl⟩
              rw [e1] at hd1 HQ
              rw [e2] at hd2 HQ
              clear q1 q2 q3 e1 e2 a0
              have q5 : c < 32 ∨ 126 < c := by omega
              clear q4
              rcases q5 with q5 | q5 <;>
              · go_wp2
                go_region_held3 (fun _ => True) (first | go_keep | trivial)
                  ((refine step_bytes rfl _ _ rfl w.heap.size u3 l rfl ((HOw.out.later (below1K _ _)).later (Below.refl _ _).drew) wr.heap.size [92, 120, x1, x2] rfl (heap_alloc_new wr _) (by simp) (by simp; omega) (by simp; omega) ?_; intro v' w1 ho1 hb1))
                all_goals
                  go_wp2
                  go_roundg g
                  case measure => omega
                  case rel => exact ⟨j + 1, by omega, by go_num, HR.out _ _ (by rw [HQ.out]; exact ho1), HBw.out.trans (((below1K _ _).drew.mono hsz).trans hb1)⟩
    | zero =>
      obtain rfl : j = s.size := by omega
      have hz : ¬ ((s.size : Int) < (s.size : Int)) := by omega
      have HOw : Hid (OwnB wr w.heap.size u3 (qtl s s.size)) := ho
      have HBw : Hid (Below w.heap.size w wr) := hb
      have hsz := hb.size
      have HY : Hid (byt (qtl s s.size ++ [34])) := fun x hx => by
        rcases List.mem_append.1 hx with hx | hx
        · exact qtl_byt s _ x hx
        · simp at hx; omega
      have HE : Hid (qtB s = ⟨(i2b (qtl s s.size ++ [34])).toArray⟩) := rfl
      generalize qtl s s.size = l at *
      clear ho hb
      go_wp2_with (at_builtin; refine app_bytes rfl _ _ rfl w.heap.size u3 l rfl (HOw.out.later (below1K _ _)) wr.heap.size [34] rfl (heap_alloc_new wr _) (by simp) (by simp; omega) (by simp; omega) ?_; intro v' w1 ho1 hb1; have hcv := conv_bytes ho1 (by simp) HY.out; have HB1 : Hid _ := hb1; clear ho1 hb1)
      go_ret
      exact ⟨by rw [HE.out]; rfl, HBw.out.trans (((below1K _ _).mono hsz).trans HB1.out)⟩
end Go.Proofs.YtdfdnjkeiddfjaaDoor
