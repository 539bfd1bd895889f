import Derived.Test.YtdfdnjkeiddfjaaDoorSMX
import Derived.Test.YtdfdnjkeiddfjaaDoorSML
import Derived.Test.YtdfdnjkeiddfjaaDoorSMQ
import Derived.Test.YtdfdnjkeiddfjaaDoorSC3
import Derived.Test.YtdfdnjkeiddfjaaDoorSC7
/-
  hearsaylaw25: first.
-/
namespace Go.Proofs.YtdfdnjkeiddfjaaDoor
open Go.RowKit
attribute [local go_sem ↓] Go.wp_at_zero Go.wp_at_succ

def fiB : ByteArray := ⟨#[113, 117, 101, 114, 121, 32, 98, 111, 98, 32, 34, 109, 97, 121, 40, 88, 41, 63, 34, 32, 57, 32, 37, 32, 110, 111, 119]⟩
def fiD : SdO := ⟨7, ⟨#[98, 111, 98]⟩, ⟨#[]⟩, ⟨#[109, 97, 121, 40, 88, 41, 63]⟩, 9, 0, 0⟩
def fiP : ByteArray := ⟨#[113, 117, 101, 114, 121, 32, 98, 111, 98, 32, 34, 109, 97, 121, 40, 88, 41, 63, 34, 32, 57]⟩
def swB : ByteArray := ⟨#[115, 119, 97, 112, 32, 49]⟩
theorem fi_rd : rdS fiB = ⟨fiD, ⟨#[]⟩, 0, 0⟩ := by kernel_rfl
theorem fi_pr : prS fiD ⟨#[]⟩ = some fiP := by kernel_rfl
theorem sw_rd : rdS swB = ⟨zdS, ⟨#[]⟩, 253, 6⟩ := by kernel_rfl
theorem fi_ok : OkS fiD ⟨#[]⟩ := ⟨by decide, by decide, by decide, by decide, by unfold N64S; decide, by unfold N64S; decide, by unfold N64S; decide, by unfold N64S; decide⟩
theorem run_eql_ftS (e p e' p' : Int) (w : World) : (binOp .eql 27 (.agg #[.int .i64 e, .int .i64 p]) (.agg #[.int .i64 e', .int .i64 p'])).run Tryd.prog w = .ok (.bool (decide (e = e' ∧ p = p'))) w := run_eql_ft e p e' p' w
set_option maxRecDepth 20000 in
set_option maxHeartbeats 2000000 in
theorem first_any (w : World) (hE : EnS w) : Calls Tryd.prog 12 #[] w fun e w' => e = .returned (.bool true) ∧ Below w.heap.size w w' := by
  have HE := hm7 hE
  have HR1 : Hid (Calls Tryd.prog 9 #[.string fiB] w (RdQ w ⟨fiD, ⟨#[]⟩, 0, 0⟩)) := by rw [← fi_rd]; exact aSRead_any fiB (by decide) w hE
  have HR2 : Hid (∀ X, EnS X → Calls Tryd.prog 9 #[.string swB] X (RdQ X ⟨zdS, ⟨#[]⟩, 253, 6⟩)) := fun X h => by rw [← sw_rd]; exact aSRead_any swB (by decide) X h
  have HP : Hid (∀ (X : World) a c, EnS X → LbW (fun _ => True) X (.slice a 0 c) [] → Calls Tryd.prog 10 #[fiD.v a 0 c] X fun e w' => e = .returned (.tuple #[.string fiP, .bool true]) ∧ Below X.heap.size X w') := fun X a c h hl => by
    have := aSPrint_any fiD ⟨#[]⟩ a c fi_ok X h hl
    rw [fi_pr] at this
    exact this
  clear hE
  go_enter Tryd.func12, Tryd.ntmps12
  go_upto_region 2 with (go_at_call 9; refine HR1.out.mono ?_; rintro e w1 ⟨a, c, rfl, ho, hb1⟩; simp only [RsS.v])
  obtain ⟨hB, hF, -, hb⟩ := boxR hb1 ho
  simp only [SdO.cs, show (⟨#[]⟩ : ByteArray).size = 0 from rfl] at hB hF hb
  revert hB hF hb
  generalize (w1.alloc _).alloc _ = W1
  intro hB hF hb
  have HB1 := hm7 hB
  have HF1 := hm7 hF
  have HW1 := hm7 hb
  have HE1 := hm7 (HE.out.later hb)
  have HP1 := hm7 (HP.out W1 a c HE1.out hB.lb)
  obtain ⟨c0, c1, c2, c3, c4, c5, c6, c7⟩ := hB.cells
  clear hB hF hb ho hb1 HP
  go_upto_region 3 with (go_at_call 10; refine HP1.out.mono ?_; rintro e w2 ⟨rfl, hb2⟩)
  have HE2 := hm7 (HE1.out.later hb2)
  have HF2 := hm7 (HF1.out.later hb2)
  have HW2 := hm7 (below_stepK HW1.out hb2)
  clear hb2 c0 c1 c2 c3 c4 c5 c6 c7
  go_upto_region 4 with (go_at_call 9; refine (HR2.out _ HE2.out).mono ?_; rintro e w3 ⟨a3, c3, rfl, ho, hb3⟩; simp only [RsS.v])
  have hF3 := HF2.out.later hb3
  have hs3 := hb3.size
  obtain ⟨hB, hF, -, hb⟩ := boxR hb3 ho
  have hF4 := HF2.out.later hb
  revert hB hF hb hF4
  simp only [SdO.cs, show (⟨#[]⟩ : ByteArray).size = 0 from rfl]
  generalize (w3.alloc _).alloc _ = W4
  intro hB hF hb hF4
  obtain ⟨x0, x1⟩ := ft_cells hF
  obtain ⟨y0, y1⟩ := ft_cells hF4
  have e1 := fun W => run_eql_ftS 0 0 0 0 W
  have e2 := fun W => run_eql_ftS 253 6 253 6 W
  have h5 : fiP.toList = [113, 117, 101, 114, 121, 32, 98, 111, 98, 32, 34, 109, 97, 121, 40, 88, 41, 63, 34, 32, 57] := by kernel_rfl
  have HW4 := hm7 (below_stepK HW2.out hb)
  clear hB hF hb hF4 hF3 ho hb3
  go_wp2
  go_ret
  exact ⟨rfl, HW4.out⟩
end Go.Proofs.YtdfdnjkeiddfjaaDoor
/-
  hearsaylaw25: same (of a step and itself), has, cut, line, texts.
-/
namespace Go.Proofs.YtdfdnjkeiddfjaaDoor
open Go.RowKit
attribute [local go_sem ↓] Go.wp_at_zero Go.wp_at_succ

/-- line: a text without line feeds. -/
def lfL (s : ByteArray) (n : Nat) : List Int := ((blK s).take n).filter fun x => decide (x ≠ 10)
def liL (s : ByteArray) : ByteArray := ofL ((blK s).filter fun x => decide (x ≠ 10))
theorem lf_byt (s : ByteArray) (n : Nat) : byt (lfL s n) := fun x hx => bl_byt s x (List.mem_of_mem_take (List.mem_filter.1 hx).1)
theorem lf_len (s : ByteArray) (n : Nat) : (lfL s n).length ≤ n := Nat.le_trans (List.length_filter_le _ _) (by rw [List.length_take]; omega)
theorem lf_succ (s : ByteArray) {j : Nat} (h : j < s.size) : lfL s (j + 1) = if atK_ s j = 10 then lfL s j else lfL s j ++ [atK_ s j] := by
  unfold lfL
  have e : (blK s).take (j + 1) = (blK s).take j ++ [atK_ s j] := by
    rw [List.take_add_one, List.getElem?_eq_getElem (by rw [bl_len]; exact h)]
    have := bl_drop h
    rw [List.drop_eq_getElem_cons (by rw [bl_len]; exact h)] at this
    rw [(List.cons.inj this).1]; rfl
  rw [e, List.filter_append]
  by_cases h10 : atK_ s j = 10
  · rw [if_pos h10, h10]; simp
  · rw [if_neg h10]; simp [h10]
theorem li_eq (s : ByteArray) : ofL (lfL s s.size) = liL s := by unfold lfL liL; rw [List.take_of_length_le (by rw [bl_len]; exact Nat.le_refl _)]
theorem bl_li (s : ByteArray) : blK (liL s) = (blK s).filter fun x => decide (x ≠ 10) := bl_ofL fun x hx => bl_byt s x (List.mem_filter.1 hx).1
theorem li_no (s : ByteArray) : ∀ x ∈ blK (liL s), x ≠ 10 := fun x hx => by rw [bl_li] at hx; simpa using (List.mem_filter.1 hx).2
theorem li_size (s : ByteArray) : (liL s).size ≤ s.size := by
  rw [← bl_len, ← bl_len, bl_li]; exact List.length_filter_le _ _
theorem conv_own {w : World} {base : Nat} {v : Value} {l : List Int} (h : OwnB w base v l) (hb : byt l) : (convert 22 9 v).run Tryd.prog w = .ok (.string (ofL l)) w := by
  cases l with
  | nil =>
    rcases h.2 with ⟨rfl, -⟩ | ⟨g, cap, cur, rfl, -⟩
    · exact conv_zero _ _ w
    · exact conv_zero _ _ w
  | cons x l => exact conv_bytes h (by simp) hb
set_option maxRecDepth 20000 in
set_option maxHeartbeats 2000000 in
theorem lineL_any (s : ByteArray) (hs : s.size ≤ 9000000) (w : World) : Calls Tryd.prog 18 #[.string s] w fun e w' => e = .returned (.string (liL s)) ∧ Below w.heap.size w w' := by
  obtain ⟨N, hN⟩ : ∃ N, s.size = N := ⟨_, rfl⟩
  have HN := hm7 hN
  rw [hN] at hs
  go_enter Tryd.func18, Tryd.ntmps18
  go_upto_region 3 with (fail)
  go_loopg [3, 4] N (fun gg v i wr => ∃ j : Nat, j + gg = N ∧ i = .int .i64 j ∧ OwnB wr w.heap.size v (lfL s j) ∧ Below w.heap.size w wr)
  case atStart => exact ⟨0, by omega, rfl, by simp [lfL]; exact World.ownsRow_nil _ _ _ _, Below.refl _ _⟩
  case round =>
    obtain ⟨j, hj, rfl, ho, hb⟩ := hrel
    have HO := hm7 ho
    have HB := hm7 hb
    have hl := lf_len s j
    clear ho hb
    cases gk with
    | succ gg =>
      have hlt : (j : Int) < (N : Int) := by omega
      have hjs : j < s.size := by have := HN.out; omega
      have hix := fun w' k' => run_index_atK s j hjs (j : Int) rfl w' k'
      have hsc := lf_succ s hjs
      obtain ⟨x, hx⟩ : ∃ x, atK_ s j = x := ⟨_, rfl⟩
      simp only [hx] at hix hsc
      have HSC := hm7 hsc
      have hsz := HB.out.size
      clear hx hsc
      by_cases he : x = 10
      · subst he
        go_wp2
        go_roundg gg
        case measure => omega
        case rel => exact ⟨j + 1, by omega, by go_num, by rw [HSC.out]; simpa using HO.out, HB.out⟩
      · have he' : (x == 10) = false := by simpa using he
        go_wp2_with (at_builtin; refine app_bytes rfl _ _ rfl w.heap.size u3 (lfL s j) rfl (HO.out.later (below1K wr (.cells #[.int .u8 x] 5))) wr.heap.size [x] rfl (BlkK.new wr #[.int .u8 x] 5) (by simp) (by simp; omega) (by simp; omega) ?_; intro v6 w6 ho6 hb6; have HX6 := hm7 (And.intro ho6 hb6); clear ho6 hb6)
        go_roundg gg
        case measure => omega
        case rel => exact ⟨j + 1, by omega, by go_num, by rw [HSC.out, if_neg he]; exact HX6.out.1, (HB.out.trans ((below1K wr _).mono hsz)).trans HX6.out.2⟩
    | zero =>
      have hlt : ¬ (j : Int) < (N : Int) := by omega
      obtain rfl : j = N := by omega
      have hcv := conv_own HO.out (lf_byt s j)
      have HQ := hm7 (li_eq s)
      go_wp2
      go_ret
      refine ⟨?_, HB.out⟩
      rw [← HQ.out, HN.out]
      rfl
end Go.Proofs.YtdfdnjkeiddfjaaDoor
