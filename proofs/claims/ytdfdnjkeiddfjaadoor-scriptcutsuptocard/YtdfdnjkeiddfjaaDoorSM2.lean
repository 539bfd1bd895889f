/-
  script (stage 25): the program's table of lines: a row by its name, by its kind.
-/
import Derived.Test.YtdfdnjkeiddfjaaDoorSM1
import Derived.Test.YtdfdnjkeiddfjaaDoorSC9
import Derived.Test.YtdfdnjkeiddfjaaDoorK4
namespace Go.Proofs.YtdfdnjkeiddfjaaDoor
open Go.RowKit
attribute [local go_sem ↓] Go.wp_at_zero Go.wp_at_succ

/-- A row and whether there is one are answered. -/
theorem ret_rowA {fn : Func} (hf : fn.results = #[.cell 2 55, .tmp 3]) (tmps : Array Value) (w : World) (g : Nat) (a0 a1 a2 a3 a4 b : Value)
    (h4 : tmps[2]?.getD undef = .pointer (some ⟨g, 0, none⟩)) (h5 : tmps[3]?.getD undef = b) (h : BlkK w g #[a0, a1, a2, a3, a4] 55) : (results fn tmps).run Tryd.prog w = .ok (.tuple #[.agg #[a0, a1, a2, a3, a4], b]) w := by
  have c0 := cell8 h 0 a0 rfl
  have c1 := cell8 h 1 a1 rfl
  have c2 := cell8 h 2 a2 rfl
  have c3 := cell8 h 3 a3 rfl
  have c4 := cell8 h 4 a4 rfl
  simp [results, hf, h4, h5, go_sem, c0, c1, c2, c3, c4]
theorem endRowA {fn : Func} {a : Act} {w wx : World} {tmps : Array Value} {r : RoA} {b : Bool} {g : Nat} (hf : fn.results = #[.cell 2 55, .tmp 3]) (ha : a = ⟨tmps, []⟩) (h4 : tmps[2]?.getD undef = .pointer (some ⟨g, 0, none⟩)) (h5 : tmps[3]?.getD undef = .bool b)
    (hd : BlkK wx g #[.string r.x, .int .i64 r.k, .int .i64 r.a, .int .i64 r.b, .int .i64 r.c] 55) (hb : Below w.heap.size w wx) : bodyPost Tryd.prog fn (fun e w' => e = .returned (.tuple #[r.v, .bool b]) ∧ Below w.heap.size w w') .ret a wx := by
  subst ha
  exact bodyPost_ret (ret_rowA hf _ _ g _ _ _ _ _ _ h4 h5 hd) rfl ⟨rfl, hb⟩
theorem drop_rwA {i : Nat} (h : i < 24) : rwA.drop i = rwA.getD i zrA :: rwA.drop (i + 1) := by
  rw [List.drop_eq_getElem_cons (show i < rwA.length from h), List.getD_eq_getElem?_getD, List.getElem?_eq_getElem (show i < rwA.length from h)]
  rfl
theorem below5 {B : Nat} {w wx : World} (h : Below B w wx) {g : Nat} (hg : B ≤ g) (a b c d e : Value) : Below B w (((((wx.setCell ⟨g, 0, none⟩ a).setCell ⟨g, 1, none⟩ b).setCell ⟨g, 2, none⟩ c).setCell ⟨g, 3, none⟩ d).setCell ⟨g, 4, none⟩ e) := ((((h.setCell hg _).setCell hg _).setCell hg _).setCell hg _).setCell hg _
set_option maxRecDepth 20000 in
set_option maxHeartbeats 4000000 in
theorem rowOfA_any (k : Int) (w : World) (hT : TblOk w) : Calls Tryd.prog 22 #[.int .i64 k] w fun e w' => e = .returned (.tuple #[((rwA.find? fun r => decide (r.k = k)).getD zrA).v, .bool (rwA.find? fun r => decide (r.k = k)).isSome]) ∧ Below w.heap.size w w' := by
  have HT := hm7 hT
  have HI : Hid (∀ (W : World) (i : Nat), i < 24 → (Instr.index 83 (.agg tblV) (.int .i64 i)).run Tryd.prog W = .ok (rwA.getD i zrA).v W) := fun W i h => run_index_rowA W i h
  obtain ⟨R, hR⟩ : ∃ R, rwA.find? (fun r => decide (r.k = k)) = R := ⟨_, rfl⟩
  have HR0 : Hid ((rwA.drop 0).find? (fun r => decide (r.k = k)) = R) := hR
  rw [hR]
  clear hR hT
  go_enter Tryd.func22, Tryd.ntmps22
  go_upto_region 1 with (fail)
  have hb0 := below1K w (.cells #[.string ⟨#[]⟩, .int .i64 0, .int .i64 0, .int .i64 0, .int .i64 0] 55)
  have hr0 := BlkK.new w #[.string ⟨#[]⟩, .int .i64 0, .int .i64 0, .int .i64 0, .int .i64 0] 55
  have ht0 := HT.out.later hb0
  revert hb0 hr0 ht0
  generalize w.alloc _ = W0
  intro hb0 hr0 ht0
  obtain ⟨t0, fr, hrow⟩ := ht0
  have HB0 := hm7 hb0
  have HR1 := hm7 hr0
  clear hb0 hr0
  go_wp2_with (refine wpList_load_row rfl 83 (.global 0) rfl 0 rfl t0 tblV fr _ hrow Tryd.underlying83 rfl Tryd.sizeRowsA ?_)
  generalize hV : (Value.agg tblV) = V at HI ⊢
  clear hV
  go_loopg [5, 7] 24 (fun g _ i wr => ∃ j : Nat, j + g = 24 ∧ i = .int .i64 j ∧ (rwA.drop j).find? (fun r => decide (r.k = k)) = R ∧ Below W0.heap.size W0 wr)
  case atStart => exact ⟨0, by omega, rfl, HR0.out, Below.refl _ _⟩
  case round =>
    obtain ⟨j, hj, rfl, hr, hbw⟩ := hrel
    have HR := hm7 hr
    have HJ := hm7 hj
    have HBW := hm7 hbw
    have hrr := HR1.out.later hbw
    have HRR := hm7 hrr
    have HW1 := hm7 (below_stepK HB0.out hbw)
    clear hr hj hbw hrr HR0
    cases gk with
    | succ g =>
      have hlt : j < 24 := by have := HJ.out; omega
      have i1 : (j : Int) < 24 := by omega
      have hidx := fun W => HI.out W j hlt
      have HD := hm7 (drop_rwA hlt)
      obtain ⟨r0, hr0⟩ : ∃ r, rwA.getD j zrA = r := ⟨_, rfl⟩
      rw [hr0] at hidx HD
      obtain ⟨x, kk, a, b, c⟩ := r0
      simp only [RoA.v] at hidx
      clear hr0 hlt
      go_upto_region 4 with (fail)
      have hb3 := below1K wr (.cells #[.string x, .int .i64 kk, .int .i64 a, .int .i64 b, .int .i64 c] 55)
      have hr3 := BlkK.new wr #[.string x, .int .i64 kk, .int .i64 a, .int .i64 b, .int .i64 c] 55
      revert hb3 hr3
      generalize wr.alloc _ = W3
      intro hb3 hr3
      have c0 := cell8 hr3 0 _ rfl
      have c1 := cell8 hr3 1 _ rfl
      have c2 := cell8 hr3 2 _ rfl
      have c3 := cell8 hr3 3 _ rfl
      have c4 := cell8 hr3 4 _ rfl
      have hrr := HRR.out.later hb3
      have d0 := cell8 hrr 0 _ rfl
      have d1 := cell8 hrr 1 _ rfl
      have d2 := cell8 hrr 2 _ rfl
      have d3 := cell8 hrr 3 _ rfl
      have d4 := cell8 hrr 4 _ rfl
      have f0 := froz8 hrr
      have HB3 := hm7 hb3
      have HRR3 := hm7 hrr
      have HN := hm7 (show w.heap.size < W0.heap.size from HR1.out.lt)
      clear hb3 hr3 hrr
      by_cases hq : kk = k
      · have HQ : Hid (some (⟨x, kk, a, b, c⟩ : RoA) = R) := by
          show _ = R
          rw [← HR.out, HD.out, List.find?_cons_of_pos (by simpa using hq)]
        have e1 : (kk == k) = true := by simpa using hq
        clear hq
        go_wp2
        rw [← HQ.out]
        exact endRowA rfl rfl rfl rfl (store5K HRR3.out) (below5 (below_stepK HW1.out HB3.out) (Nat.le_refl _) _ _ _ _ _)
      · have HQ : Hid ((rwA.drop (j + 1)).find? (fun r => decide (r.k = k)) = R) := by
          show _ = R
          rw [← HR.out, HD.out, List.find?_cons_of_neg (by simpa using hq)]
        have e1 : (kk == k) = false := by simpa using hq
        clear hq
        go_wp2
        go_roundg g
        case measure => omega
        case rel => exact ⟨j + 1, by have := HJ.out; omega, by go_num, HQ.out, below_stepK HBW.out HB3.out⟩
    | zero =>
      obtain rfl : j = 24 := by have := HJ.out; omega
      have HQ : Hid (none = R) := HR.out
      have hrr := HRR.out
      have d0 := cell8 hrr 0 _ rfl
      have d1 := cell8 hrr 1 _ rfl
      have d2 := cell8 hrr 2 _ rfl
      have d3 := cell8 hrr 3 _ rfl
      have d4 := cell8 hrr 4 _ rfl
      have f0 := froz8 hrr
      clear HI hrr
      go_wp2
      rw [← HQ.out]
      exact endRowA (r := zrA) rfl rfl rfl rfl (store5K HRR.out) (below5 HW1.out (Nat.le_refl _) _ _ _ _ _)
set_option maxRecDepth 20000 in
set_option maxHeartbeats 4000000 in
theorem rowNamedA_any (nm : ByteArray) (w : World) (hT : TblOk w) : Calls Tryd.prog 32 #[.string nm] w fun e w' => e = .returned (.tuple #[((rwA.find? fun r => decide (r.x = nm)).getD zrA).v, .bool (rwA.find? fun r => decide (r.x = nm)).isSome]) ∧ Below w.heap.size w w' := by
  have HT := hm7 hT
  have HI : Hid (∀ (W : World) (i : Nat), i < 24 → (Instr.index 83 (.agg tblV) (.int .i64 i)).run Tryd.prog W = .ok (rwA.getD i zrA).v W) := fun W i h => run_index_rowA W i h
  obtain ⟨R, hR⟩ : ∃ R, rwA.find? (fun r => decide (r.x = nm)) = R := ⟨_, rfl⟩
  have HR0 : Hid ((rwA.drop 0).find? (fun r => decide (r.x = nm)) = R) := hR
  rw [hR]
  clear hR hT
  go_enter Tryd.func32, Tryd.ntmps32
  go_upto_region 1 with (fail)
  have hb0 := below1K w (.cells #[.string ⟨#[]⟩, .int .i64 0, .int .i64 0, .int .i64 0, .int .i64 0] 55)
  have hr0 := BlkK.new w #[.string ⟨#[]⟩, .int .i64 0, .int .i64 0, .int .i64 0, .int .i64 0] 55
  have ht0 := HT.out.later hb0
  revert hb0 hr0 ht0
  generalize w.alloc _ = W0
  intro hb0 hr0 ht0
  obtain ⟨t0, fr, hrow⟩ := ht0
  have HB0 := hm7 hb0
  have HR1 := hm7 hr0
  clear hb0 hr0
  go_wp2_with (refine wpList_load_row rfl 83 (.global 0) rfl 0 rfl t0 tblV fr _ hrow Tryd.underlying83 rfl Tryd.sizeRowsA ?_)
  generalize hV : (Value.agg tblV) = V at HI ⊢
  clear hV
  go_loopg [5, 7] 24 (fun g _ i wr => ∃ j : Nat, j + g = 24 ∧ i = .int .i64 j ∧ (rwA.drop j).find? (fun r => decide (r.x = nm)) = R ∧ Below W0.heap.size W0 wr)
  case atStart => exact ⟨0, by omega, rfl, HR0.out, Below.refl _ _⟩
  case round =>
    obtain ⟨j, hj, rfl, hr, hbw⟩ := hrel
    have HR := hm7 hr
    have HJ := hm7 hj
    have HBW := hm7 hbw
    have hrr := HR1.out.later hbw
    have HRR := hm7 hrr
    have HW1 := hm7 (below_stepK HB0.out hbw)
    clear hr hj hbw hrr HR0
    cases gk with
    | succ g =>
      have hlt : j < 24 := by have := HJ.out; omega
      have i1 : (j : Int) < 24 := by omega
      have hidx := fun W => HI.out W j hlt
      have HD := hm7 (drop_rwA hlt)
      obtain ⟨r0, hr0⟩ : ∃ r, rwA.getD j zrA = r := ⟨_, rfl⟩
      rw [hr0] at hidx HD
      obtain ⟨x, kk, a, b, c⟩ := r0
      simp only [RoA.v] at hidx
      clear hr0 hlt
      go_upto_region 4 with (fail)
      have hb3 := below1K wr (.cells #[.string x, .int .i64 kk, .int .i64 a, .int .i64 b, .int .i64 c] 55)
      have hr3 := BlkK.new wr #[.string x, .int .i64 kk, .int .i64 a, .int .i64 b, .int .i64 c] 55
      revert hb3 hr3
      generalize wr.alloc _ = W3
      intro hb3 hr3
      have c0 := cell8 hr3 0 _ rfl
      have c1 := cell8 hr3 1 _ rfl
      have c2 := cell8 hr3 2 _ rfl
      have c3 := cell8 hr3 3 _ rfl
      have c4 := cell8 hr3 4 _ rfl
      have hrr := HRR.out.later hb3
      have d0 := cell8 hrr 0 _ rfl
      have d1 := cell8 hrr 1 _ rfl
      have d2 := cell8 hrr 2 _ rfl
      have d3 := cell8 hrr 3 _ rfl
      have d4 := cell8 hrr 4 _ rfl
      have f0 := froz8 hrr
      have HB3 := hm7 hb3
      have HRR3 := hm7 hrr
      have HN := hm7 (show w.heap.size < W0.heap.size from HR1.out.lt)
      clear hb3 hr3 hrr
      have e1 := str_dec x nm
      by_cases hq : x = nm
      · have HQ : Hid (some (⟨x, kk, a, b, c⟩ : RoA) = R) := by
          show _ = R
          rw [← HR.out, HD.out, List.find?_cons_of_pos (by simpa using hq)]
        rw [decide_eq_true hq] at e1
        clear hq
        go_wp2
        rw [← HQ.out]
        exact endRowA rfl rfl rfl rfl (store5K HRR3.out) (below5 (below_stepK HW1.out HB3.out) (Nat.le_refl _) _ _ _ _ _)
      · have HQ : Hid ((rwA.drop (j + 1)).find? (fun r => decide (r.x = nm)) = R) := by
          show _ = R
          rw [← HR.out, HD.out, List.find?_cons_of_neg (by simpa using hq)]
        rw [decide_eq_false hq] at e1
        clear hq
        go_wp2
        go_roundg g
        case measure => omega
        case rel => exact ⟨j + 1, by have := HJ.out; omega, by go_num, HQ.out, below_stepK HBW.out HB3.out⟩
    | zero =>
      obtain rfl : j = 24 := by have := HJ.out; omega
      have HQ : Hid (none = R) := HR.out
      have hrr := HRR.out
      have d0 := cell8 hrr 0 _ rfl
      have d1 := cell8 hrr 1 _ rfl
      have d2 := cell8 hrr 2 _ rfl
      have d3 := cell8 hrr 3 _ rfl
      have d4 := cell8 hrr 4 _ rfl
      have f0 := froz8 hrr
      clear HI hrr
      go_wp2
      rw [← HQ.out]
      exact endRowA (r := zrA) rfl rfl rfl rfl (store5K HRR.out) (below5 HW1.out (Nat.le_refl _) _ _ _ _ _)
end Go.Proofs.YtdfdnjkeiddfjaaDoor
