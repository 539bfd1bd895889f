/-
  ClauseRefuses: the walk. (Written by RF4.py.)
-/
import Derived.Test.YtaiblofbdfbjcaaRF3
namespace Go.Proofs.Ytaiblofbdfbjcaa
open Go.RowKit
attribute [local go_sem ↓] Go.wp_at_zero Go.wp_at_succ

set_option maxRecDepth 20000 in
set_option maxHeartbeats 2000000 in
theorem refuses_any (raw : Cm) (bk bat : Int) (w : World) (h : raw.ok w) :
    Calls Try.prog 3 #[raw.v, .agg #[.int .i64 bk, .int .i64 bat]] w fun e w' => e = .returned (.bool true) ∧ Below w.heap.size w w' := by
  obtain ⟨⟨a, hn, cap, h1⟩, ⟨a', cap', h2⟩, ⟨a'', cap'', h3⟩, hbl, htl⟩ := h.shape
  have HBR : Hid (∀ X : World, Below w.heap.size w X → Calls Try.prog 8 #[raw.v, .agg #[.int .i64 bk, .int .i64 bat]] X fun e w' => ∃ (d : Cm) (r : Int), e = .returned (.tuple #[d.v, .int .i64 r]) ∧ d.ok w' ∧ d.wf ∧ d.chk = r ∧ Below X.heap.size X w') := fun X hX => broken_any raw bk bat X (h.later hX)
  have HMD : Hid (∀ X : World, Below w.heap.size w X → Calls Try.prog 10 #[raw.v] X fun e w' => ∃ d : Cm, e = .returned d.v ∧ (d.ok w' ∧ d.wf ∧ d.chk = 0) ∧ Below X.heap.size X w') := fun X hX => by
    refine (made_any raw X (h.later hX)).mono fun e w' he => ?_
    obtain ⟨d, e1, hk, hm, hb⟩ := he
    have hval := made_val nmP_ok raw.key
    have hks := hval.ks
    obtain ⟨m, hd, hvn⟩ := num_vars (x := madeK raw.key) (norm_mis _)
    have hm72 := num_le hval hd
    refine ⟨d, e1, ⟨hm.ok8 (by rw [hk]; exact hks), wf_of (fun t ht hv => by rw [hk] at ht; have := hvn t ht hv; omega) (by rw [hk]; exact Nat.le_trans hks.len (by omega)), made_chk nmP_ok hk⟩, hb⟩
  have HRB : Hid (CBlk ((w.alloc (.cells raw.cs 30)).alloc (.cells #[.int .i64 bk, .int .i64 bat] 32)) w.heap.size raw.cs 30) := (CBlk.new w raw.cs 30).later (below1 _ _)
  obtain ⟨⟨⟨⟨k, m', s⟩, nm, ls⟩, hx⟩, body, bv, tests, tv⟩ := raw
  simp only at h1 h2 h3 hbl htl
  subst h1 h2 h3
  clear h
  go_enter Try.func3, Try.ntmps3
  go_upto_region 2 with (go_at_call 8; refine (HBR.out _ (below2 _ _ _)).mono ?_; clear HBR; rintro e w1 ⟨d, r, rfl, hok, hwf, hch, hb⟩; have HC1 : Hid (∀ X : World, Below w1.heap.size w1 X → Calls Try.prog 9 #[d.v] X fun e w' => e = .returned (.int .i64 r) ∧ Below X.heap.size X w') := fun X hX => (by have := check9_any d X (hok.later hX) hwf; rw [hch] at this; exact this); obtain ⟨⟨d1, d2, d3, tz1⟩, ⟨d4, d6, tz2⟩, ⟨d7, d9, tz3⟩, -, -⟩ := (hok).shape; obtain ⟨d5, tz4⟩ : ∃ n, n = d.body.length := ⟨_, rfl⟩; obtain ⟨d8, tz5⟩ : ∃ n, n = d.tests.length := ⟨_, rfl⟩; rw [← tz4] at tz2; rw [← tz5] at tz3; obtain ⟨⟨⟨⟨dk, dn, ds⟩, dm, da⟩, dv⟩, db, dbv, dt, dtv⟩ := d; simp only at tz1 tz2 tz3; subst tz1 tz2 tz3; clear tz4 tz5; have HBD : Hid (CBlk (w1.alloc (.cells (Cm.cs ⟨(⟨⟨dk, dn, ds⟩, dm, da⟩, .slice d1 d2 d3), db, .slice d4 d5 d6, dt, .slice d7 d8 d9⟩) 30)) w1.heap.size (Cm.cs ⟨(⟨⟨dk, dn, ds⟩, dm, da⟩, .slice d1 d2 d3), db, .slice d4 d5 d6, dt, .slice d7 d8 d9⟩) 30) := CBlk.new _ _ _; have HR1 : Hid (CBlk (w1.alloc (.cells (Cm.cs ⟨(⟨⟨dk, dn, ds⟩, dm, da⟩, .slice d1 d2 d3), db, .slice d4 d5 d6, dt, .slice d7 d8 d9⟩) 30)) w.heap.size (Cm.cs ⟨(⟨⟨k, m', s⟩, nm, ls⟩, .slice a hn cap), body, .slice a' body.length cap', tests, .slice a'' tests.length cap''⟩) 30) := (HRB.out.later hb).later (below1 _ _); have HW1 : Hid (Below w.heap.size w (w1.alloc (.cells (Cm.cs ⟨(⟨⟨dk, dn, ds⟩, dm, da⟩, .slice d1 d2 d3), db, .slice d4 d5 d6, dt, .slice d7 d8 d9⟩) 30))) := below_step (below_step (below2 _ _ _) hb) (below1 _ _); have HX1 : Hid (Below w1.heap.size w1 (w1.alloc (.cells (Cm.cs ⟨(⟨⟨dk, dn, ds⟩, dm, da⟩, .slice d1 d2 d3), db, .slice d4 d5 d6, dt, .slice d7 d8 d9⟩) 30))) := below1 _ _; clear hb hok hwf hch)
  revert HBD HR1 HW1 HX1
  generalize w1.alloc (.cells #[.int .i64 dk, .int .i64 dn, .string ds, .string dm, .slice d1 d2 d3, .slice d4 d5 d6, .slice d7 d8 d9] 30) = X1
  intro HBD HR1 HW1 HX1
  obtain ⟨c0, c1, c2, c3, c4, c5, c6⟩ := cseven HBD.out
  go_wp2_with (first
    | (go_at_call 9; refine (HC1.out _ HX1.out).mono ?_; clear HC1; rintro e w2 ⟨rfl, hb⟩; have HR2 : Hid (CBlk w2 w.heap.size (Cm.cs ⟨(⟨⟨k, m', s⟩, nm, ls⟩, .slice a hn cap), body, .slice a' body.length cap', tests, .slice a'' tests.length cap''⟩) 30) := HR1.out.later hb; have HW2 : Hid (Below w.heap.size w w2) := below_step HW1.out hb; clear hb HBD HR1 HW1 HX1 c0 c1 c2 c3 c4 c5 c6; obtain ⟨c0, c1, c2, c3, c4, c5, c6⟩ := cseven HR2.out)
    | (go_at_call 10; refine (HMD.out _ HW2.out).mono ?_; clear HMD; rintro e w3 ⟨dd, rfl, hdd, hb⟩; have HDD : Hid (Cm.ok w3 dd ∧ dd.wf ∧ dd.chk = 0) := hdd; have HW3 : Hid (Below w.heap.size w w3) := below_step HW2.out hb; clear hb hdd HW2 HR2 c0 c1 c2 c3 c4 c5 c6)
    | (go_at_call 9; refine (check9_any dd _ HDD.out.1 HDD.out.2.1).mono ?_; rw [HDD.out.2.2]; rintro e w4 ⟨rfl, hb⟩; have HW4 : Hid (Below w.heap.size w w4) := below_step HW3.out hb; clear hb HW3 HDD))
  go_ret
  exact ⟨ret_b (by simp), HW4.out⟩
end Go.Proofs.Ytaiblofbdfbjcaa
