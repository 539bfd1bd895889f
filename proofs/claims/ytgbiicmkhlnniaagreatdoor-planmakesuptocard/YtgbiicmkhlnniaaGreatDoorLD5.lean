/-
  A clause that was lent, looked at. (Written by LD3.py.)
-/
import Derived.Test.YtgbiicmkhlnniaaGreatDoorOQ1
import Derived.Deep.RegionHeld3
import Derived.Deep.CutRange
import Derived.BigQuiet
namespace Go.Proofs.YtgbiicmkhlnniaaGreatDoor
open Go.RowKit
attribute [local go_sem ↓] Go.wp_at_zero Go.wp_at_succ

theorem run_eql_te (t u : Te) (w : World) (h : t = u) : (binOp .eql 46 t.v u.v).run Tryz.prog w = .ok (.bool true) w := by
  subst h
  obtain ⟨op, ⟨kl, ml, sl⟩, ⟨kr, mr, sr⟩⟩ := t
  go_simp
set_option maxRecDepth 20000 in
set_option maxHeartbeats 4000000 in
theorem keptC_any (d c : Cm) (base : Nat) (w : World) (h : c.ok w) (hd : Lent base w d) (hk : d.key = c.key) (hs : (Ck.terms c.key).length ≤ 4000000) (hB : BehOk w) :
    Calls Tryz.prog 8 #[d.v, c.v] w fun e w' => e = .returned (.bool true) ∧ Below w.heap.size w w' := by
  obtain ⟨s1, s2, s3, s4⟩ := cm_sizes hs
  have k1 : d.head.1 = c.head.1 := congrArg (fun k : Ck => k.1) hk
  have k2 : fsts d.body = fsts c.body := congrArg (fun k : Ck => k.2.1) hk
  have k3 : d.tests = c.tests := congrArg (fun k : Ck => k.2.2) hk
  have hdh := hd.h
  have hdt := hd.t
  rw [k1] at hdh
  rw [k3] at hdt
  have HK1 : Hid (∀ X : World, Below w.heap.size w X → Calls Tryz.prog 23 #[c.head.1.v d.head.2, c.head.1.v c.head.2] X fun e w' => e = .returned (.bool true) ∧ Below X.heap.size X w') := fun X hX => keptA_any c.head.1 d.head.2 c.head.2 base X (h.h.later hX) (hdh.later hX) (hB.later hX)
  have HK2 : Hid (∀ X : World, Below w.heap.size w X → Calls Tryz.prog 24 #[d.bv, c.bv] X fun e w' => e = .returned (.bool true) ∧ Below X.heap.size X w') := fun X hX => keptAs_any c.body d.body d.bv c.bv base X (h.b.later hX) (hd.b.later hX) k2 (hB.later hX)
  have HK3 : Hid (∀ X : World, Below w.heap.size w X → Calls Tryz.prog 25 #[d.tv, c.tv] X fun e w' => e = .returned (.bool true) ∧ Below X.heap.size X w') := fun X hX => by
    have := sameTests_any c.tests c.tests d.tv c.tv X ((hdt.es (by omega)).later hX) (h.t.later hX)
    rw [decide_eq_true rfl] at this; exact this
  have HT : Hid (LentE w base d.tv c.tests) := hdt
  have HB : Hid (BehOk w) := hB
  obtain ⟨g1, cap1, e1, -⟩ := hdh
  obtain ⟨⟨g2, cap2, e2, -⟩, -⟩ := hd.b
  obtain ⟨g3, cap3, e3, ho3⟩ := hdt
  have hcap := ownE_cap ho3
  rw [List.length_append, List.length_singleton] at hcap
  have HO3 : Hid (OwnE w base (.slice (some ⟨g3, 0, none⟩) (c.tests.length + 1) cap3) (c.tests ++ [bE])) := ho3
  obtain ⟨⟨a, hn, cap, h1⟩, ⟨a', cap', h2⟩, ⟨a'', cap'', h3⟩, -, -⟩ := h.shape
  have hb0 : CBlk ((w.alloc (.cells d.cs 30)).alloc (.cells c.cs 30)) w.heap.size d.cs 30 := (CBlk.new w d.cs 30).later (below1 _ _)
  have hb1 : CBlk ((w.alloc (.cells d.cs 30)).alloc (.cells c.cs 30)) (w.heap.size + 1) c.cs 30 := by
    have := CBlk.new (w.alloc (.cells d.cs 30)) c.cs 30
    rwa [show (w.alloc (.cells d.cs 30)).heap.size = w.heap.size + 1 by simp] at this
  have HC0 : Hid (CBlk ((w.alloc (.cells d.cs 30)).alloc (.cells c.cs 30)) w.heap.size d.cs 30) := hb0
  have HC1 : Hid (CBlk ((w.alloc (.cells d.cs 30)).alloc (.cells c.cs 30)) (w.heap.size + 1) c.cs 30) := hb1
  have he := fun X => run_eql_te ⟨903, ⟨0, 0, ⟨#[]⟩⟩, ⟨0, 0, ⟨#[]⟩⟩⟩ ⟨903, ⟨0, 0, ⟨#[]⟩⟩, ⟨0, 0, ⟨#[]⟩⟩⟩ X rfl
  clear h hd hk hs hB s1 s2 s4 hb0 hb1 ho3 k2
  obtain ⟨⟨dh, dv⟩, db, dbv, dt, dtv⟩ := d
  obtain ⟨⟨⟨⟨k, m, s⟩, nm, ls⟩, hx⟩, body, bv, tests, tv⟩ := c
  simp only at h1 h2 h3 e1 e2 e3 k1 k3 s3 hcap HK1 HK2 HK3 HO3
  subst h1 h2 h3 e1 e2 e3 k1 k3
  have i0 : (0 : Int) ≤ (dt.length : Int) := by omega
  have i1 : (dt.length : Int) < (dt.length : Int) + 1 := by omega
  have hcap' : (dt.length : Int) + 1 ≤ (cap3 : Int) := by omega
  go_enter Tryz.func8, Tryz.ntmps8
  go_wp2_with (first
    | (go_at_call 23; refine (HK1.out _ (below2 _ _ _)).mono ?_; rintro e w1 ⟨rfl, hb⟩; have HW1 : Hid (Below w.heap.size w w1) := below_step (below2 _ _ _) hb; have HD0 : Hid (CBlk w1 w.heap.size _ 30) := HC0.out.later hb; have HD1 : Hid (CBlk w1 (w.heap.size + 1) _ 30) := HC1.out.later hb; obtain ⟨c0, c1, c2, c3, c4, c5, c6⟩ := cseven HD0.out; obtain ⟨e0, e1, e2, e3, e4, e5, e6⟩ := cseven HD1.out; clear hb HC0 HC1)
    | (go_at_call 24; refine (HK2.out _ HW1.out).mono ?_; rintro e w2 ⟨rfl, hb⟩; have HW2 : Hid (Below w.heap.size w w2) := below_step HW1.out hb; have HE0 : Hid (CBlk w2 w.heap.size _ 30) := HD0.out.later hb; have HE1 : Hid (CBlk w2 (w.heap.size + 1) _ 30) := HD1.out.later hb; clear c0 c1 c2 c3 c4 c5 c6 e0 e1 e2 e3 e4 e5 e6; obtain ⟨c0, c1, c2, c3, c4, c5, c6⟩ := cseven HE0.out; obtain ⟨e0, e1, e2, e3, e4, e5, e6⟩ := cseven HE1.out; clear hb HD0 HD1 HW1)
    | (go_at_call 25; refine (HK3.out _ HW2.out).mono ?_; rintro e w3 ⟨rfl, hb⟩; have HW3 : Hid (Below w.heap.size w w3) := below_step HW2.out hb; have HF0 : Hid (CBlk w3 w.heap.size _ 30) := HE0.out.later hb; have HF1 : Hid (CBlk w3 (w.heap.size + 1) _ 30) := HE1.out.later hb; clear c0 c1 c2 c3 c4 c5 c6 e0 e1 e2 e3 e4 e5 e6; obtain ⟨c0, c1, c2, c3, c4, c5, c6⟩ := cseven HF0.out; obtain ⟨e0, e1, e2, e3, e4, e5, e6⟩ := cseven HF1.out; obtain ⟨-, -, -, -, -, b0, b1, b2, b3, b4, b5, b6⟩ := HB.out.later HW3.out; have hgl : (dt ++ [bE])[dt.length]? = some bE := (by simp); have hoL := HO3.out.later HW3.out; have q0 := hoL.cells dt.length _ hgl 0 (by omega); have q1 := hoL.cells dt.length _ hgl 1 (by omega); have q2 := hoL.cells dt.length _ hgl 2 (by omega); have q3 := hoL.cells dt.length _ hgl 3 (by omega); have q4 := hoL.cells dt.length _ hgl 4 (by omega); have q5 := hoL.cells dt.length _ hgl 5 (by omega); have q6 := hoL.cells dt.length _ hgl 6 (by omega); simp only [ecell, bE, zt, List.getElem?_cons_succ, List.getElem?_cons_zero, Nat.add_zero] at q0 q1 q2 q3 q4 q5 q6; clear hb HE0 HE1 HW2 hoL hgl))
  go_quiet (fail)
  go_wp2
  go_ret
  exact ⟨ret_b rfl, below_drewN HW3.out _⟩
end Go.Proofs.YtgbiicmkhlnniaaGreatDoor
