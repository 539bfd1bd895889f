import Derived.Test.YtnikmcmkbjjcdaaGreatDoorSJ5
import Derived.Deep.RegionHeld3
import Derived.Test.YtnikmcmkbjjcdaaGreatDoorSY27
import Derived.Maps.AppendAt
import Derived.Laws.OwnMore
import Derived.Test.YtnikmcmkbjjcdaaGreatDoorSV3
/-
  law 5: clauses: the same? (Written by SJ6.py.)
-/
namespace Go.Proofs.YtnikmcmkbjjcdaaGreatDoor
open Go.RowKit
attribute [local go_sem ↓] Go.wp_at_zero Go.wp_at_succ

theorem te_neq5 (t : Te) (w : World) : (binOp .neq 81 t.v t.v).run Tryz.prog w = .ok (.bool false) w := by
  have := run_neq_te t t w
  rw [decide_eq_true rfl] at this
  exact this
theorem box5 {w g b : World} {c d : Array Value} {t u : TypeId} (hb : Below ((w.alloc (.cells c t)).alloc (.cells d u)).heap.size ((w.alloc (.cells c t)).alloc (.cells d u)) g) (_ : b = b) : Hid (w.heap.size < g.heap.size ∧ w.heap.size + 1 < g.heap.size) := by
  have := hb.size
  simp at this
  exact ⟨by omega, by omega⟩
set_option maxRecDepth 20000 in
set_option maxHeartbeats 4000000 in
theorem clauses5_any (c d : Cm) (w : World) (hc : c.ok w) (hd : d.ok w) (hk : c.key = d.key) : Calls Tryz.prog 18 #[c.v, d.v] w fun e w' => e = .returned (.bool true) ∧ Below w.heap.size w w' := by
  obtain ⟨⟨a1, n1, cap1, x1⟩, ⟨a2, cap2, x2⟩, ⟨a3, cap3, x3⟩, l1, l2⟩ := hc.shape
  obtain ⟨⟨b1, m1, bap1, y1⟩, ⟨b2, bap2, y2⟩, ⟨b3, bap3, y3⟩, -, -⟩ := hd.shape
  have e1 : c.head.1 = d.head.1 := show c.key.1 = d.key.1 by rw [hk]
  have e2 : fsts c.body = fsts d.body := show c.key.2.1 = d.key.2.1 by rw [hk]
  have e3 : c.tests = d.tests := show c.key.2.2 = d.key.2.2 by rw [hk]
  have e4 : d.body.length = c.body.length := by have := congrArg List.length e2; simpa [fsts] using this.symm
  rw [e4] at y2
  rw [← e3] at y3
  have hb2 := below2 w (.cells c.cs 37) (.cells d.cs 37)
  have K1 := fun (X : World) (hX : Below ((w.alloc (.cells c.cs 37)).alloc (.cells d.cs 37)).heap.size ((w.alloc (.cells c.cs 37)).alloc (.cells d.cs 37)) X) => atoms5_any c.head.1 d.head.1 c.head.2 d.head.2 X (hc.h.later (below_step hb2 hX)) (hd.h.later (below_step hb2 hX))
  rw [decide_eq_true e1] at K1
  have HC2 : Hid (As w c.bv c.body) := hc.b
  have HD2 : Hid (As w d.bv d.body) := hd.b
  have HC3 : Hid (Es w c.tv c.tests) := hc.t
  have HD3 : Hid (Es w d.tv c.tests) := e3 ▸ hd.t
  have HFE : Hid (fsts c.body = fsts d.body) := e2
  clear hk e1 e2 e3 e4 hb2 hc hd
  obtain ⟨⟨⟨⟨k, m, s⟩, nm, ls⟩, hx⟩, body, bv, tests, tv⟩ := c
  obtain ⟨⟨⟨⟨k', m', s'⟩, nm', ls'⟩, hx'⟩, body', bv', tests', tv'⟩ := d
  simp only at x1 x2 x3 y1 y2 y3 K1 l1 l2 HC2 HD2 HC3 HD3 HFE
  obtain ⟨n, hn⟩ : ∃ n, body.length = n := ⟨_, rfl⟩
  obtain ⟨r, hr⟩ : ∃ r, tests.length = r := ⟨_, rfl⟩
  rw [hn] at x2 y2 l1
  rw [hr] at x3 y3 l2
  subst x1 x2 x3 y1 y2 y3
  have HK1 := hm7 (K1 _ (Below.refl _ _))
  have HHN : Hid (body.length = n ∧ tests.length = r) := ⟨hn, hr⟩
  clear K1 hn hr
  go_enter Tryz.func18, Tryz.ntmps18
  go_wp2_with (go_at_call 20; refine HK1.out.mono ?_; clear HK1; rintro e w1 ⟨rfl, hb⟩; have HB1 : Hid (Below _ _ w1) := hb; clear hb; obtain ⟨p0, p1, p2, p3, p4, p5, p6⟩ := cseven (two_boxes HB1.out).1; obtain ⟨q0, q1, q2, q3, q4, q5, q6⟩ := cseven (two_boxes HB1.out).2)
  clear p0 p1 p2 p3 p4 p5 p6 q0 q1 q2 q3 q4 q5 q6
  go_loopg [5] n (fun g i wr => ∃ j : Nat, j + g = n ∧ i = .int .i64 j ∧ Below ((w.alloc (.cells #[.int .i64 k, .int .i64 m, .string s, .string nm, .slice a1 n1 cap1, .slice a2 n cap2, .slice a3 r cap3] 37)).alloc (.cells #[.int .i64 k', .int .i64 m', .string s', .string nm', .slice b1 m1 bap1, .slice b2 n bap2, .slice b3 r bap3] 37)).heap.size ((w.alloc (.cells #[.int .i64 k, .int .i64 m, .string s, .string nm, .slice a1 n1 cap1, .slice a2 n cap2, .slice a3 r cap3] 37)).alloc (.cells #[.int .i64 k', .int .i64 m', .string s', .string nm', .slice b1 m1 bap1, .slice b2 n bap2, .slice b3 r bap3] 37)) wr)
  case atStart => exact ⟨0, by omega, rfl, HB1.out⟩
  case round =>
    obtain ⟨j, hj, rfl, hb⟩ := hrel
    have HB : Hid (Below _ _ wr) := hb
    have HW : Hid (Below w.heap.size w wr) := below_step (below2 w _ _) hb
    have hbx := cseven (two_boxes hb).1
    have hby := cseven (two_boxes hb).2
    have hzz := box5 hb (rfl : w = w)
    clear hb HB1
    cases gk with
    | succ g =>
      have i0 : (0 : Int) ≤ (j : Int) := by omega
      have i1 : (j : Int) < (n : Int) := by omega
      obtain ⟨b1, o1, t, ea1, ht, hz1, hce, hxt⟩ := (HC2.out.later HW.out).get5 (j := j) (by omega)
      obtain ⟨b2, o2, u, ea2, hu, hz2, hcd, hyt⟩ := (HD2.out.later HW.out).get5 (j := j) (by omega)
      subst ea1 ea2
      have htu : t.1 = u.1 := by
        have h1 : (fsts body)[j]? = some t.1 := by unfold fsts; rw [List.getElem?_map, ht]; rfl
        have h2 : (fsts body')[j]? = some u.1 := by unfold fsts; rw [List.getElem?_map, hu]; rfl
        rw [HFE.out, h2] at h1
        exact (Option.some.inj h1).symm
      have HC0 := fun (X : World) (hX : Below wr.heap.size wr X) => atoms5_any t.1 u.1 t.2 u.2 X (hxt.later hX) (hyt.later hX)
      rw [decide_eq_true htu] at HC0
      obtain ⟨ax, cx, hax, -⟩ := hxt
      obtain ⟨ay, cy, hay, -⟩ := hyt
      have HZ1 : Hid (b1 < wr.heap.size) := hz1
      have HZ2 : Hid (b2 < wr.heap.size) := hz2
      obtain ⟨⟨⟨kx, mx, sx⟩, nx, lx⟩, vx⟩ := t
      obtain ⟨⟨⟨ky, my, sy⟩, ny, ly⟩, vy⟩ := u
      simp only at hax hay hce hcd HC0
      generalize lx.length = lx at hax
      generalize ly.length = ly at hay
      subst hax hay
      have HE : Hid _ := hce
      have HD : Hid _ := hcd
      have HP5 : Hid (wr.cell? ⟨w.heap.size, 5, none⟩ = some (.slice (some ⟨b1, o1, none⟩) n cap2)) := hbx.2.2.2.2.2.1
      have HQ5 : Hid (wr.cell? ⟨w.heap.size + 1, 5, none⟩ = some (.slice (some ⟨b2, o2, none⟩) n bap2)) := hby.2.2.2.2.2.1
      have HZp : Hid (w.heap.size < wr.heap.size) := hzz.out.1
      have HZq : Hid (w.heap.size + 1 < wr.heap.size) := hzz.out.2
      have p5 := HP5.out
      have HC : Hid (∀ (X : World), Below wr.heap.size wr X → Calls Tryz.prog 20 #[.agg #[.int .i64 kx, .int .i64 mx, .string sx, .string nx, .slice ax lx cx], .agg #[.int .i64 ky, .int .i64 my, .string sy, .string ny, .slice ay ly cy]] X fun e w' => e = .returned (.bool true) ∧ Below X.heap.size X w') := HC0
      have HBB : Hid (∀ V : World, Below wr.heap.size wr V → Below _ _ V) := fun V hV => below_step HB.out hV
      clear htu hce hcd ht hu HC0 hz1 hz2 hbx hby hzz HB HW HC2 HD2 HC3 HD3 HFE HHN
      go_upto_region 6 with fail
      clear p5
      refine wp_region_held_drew (S := fun w' => Below wr.heap.size wr w') (by kernel_rfl) (Below.refl _ _).drew (fun hH => ?_)
      revert hH
      generalize wr.drew = V
      intro hH
      refine wpAnyH_take (i := 0) (oi := ⟨_, _, _, _, _, _⟩) (v := .pointer (some ⟨w.heap.size, 5, none⟩)) rfl (by kernel_rfl) (by kernel_rfl) (by kernel_rfl) (fun _ _ _ h => h) (Or.inl ⟨by rfl, fun w' h => by have _h := h; go_simp⟩) hH ?_
      simp only [Act.put, List.setIfInBounds_toArray, List.set_cons_zero, List.set_cons_succ]
      refine wpAnyH_take (i := 1) (oi := ⟨_, _, _, _, _, _⟩) (v := .slice (some ⟨b1, o1, none⟩) n cap2) rfl (by kernel_rfl) (by kernel_rfl) (by kernel_rfl) (fun _ _ _ h => h) (Or.inl ⟨by rfl, fun w' h => by have z := HZp.out; have a0 := cell_step h z HP5.out; go_simp⟩) hH ?_
      simp only [Act.put, List.setIfInBounds_toArray, List.set_cons_zero, List.set_cons_succ]
      refine wpAnyH_take (i := 2) (oi := ⟨_, _, _, _, _, _⟩) (v := .int .i64 (j : Int)) rfl (by kernel_rfl) (by kernel_rfl) (by kernel_rfl) (fun _ _ _ h => h) (Or.inl ⟨by rfl, fun w' h => by have _h := h; go_simp⟩) hH ?_
      simp only [Act.put, List.setIfInBounds_toArray, List.set_cons_zero, List.set_cons_succ]
      refine wpAnyH_take (i := 3) (oi := ⟨_, _, _, _, _, _⟩) (v := .pointer (some ⟨b1, o1 + j * 5, none⟩)) rfl (by kernel_rfl) (by kernel_rfl) (by kernel_rfl) (fun _ _ _ h => h) (Or.inl ⟨by rfl, fun w' h => by have _h := h; go_simp⟩) hH ?_
      simp only [Act.put, List.setIfInBounds_toArray, List.set_cons_zero, List.set_cons_succ]
      refine wpAnyH_take (i := 4) (oi := ⟨_, _, _, _, _, _⟩) (v := .agg #[.int .i64 kx, .int .i64 mx, .string sx, .string nx, .slice ax lx cx]) rfl (by kernel_rfl) (by kernel_rfl) (by kernel_rfl) (fun _ _ _ h => h) (Or.inl ⟨by rfl, fun w' h => by obtain ⟨p0, p1, p2, p3, p4⟩ := HE.out; have z := HZ1.out; have a0 := cell_step h z p0; have a1 := cell_step h z p1; have a2 := cell_step h z p2; have a3 := cell_step h z p3; have a4 := cell_step h z p4; clear p0 p1 p2 p3 p4; go_simp⟩) hH ?_
      simp only [Act.put, List.setIfInBounds_toArray, List.set_cons_zero, List.set_cons_succ]
      refine wpAnyH_take (i := 5) (oi := ⟨_, _, _, _, _, _⟩) (v := .pointer (some ⟨w.heap.size + 1, 5, none⟩)) rfl (by kernel_rfl) (by kernel_rfl) (by kernel_rfl) (fun _ _ _ h => h) (Or.inl ⟨by rfl, fun w' h => by have _h := h; go_simp⟩) hH ?_
      simp only [Act.put, List.setIfInBounds_toArray, List.set_cons_zero, List.set_cons_succ]
      refine wpAnyH_take (i := 6) (oi := ⟨_, _, _, _, _, _⟩) (v := .slice (some ⟨b2, o2, none⟩) n bap2) rfl (by kernel_rfl) (by kernel_rfl) (by kernel_rfl) (fun _ _ _ h => h) (Or.inl ⟨by rfl, fun w' h => by have z := HZq.out; have a0 := cell_step h z HQ5.out; go_simp⟩) hH ?_
      simp only [Act.put, List.setIfInBounds_toArray, List.set_cons_zero, List.set_cons_succ]
      refine wpAnyH_take (i := 7) (oi := ⟨_, _, _, _, _, _⟩) (v := .int .i64 (j : Int)) rfl (by kernel_rfl) (by kernel_rfl) (by kernel_rfl) (fun _ _ _ h => h) (Or.inl ⟨by rfl, fun w' h => by have _h := h; go_simp⟩) hH ?_
      simp only [Act.put, List.setIfInBounds_toArray, List.set_cons_zero, List.set_cons_succ]
      refine wpAnyH_take (i := 8) (oi := ⟨_, _, _, _, _, _⟩) (v := .pointer (some ⟨b2, o2 + j * 5, none⟩)) rfl (by kernel_rfl) (by kernel_rfl) (by kernel_rfl) (fun _ _ _ h => h) (Or.inl ⟨by rfl, fun w' h => by have _h := h; go_simp⟩) hH ?_
      simp only [Act.put, List.setIfInBounds_toArray, List.set_cons_zero, List.set_cons_succ]
      refine wpAnyH_take (i := 9) (oi := ⟨_, _, _, _, _, _⟩) (v := .agg #[.int .i64 ky, .int .i64 my, .string sy, .string ny, .slice ay ly cy]) rfl (by kernel_rfl) (by kernel_rfl) (by kernel_rfl) (fun _ _ _ h => h) (Or.inl ⟨by rfl, fun w' h => by obtain ⟨p0, p1, p2, p3, p4⟩ := HD.out; have z := HZ2.out; have a0 := cell_step h z p0; have a1 := cell_step h z p1; have a2 := cell_step h z p2; have a3 := cell_step h z p3; have a4 := cell_step h z p4; clear p0 p1 p2 p3 p4; go_simp⟩) hH ?_
      simp only [Act.put, List.setIfInBounds_toArray, List.set_cons_zero, List.set_cons_succ]
      refine wpAnyH_ready (rs := [10]) (by kernel_rfl) (by simp) ?_
      refine (AllReadyH.cons (o := ⟨_, _, _, _, _, _⟩) rfl (fun K hK => ?_) AllReadyH.nil)
      go_simp
      refine (HC.out _ hH).mono ?_
      rintro x1 V2 ⟨rfl, hb⟩
      refine hK.out _ _ (below_step hH hb) (fun hH => ?_)
      clear hK K
      refine wpAnyH_take (i := 11) (oi := ⟨_, _, _, _, _, _⟩) (v := .bool false) rfl (by kernel_rfl) (by kernel_rfl) (by kernel_rfl) (fun _ _ _ h => h) (Or.inl ⟨by rfl, fun w' _ => by go_simp⟩) hH ?_
      simp only [Act.put, List.setIfInBounds_toArray, List.set_cons_zero, List.set_cons_succ]
      refine wpAnyH_done (by kernel_rfl) ?_ _
      have HV : Hid (Below wr.heap.size wr V2) := hH
      clear hH hb HE HD HP5 HQ5 HZ1 HZ2 HZp HZq HC
      go_wp2
      go_roundg g
      case measure => omega
      case rel => exact ⟨j + 1, by omega, by go_num, HBB.out _ HV.out⟩
    | zero =>
      have i1 : ¬ (j : Int) < (n : Int) := by omega
      obtain ⟨-, -, -, -, -, p5, p6⟩ := hbx
      obtain ⟨-, -, -, -, -, -, q6⟩ := hby
      clear hzz HC2 HD2 HFE
      go_wp2
      clear p5 p6 q6 i1 hj HW
      go_loopg [6] r (fun g i wr => ∃ j : Nat, j + g = r ∧ i = .int .i64 j ∧ Below ((w.alloc (.cells #[.int .i64 k, .int .i64 m, .string s, .string nm, .slice a1 n1 cap1, .slice a2 n cap2, .slice a3 r cap3] 37)).alloc (.cells #[.int .i64 k', .int .i64 m', .string s', .string nm', .slice b1 m1 bap1, .slice b2 n bap2, .slice b3 r bap3] 37)).heap.size ((w.alloc (.cells #[.int .i64 k, .int .i64 m, .string s, .string nm, .slice a1 n1 cap1, .slice a2 n cap2, .slice a3 r cap3] 37)).alloc (.cells #[.int .i64 k', .int .i64 m', .string s', .string nm', .slice b1 m1 bap1, .slice b2 n bap2, .slice b3 r bap3] 37)) wr)
      case atStart => exact ⟨0, by omega, rfl, HB.out⟩
      case round =>
        obtain ⟨j, hj, rfl, hb⟩ := hrel
        clear HB
        have HB : Hid (Below _ _ wr) := hb
        have HW : Hid (Below w.heap.size w wr) := below_step (below2 w _ _) hb
        obtain ⟨-, -, -, -, -, -, p6⟩ := cseven (two_boxes hb).1
        obtain ⟨-, -, -, -, -, -, q6⟩ := cseven (two_boxes hb).2
        clear hb
        cases gk with
        | succ g =>
          have i0 : (0 : Int) ≤ (j : Int) := by omega
          have i1 : (j : Int) < (r : Int) := by omega
          obtain ⟨b1, o1, t, ea1, ht, hz1, d0, d1, d2, d3, d4, d5, d6⟩ := (HC3.out.later HW.out).get5 (j := j) (by omega)
          obtain ⟨b2, o2, u, ea2, hu, hz2, f0, f1, f2, f3, f4, f5, f6⟩ := (HD3.out.later HW.out).get5 (j := j) (by omega)
          subst ea1 ea2
          obtain rfl : t = u := Option.some.inj (ht.symm.trans hu)
          have he := te_neq5 t
          clear ht hu hz1 hz2 HC3 HD3 HW HHN
          obtain ⟨op, ⟨kl, ml, sl⟩, ⟨kr, mr, sr⟩⟩ := t
          simp only at d0 d1 d2 d3 d4 d5 d6 f0 f1 f2 f3 f4 f5 f6
          go_wp2
          go_quiet (fail)
          go_wp2
          go_roundg g
          case measure => omega
          case rel => exact ⟨j + 1, by omega, by go_num, below_drewN HB.out _⟩
        | zero =>
          have i1 : ¬ (j : Int) < (r : Int) := by omega
          clear HC3 HD3 HHN
          go_wp2
          go_ret
          exact ⟨rfl, HW.out⟩
end Go.Proofs.YtnikmcmkbjjcdaaGreatDoor
/-
  law 5: lists: the same? (Written by SJ7.py.)
-/
namespace Go.Proofs.YtnikmcmkbjjcdaaGreatDoor
open Go.RowKit
attribute [local go_sem ↓] Go.wp_at_zero Go.wp_at_succ

/-- One clause of a list. -/
theorem RL.get5 {F : Nat → Prop} {w : World} {v : Value} {l : List Cm} (h : RL F w v l) {j : Nat} {c : Cm} (hj : l[j]? = some c) : ∃ g cap, v = .slice (some ⟨g, 0, none⟩) l.length cap ∧ g < w.heap.size ∧ (w.cell? ⟨g, j * 7, none⟩ = some (.int .i64 c.head.1.by_.k) ∧ w.cell? ⟨g, j * 7 + 1, none⟩ = some (.int .i64 c.head.1.by_.n) ∧ w.cell? ⟨g, j * 7 + 2, none⟩ = some (.string c.head.1.by_.s) ∧ w.cell? ⟨g, j * 7 + 3, none⟩ = some (.string c.head.1.name) ∧ w.cell? ⟨g, j * 7 + 4, none⟩ = some c.head.2 ∧ w.cell? ⟨g, j * 7 + 5, none⟩ = some c.bv ∧ w.cell? ⟨g, j * 7 + 6, none⟩ = some c.tv) ∧ c.ok w := by
  have hlt := (List.getElem?_eq_some_iff.1 hj).1
  obtain ⟨g, cap, hv⟩ := row5_pos h.o (by omega)
  have hg := (World.ownsRow.lt h.o g (by rw [hv]; rfl)).2
  have ho := h.o
  rw [hv] at ho
  have hcell : ∀ i x, (cc5 c)[i]? = some x → w.cell? ⟨g, j * 7 + i, none⟩ = some x := fun i x hx => by
    have := row5_cell ho (cc5_get hj i x hx (by have := (List.getElem?_eq_some_iff.1 hx).1; exact this))
    rw [Nat.zero_add] at this
    exact this
  exact ⟨g, cap, hv, hg, ⟨hcell 0 _ rfl, hcell 1 _ rfl, hcell 2 _ rfl, hcell 3 _ rfl, hcell 4 _ rfl, hcell 5 _ rfl, hcell 6 _ rfl⟩, (h.k c (List.mem_of_getElem? hj)).ok⟩
theorem RL.form {F : Nat → Prop} {w : World} {v : Value} {l : List Cm} (h : RL F w v l) : ∃ a cap, v = .slice a l.length cap := by
  obtain ⟨a, c, e, -⟩ := row7_form h.o
  exact ⟨a, c, e⟩
set_option maxRecDepth 20000 in
set_option maxHeartbeats 4000000 in
theorem lists5_any (F G : Nat → Prop) (l q : List Cm) (v u : Value) (w : World) (h : RL F w v l) (hu : RL G w u q) (hk : l.map Cm.key = q.map Cm.key) (hl : l.length ≤ 1000000000) :
    Calls Tryz.prog 14 #[v, u] w fun e w' => e = .returned (.bool true) ∧ Below w.heap.size w w' := by
  have HP : Hid (RL F w v l) := h
  have HU : Hid (RL G w u q) := hu
  obtain ⟨va, vc, hv⟩ := h.form
  obtain ⟨ua, uc, hw⟩ := hu.form
  have hlen : q.length = l.length := by have := congrArg List.length hk; simpa using this.symm
  have HK : Hid (l.map Cm.key = q.map Cm.key) := hk
  rw [hlen] at hw
  obtain ⟨n, hn⟩ : ∃ n, l.length = n := ⟨_, rfl⟩
  have HN : Hid (l.length = n ∧ q.length = n) := ⟨hn, hlen.trans hn⟩
  rw [hn] at hv hw hl
  subst hv hw
  have n1 : ((n : Int) != (n : Int)) = false := by simp
  clear h hu hk hlen hn
  go_enter Tryz.func14, Tryz.ntmps14
  go_wp2
  go_loopg [5] n (fun g i wr => ∃ j : Nat, j + g = n ∧ i = .int .i64 (j : Int) ∧ Below w.heap.size w wr)
  case atStart => exact ⟨0, by omega, rfl, Below.refl _ _⟩
  case round =>
    obtain ⟨j, hg, rfl, hb⟩ := hrel
    have HB : Hid (Below w.heap.size w wr) := hb
    clear hb
    cases gk with
    | succ g =>
      have i0 : (0 : Int) ≤ (j : Int) := by omega
      have i1 : (j : Int) < (n : Int) := by omega
      obtain ⟨x, hx⟩ : ∃ c, l[j]? = some c := ⟨_, List.getElem?_eq_getElem (by have := HN.out.1; omega)⟩
      obtain ⟨y, hy⟩ : ∃ c, q[j]? = some c := ⟨_, List.getElem?_eq_getElem (by have := HN.out.2; omega)⟩
      have hxy : x.key = y.key := by
        have h1 : (l.map Cm.key)[j]? = some x.key := by rw [List.getElem?_map, hx]; rfl
        have h2 : (q.map Cm.key)[j]? = some y.key := by rw [List.getElem?_map, hy]; rfl
        rw [HK.out, h2] at h1
        exact (Option.some.inj h1).symm
      obtain ⟨sb, vc', ev, hz1, hce, hok⟩ := (HP.out.below HB.out).get5 hx
      obtain ⟨sd, uc', eu, hz2, hcd, hok2⟩ := (HU.out.below HB.out).get5 hy
      have HC0 := fun (X : World) (hX : Below wr.heap.size wr X) => clauses5_any x y X (hok.later hX) (hok2.later hX) hxy
      simp only [Value.slice.injEq] at ev eu
      obtain ⟨rfl, -, -⟩ := ev
      obtain ⟨rfl, -, -⟩ := eu
      have hsh := hok.shape
      have hsh2 := hok2.shape
      have HZ1 : Hid (sb < wr.heap.size) := hz1
      have HZ2 : Hid (sd < wr.heap.size) := hz2
      clear hx hy hxy hz1 hz2 hok hok2
      obtain ⟨⟨⟨⟨xk, xm, xs⟩, xn, xl⟩, xx⟩, xb, xbv, xt, xtv⟩ := x
      simp only at hce hsh
      obtain ⟨⟨x1, x2, x3, e1⟩, ⟨x4, x6, e2⟩, ⟨x7, x9, e3⟩, -, -⟩ := hsh
      obtain ⟨x5, h5⟩ : ∃ n, xb.length = n := ⟨_, rfl⟩
      obtain ⟨x8, h8⟩ : ∃ n, xt.length = n := ⟨_, rfl⟩
      rw [h5] at e2
      rw [h8] at e3
      subst e1 e2 e3
      clear h5 h8
      obtain ⟨⟨⟨⟨ck, cm, cs⟩, cn, cl⟩, cx⟩, cb, cbv, ct, ctv⟩ := y
      simp only at hcd hsh2
      obtain ⟨⟨c1, c2, c3, e1⟩, ⟨c4, c6, e2⟩, ⟨c7, c9, e3⟩, -, -⟩ := hsh2
      obtain ⟨c5, h5⟩ : ∃ n, cb.length = n := ⟨_, rfl⟩
      obtain ⟨c8, h8⟩ : ∃ n, ct.length = n := ⟨_, rfl⟩
      rw [h5] at e2
      rw [h8] at e3
      subst e1 e2 e3
      clear h5 h8
      have HE : Hid _ := hce
      have HD : Hid _ := hcd
      have HC : Hid (∀ Y : World, Below wr.heap.size wr Y → Calls Tryz.prog 18 #[.agg #[.int .i64 xk, .int .i64 xm, .string xs, .string xn, .slice x1 x2 x3, .slice x4 x5 x6, .slice x7 x8 x9], .agg #[.int .i64 ck, .int .i64 cm, .string cs, .string cn, .slice c1 c2 c3, .slice c4 c5 c6, .slice c7 c8 c9]] Y fun e w' => e = .returned (.bool true) ∧ Below Y.heap.size Y w') := HC0
      clear HC0 hce hcd
      go_upto_region 6 with fail
      refine wp_region_held_drew (S := fun w' => Below wr.heap.size wr w') (by kernel_rfl) (Below.refl _ _).drew (fun hH => ?_)
      revert hH
      generalize wr.drew = V
      intro hH
      refine wpAnyH_take (i := 0) (oi := ⟨_, _, _, _, _, _⟩) (v := .slice (some ⟨sb, 0, none⟩) n vc) rfl (by kernel_rfl) (by kernel_rfl) (by kernel_rfl) (fun _ _ _ h => h) (Or.inl ⟨by rfl, fun w' h => by have _h := h; go_simp⟩) hH ?_
      simp only [Act.put, List.setIfInBounds_toArray, List.set_cons_zero, List.set_cons_succ]
      refine wpAnyH_take (i := 1) (oi := ⟨_, _, _, _, _, _⟩) (v := .int .i64 (j : Int)) rfl (by kernel_rfl) (by kernel_rfl) (by kernel_rfl) (fun _ _ _ h => h) (Or.inl ⟨by rfl, fun w' h => by have _h := h; go_simp⟩) hH ?_
      simp only [Act.put, List.setIfInBounds_toArray, List.set_cons_zero, List.set_cons_succ]
      refine wpAnyH_take (i := 2) (oi := ⟨_, _, _, _, _, _⟩) (v := .pointer (some ⟨sb, j * 7, none⟩)) rfl (by kernel_rfl) (by kernel_rfl) (by kernel_rfl) (fun _ _ _ h => h) (Or.inl ⟨by rfl, fun w' h => by have _h := h; go_simp⟩) hH ?_
      simp only [Act.put, List.setIfInBounds_toArray, List.set_cons_zero, List.set_cons_succ]
      refine wpAnyH_take (i := 3) (oi := ⟨_, _, _, _, _, _⟩) (v := .agg #[.int .i64 xk, .int .i64 xm, .string xs, .string xn, .slice x1 x2 x3, .slice x4 x5 x6, .slice x7 x8 x9]) rfl (by kernel_rfl) (by kernel_rfl) (by kernel_rfl) (fun _ _ _ h => h) (Or.inl ⟨by rfl, fun w' h => by obtain ⟨p0, p1, p2, p3, p4, p5, p6⟩ := HE.out; have z := HZ1.out; have a0 := cell_step h z p0; have a1 := cell_step h z p1; have a2 := cell_step h z p2; have a3 := cell_step h z p3; have a4 := cell_step h z p4; have a5 := cell_step h z p5; have a6 := cell_step h z p6; clear p0 p1 p2 p3 p4 p5 p6; go_simp⟩) hH ?_
      simp only [Act.put, List.setIfInBounds_toArray, List.set_cons_zero, List.set_cons_succ]
      refine wpAnyH_take (i := 4) (oi := ⟨_, _, _, _, _, _⟩) (v := .slice (some ⟨sd, 0, none⟩) n uc) rfl (by kernel_rfl) (by kernel_rfl) (by kernel_rfl) (fun _ _ _ h => h) (Or.inl ⟨by rfl, fun w' h => by have _h := h; go_simp⟩) hH ?_
      simp only [Act.put, List.setIfInBounds_toArray, List.set_cons_zero, List.set_cons_succ]
      refine wpAnyH_take (i := 5) (oi := ⟨_, _, _, _, _, _⟩) (v := .int .i64 (j : Int)) rfl (by kernel_rfl) (by kernel_rfl) (by kernel_rfl) (fun _ _ _ h => h) (Or.inl ⟨by rfl, fun w' h => by have _h := h; go_simp⟩) hH ?_
      simp only [Act.put, List.setIfInBounds_toArray, List.set_cons_zero, List.set_cons_succ]
      refine wpAnyH_take (i := 6) (oi := ⟨_, _, _, _, _, _⟩) (v := .pointer (some ⟨sd, j * 7, none⟩)) rfl (by kernel_rfl) (by kernel_rfl) (by kernel_rfl) (fun _ _ _ h => h) (Or.inl ⟨by rfl, fun w' h => by have _h := h; go_simp⟩) hH ?_
      simp only [Act.put, List.setIfInBounds_toArray, List.set_cons_zero, List.set_cons_succ]
      refine wpAnyH_take (i := 7) (oi := ⟨_, _, _, _, _, _⟩) (v := .agg #[.int .i64 ck, .int .i64 cm, .string cs, .string cn, .slice c1 c2 c3, .slice c4 c5 c6, .slice c7 c8 c9]) rfl (by kernel_rfl) (by kernel_rfl) (by kernel_rfl) (fun _ _ _ h => h) (Or.inl ⟨by rfl, fun w' h => by obtain ⟨p0, p1, p2, p3, p4, p5, p6⟩ := HD.out; have z := HZ2.out; have a0 := cell_step h z p0; have a1 := cell_step h z p1; have a2 := cell_step h z p2; have a3 := cell_step h z p3; have a4 := cell_step h z p4; have a5 := cell_step h z p5; have a6 := cell_step h z p6; clear p0 p1 p2 p3 p4 p5 p6; go_simp⟩) hH ?_
      simp only [Act.put, List.setIfInBounds_toArray, List.set_cons_zero, List.set_cons_succ]
      refine wpAnyH_ready (rs := [8]) (by kernel_rfl) (by simp) ?_
      refine (AllReadyH.cons (o := ⟨_, _, _, _, _, _⟩) rfl (fun K hK => ?_) AllReadyH.nil)
      go_simp
      refine (HC.out _ hH).mono ?_
      rintro e V1 ⟨rfl, hb⟩
      refine hK.out _ _ (below_step hH hb) (fun hH => ?_)
      clear hK K hb
      refine wpAnyH_take (i := 9) (oi := ⟨_, _, _, _, _, _⟩) (v := .bool false) rfl (by kernel_rfl) (by kernel_rfl) (by kernel_rfl) (fun _ _ _ h => h) (Or.inl ⟨by rfl, fun w' _ => by go_simp⟩) hH ?_
      simp only [Act.put, List.setIfInBounds_toArray, List.set_cons_zero, List.set_cons_succ]
      refine wpAnyH_done (by kernel_rfl) ?_ _
      have HV : Hid (Below wr.heap.size wr V1) := hH
      clear hH HE HD HZ1 HZ2 HC
      go_wp2
      go_roundg g
      case measure => omega
      case rel => exact ⟨j + 1, by omega, by go_num, below_step HB.out HV.out⟩
    | zero =>
      have i1 : ¬ (j : Int) < (n : Int) := by omega
      go_wp2
      go_ret
      exact ⟨rfl, HB.out⟩
end Go.Proofs.YtnikmcmkbjjcdaaGreatDoor
/-
  SyntaxJoins: both texts are read well. (Written by SJ12.py.)
-/
namespace Go.Proofs.YtnikmcmkbjjcdaaGreatDoor
open Go.RowKit
attribute [local go_sem ↓] Go.wp_at_zero Go.wp_at_succ

theorem rep_ok {X w' : World} {e : Ending} {ks : List Ck} (h : ReP X (.ok ks) e w') : Below X.heap.size X w' ∧ ∃ v l, e = .returned (.tuple #[v, .agg #[.int .i64 0, .int .i64 0]]) ∧ l.map Cm.key = ks ∧ RL (fun b => X.heap.size ≤ b) w' v l := by
  obtain ⟨hb, v, c, a, rfl, hc, ha, l, h1, h2⟩ := h
  refine ⟨hb, v, l, ?_, h1, h2⟩
  rw [hc, ha]
end Go.Proofs.YtnikmcmkbjjcdaaGreatDoor
/-
  SyntaxValid: the walk. (Written by SV9.py.)
-/
namespace Go.Proofs.YtnikmcmkbjjcdaaGreatDoor
open Go.RowKit
attribute [local go_sem ↓] Go.wp_at_zero Go.wp_at_succ

theorem field5_h (a b c d e f g : Value) (w : World) : (Instr.field 37 (.agg #[a, b, c, d, e, f, g]) 0).run Tryz.prog w = .ok (.agg #[a, b, c, d, e]) w := by kernel_rfl
end Go.Proofs.YtnikmcmkbjjcdaaGreatDoor
