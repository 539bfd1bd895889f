/-
  The checks, one by one. (Written by CL10.py.)
-/
import Derived.Test.YtbhdalchnbfohaaCL9
import Derived.Test.YtbhdalchnbfohaaB7
import Derived.Deep.RegionHeld3
namespace Go.Proofs.Ytbhdalchnbfohaa
open Go.RowKit Go.Shelf

def long (c : Cm) : Bool := decide (8 < c.body.length) || decide (8 < c.tests.length)
set_option maxHeartbeats 1000000 in
theorem tooLong_any (c : Cm) (w : World) (h : c.ok w) : Calls Try.prog 39 #[c.v] w fun e w' => e = .returned (.bool (long c)) ∧ Below w.heap.size w w' := by
  obtain ⟨⟨a, hn, cap, h1⟩, ⟨a', cap', h2⟩, ⟨a'', cap'', h3⟩, hbl, htl⟩ := h.shape
  clear h
  obtain ⟨⟨⟨⟨k, m, s⟩, nm, ls⟩, hx⟩, body, bv, tests, tv⟩ := c
  simp only at h1 h2 h3 hbl htl
  subst h1 h2 h3
  obtain ⟨p, hp⟩ : ∃ p : Nat, body.length = p := ⟨_, rfl⟩
  obtain ⟨q, hq⟩ : ∃ q : Nat, tests.length = q := ⟨_, rfl⟩
  have HE : Hid (long ⟨(⟨⟨k, m, s⟩, nm, ls⟩, .slice a hn cap), body, .slice a' body.length cap', tests, .slice a'' tests.length cap''⟩ = (decide (8 < p) || decide (8 < q))) := by show _ = _; simp only [long, hp, hq]
  rw [HE.out, hp, hq]
  rw [hp] at hbl
  rw [hq] at htl
  clear HE hp hq
  by_cases q1 : 8 < p
  · have i1 : (8 : Int) < (p : Int) := by omega
    rw [decide_eq_true q1]
    clear q1
    go_enter Try.func39, Try.ntmps39
    go_wp2
    go_ret
    exact ⟨rfl, below1 _ _⟩
  · have i1 : ¬ (8 : Int) < (p : Int) := by omega
    rw [decide_eq_false q1]
    by_cases q2 : 8 < q
    · have i2 : (8 : Int) < (q : Int) := by omega
      rw [decide_eq_true q2]
      clear q1 q2
      go_enter Try.func39, Try.ntmps39
      go_wp2
      go_ret
      exact ⟨rfl, below1 _ _⟩
    · have i2 : ¬ (8 : Int) < (q : Int) := by omega
      rw [decide_eq_false q2]
      clear q1 q2
      go_enter Try.func39, Try.ntmps39
      go_wp2
      go_ret
      exact ⟨rfl, below1 _ _⟩
theorem speaks_any (c : Cm) (w : World) (h : c.ok w) : Calls Try.prog 42 #[c.v] w fun e w' => e = .returned (.bool c.head.1.by_.var) ∧ Below w.heap.size w w' := by
  obtain ⟨⟨a, hn, cap, h1⟩, ⟨a', cap', h2⟩, ⟨a'', cap'', h3⟩, hbl, htl⟩ := h.shape
  have hva := var_any c.head.1.by_
  clear h
  obtain ⟨b, hb⟩ : ∃ b, c.head.1.by_.var = b := ⟨_, rfl⟩
  rw [hb] at hva ⊢
  clear hb
  obtain ⟨⟨⟨⟨k, m, s⟩, nm, ls⟩, hx⟩, body, bv, tests, tv⟩ := c
  simp only at h1 h2 h3 hbl htl hva
  subst h1 h2 h3
  go_enter Try.func42, Try.ntmps42
  go_wp2_with (go_at_call 33; refine (hva _).mono ?_; rintro e w1 ⟨rfl, hb1⟩)
  go_ret
  exact ⟨rfl, below_step (below1 _ _) hb1⟩
theorem wrongAtom_any (err : Int) (w : World) : Calls Try.prog 40 #[.int .i64 err] w fun e w' => e = .returned (.func (.func 50) #[] #[.pointer (some ⟨w.heap.size, 0, none⟩)]) ∧ w' = w.alloc (.cells #[.int .i64 err] 36) := by
  go_enter Try.func40, Try.ntmps40
  go_wp2
  go_ret
  exact ⟨rfl, rfl⟩
set_option maxRecDepth 20000 in
set_option maxHeartbeats 1000000 in
theorem wrongAtom1_any (c : Cm) (g : Nat) (err : Int) (w : World) (h : c.ok w) (hg : CBlk w g #[.int .i64 err] 36) :
    Calls Try.prog 50 #[c.v, .pointer (some ⟨g, 0, none⟩)] w fun e w' => e = .returned (.bool (decide (aErr c.atoms = err))) ∧ Below w.heap.size w w' := by
  obtain ⟨⟨a, hn, cap, h1⟩, ⟨a', cap', h2⟩, ⟨a'', cap'', h3⟩, hbl, htl⟩ := h.shape
  obtain ⟨V1, hV1⟩ : ∃ V1, w.alloc (.cells c.cs 50) = V1 := ⟨_, rfl⟩
  have hb1 := CBlk.new w c.cs 50
  have hg1 := hg.later (below1 w (.cells c.cs 50))
  have hw1 := below1 w (.cells c.cs 50)
  have ha := fun (X : World) (hX : Below (w.alloc (.cells c.cs 50)).heap.size (w.alloc (.cells c.cs 50)) X) => atomsError_any c X (h.later (below_step (below1 _ _) hX))
  rw [hV1] at hb1 hg1 hw1 ha
  obtain ⟨E, hE⟩ : ∃ E, aErr c.atoms = E := ⟨_, rfl⟩
  simp only [hE] at ha
  rw [hE]
  clear h hg hE
  obtain ⟨⟨⟨⟨k, m, s⟩, nm, ls⟩, hx⟩, body, bv, tests, tv⟩ := c
  simp only at h1 h2 h3 hbl htl
  subst h1 h2 h3
  have HB : Hid (CBlk V1 w.heap.size #[.int .i64 k, .int .i64 m, .string s, .string nm, .slice a hn cap, .slice a' body.length cap', .slice a'' tests.length cap''] 50) := hb1
  have HG : Hid (CBlk V1 g #[.int .i64 err] 36) := hg1
  have HW : Hid (Below w.heap.size w V1) := hw1
  have HA : ∀ (X : World), Below V1.heap.size V1 X → Calls Try.prog 51 #[.agg #[.int .i64 k, .int .i64 m, .string s, .string nm, .slice a hn cap, .slice a' body.length cap', .slice a'' tests.length cap'']] X fun e w' => e = .returned (.int .i64 E) ∧ Below X.heap.size X w' := ha
  clear hb1 hg1 hw1 ha
  by_cases q : E = err
  · have HE : Hid (decide (E = err) = true) := by show _ = _; simp [q]
    have n1 : (E == err) = true := by simp [q]
    clear q
    go_enter Try.func50, Try.ntmps50
    go_upto_region 1 with fail
    clear hV1
    refine wp_region_held_drew (S := fun w' => Below V1.heap.size V1 w') (by kernel_rfl) (Below.refl _ _).drew (fun hH => ?_)
    revert hH
    generalize V1.drew = V
    intro hH
    refine wpAnyH_take (i := 0) (oi := ⟨_, _, _, _, _, _⟩) (v := .agg #[.int .i64 k, .int .i64 m, .string s, .string nm, .slice a hn cap, .slice a' body.length cap', .slice a'' tests.length cap'']) rfl (by kernel_rfl) (by kernel_rfl) (by kernel_rfl) (fun _ _ _ h => h) (Or.inl ⟨by rfl, fun w' h => by obtain ⟨p0, p1, p2, p3, p4, p5, p6⟩ := cseven HB.out; have z := HB.out.lt; have a0 := cell_step h z p0; have a1 := cell_step h z p1; have a2 := cell_step h z p2; have a3 := cell_step h z p3; have a4 := cell_step h z p4; have a5 := cell_step h z p5; have a6 := cell_step h z p6; clear p0 p1 p2 p3 p4 p5 p6; go_simp⟩) hH ?_
    simp only [Act.put, List.setIfInBounds_toArray, List.set_cons_zero, List.set_cons_succ]
    refine wpAnyH_take (i := 2) (oi := ⟨_, _, _, _, _, _⟩) (v := .int .i64 err) rfl (by kernel_rfl) (by kernel_rfl) (by kernel_rfl) (fun _ _ _ h => h) (Or.inl ⟨by rfl, fun w' h => by have a0 := cell_step h HG.out.lt (one HG.out).1; go_simp⟩) hH ?_
    simp only [Act.put, List.setIfInBounds_toArray, List.set_cons_zero, List.set_cons_succ]
    refine wpAnyH_ready (rs := [1]) (by kernel_rfl) (by simp) ?_
    refine (AllReadyH.cons (o := ⟨_, _, _, _, _, _⟩) rfl (fun K hK => ?_) AllReadyH.nil)
    go_simp
    refine (HA _ hH).mono ?_
    rintro x1 V2 ⟨rfl, hb⟩
    refine hK.out _ _ (below_step hH hb) (fun hH => ?_)
    clear hK K
    refine wpAnyH_take (i := 3) (oi := ⟨_, _, _, _, _, _⟩) (v := .bool true) rfl (by kernel_rfl) (by kernel_rfl) (by kernel_rfl) (fun _ _ _ h => h) (Or.inl ⟨by rfl, fun w' _ => by go_simp⟩) hH ?_
    simp only [Act.put, List.setIfInBounds_toArray, List.set_cons_zero, List.set_cons_succ]
    refine wpAnyH_take (i := 4) (oi := ⟨_, _, _, _, _, _⟩) (v := .bool true) rfl (by kernel_rfl) (by kernel_rfl) (by kernel_rfl) (fun _ _ _ h => h) (Or.inl ⟨by rfl, fun w' _ => by go_simp⟩) hH ?_
    simp only [Act.put, List.setIfInBounds_toArray, List.set_cons_zero, List.set_cons_succ]
    refine wpAnyH_done (by kernel_rfl) ?_ _
    have HV : Hid (Below V1.heap.size V1 V2) := hH
    clear hH hb
    go_wp2
    go_ret
    exact ⟨by rw [HE.out]; rfl, below_step HW.out HV.out⟩
  · have HE : Hid (decide (E = err) = false) := by show _ = _; simp [q]
    have n1 : (E == err) = false := beq_eq_false_iff_ne.2 q
    clear q
    go_enter Try.func50, Try.ntmps50
    go_upto_region 1 with fail
    clear hV1
    refine wp_region_held_drew (S := fun w' => Below V1.heap.size V1 w') (by kernel_rfl) (Below.refl _ _).drew (fun hH => ?_)
    revert hH
    generalize V1.drew = V
    intro hH
    refine wpAnyH_take (i := 0) (oi := ⟨_, _, _, _, _, _⟩) (v := .agg #[.int .i64 k, .int .i64 m, .string s, .string nm, .slice a hn cap, .slice a' body.length cap', .slice a'' tests.length cap'']) rfl (by kernel_rfl) (by kernel_rfl) (by kernel_rfl) (fun _ _ _ h => h) (Or.inl ⟨by rfl, fun w' h => by obtain ⟨p0, p1, p2, p3, p4, p5, p6⟩ := cseven HB.out; have z := HB.out.lt; have a0 := cell_step h z p0; have a1 := cell_step h z p1; have a2 := cell_step h z p2; have a3 := cell_step h z p3; have a4 := cell_step h z p4; have a5 := cell_step h z p5; have a6 := cell_step h z p6; clear p0 p1 p2 p3 p4 p5 p6; go_simp⟩) hH ?_
    simp only [Act.put, List.setIfInBounds_toArray, List.set_cons_zero, List.set_cons_succ]
    refine wpAnyH_take (i := 2) (oi := ⟨_, _, _, _, _, _⟩) (v := .int .i64 err) rfl (by kernel_rfl) (by kernel_rfl) (by kernel_rfl) (fun _ _ _ h => h) (Or.inl ⟨by rfl, fun w' h => by have a0 := cell_step h HG.out.lt (one HG.out).1; go_simp⟩) hH ?_
    simp only [Act.put, List.setIfInBounds_toArray, List.set_cons_zero, List.set_cons_succ]
    refine wpAnyH_ready (rs := [1]) (by kernel_rfl) (by simp) ?_
    refine (AllReadyH.cons (o := ⟨_, _, _, _, _, _⟩) rfl (fun K hK => ?_) AllReadyH.nil)
    go_simp
    refine (HA _ hH).mono ?_
    rintro x1 V2 ⟨rfl, hb⟩
    refine hK.out _ _ (below_step hH hb) (fun hH => ?_)
    clear hK K
    refine wpAnyH_take (i := 3) (oi := ⟨_, _, _, _, _, _⟩) (v := .bool false) rfl (by kernel_rfl) (by kernel_rfl) (by kernel_rfl) (fun _ _ _ h => h) (Or.inl ⟨by rfl, fun w' _ => by go_simp⟩) hH ?_
    simp only [Act.put, List.setIfInBounds_toArray, List.set_cons_zero, List.set_cons_succ]
    refine wpAnyH_take (i := 4) (oi := ⟨_, _, _, _, _, _⟩) (v := .bool false) rfl (by kernel_rfl) (by kernel_rfl) (by kernel_rfl) (fun _ _ _ h => h) (Or.inl ⟨by rfl, fun w' _ => by go_simp⟩) hH ?_
    simp only [Act.put, List.setIfInBounds_toArray, List.set_cons_zero, List.set_cons_succ]
    refine wpAnyH_done (by kernel_rfl) ?_ _
    have HV : Hid (Below V1.heap.size V1 V2) := hH
    clear hH hb
    go_wp2
    go_ret
    exact ⟨by rw [HE.out]; rfl, below_step HW.out HV.out⟩
end Go.Proofs.Ytbhdalchnbfohaa
