import Derived.Test.YtdfgijdededolabGreatDoorCL9
import Derived.Test.YtdfgijdededolabGreatDoorB7
import Derived.Deep.RegionHeld3
import Derived.Laws.EntriesVeiled
/-
  The checks, one by one. (Written by CL10.py.)
-/
namespace Go.Proofs.YtdfgijdededolabGreatDoor
open Go.RowKit Go.Shelf

def long (c : Cm) : Bool := decide (8 < c.body.length) || decide (8 < c.tests.length)
set_option maxHeartbeats 1000000 in
theorem tooLong_any (c : Cm) (w : World) (h : c.ok w) : Calls Tryz.prog 151 #[c.v] w fun e w' => e = .returned (.bool (long c)) ∧ Below w.heap.size w w' := by
  obtain ⟨⟨a, hn, cap, h1⟩, ⟨a', cap', h2⟩, ⟨a'', cap'', h3⟩, hbl, htl⟩ := h.shape
  clear h
  obtain ⟨⟨⟨⟨k, m, s⟩, nm, ls⟩, hx⟩, body, bv, tests, tv⟩ := c
  simp only at h1 h2 h3 hbl htl
  subst h1 h2 h3
  obtain ⟨p, hp⟩ : ∃ p : Nat, body.length = p := ⟨_, rfl⟩
  obtain ⟨q, hq⟩ : ∃ q : Nat, tests.length = q := ⟨_, rfl⟩
  have HE : Hid (long ⟨(⟨⟨k, m, s⟩, nm, ls⟩, .slice a hn cap), body, .slice a' body.length cap', tests, .slice a'' tests.length cap''⟩ = (decide (8 < p) || decide (8 < q))) := by show _ = _; simp only [long, hp, hq]
  rw [HE.out, hp, hq]
  rw [hp] at hbl
  rw [hq] at htl
  clear HE hp hq
  by_cases q1 : 8 < p
  · have i1 : (8 : Int) < (p : Int) := by omega
    rw [decide_eq_true q1]
    clear q1
    go_enter Tryz.func151, Tryz.ntmps151
    go_wp2
    go_ret
    exact ⟨rfl, below1 _ _⟩
  · have i1 : ¬ (8 : Int) < (p : Int) := by omega
    rw [decide_eq_false q1]
    by_cases q2 : 8 < q
    · have i2 : (8 : Int) < (q : Int) := by omega
      rw [decide_eq_true q2]
      clear q1 q2
      go_enter Tryz.func151, Tryz.ntmps151
      go_wp2
      go_ret
      exact ⟨rfl, below1 _ _⟩
    · have i2 : ¬ (8 : Int) < (q : Int) := by omega
      rw [decide_eq_false q2]
      clear q1 q2
      go_enter Tryz.func151, Tryz.ntmps151
      go_wp2
      go_ret
      exact ⟨rfl, below1 _ _⟩
theorem speaks_any (c : Cm) (w : World) (h : c.ok w) : Calls Tryz.prog 154 #[c.v] w fun e w' => e = .returned (.bool c.head.1.by_.var) ∧ Below w.heap.size w w' := by
  obtain ⟨⟨a, hn, cap, h1⟩, ⟨a', cap', h2⟩, ⟨a'', cap'', h3⟩, hbl, htl⟩ := h.shape
  have hva := var_any c.head.1.by_
  clear h
  obtain ⟨b, hb⟩ : ∃ b, c.head.1.by_.var = b := ⟨_, rfl⟩
  rw [hb] at hva ⊢
  clear hb
  obtain ⟨⟨⟨⟨k, m, s⟩, nm, ls⟩, hx⟩, body, bv, tests, tv⟩ := c
  simp only at h1 h2 h3 hbl htl hva
  subst h1 h2 h3
  go_enter Tryz.func154, Tryz.ntmps154
  go_wp2_with (go_at_call 106; refine (hva _).mono ?_; rintro e w1 ⟨rfl, hb1⟩)
  go_ret
  exact ⟨rfl, below_step (below1 _ _) hb1⟩
theorem wrongAtom_any (err : Int) (w : World) : Calls Tryz.prog 152 #[.int .i64 err] w fun e w' => e = .returned (.func (.func 170) #[] #[.pointer (some ⟨w.heap.size, 0, none⟩)]) ∧ w' = w.alloc (.cells #[.int .i64 err] 81) := by
  go_enter Tryz.func152, Tryz.ntmps152
  go_wp2
  go_ret
  exact ⟨rfl, rfl⟩
set_option maxRecDepth 20000 in
set_option maxHeartbeats 1000000 in
theorem wrongAtom1_any (c : Cm) (g : Nat) (err : Int) (w : World) (h : c.ok w) (hg : CBlk w g #[.int .i64 err] 81) :
    Calls Tryz.prog 170 #[c.v, .pointer (some ⟨g, 0, none⟩)] w fun e w' => e = .returned (.bool (decide (aErr c.atoms = err))) ∧ Below w.heap.size w w' := by
  obtain ⟨⟨a, hn, cap, h1⟩, ⟨a', cap', h2⟩, ⟨a'', cap'', h3⟩, hbl, htl⟩ := h.shape
  obtain ⟨V1, hV1⟩ : ∃ V1, w.alloc (.cells c.cs 41) = V1 := ⟨_, rfl⟩
  have hb1 := CBlk.new w c.cs 41
  have hg1 := hg.later (below1 w (.cells c.cs 41))
  have hw1 := below1 w (.cells c.cs 41)
  have ha := fun (X : World) (hX : Below (w.alloc (.cells c.cs 41)).heap.size (w.alloc (.cells c.cs 41)) X) => atomsError_any c X (h.later (below_step (below1 _ _) hX))
  rw [hV1] at hb1 hg1 hw1 ha
  obtain ⟨E, hE⟩ : ∃ E, aErr c.atoms = E := ⟨_, rfl⟩
  simp only [hE] at ha
  rw [hE]
  clear h hg hE
  obtain ⟨⟨⟨⟨k, m, s⟩, nm, ls⟩, hx⟩, body, bv, tests, tv⟩ := c
  simp only at h1 h2 h3 hbl htl
  subst h1 h2 h3
  have HB : Hid (CBlk V1 w.heap.size #[.int .i64 k, .int .i64 m, .string s, .string nm, .slice a hn cap, .slice a' body.length cap', .slice a'' tests.length cap''] 41) := hb1
  have HG : Hid (CBlk V1 g #[.int .i64 err] 81) := hg1
  have HW : Hid (Below w.heap.size w V1) := hw1
  have HA : ∀ (X : World), Below V1.heap.size V1 X → Calls Tryz.prog 171 #[.agg #[.int .i64 k, .int .i64 m, .string s, .string nm, .slice a hn cap, .slice a' body.length cap', .slice a'' tests.length cap'']] X fun e w' => e = .returned (.int .i64 E) ∧ Below X.heap.size X w' := ha
  clear hb1 hg1 hw1 ha
  by_cases q : E = err
  · have HE : Hid (decide (E = err) = true) := by show _ = _; simp [q]
    have n1 : (E == err) = true := by simp [q]
    clear q
    go_enter Tryz.func170, Tryz.ntmps170
    go_upto_region 1 with fail
    clear hV1
    refine wp_region_held_drew (S := fun w' => Below V1.heap.size V1 w') (by kernel_rfl) (Below.refl _ _).drew (fun hH => ?_)
    revert hH
    generalize V1.drew = V
    intro hH
    refine wpAnyH_take (i := 0) (oi := ⟨_, _, _, _, _, _⟩) (v := .agg #[.int .i64 k, .int .i64 m, .string s, .string nm, .slice a hn cap, .slice a' body.length cap', .slice a'' tests.length cap'']) rfl (by kernel_rfl) (by kernel_rfl) (by kernel_rfl) (fun _ _ _ h => h) (Or.inl ⟨by rfl, fun w' h => by obtain ⟨p0, p1, p2, p3, p4, p5, p6⟩ := cseven HB.out; have z := HB.out.lt; have a0 := cell_step h z p0; have a1 := cell_step h z p1; have a2 := cell_step h z p2; have a3 := cell_step h z p3; have a4 := cell_step h z p4; have a5 := cell_step h z p5; have a6 := cell_step h z p6; clear p0 p1 p2 p3 p4 p5 p6; go_simp⟩) hH ?_
    simp only [Act.put, List.setIfInBounds_toArray, List.set_cons_zero, List.set_cons_succ]
    refine wpAnyH_take (i := 2) (oi := ⟨_, _, _, _, _, _⟩) (v := .int .i64 err) rfl (by kernel_rfl) (by kernel_rfl) (by kernel_rfl) (fun _ _ _ h => h) (Or.inl ⟨by rfl, fun w' h => by have a0 := cell_step h HG.out.lt (one HG.out).1; go_simp⟩) hH ?_
    simp only [Act.put, List.setIfInBounds_toArray, List.set_cons_zero, List.set_cons_succ]
    refine wpAnyH_ready (rs := [1]) (by kernel_rfl) (by simp) ?_
    refine (AllReadyH.cons (o := ⟨_, _, _, _, _, _⟩) rfl (fun K hK => ?_) AllReadyH.nil)
    go_simp
    refine (HA _ hH).mono ?_
    rintro x1 V2 ⟨rfl, hb⟩
    refine hK.out _ _ (below_step hH hb) (fun hH => ?_)
    clear hK K
    refine wpAnyH_take (i := 3) (oi := ⟨_, _, _, _, _, _⟩) (v := .bool true) rfl (by kernel_rfl) (by kernel_rfl) (by kernel_rfl) (fun _ _ _ h => h) (Or.inl ⟨by rfl, fun w' _ => by go_simp⟩) hH ?_
    simp only [Act.put, List.setIfInBounds_toArray, List.set_cons_zero, List.set_cons_succ]
    refine wpAnyH_take (i := 4) (oi := ⟨_, _, _, _, _, _⟩) (v := .bool true) rfl (by kernel_rfl) (by kernel_rfl) (by kernel_rfl) (fun _ _ _ h => h) (Or.inl ⟨by rfl, fun w' _ => by go_simp⟩) hH ?_
    simp only [Act.put, List.setIfInBounds_toArray, List.set_cons_zero, List.set_cons_succ]
    refine wpAnyH_done (by kernel_rfl) ?_ _
    have HV : Hid (Below V1.heap.size V1 V2) := hH
    clear hH hb
    go_wp2
    go_ret
    exact ⟨by rw [HE.out]; rfl, below_step HW.out HV.out⟩
  · have HE : Hid (decide (E = err) = false) := by show _ = _; simp [q]
    have n1 : (E == err) = false := beq_eq_false_iff_ne.2 q
    clear q
    go_enter Tryz.func170, Tryz.ntmps170
    go_upto_region 1 with fail
    clear hV1
    refine wp_region_held_drew (S := fun w' => Below V1.heap.size V1 w') (by kernel_rfl) (Below.refl _ _).drew (fun hH => ?_)
    revert hH
    generalize V1.drew = V
    intro hH
    refine wpAnyH_take (i := 0) (oi := ⟨_, _, _, _, _, _⟩) (v := .agg #[.int .i64 k, .int .i64 m, .string s, .string nm, .slice a hn cap, .slice a' body.length cap', .slice a'' tests.length cap'']) rfl (by kernel_rfl) (by kernel_rfl) (by kernel_rfl) (fun _ _ _ h => h) (Or.inl ⟨by rfl, fun w' h => by obtain ⟨p0, p1, p2, p3, p4, p5, p6⟩ := cseven HB.out; have z := HB.out.lt; have a0 := cell_step h z p0; have a1 := cell_step h z p1; have a2 := cell_step h z p2; have a3 := cell_step h z p3; have a4 := cell_step h z p4; have a5 := cell_step h z p5; have a6 := cell_step h z p6; clear p0 p1 p2 p3 p4 p5 p6; go_simp⟩) hH ?_
    simp only [Act.put, List.setIfInBounds_toArray, List.set_cons_zero, List.set_cons_succ]
    refine wpAnyH_take (i := 2) (oi := ⟨_, _, _, _, _, _⟩) (v := .int .i64 err) rfl (by kernel_rfl) (by kernel_rfl) (by kernel_rfl) (fun _ _ _ h => h) (Or.inl ⟨by rfl, fun w' h => by have a0 := cell_step h HG.out.lt (one HG.out).1; go_simp⟩) hH ?_
    simp only [Act.put, List.setIfInBounds_toArray, List.set_cons_zero, List.set_cons_succ]
    refine wpAnyH_ready (rs := [1]) (by kernel_rfl) (by simp) ?_
    refine (AllReadyH.cons (o := ⟨_, _, _, _, _, _⟩) rfl (fun K hK => ?_) AllReadyH.nil)
    go_simp
    refine (HA _ hH).mono ?_
    rintro x1 V2 ⟨rfl, hb⟩
    refine hK.out _ _ (below_step hH hb) (fun hH => ?_)
    clear hK K
    refine wpAnyH_take (i := 3) (oi := ⟨_, _, _, _, _, _⟩) (v := .bool false) rfl (by kernel_rfl) (by kernel_rfl) (by kernel_rfl) (fun _ _ _ h => h) (Or.inl ⟨by rfl, fun w' _ => by go_simp⟩) hH ?_
    simp only [Act.put, List.setIfInBounds_toArray, List.set_cons_zero, List.set_cons_succ]
    refine wpAnyH_take (i := 4) (oi := ⟨_, _, _, _, _, _⟩) (v := .bool false) rfl (by kernel_rfl) (by kernel_rfl) (by kernel_rfl) (fun _ _ _ h => h) (Or.inl ⟨by rfl, fun w' _ => by go_simp⟩) hH ?_
    simp only [Act.put, List.setIfInBounds_toArray, List.set_cons_zero, List.set_cons_succ]
    refine wpAnyH_done (by kernel_rfl) ?_ _
    have HV : Hid (Below V1.heap.size V1 V2) := hH
    clear hH hb
    go_wp2
    go_ret
    exact ⟨by rw [HE.out]; rfl, below_step HW.out HV.out⟩
end Go.Proofs.YtdfgijdededolabGreatDoor
/-
  wrongTest, checks, Check. (Written by CL11.py.)
-/
namespace Go.Proofs.YtdfgijdededolabGreatDoor
open Go.RowKit Go.Shelf

def badT (c : Cm) : Bool := c.tests.any fun t => !t.ok
theorem badT_no {l : List Te} (h : ∀ t ∈ l, t.ok = true) : (l.any fun t => !t.ok) = false := by
  rw [List.any_eq_false]; intro t ht; simp [h t ht]
theorem badT_yes {l : List Te} {j : Nat} {t : Te} (ht : l[j]? = some t) (h : t.ok = false) : (l.any fun t => !t.ok) = true := by
  rw [List.any_eq_true]; exact ⟨t, List.mem_of_getElem? ht, by simp [h]⟩
set_option maxRecDepth 20000 in
set_option maxHeartbeats 1000000 in
theorem wrongTest_any (c : Cm) (w : World) (h : c.ok w) : Calls Tryz.prog 153 #[c.v] w fun e w' => e = .returned (.bool (badT c)) ∧ Below w.heap.size w w' := by
  obtain ⟨⟨a, hn, cap, h1⟩, ⟨a', cap', h2⟩, ⟨a'', cap'', h3⟩, hbl, htl⟩ := h.shape
  have HT : Hid (Es w c.tv c.tests) := h.t
  clear h
  unfold badT
  obtain ⟨⟨⟨⟨k, m, s⟩, nm, ls⟩, hx⟩, body, bv, tests, tv⟩ := c
  simp only at h1 h2 h3 hbl htl HT
  subst h1 h2 h3
  obtain ⟨r, hr⟩ : ∃ r, (tests.any fun t => !t.ok) = r := ⟨_, rfl⟩
  have HR : Hid ((tests.any fun t => !t.ok) = r) := hr
  simp only [hr]
  clear hr
  go_enter Tryz.func153, Tryz.ntmps153
  go_wp2
  go_loopg [8] tests.length (fun g i wr => ∃ j : Nat, j + g = tests.length ∧ i = .int .i64 (j : Int) ∧ (∀ t ∈ tests.take j, t.ok = true) ∧ Below w.heap.size w wr)
  case atStart => exact ⟨0, by omega, rfl, by simp, below1 _ _⟩
  case round =>
    obtain ⟨j, hj, rfl, hall, hbr⟩ := hrel
    have HA : Hid (∀ t ∈ tests.take j, t.ok = true) := hall
    have HBr : Hid (Below w.heap.size w wr) := hbr
    cases gk with
    | succ g =>
      have hlt : j < tests.length := by omega
      have i0 : (0 : Int) ≤ (j : Int) := by omega
      have i1 : (j : Int) < (tests.length : Int) := by omega
      obtain ⟨t, ht⟩ : ∃ t, tests[j]? = some t := ⟨_, List.getElem?_eq_getElem hlt⟩
      obtain ⟨a1, cap1, hv, -, hm⟩ := HT.out.later hbr
      simp only [Value.slice.injEq, true_and] at hv
      obtain ⟨rfl, rfl⟩ := hv
      rcases hm with hm | ⟨b, o, rfl, hm⟩
      · rw [hm] at hlt; simp at hlt
      obtain ⟨e0, e1, e2, e3, e4, e5, e6⟩ := hm.2 j t ht
      have hck := fun X => check_any t X
      have HTj : Hid (tests[j]? = some t) := ht
      obtain ⟨ok, hok⟩ : ∃ ok, t.ok = ok := ⟨_, rfl⟩
      have HOk : Hid (t.ok = ok) := hok
      simp only [hok] at hck
      clear hm ht hall hbr hok
      obtain ⟨op, ⟨kl, ml, sl⟩, ⟨kr, mr, sr⟩⟩ := t
      simp only at e0 e1 e2 e3 e4 e5 e6 hck
      cases ok with
      | true =>
        simp only [if_true] at hck
        go_wp2_with (go_at_call 172; refine (hck _).mono ?_; clear hck; rintro e w1 ⟨rfl, hb1⟩; have HB1 : Hid (Below _ _ _) := hb1; clear hb1)
        go_roundg g
        case measure => omega
        case rel =>
          refine ⟨j + 1, by omega, by go_num, fun t ht => ?_, below_step (below_step HBr.out (below1 _ _)) HB1.out⟩
          rw [take_next HTj.out] at ht
          rcases List.mem_append.1 ht with ht | ht
          · exact HA.out t ht
          · rw [List.mem_singleton] at ht; rw [ht]; exact HOk.out
      | false =>
        simp only [Bool.false_eq_true, if_false] at hck
        go_wp2_with (go_at_call 172; refine (hck _).mono ?_; clear hck; rintro e w1 ⟨rfl, hb1⟩; have HB1 : Hid (Below _ _ _) := hb1; clear hb1)
        go_ret
        refine ⟨ret_b ?_, below_step (below_step HBr.out (below1 _ _)) HB1.out⟩
        rw [← HR.out, badT_yes HTj.out HOk.out]
    | zero =>
      obtain rfl : j = tests.length := by omega
      have hz : ¬ ((tests.length : Int) < (tests.length : Int)) := by omega
      clear hall hbr
      go_wp2
      go_ret
      refine ⟨ret_b ?_, HBr.out⟩
      have := HA.out
      rw [List.take_length] at this
      rw [← HR.out, badT_no this]
abbrev tbl (n : Nat) : Array Value := #[.func (.func 151) #[] #[], .int .i64 31, .func (.func 170) #[] #[.pointer (some ⟨n, 0, none⟩)], .int .i64 21, .func (.func 170) #[] #[.pointer (some ⟨n + 1, 0, none⟩)], .int .i64 22, .func (.func 170) #[] #[.pointer (some ⟨n + 1 + 1, 0, none⟩)], .int .i64 23, .func (.func 170) #[] #[.pointer (some ⟨n + 1 + 1 + 1, 0, none⟩)], .int .i64 24, .func (.func 153) #[] #[], .int .i64 32, .func (.func 154) #[] #[], .int .i64 33, .func (.func 155) #[] #[], .int .i64 34, .func (.func 156) #[] #[], .int .i64 35]
abbrev chW (w : World) : World := ((((w.alloc (.cells #[.int .i64 21] 81)).alloc (.cells #[.int .i64 22] 81)).alloc (.cells #[.int .i64 23] 81)).alloc (.cells #[.int .i64 24] 81)).alloc (.cells (tbl w.heap.size) 142)
set_option maxHeartbeats 1000000 in
theorem checks_any (w : World) : Calls Tryz.prog 118 #[] w fun e w' => e = .returned (.slice (some ⟨w.heap.size + 1 + 1 + 1 + 1, 0, none⟩) 9 9) ∧ w' = chW w := by
  go_enter Tryz.func118, Tryz.ntmps118
  go_wp2_with (go_at_call 152; refine (wrongAtom_any _ _).mono ?_; rintro e w1 ⟨rfl, rfl⟩)
  go_ret
  exact ⟨rfl, rfl⟩
end Go.Proofs.YtdfgijdededolabGreatDoor
/-
  Check. (Written by CL12.py.)
-/
namespace Go.Proofs.YtdfgijdededolabGreatDoor
open Go.RowKit Go.Shelf

/-- The first that refuses. -/
def chkL : List (Bool × Int) → Int
  | [] => 0
  | x :: r => if x.1 = true then x.2 else chkL r
def Cm.rs (c : Cm) : List (Bool × Int) := [(long c, 31), (decide (aErr c.atoms = 21), 21), (decide (aErr c.atoms = 22), 22), (decide (aErr c.atoms = 23), 23), (decide (aErr c.atoms = 24), 24), (badT c, 32), (c.head.1.by_.var, 33), (unb c, 34), (mis 0 c.vars, 35)]
def Cm.chk (c : Cm) : Int := chkL c.rs
/-- All its numbers are such, and there aren't more terms than there can be. -/
structure Cm.wf (c : Cm) : Prop where
  n : ∀ t ∈ c.terms, t.var = true → (Lit.int .i64 t.n).wf = true
  l : c.terms.length < 4000000000000000000
theorem mem_vrs {l : List Tm} {v : Int} (h : v ∈ vrs l) : ∃ t ∈ l, t.var = true ∧ t.n = v := by
  unfold vrs at h
  obtain ⟨t, ht, rfl⟩ := List.mem_map.1 h
  obtain ⟨h1, h2⟩ := List.mem_filter.1 ht
  exact ⟨t, h1, h2, rfl⟩
theorem vrs_len (l : List Tm) : (vrs l).length ≤ l.length := by
  unfold vrs; rw [List.length_map]; exact List.length_filter_le _ _
theorem bodyC_terms (c : Cm) : c.bodyC.terms = ⟨0, 0, ⟨#[]⟩⟩ :: flt c.body := by
  simp [Cm.terms, Cm.bodyC, Cm.atoms, At.pl, flt]
theorem restC_terms (c : Cm) : c.restC.terms = c.head.1.pl ++ tls c.tests := by
  simp [Cm.terms, Cm.restC, Cm.atoms, At.pl, tls]
theorem Cm.terms_eq (c : Cm) : c.terms = c.head.1.pl ++ flt c.body ++ tls c.tests := by
  simp [Cm.terms, Cm.atoms, flt, tls]
theorem zt_var : (Tm.mk 0 0 ⟨#[]⟩).var = false := by simp [Tm.var]
theorem Cm.wf.vars {c : Cm} (h : c.wf) : (∀ v ∈ c.vars, (Lit.int .i64 v).wf = true) ∧ c.vars.length < 4000000000000000000 :=
  ⟨fun v hv => by obtain ⟨t, ht, hvt, rfl⟩ := mem_vrs (l := c.terms) hv; exact h.n t ht hvt, Nat.lt_of_le_of_lt (vrs_len c.terms) h.l⟩
theorem Cm.wf.bodyV {c : Cm} (h : c.wf) : (∀ v ∈ c.bodyC.vars, (Lit.int .i64 v).wf = true) ∧ c.bodyC.vars.length < 4000000000000000000 := by
  refine ⟨fun v hv => ?_, ?_⟩
  · obtain ⟨t, ht, hvt, rfl⟩ := mem_vrs (l := c.bodyC.terms) hv
    rw [bodyC_terms] at ht
    rcases List.mem_cons.1 ht with rfl | ht
    · rw [zt_var] at hvt; cases hvt
    · exact h.n t (by rw [Cm.terms_eq]; simp [ht]) hvt
  · have e : c.bodyC.vars = vrs (flt c.body) := by
      show vrs c.bodyC.terms = _
      rw [bodyC_terms]; simp [vrs, zt_var]
    rw [e]
    have h1 := vrs_len (flt c.body)
    have h2 := h.l
    rw [Cm.terms_eq] at h2
    simp only [List.length_append] at h2
    omega
theorem Cm.wf.restV {c : Cm} (h : c.wf) : ∀ v ∈ c.restC.vars, (Lit.int .i64 v).wf = true := by
  intro v hv
  obtain ⟨t, ht, hvt, rfl⟩ := mem_vrs (l := c.restC.terms) hv
  rw [restC_terms] at ht
  refine h.n t ?_ hvt
  rw [Cm.terms_eq]
  rcases List.mem_append.1 ht with ht | ht <;> simp [ht]
theorem two_at {w : World} {T : Nat} {c : Array Value} {t : TypeId} (h : CBlk w T c t) (i : Nat) (x y : Value) (hx : c[i]? = some x) (hy : c[i + 1]? = some y) : w.cell? ⟨T, i, none⟩ = some x ∧ w.cell? ⟨T, i + 1, none⟩ = some y := by
  constructor
  · rw [cell_of_row _ _ _ _ _ _ h]; exact hx
  · rw [cell_of_row _ _ _ _ _ _ h]; exact hy
set_option maxRecDepth 20000 in
set_option maxHeartbeats 8000000 in
theorem check9_any (c : Cm) (w : World) (h : c.ok w) (hwf : c.wf) : Calls Tryz.prog 89 #[c.v] w fun e w' => e = .returned (.int .i64 c.chk) ∧ Below w.heap.size w w' := by
  obtain ⟨⟨a, hn, cap, h1⟩, ⟨a', cap', h2⟩, ⟨a'', cap'', h3⟩, hbl, htl⟩ := h.shape
  obtain ⟨hwv, hlv⟩ := hwf.vars
  obtain ⟨hwb, hlb⟩ := hwf.bodyV
  have hwr := hwf.restV
  have hok := fun (X : World) (hX : Below w.heap.size w X) => h.later hX
  have b0 := CBlk.new w c.cs 41
  have z0 : (w.alloc (.cells c.cs 41)).heap.size = w.heap.size + 1 := by simp
  have hb0 := below1 w (.cells c.cs 41)
  obtain ⟨W0, hW0⟩ : ∃ W0, w.alloc (.cells c.cs 41) = W0 := ⟨_, rfl⟩
  rw [hW0] at b0 z0 hb0
  have hch := checks_any W0
  -- the boxes of the four errors, and the table
  have g0 : CBlk (chW W0) W0.heap.size #[.int .i64 21] 81 := ((((CBlk.new W0 _ _).later (below1 _ _)).later (below1 _ _)).later (below1 _ _)).later (below1 _ _)
  have g1 : CBlk (chW W0) (W0.heap.size + 1) #[.int .i64 22] 81 := by
    have := (((CBlk.new (W0.alloc (.cells #[.int .i64 21] 81)) #[.int .i64 22] 81).later (below1 _ (.cells #[.int .i64 23] 81))).later (below1 _ (.cells #[.int .i64 24] 81))).later (below1 _ (.cells (tbl W0.heap.size) 142))
    simpa using this
  have g2 : CBlk (chW W0) (W0.heap.size + 1 + 1) #[.int .i64 23] 81 := by
    have := ((CBlk.new ((W0.alloc (.cells #[.int .i64 21] 81)).alloc (.cells #[.int .i64 22] 81)) #[.int .i64 23] 81).later (below1 _ (.cells #[.int .i64 24] 81))).later (below1 _ (.cells (tbl W0.heap.size) 142))
    simpa using this
  have g3 : CBlk (chW W0) (W0.heap.size + 1 + 1 + 1) #[.int .i64 24] 81 := by
    have := (CBlk.new (((W0.alloc (.cells #[.int .i64 21] 81)).alloc (.cells #[.int .i64 22] 81)).alloc (.cells #[.int .i64 23] 81)) #[.int .i64 24] 81).later (below1 _ (.cells (tbl W0.heap.size) 142))
    simpa using this
  have g4 : CBlk (chW W0) (W0.heap.size + 1 + 1 + 1 + 1) (tbl W0.heap.size) 142 := by
    have := CBlk.new ((((W0.alloc (.cells #[.int .i64 21] 81)).alloc (.cells #[.int .i64 22] 81)).alloc (.cells #[.int .i64 23] 81)).alloc (.cells #[.int .i64 24] 81)) (tbl W0.heap.size) 142
    simpa using this
  have hbC : Below W0.heap.size W0 (chW W0) := by
    refine ⟨rfl, rfl, rfl, by simp; omega, fun q hq => ?_⟩
    exact (((Below.heap_alloc _ _ _ (by simp; omega)).trans (Below.heap_alloc _ _ _ (by simp; omega))).trans (Below.heap_alloc _ _ _ (by simp; omega))).trans ((Below.heap_alloc _ _ _ (by simp; omega)).trans (Below.heap_alloc _ _ _ (by omega)))
  have b1 := b0.later hbC
  have hbw := below_step hb0 hbC
  obtain ⟨W1, hW1⟩ : ∃ W1, chW W0 = W1 := ⟨_, rfl⟩
  rw [hW1] at hch g0 g1 g2 g3 g4 b1 hbw
  obtain ⟨N, hN⟩ : ∃ N, W0.heap.size = N := ⟨_, rfl⟩
  rw [hN] at hch g0 g1 g2 g3 g4
  have HE0 : Hid (CBlk W1 N #[.int .i64 21] 81) := g0
  have HE1 : Hid (CBlk W1 (N + 1) #[.int .i64 22] 81) := g1
  have HE2 : Hid (CBlk W1 (N + 1 + 1) #[.int .i64 23] 81) := g2
  have HE3 : Hid (CBlk W1 (N + 1 + 1 + 1) #[.int .i64 24] 81) := g3
  have HTb : Hid (CBlk W1 (N + 1 + 1 + 1 + 1) (tbl N) 142) := g4
  have HC : Hid (CBlk W1 w.heap.size c.cs 41) := b1
  have HBW : Hid (Below w.heap.size w W1) := hbw
  have hok1 := fun (X : World) (hX : Below W1.heap.size W1 X) => hok X (below_step hbw hX)
  clear hok
  have hok := hok1
  have k0 := fun (X : World) (hX : Below W1.heap.size W1 X) => tooLong_any _ X (hok X hX)
  have k1 := fun (X : World) (hX : Below W1.heap.size W1 X) => wrongAtom1_any _ _ _ X (hok X hX) (HE0.out.later hX)
  have k2 := fun (X : World) (hX : Below W1.heap.size W1 X) => wrongAtom1_any _ _ _ X (hok X hX) (HE1.out.later hX)
  have k3 := fun (X : World) (hX : Below W1.heap.size W1 X) => wrongAtom1_any _ _ _ X (hok X hX) (HE2.out.later hX)
  have k4 := fun (X : World) (hX : Below W1.heap.size W1 X) => wrongAtom1_any _ _ _ X (hok X hX) (HE3.out.later hX)
  have k5 := fun (X : World) (hX : Below W1.heap.size W1 X) => wrongTest_any _ X (hok X hX)
  have k6 := fun (X : World) (hX : Below W1.heap.size W1 X) => speaks_any _ X (hok X hX)
  have k7 := fun (X : World) (hX : Below W1.heap.size W1 X) => unbound_any _ X (hok X hX) hwb hwr hlb
  have k8 := fun (X : World) (hX : Below W1.heap.size W1 X) => misnumbered_any _ X (hok X hX) hlv
  unfold Cm.chk Cm.rs
  obtain ⟨r0, hr0⟩ : ∃ r, long c = r := ⟨_, rfl⟩
  simp only [hr0] at k0 ⊢
  clear hr0
  obtain ⟨r1, hr1⟩ : ∃ r, decide (aErr c.atoms = 21) = r := ⟨_, rfl⟩
  simp only [hr1] at k1 ⊢
  clear hr1
  obtain ⟨r2, hr2⟩ : ∃ r, decide (aErr c.atoms = 22) = r := ⟨_, rfl⟩
  simp only [hr2] at k2 ⊢
  clear hr2
  obtain ⟨r3, hr3⟩ : ∃ r, decide (aErr c.atoms = 23) = r := ⟨_, rfl⟩
  simp only [hr3] at k3 ⊢
  clear hr3
  obtain ⟨r4, hr4⟩ : ∃ r, decide (aErr c.atoms = 24) = r := ⟨_, rfl⟩
  simp only [hr4] at k4 ⊢
  clear hr4
  obtain ⟨r5, hr5⟩ : ∃ r, badT c = r := ⟨_, rfl⟩
  simp only [hr5] at k5 ⊢
  clear hr5
  obtain ⟨r6, hr6⟩ : ∃ r, c.head.1.by_.var = r := ⟨_, rfl⟩
  simp only [hr6] at k6 ⊢
  clear hr6
  obtain ⟨r7, hr7⟩ : ∃ r, unb c = r := ⟨_, rfl⟩
  simp only [hr7] at k7 ⊢
  clear hr7
  obtain ⟨r8, hr8⟩ : ∃ r, mis 0 c.vars = r := ⟨_, rfl⟩
  simp only [hr8] at k8 ⊢
  clear hr8
  obtain ⟨R, hR⟩ : ∃ R, chkL [(r0, 31), (r1, 21), (r2, 22), (r3, 23), (r4, 24), (r5, 32), (r6, 33), (r7, 34), (r8, 35)] = R := ⟨_, rfl⟩
  have HR : Hid (chkL [(r0, 31), (r1, 21), (r2, 22), (r3, 23), (r4, 24), (r5, 32), (r6, 33), (r7, 34), (r8, 35)] = R) := hR
  rw [hR]
  clear hR hok hok1 hwv hwb hwr hlv hlb g0 g1 g2 g3 g4 b0 b1 hb0 hbC hbw hwf h hW1 hN z0
  obtain ⟨⟨⟨⟨k, m, s⟩, nm, ls⟩, hx⟩, body, bv, tests, tv⟩ := c
  simp only at h1 h2 h3 hbl htl
  subst h1 h2 h3
  go_enter Tryz.func89, Tryz.ntmps89
  go_wp2_with (go_at_call 118; refine hch.mono ?_; clear hch; rintro e w1 ⟨rfl, h⟩; have h' := h.symm; clear h; subst h')
  clear hW0
  go_loopg [7, 4] 9 (fun g i _ wr => ∃ j : Nat, j + g = 9 ∧ i = .int .i64 (j : Int) ∧ chkL (List.drop j [(r0, 31), (r1, 21), (r2, 22), (r3, 23), (r4, 24), (r5, 32), (r6, 33), (r7, 34), (r8, 35)]) = R ∧ Below W1.heap.size W1 wr)
  case atStart => exact ⟨0, by omega, rfl, HR.out, Below.refl _ _⟩
  case round =>
    obtain ⟨j, hj, rfl, hr, hbr⟩ := hrel
    have HBr : Hid (Below W1.heap.size W1 wr) := hbr
    obtain ⟨c0, c1, c2, c3, c4, c5, c6⟩ := cseven (HC.out.later hbr)
    simp only at c0 c1 c2 c3 c4 c5 c6
    have hcb := HTb.out.later hbr
    have hzw : w.heap.size < wr.heap.size := (HC.out.later hbr).lt
    clear HR
    rcases (show j = 0 ∨ j = 1 ∨ j = 2 ∨ j = 3 ∨ j = 4 ∨ j = 5 ∨ j = 6 ∨ j = 7 ∨ j = 8 ∨ j = 9 by omega) with rfl | rfl | rfl | rfl | rfl | rfl | rfl | rfl | rfl | rfl
    · obtain ⟨gk, rfl⟩ : ∃ g, gk = g + 1 := ⟨gk - 1, by omega⟩
      obtain ⟨d0, d1⟩ := two_at hcb 0 (.func (.func 151) #[] #[]) (.int .i64 31) rfl rfl
      have hk := k0
      clear hcb hbr
      cases r0 with
      | true =>
        have HR : Hid (31 = R) := hr
        clear hr
        go_wp2_with (go_at_call 151; refine (hk _ (below_step HBr.out (below1 _ _))).mono ?_; clear hk; rintro e w3 ⟨rfl, hb3⟩; obtain ⟨q0, q1⟩ := two_at ((CBlk.new wr #[.func (.func 151) #[] #[], .int .i64 31] 142).later hb3) 0 _ _ rfl rfl; have HB3 : Hid (Below _ _ _) := hb3; clear hb3)
        go_ret
        exact ⟨ret_i HR.out, below_step (below_step (below_step HBW.out HBr.out) (below1 _ _)) HB3.out⟩
      | false =>
        have HR : Hid (chkL (List.drop 1 [(false, 31), (r1, 21), (r2, 22), (r3, 23), (r4, 24), (r5, 32), (r6, 33), (r7, 34), (r8, 35)]) = R) := hr
        clear hr
        go_wp2_with (go_at_call 151; refine (hk _ (below_step HBr.out (below1 _ _))).mono ?_; clear hk; rintro e w3 ⟨rfl, hb3⟩; have HB3 : Hid (Below _ _ _) := hb3; clear hb3)
        go_roundg gk
        case measure => omega
        case rel => exact ⟨1, by omega, rfl, HR.out, below_step (below_step HBr.out (below1 _ _)) HB3.out⟩
    · obtain ⟨gk, rfl⟩ : ∃ g, gk = g + 1 := ⟨gk - 1, by omega⟩
      obtain ⟨d0, d1⟩ := two_at hcb 2 (.func (.func 170) #[] #[.pointer (some ⟨N, 0, none⟩)]) (.int .i64 21) rfl rfl
      have hk := k1
      clear hcb hbr
      cases r1 with
      | true =>
        have HR : Hid (21 = R) := hr
        clear hr
        go_wp2_with (go_at_call 170; refine (hk _ (below_step HBr.out (below1 _ _))).mono ?_; clear hk; rintro e w3 ⟨rfl, hb3⟩; obtain ⟨q0, q1⟩ := two_at ((CBlk.new wr #[.func (.func 170) #[] #[.pointer (some ⟨N, 0, none⟩)], .int .i64 21] 142).later hb3) 0 _ _ rfl rfl; have HB3 : Hid (Below _ _ _) := hb3; clear hb3)
        go_ret
        exact ⟨ret_i HR.out, below_step (below_step (below_step HBW.out HBr.out) (below1 _ _)) HB3.out⟩
      | false =>
        have HR : Hid (chkL (List.drop 2 [(r0, 31), (false, 21), (r2, 22), (r3, 23), (r4, 24), (r5, 32), (r6, 33), (r7, 34), (r8, 35)]) = R) := hr
        clear hr
        go_wp2_with (go_at_call 170; refine (hk _ (below_step HBr.out (below1 _ _))).mono ?_; clear hk; rintro e w3 ⟨rfl, hb3⟩; have HB3 : Hid (Below _ _ _) := hb3; clear hb3)
        go_roundg gk
        case measure => omega
        case rel => exact ⟨2, by omega, rfl, HR.out, below_step (below_step HBr.out (below1 _ _)) HB3.out⟩
    · obtain ⟨gk, rfl⟩ : ∃ g, gk = g + 1 := ⟨gk - 1, by omega⟩
      obtain ⟨d0, d1⟩ := two_at hcb 4 (.func (.func 170) #[] #[.pointer (some ⟨N + 1, 0, none⟩)]) (.int .i64 22) rfl rfl
      have hk := k2
      clear hcb hbr
      cases r2 with
      | true =>
        have HR : Hid (22 = R) := hr
        clear hr
        go_wp2_with (go_at_call 170; refine (hk _ (below_step HBr.out (below1 _ _))).mono ?_; clear hk; rintro e w3 ⟨rfl, hb3⟩; obtain ⟨q0, q1⟩ := two_at ((CBlk.new wr #[.func (.func 170) #[] #[.pointer (some ⟨N + 1, 0, none⟩)], .int .i64 22] 142).later hb3) 0 _ _ rfl rfl; have HB3 : Hid (Below _ _ _) := hb3; clear hb3)
        go_ret
        exact ⟨ret_i HR.out, below_step (below_step (below_step HBW.out HBr.out) (below1 _ _)) HB3.out⟩
      | false =>
        have HR : Hid (chkL (List.drop 3 [(r0, 31), (r1, 21), (false, 22), (r3, 23), (r4, 24), (r5, 32), (r6, 33), (r7, 34), (r8, 35)]) = R) := hr
        clear hr
        go_wp2_with (go_at_call 170; refine (hk _ (below_step HBr.out (below1 _ _))).mono ?_; clear hk; rintro e w3 ⟨rfl, hb3⟩; have HB3 : Hid (Below _ _ _) := hb3; clear hb3)
        go_roundg gk
        case measure => omega
        case rel => exact ⟨3, by omega, rfl, HR.out, below_step (below_step HBr.out (below1 _ _)) HB3.out⟩
    · obtain ⟨gk, rfl⟩ : ∃ g, gk = g + 1 := ⟨gk - 1, by omega⟩
      obtain ⟨d0, d1⟩ := two_at hcb 6 (.func (.func 170) #[] #[.pointer (some ⟨N + 1 + 1, 0, none⟩)]) (.int .i64 23) rfl rfl
      have hk := k3
      clear hcb hbr
      cases r3 with
      | true =>
        have HR : Hid (23 = R) := hr
        clear hr
        go_wp2_with (go_at_call 170; refine (hk _ (below_step HBr.out (below1 _ _))).mono ?_; clear hk; rintro e w3 ⟨rfl, hb3⟩; obtain ⟨q0, q1⟩ := two_at ((CBlk.new wr #[.func (.func 170) #[] #[.pointer (some ⟨N + 1 + 1, 0, none⟩)], .int .i64 23] 142).later hb3) 0 _ _ rfl rfl; have HB3 : Hid (Below _ _ _) := hb3; clear hb3)
        go_ret
        exact ⟨ret_i HR.out, below_step (below_step (below_step HBW.out HBr.out) (below1 _ _)) HB3.out⟩
      | false =>
        have HR : Hid (chkL (List.drop 4 [(r0, 31), (r1, 21), (r2, 22), (false, 23), (r4, 24), (r5, 32), (r6, 33), (r7, 34), (r8, 35)]) = R) := hr
        clear hr
        go_wp2_with (go_at_call 170; refine (hk _ (below_step HBr.out (below1 _ _))).mono ?_; clear hk; rintro e w3 ⟨rfl, hb3⟩; have HB3 : Hid (Below _ _ _) := hb3; clear hb3)
        go_roundg gk
        case measure => omega
        case rel => exact ⟨4, by omega, rfl, HR.out, below_step (below_step HBr.out (below1 _ _)) HB3.out⟩
    · obtain ⟨gk, rfl⟩ : ∃ g, gk = g + 1 := ⟨gk - 1, by omega⟩
      obtain ⟨d0, d1⟩ := two_at hcb 8 (.func (.func 170) #[] #[.pointer (some ⟨N + 1 + 1 + 1, 0, none⟩)]) (.int .i64 24) rfl rfl
      have hk := k4
      clear hcb hbr
      cases r4 with
      | true =>
        have HR : Hid (24 = R) := hr
        clear hr
        go_wp2_with (go_at_call 170; refine (hk _ (below_step HBr.out (below1 _ _))).mono ?_; clear hk; rintro e w3 ⟨rfl, hb3⟩; obtain ⟨q0, q1⟩ := two_at ((CBlk.new wr #[.func (.func 170) #[] #[.pointer (some ⟨N + 1 + 1 + 1, 0, none⟩)], .int .i64 24] 142).later hb3) 0 _ _ rfl rfl; have HB3 : Hid (Below _ _ _) := hb3; clear hb3)
        go_ret
        exact ⟨ret_i HR.out, below_step (below_step (below_step HBW.out HBr.out) (below1 _ _)) HB3.out⟩
      | false =>
        have HR : Hid (chkL (List.drop 5 [(r0, 31), (r1, 21), (r2, 22), (r3, 23), (false, 24), (r5, 32), (r6, 33), (r7, 34), (r8, 35)]) = R) := hr
        clear hr
        go_wp2_with (go_at_call 170; refine (hk _ (below_step HBr.out (below1 _ _))).mono ?_; clear hk; rintro e w3 ⟨rfl, hb3⟩; have HB3 : Hid (Below _ _ _) := hb3; clear hb3)
        go_roundg gk
        case measure => omega
        case rel => exact ⟨5, by omega, rfl, HR.out, below_step (below_step HBr.out (below1 _ _)) HB3.out⟩
    · obtain ⟨gk, rfl⟩ : ∃ g, gk = g + 1 := ⟨gk - 1, by omega⟩
      obtain ⟨d0, d1⟩ := two_at hcb 10 (.func (.func 153) #[] #[]) (.int .i64 32) rfl rfl
      have hk := k5
      clear hcb hbr
      cases r5 with
      | true =>
        have HR : Hid (32 = R) := hr
        clear hr
        go_wp2_with (go_at_call 153; refine (hk _ (below_step HBr.out (below1 _ _))).mono ?_; clear hk; rintro e w3 ⟨rfl, hb3⟩; obtain ⟨q0, q1⟩ := two_at ((CBlk.new wr #[.func (.func 153) #[] #[], .int .i64 32] 142).later hb3) 0 _ _ rfl rfl; have HB3 : Hid (Below _ _ _) := hb3; clear hb3)
        go_ret
        exact ⟨ret_i HR.out, below_step (below_step (below_step HBW.out HBr.out) (below1 _ _)) HB3.out⟩
      | false =>
        have HR : Hid (chkL (List.drop 6 [(r0, 31), (r1, 21), (r2, 22), (r3, 23), (r4, 24), (false, 32), (r6, 33), (r7, 34), (r8, 35)]) = R) := hr
        clear hr
        go_wp2_with (go_at_call 153; refine (hk _ (below_step HBr.out (below1 _ _))).mono ?_; clear hk; rintro e w3 ⟨rfl, hb3⟩; have HB3 : Hid (Below _ _ _) := hb3; clear hb3)
        go_roundg gk
        case measure => omega
        case rel => exact ⟨6, by omega, rfl, HR.out, below_step (below_step HBr.out (below1 _ _)) HB3.out⟩
    · obtain ⟨gk, rfl⟩ : ∃ g, gk = g + 1 := ⟨gk - 1, by omega⟩
      obtain ⟨d0, d1⟩ := two_at hcb 12 (.func (.func 154) #[] #[]) (.int .i64 33) rfl rfl
      have hk := k6
      clear hcb hbr
      cases r6 with
      | true =>
        have HR : Hid (33 = R) := hr
        clear hr
        go_wp2_with (go_at_call 154; refine (hk _ (below_step HBr.out (below1 _ _))).mono ?_; clear hk; rintro e w3 ⟨rfl, hb3⟩; obtain ⟨q0, q1⟩ := two_at ((CBlk.new wr #[.func (.func 154) #[] #[], .int .i64 33] 142).later hb3) 0 _ _ rfl rfl; have HB3 : Hid (Below _ _ _) := hb3; clear hb3)
        go_ret
        exact ⟨ret_i HR.out, below_step (below_step (below_step HBW.out HBr.out) (below1 _ _)) HB3.out⟩
      | false =>
        have HR : Hid (chkL (List.drop 7 [(r0, 31), (r1, 21), (r2, 22), (r3, 23), (r4, 24), (r5, 32), (false, 33), (r7, 34), (r8, 35)]) = R) := hr
        clear hr
        go_wp2_with (go_at_call 154; refine (hk _ (below_step HBr.out (below1 _ _))).mono ?_; clear hk; rintro e w3 ⟨rfl, hb3⟩; have HB3 : Hid (Below _ _ _) := hb3; clear hb3)
        go_roundg gk
        case measure => omega
        case rel => exact ⟨7, by omega, rfl, HR.out, below_step (below_step HBr.out (below1 _ _)) HB3.out⟩
    · obtain ⟨gk, rfl⟩ : ∃ g, gk = g + 1 := ⟨gk - 1, by omega⟩
      obtain ⟨d0, d1⟩ := two_at hcb 14 (.func (.func 155) #[] #[]) (.int .i64 34) rfl rfl
      have hk := k7
      clear hcb hbr
      cases r7 with
      | true =>
        have HR : Hid (34 = R) := hr
        clear hr
        go_wp2_with (go_at_call 155; refine (hk _ (below_step HBr.out (below1 _ _))).mono ?_; clear hk; rintro e w3 ⟨rfl, hb3⟩; obtain ⟨q0, q1⟩ := two_at ((CBlk.new wr #[.func (.func 155) #[] #[], .int .i64 34] 142).later hb3) 0 _ _ rfl rfl; have HB3 : Hid (Below _ _ _) := hb3; clear hb3)
        go_ret
        exact ⟨ret_i HR.out, below_step (below_step (below_step HBW.out HBr.out) (below1 _ _)) HB3.out⟩
      | false =>
        have HR : Hid (chkL (List.drop 8 [(r0, 31), (r1, 21), (r2, 22), (r3, 23), (r4, 24), (r5, 32), (r6, 33), (false, 34), (r8, 35)]) = R) := hr
        clear hr
        go_wp2_with (go_at_call 155; refine (hk _ (below_step HBr.out (below1 _ _))).mono ?_; clear hk; rintro e w3 ⟨rfl, hb3⟩; have HB3 : Hid (Below _ _ _) := hb3; clear hb3)
        go_roundg gk
        case measure => omega
        case rel => exact ⟨8, by omega, rfl, HR.out, below_step (below_step HBr.out (below1 _ _)) HB3.out⟩
    · obtain ⟨gk, rfl⟩ : ∃ g, gk = g + 1 := ⟨gk - 1, by omega⟩
      obtain ⟨d0, d1⟩ := two_at hcb 16 (.func (.func 156) #[] #[]) (.int .i64 35) rfl rfl
      have hk := k8
      clear hcb hbr
      cases r8 with
      | true =>
        have HR : Hid (35 = R) := hr
        clear hr
        go_wp2_with (go_at_call 156; refine (hk _ (below_step HBr.out (below1 _ _))).mono ?_; clear hk; rintro e w3 ⟨rfl, hb3⟩; obtain ⟨q0, q1⟩ := two_at ((CBlk.new wr #[.func (.func 156) #[] #[], .int .i64 35] 142).later hb3) 0 _ _ rfl rfl; have HB3 : Hid (Below _ _ _) := hb3; clear hb3)
        go_ret
        exact ⟨ret_i HR.out, below_step (below_step (below_step HBW.out HBr.out) (below1 _ _)) HB3.out⟩
      | false =>
        have HR : Hid (chkL (List.drop 9 [(r0, 31), (r1, 21), (r2, 22), (r3, 23), (r4, 24), (r5, 32), (r6, 33), (r7, 34), (false, 35)]) = R) := hr
        clear hr
        go_wp2_with (go_at_call 156; refine (hk _ (below_step HBr.out (below1 _ _))).mono ?_; clear hk; rintro e w3 ⟨rfl, hb3⟩; have HB3 : Hid (Below _ _ _) := hb3; clear hb3)
        go_roundg gk
        case measure => omega
        case rel => exact ⟨9, by omega, rfl, HR.out, below_step (below_step HBr.out (below1 _ _)) HB3.out⟩
    · obtain rfl : gk = 0 := by omega
      have HR : Hid (0 = R) := hr
      clear hr hbr hcb c0 c1 c2 c3 c4 c5 c6
      go_wp2
      go_ret
      exact ⟨ret_i HR.out, below_step HBW.out HBr.out⟩
end Go.Proofs.YtdfgijdededolabGreatDoor
