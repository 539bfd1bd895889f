/-
  plan: newPlanner. (Written by FB4.py.)
-/
import Derived.Test.YtgbiicmkhlnniaaGreatDoorFB3
import Derived.Test.YtgbiicmkhlnniaaGreatDoorCL8
import Derived.Laws.CopyOwn
import Derived.Test.YtgbiicmkhlnniaaGreatDoorRA16
import Derived.Laws.Cover1
import Derived.Deep.QuietTactic
import Derived.BigQuiet
namespace Go.Proofs.YtgbiicmkhlnniaaGreatDoor
open Go.RowKit
attribute [local go_sem ↓] Go.wp_at_zero Go.wp_at_succ

theorem Tryz.infoBool9 : (Tryz.prog.info? 4).map (fun i => (i.zero, i.size, i.bytes)) = some (some (.bool false), 1, 1) := by kernel_rfl
theorem mk_bools9 (k : Nat) (hk : k ≤ 10000000000) (w : World) : (Instr.makeSlice 76 (.int .i64 (k : Int)) (.int .i64 (k : Int))).run Tryz.prog w = .ok (.slice (some ⟨w.heap.size, 0, none⟩) k k) (w.alloc (.cells (Array.replicate k (Value.bool false)) 4)) := by
  obtain ⟨i, hi, h0, h1, h2⟩ := info7 Tryz.infoBool9
  have h := run_make (P := Tryz.prog) w 76 4 i _ Tryz.underlying76 hi h0 .i64 .i64 k k (by omega) (by omega) (by rw [h2]; omega) (by omega)
  rw [h1] at h
  rw [h]
  have e : madeCells (Value.bool false).cells (Int.toNat (k : Int) * 1) = (Array.replicate k (Value.bool false)) := by
    rw [Int.toNat_natCast, Nat.mul_one]
    show madeCells #[.bool false] k = _
    apply Array.ext
    · simp [madeCells]
    · intro i h1 h2
      simp [madeCells, Nat.mod_one]
  rw [e]
  simp
theorem made9 (n : Nat) (hn : n ≤ 10000000000) (base : Nat) (w : World) (hb : base ≤ w.heap.size) : OwB (w.alloc (.cells (Array.replicate n (Value.bool false)) 4)) base (.slice (some ⟨w.heap.size, 0, none⟩) n n) (List.replicate n false) := by
  unfold OwB
  rw [List.length_replicate, List.map_replicate]
  exact ⟨by simp, Or.inr ⟨w.heap.size, n, _, rfl, hb, Bk.new _ _ _, Nat.le_refl _, by unfold maxLen; omega, by simp, by simp⟩⟩
set_option maxRecDepth 20000 in
set_option maxHeartbeats 4000000 in
theorem newP9_any (c : Cm) (Y : World) (h : c.ok Y) (hwf : c.wf) (tp : ∀ x ∈ c.body, TsP Y x.2 x.1.args ∧ x.1.args.length ≤ 1000000) (hbl : c.body.length ≤ 1000000) (htl : c.tests.length ≤ 1000000) (hnv : (dis c.vars).length ≤ 10000000000) :
    Calls Tryz.prog 13 #[c.v] Y fun e Y' => ∃ g mv av tv, e = .returned (.pointer (some ⟨g, 0, none⟩)) ∧ PN9 Y g c mv av tv (List.replicate (dis c.vars).length false) (up9 c.body.length) (up9 c.tests.length) Y' := by
  have HOK := hm7 h
  have HTP := hm7 tp
  have HVW : Hid (∀ w' : World, Below Y.heap.size Y w' → Calls Tryz.prog 31 #[c.v] w' fun e w'' => e = .returned (.int .i64 ((dis c.vars).length : Nat)) ∧ Below w'.heap.size w' w'') := fun w' hw => vars_any c w' (h.later hw) hwf.vars.1 hwf.vars.2
  obtain ⟨nv, hnn⟩ : ∃ nv, (dis c.vars).length = nv := ⟨_, rfl⟩
  rw [hnn] at HVW hnv ⊢
  have HNV := hm7 hnv
  obtain ⟨⟨a, hn, cap, h1⟩, ⟨a1, cap1, h2⟩, ⟨a2, cap2, h3⟩, -, -⟩ := h.shape
  have hq := Bk.new Y c.cs 30
  have hbw := below1 Y (.cells c.cs 30)
  clear h hwf tp hnn hnv
  obtain ⟨⟨⟨⟨k, m, s⟩, nm, ls⟩, hx⟩, body, bv, tests, tv⟩ := c
  simp only at h1 h2 h3 hbl htl HOK HTP HVW hq hbw ⊢
  subst h1 h2 h3
  obtain ⟨nb, hnb⟩ : ∃ nb, body.length = nb := ⟨_, rfl⟩
  obtain ⟨nt, hnt⟩ : ∃ nt, tests.length = nt := ⟨_, rfl⟩
  rw [hnb] at HOK HVW hq hbw hbl ⊢
  rw [hnt] at HOK HVW hq hbw htl ⊢
  have HBL := hm7 hbl
  have HTL := hm7 htl
  obtain ⟨W1, hW1⟩ : ∃ W1, Y.alloc (.cells #[.int .i64 k, .int .i64 m, .string s, .string nm, .slice a hn cap, .slice a1 nb cap1, .slice a2 nt cap2] 30) = W1 := ⟨_, rfl⟩
  have hq' : Bk W1 Y.heap.size #[.int .i64 k, .int .i64 m, .string s, .string nm, .slice a hn cap, .slice a1 nb cap1, .slice a2 nt cap2] 30 := by rw [← hW1]; exact hq
  have HW1 : Hid (Below Y.heap.size Y W1) := by show Below _ _ _; rw [← hW1]; exact hbw
  obtain ⟨q, hqq⟩ : ∃ q, Y.heap.size = q := ⟨_, rfl⟩
  have HVA : Hid (∀ w' : World, Below W1.heap.size W1 w' → Calls Tryz.prog 31 #[.agg #[.int .i64 k, .int .i64 m, .string s, .string nm, .slice a hn cap, .slice a1 nb cap1, .slice a2 nt cap2]] w' fun e w'' => e = .returned (.int .i64 (nv : Nat)) ∧ Below w'.heap.size w' w'') := fun w' hw => HVW.out w' (HW1.out.trans (hw.mono HW1.out.size))
  have HQC : Hid (∀ w' : World, Below W1.heap.size W1 w' → w'.cell? ⟨q, 0, none⟩ = some (.int .i64 k) ∧ w'.cell? ⟨q, 1, none⟩ = some (.int .i64 m) ∧ w'.cell? ⟨q, 2, none⟩ = some (.string s) ∧ w'.cell? ⟨q, 3, none⟩ = some (.string nm) ∧ w'.cell? ⟨q, 4, none⟩ = some (.slice a hn cap) ∧ w'.cell? ⟨q, 5, none⟩ = some (.slice a1 nb cap1) ∧ w'.cell? ⟨q, 6, none⟩ = some (.slice a2 nt cap2)) := fun w' hw => by
    rw [← hqq]
    have := hq'.below hw
    exact ⟨this.cell rfl, this.cell rfl, this.cell rfl, this.cell rfl, this.cell rfl, this.cell rfl, this.cell rfl⟩
  clear HVW hq hbw hq' hnb hnt
  go_enter Tryz.func13, Tryz.ntmps13
  go_upto_region 1 with fail
  first | rw [hW1] | skip
  first | rw [hqq] | skip
  clear hW1 hqq
  refine wp_region_held_drew (S := fun w' => Below W1.heap.size W1 w') (by kernel_rfl) (by exact (Below.refl _ _).drew) (fun hH => ?_)
  revert hH
  generalize W1.drew = V
  intro hH
  refine wpAnyH_take (i := 0) (oi := ⟨_, _, _, _, _, _⟩) (v := .agg #[.int .i64 k, .int .i64 m, .string s, .string nm, .slice a hn cap, .slice a1 nb cap1, .slice a2 nt cap2]) rfl (by kernel_rfl) (by kernel_rfl) (by kernel_rfl) (fun _ _ _ h => h) (Or.inl ⟨by rfl, fun w' h => by obtain ⟨p0, p1, p2, p3, p4, p5, p6⟩ := HQC.out w' h; clear h; go_simp⟩) hH ?_
  simp only [Act.put, List.setIfInBounds_toArray, List.set_cons_zero, List.set_cons_succ]
  refine wpAnyH_take (i := 1) (oi := ⟨_, _, _, _, _, _⟩) (v := .agg #[.int .i64 k, .int .i64 m, .string s, .string nm, .slice a hn cap, .slice a1 nb cap1, .slice a2 nt cap2]) rfl (by kernel_rfl) (by kernel_rfl) (by kernel_rfl) (fun _ _ _ h => h) (Or.inl ⟨by rfl, fun w' h => by obtain ⟨p0, p1, p2, p3, p4, p5, p6⟩ := HQC.out w' h; clear h; go_simp⟩) hH ?_
  simp only [Act.put, List.setIfInBounds_toArray, List.set_cons_zero, List.set_cons_succ]
  refine wpAnyH_take (i := 4) (oi := ⟨_, _, _, _, _, _⟩) (v := .pointer (some ⟨q, 5, none⟩)) rfl (by kernel_rfl) (by kernel_rfl) (by kernel_rfl) (fun _ _ _ h => h) (Or.inl ⟨by rfl, fun w' h => by clear h; go_simp⟩) hH ?_
  simp only [Act.put, List.setIfInBounds_toArray, List.set_cons_zero, List.set_cons_succ]
  refine wpAnyH_take (i := 5) (oi := ⟨_, _, _, _, _, _⟩) (v := .slice a1 nb cap1) rfl (by kernel_rfl) (by kernel_rfl) (by kernel_rfl) (fun _ _ _ h => h) (Or.inl ⟨by rfl, fun w' h => by obtain ⟨p0, p1, p2, p3, p4, p5, p6⟩ := HQC.out w' h; clear h; go_simp⟩) hH ?_
  simp only [Act.put, List.setIfInBounds_toArray, List.set_cons_zero, List.set_cons_succ]
  refine wpAnyH_take (i := 6) (oi := ⟨_, _, _, _, _, _⟩) (v := .int .i64 (nb : Int)) rfl (by kernel_rfl) (by kernel_rfl) (by kernel_rfl) (fun _ _ _ h => h) (Or.inl ⟨by rfl, fun w' h => by clear h; go_simp⟩) hH ?_
  simp only [Act.put, List.setIfInBounds_toArray, List.set_cons_zero, List.set_cons_succ]
  refine wpAnyH_take (i := 8) (oi := ⟨_, _, _, _, _, _⟩) (v := .pointer (some ⟨q, 6, none⟩)) rfl (by kernel_rfl) (by kernel_rfl) (by kernel_rfl) (fun _ _ _ h => h) (Or.inl ⟨by rfl, fun w' h => by clear h; go_simp⟩) hH ?_
  simp only [Act.put, List.setIfInBounds_toArray, List.set_cons_zero, List.set_cons_succ]
  refine wpAnyH_take (i := 9) (oi := ⟨_, _, _, _, _, _⟩) (v := .slice a2 nt cap2) rfl (by kernel_rfl) (by kernel_rfl) (by kernel_rfl) (fun _ _ _ h => h) (Or.inl ⟨by rfl, fun w' h => by obtain ⟨p0, p1, p2, p3, p4, p5, p6⟩ := HQC.out w' h; clear h; go_simp⟩) hH ?_
  simp only [Act.put, List.setIfInBounds_toArray, List.set_cons_zero, List.set_cons_succ]
  refine wpAnyH_take (i := 10) (oi := ⟨_, _, _, _, _, _⟩) (v := .int .i64 (nt : Int)) rfl (by kernel_rfl) (by kernel_rfl) (by kernel_rfl) (fun _ _ _ h => h) (Or.inl ⟨by rfl, fun w' h => by clear h; go_simp⟩) hH ?_
  simp only [Act.put, List.setIfInBounds_toArray, List.set_cons_zero, List.set_cons_succ]
  refine wpAnyH_ready (rs := [2]) (by kernel_rfl) (by simp) ?_
  refine (AllReadyH.cons (o := ⟨_, _, _, _, _, _⟩) rfl (fun K hK => ?_) AllReadyH.nil)
  go_simp
  refine (HVA.out _ hH).mono ?_
  rintro e V1 ⟨rfl, hb⟩
  have hH := hH.trans (hb.mono hH.size)
  clear hb
  refine hK.out _ _ hH (fun hH => ?_)
  clear hK
  try simp only [Act.put, List.setIfInBounds_toArray, List.set_cons_zero, List.set_cons_succ]
  refine wpAnyH_ready (rs := [3, 7]) (by kernel_rfl) (by simp) ?_
  refine (AllReadyH.cons (o := ⟨_, _, _, _, _, _⟩) rfl (fun K hK => ?_) (AllReadyH.cons (o := ⟨_, _, _, _, _, _⟩) rfl (fun K hK => ?_) AllReadyH.nil))
  · have hmk := mk_bools9 nv HNV.out V1
    go_simp
    clear hmk
    have HM := hm7 (made9 nv HNV.out W1.heap.size V1 hH.size)
    have HMB := hm7 (below1 V1 (.cells (Array.replicate nv (Value.bool false)) 4))
    have hH := balloc (o := .cells (Array.replicate nv (Value.bool false)) 4) hH
    refine hK.out _ _ hH (fun hH => ?_)
    clear hK
    try simp only [Act.put, List.setIfInBounds_toArray, List.set_cons_zero, List.set_cons_succ]
    revert hH HM HMB
    generalize V1.alloc (.cells (Array.replicate nv (Value.bool false)) 4) = V2
    obtain ⟨mb, hmb⟩ : ∃ mb, V1.heap.size = mb := ⟨_, rfl⟩
    intro HM HMB hH
    rw [hmb] at HM ⊢
    refine wpAnyH_ready (rs := [7]) (by kernel_rfl) (by simp) ?_
    refine (AllReadyH.cons (o := ⟨_, _, _, _, _, _⟩) rfl (fun K hK => ?_) AllReadyH.nil)
    go_simp
    refine (below9_any nb V2 (by have := HBL.out; omega)).mono ?_
    rintro e V3 ⟨v1, rfl, ho, hb⟩
    have hzz := hH.size
    have HM := hm7 (row7_below HM.out hb)
    have HA := hm7 (OwI.mono ho hzz)
    have hH := hH.trans (hb.mono hH.size)
    clear ho hb hzz
    refine hK.out _ _ hH (fun hH => ?_)
    clear hK
    try simp only [Act.put, List.setIfInBounds_toArray, List.set_cons_zero, List.set_cons_succ]
    refine wpAnyH_ready (rs := [11]) (by kernel_rfl) (by simp) ?_
    refine (AllReadyH.cons (o := ⟨_, _, _, _, _, _⟩) rfl (fun K hK => ?_) AllReadyH.nil)
    go_simp
    refine (below9_any nt V3 (by have := HTL.out; omega)).mono ?_
    rintro e V4 ⟨v2, rfl, ho, hb⟩
    have hzz := hH.size
    have HNE : Hid (∀ x, v1.ownBlock = some x → v2.ownBlock ≠ some x) := fun x h1 h2 => by have h3 := (World.ownsRow.lt HA.out x h1).2; have h4 := (World.ownsRow.lt ho x h2).1; omega
    have HM := hm7 (row7_below HM.out hb)
    have HA := hm7 (row7_below HA.out hb)
    have HT := hm7 (OwI.mono ho hzz)
    have hH := hH.trans (hb.mono hH.size)
    clear ho hb hzz
    refine hK.out _ _ hH (fun hH => ?_)
    clear hK
    try simp only [Act.put, List.setIfInBounds_toArray, List.set_cons_zero, List.set_cons_succ]
    obtain ⟨va, vc, hv1, -⟩ := row7_form HA.out
    obtain ⟨vn, hvn⟩ : ∃ vn, (up9 nb).length = vn := ⟨_, rfl⟩
    rw [hvn] at hv1
    clear hvn
    subst hv1
    obtain ⟨ta, tc, hv2, -⟩ := row7_form HT.out
    obtain ⟨tn, htn⟩ : ∃ tn, (up9 nt).length = tn := ⟨_, rfl⟩
    rw [htn] at hv2
    clear htn
    subst hv2
    try simp only [Act.put, List.setIfInBounds_toArray, List.set_cons_zero, List.set_cons_succ]
    refine wpAnyH_take (i := 12) (oi := ⟨_, _, _, _, _, _⟩) (v := .agg #[.int .i64 k, .int .i64 m, .string s, .string nm, .slice a hn cap, .slice a1 nb cap1, .slice a2 nt cap2, .slice (some ⟨mb, 0, none⟩) nv nv, .slice va vn vc, .slice ta tn tc]) rfl (by kernel_rfl) (by kernel_rfl) (by kernel_rfl) (fun _ _ _ h => h) (Or.inl ⟨by rfl, fun w' h => by clear h; go_simp⟩) hH ?_
    simp only [Act.put, List.setIfInBounds_toArray, List.set_cons_zero, List.set_cons_succ]
    refine wpAnyH_ready (rs := [13]) (by kernel_rfl) (by simp) ?_
    refine (AllReadyH.cons (o := ⟨_, _, _, _, _, _⟩) rfl (fun K hK => ?_) AllReadyH.nil)
    go_simp
    have hb := below1 V4 (.cells #[.int .i64 k, .int .i64 m, .string s, .string nm, .slice a hn cap, .slice a1 nb cap1, .slice a2 nt cap2, .slice (some ⟨mb, 0, none⟩) nv nv, .slice va vn vc, .slice ta tn tc] 80)
    have HG := hm7 (Bk.new V4 #[.int .i64 k, .int .i64 m, .string s, .string nm, .slice a hn cap, .slice a1 nb cap1, .slice a2 nt cap2, .slice (some ⟨mb, 0, none⟩) nv nv, .slice va vn vc, .slice ta tn tc] 80)
    have HM := hm7 (row7_below HM.out hb)
    have HA := hm7 (row7_below HA.out hb)
    have HT := hm7 (row7_below HT.out hb)
    have hzz := hH.size
    have hH := hH.trans (hb.mono hH.size)
    refine hK.out _ _ hH (fun hH => ?_)
    clear hK
    try simp only [Act.put, List.setIfInBounds_toArray, List.set_cons_zero, List.set_cons_succ]
    refine wpAnyH_take (i := 14) (oi := ⟨_, _, _, _, _, _⟩) (v := .pointer (some ⟨V4.heap.size, 0, none⟩)) rfl (by kernel_rfl) (by kernel_rfl) (by kernel_rfl) (fun _ _ _ h => h) (Or.inl ⟨by rfl, fun w' h => by clear h; go_simp⟩) hH ?_
    simp only [Act.put, List.setIfInBounds_toArray, List.set_cons_zero, List.set_cons_succ]
    refine wpAnyH_done (by kernel_rfl) ?_ _
    go_wp2
    go_ret
    have hw := HW1.out
    refine ⟨_, _, _, _, rfl, ⟨HG.out, row7_mono HM.out hw.size, OwI.mono HA.out hw.size, OwI.mono HT.out hw.size, HNE.out, HOK.out, HTP.out, ?_, hw.trans (hH.mono hw.size)⟩⟩
    have := hw.size
    omega
  · go_simp
    refine (below9_any nb V1 (by have := HBL.out; omega)).mono ?_
    rintro e V2 ⟨v1, rfl, ho, hb⟩
    have hzz := hH.size
    have HA := hm7 (OwI.mono ho hzz)
    have hH := hH.trans (hb.mono hH.size)
    clear ho hb hzz
    refine hK.out _ _ hH (fun hH => ?_)
    clear hK
    try simp only [Act.put, List.setIfInBounds_toArray, List.set_cons_zero, List.set_cons_succ]
    refine wpAnyH_ready (rs := [3, 11]) (by kernel_rfl) (by simp) ?_
    refine (AllReadyH.cons (o := ⟨_, _, _, _, _, _⟩) rfl (fun K hK => ?_) (AllReadyH.cons (o := ⟨_, _, _, _, _, _⟩) rfl (fun K hK => ?_) AllReadyH.nil))
    · have hmk := mk_bools9 nv HNV.out V2
      go_simp
      clear hmk
      have HM := hm7 (made9 nv HNV.out W1.heap.size V2 hH.size)
      have HMB := hm7 (below1 V2 (.cells (Array.replicate nv (Value.bool false)) 4))
      have hH := balloc (o := .cells (Array.replicate nv (Value.bool false)) 4) hH
      refine hK.out _ _ hH (fun hH => ?_)
      clear hK
      try simp only [Act.put, List.setIfInBounds_toArray, List.set_cons_zero, List.set_cons_succ]
      revert hH HM HMB
      generalize V2.alloc (.cells (Array.replicate nv (Value.bool false)) 4) = V3
      obtain ⟨mb, hmb⟩ : ∃ mb, V2.heap.size = mb := ⟨_, rfl⟩
      intro HM HMB hH
      rw [hmb] at HM ⊢
      have HA := hm7 (row7_below HA.out HMB.out)
      refine wpAnyH_ready (rs := [11]) (by kernel_rfl) (by simp) ?_
      refine (AllReadyH.cons (o := ⟨_, _, _, _, _, _⟩) rfl (fun K hK => ?_) AllReadyH.nil)
      go_simp
      refine (below9_any nt V3 (by have := HTL.out; omega)).mono ?_
      rintro e V4 ⟨v2, rfl, ho, hb⟩
      have hzz := hH.size
      have HNE : Hid (∀ x, v1.ownBlock = some x → v2.ownBlock ≠ some x) := fun x h1 h2 => by have h3 := (World.ownsRow.lt HA.out x h1).2; have h4 := (World.ownsRow.lt ho x h2).1; omega
      have HM := hm7 (row7_below HM.out hb)
      have HA := hm7 (row7_below HA.out hb)
      have HT := hm7 (OwI.mono ho hzz)
      have hH := hH.trans (hb.mono hH.size)
      clear ho hb hzz
      refine hK.out _ _ hH (fun hH => ?_)
      clear hK
      try simp only [Act.put, List.setIfInBounds_toArray, List.set_cons_zero, List.set_cons_succ]
      obtain ⟨va, vc, hv1, -⟩ := row7_form HA.out
      obtain ⟨vn, hvn⟩ : ∃ vn, (up9 nb).length = vn := ⟨_, rfl⟩
      rw [hvn] at hv1
      clear hvn
      subst hv1
      obtain ⟨ta, tc, hv2, -⟩ := row7_form HT.out
      obtain ⟨tn, htn⟩ : ∃ tn, (up9 nt).length = tn := ⟨_, rfl⟩
      rw [htn] at hv2
      clear htn
      subst hv2
      try simp only [Act.put, List.setIfInBounds_toArray, List.set_cons_zero, List.set_cons_succ]
      refine wpAnyH_take (i := 12) (oi := ⟨_, _, _, _, _, _⟩) (v := .agg #[.int .i64 k, .int .i64 m, .string s, .string nm, .slice a hn cap, .slice a1 nb cap1, .slice a2 nt cap2, .slice (some ⟨mb, 0, none⟩) nv nv, .slice va vn vc, .slice ta tn tc]) rfl (by kernel_rfl) (by kernel_rfl) (by kernel_rfl) (fun _ _ _ h => h) (Or.inl ⟨by rfl, fun w' h => by clear h; go_simp⟩) hH ?_
      simp only [Act.put, List.setIfInBounds_toArray, List.set_cons_zero, List.set_cons_succ]
      refine wpAnyH_ready (rs := [13]) (by kernel_rfl) (by simp) ?_
      refine (AllReadyH.cons (o := ⟨_, _, _, _, _, _⟩) rfl (fun K hK => ?_) AllReadyH.nil)
      go_simp
      have hb := below1 V4 (.cells #[.int .i64 k, .int .i64 m, .string s, .string nm, .slice a hn cap, .slice a1 nb cap1, .slice a2 nt cap2, .slice (some ⟨mb, 0, none⟩) nv nv, .slice va vn vc, .slice ta tn tc] 80)
      have HG := hm7 (Bk.new V4 #[.int .i64 k, .int .i64 m, .string s, .string nm, .slice a hn cap, .slice a1 nb cap1, .slice a2 nt cap2, .slice (some ⟨mb, 0, none⟩) nv nv, .slice va vn vc, .slice ta tn tc] 80)
      have HM := hm7 (row7_below HM.out hb)
      have HA := hm7 (row7_below HA.out hb)
      have HT := hm7 (row7_below HT.out hb)
      have hzz := hH.size
      have hH := hH.trans (hb.mono hH.size)
      refine hK.out _ _ hH (fun hH => ?_)
      clear hK
      try simp only [Act.put, List.setIfInBounds_toArray, List.set_cons_zero, List.set_cons_succ]
      refine wpAnyH_take (i := 14) (oi := ⟨_, _, _, _, _, _⟩) (v := .pointer (some ⟨V4.heap.size, 0, none⟩)) rfl (by kernel_rfl) (by kernel_rfl) (by kernel_rfl) (fun _ _ _ h => h) (Or.inl ⟨by rfl, fun w' h => by clear h; go_simp⟩) hH ?_
      simp only [Act.put, List.setIfInBounds_toArray, List.set_cons_zero, List.set_cons_succ]
      refine wpAnyH_done (by kernel_rfl) ?_ _
      go_wp2
      go_ret
      have hw := HW1.out
      refine ⟨_, _, _, _, rfl, ⟨HG.out, row7_mono HM.out hw.size, OwI.mono HA.out hw.size, OwI.mono HT.out hw.size, HNE.out, HOK.out, HTP.out, ?_, hw.trans (hH.mono hw.size)⟩⟩
      have := hw.size
      omega
    · go_simp
      refine (below9_any nt V2 (by have := HTL.out; omega)).mono ?_
      rintro e V3 ⟨v2, rfl, ho, hb⟩
      have hzz := hH.size
      have HNE : Hid (∀ x, v1.ownBlock = some x → v2.ownBlock ≠ some x) := fun x h1 h2 => by have h3 := (World.ownsRow.lt HA.out x h1).2; have h4 := (World.ownsRow.lt ho x h2).1; omega
      have HA := hm7 (row7_below HA.out hb)
      have HT := hm7 (OwI.mono ho hzz)
      have hH := hH.trans (hb.mono hH.size)
      clear ho hb hzz
      refine hK.out _ _ hH (fun hH => ?_)
      clear hK
      try simp only [Act.put, List.setIfInBounds_toArray, List.set_cons_zero, List.set_cons_succ]
      refine wpAnyH_ready (rs := [3]) (by kernel_rfl) (by simp) ?_
      refine (AllReadyH.cons (o := ⟨_, _, _, _, _, _⟩) rfl (fun K hK => ?_) AllReadyH.nil)
      have hmk := mk_bools9 nv HNV.out V3
      go_simp
      clear hmk
      have HM := hm7 (made9 nv HNV.out W1.heap.size V3 hH.size)
      have HMB := hm7 (below1 V3 (.cells (Array.replicate nv (Value.bool false)) 4))
      have hH := balloc (o := .cells (Array.replicate nv (Value.bool false)) 4) hH
      refine hK.out _ _ hH (fun hH => ?_)
      clear hK
      try simp only [Act.put, List.setIfInBounds_toArray, List.set_cons_zero, List.set_cons_succ]
      revert hH HM HMB
      generalize V3.alloc (.cells (Array.replicate nv (Value.bool false)) 4) = V4
      obtain ⟨mb, hmb⟩ : ∃ mb, V3.heap.size = mb := ⟨_, rfl⟩
      intro HM HMB hH
      rw [hmb] at HM ⊢
      have HA := hm7 (row7_below HA.out HMB.out)
      have HT := hm7 (row7_below HT.out HMB.out)
      obtain ⟨va, vc, hv1, -⟩ := row7_form HA.out
      obtain ⟨vn, hvn⟩ : ∃ vn, (up9 nb).length = vn := ⟨_, rfl⟩
      rw [hvn] at hv1
      clear hvn
      subst hv1
      obtain ⟨ta, tc, hv2, -⟩ := row7_form HT.out
      obtain ⟨tn, htn⟩ : ∃ tn, (up9 nt).length = tn := ⟨_, rfl⟩
      rw [htn] at hv2
      clear htn
      subst hv2
      try simp only [Act.put, List.setIfInBounds_toArray, List.set_cons_zero, List.set_cons_succ]
      refine wpAnyH_take (i := 12) (oi := ⟨_, _, _, _, _, _⟩) (v := .agg #[.int .i64 k, .int .i64 m, .string s, .string nm, .slice a hn cap, .slice a1 nb cap1, .slice a2 nt cap2, .slice (some ⟨mb, 0, none⟩) nv nv, .slice va vn vc, .slice ta tn tc]) rfl (by kernel_rfl) (by kernel_rfl) (by kernel_rfl) (fun _ _ _ h => h) (Or.inl ⟨by rfl, fun w' h => by clear h; go_simp⟩) hH ?_
      simp only [Act.put, List.setIfInBounds_toArray, List.set_cons_zero, List.set_cons_succ]
      refine wpAnyH_ready (rs := [13]) (by kernel_rfl) (by simp) ?_
      refine (AllReadyH.cons (o := ⟨_, _, _, _, _, _⟩) rfl (fun K hK => ?_) AllReadyH.nil)
      go_simp
      have hb := below1 V4 (.cells #[.int .i64 k, .int .i64 m, .string s, .string nm, .slice a hn cap, .slice a1 nb cap1, .slice a2 nt cap2, .slice (some ⟨mb, 0, none⟩) nv nv, .slice va vn vc, .slice ta tn tc] 80)
      have HG := hm7 (Bk.new V4 #[.int .i64 k, .int .i64 m, .string s, .string nm, .slice a hn cap, .slice a1 nb cap1, .slice a2 nt cap2, .slice (some ⟨mb, 0, none⟩) nv nv, .slice va vn vc, .slice ta tn tc] 80)
      have HM := hm7 (row7_below HM.out hb)
      have HA := hm7 (row7_below HA.out hb)
      have HT := hm7 (row7_below HT.out hb)
      have hzz := hH.size
      have hH := hH.trans (hb.mono hH.size)
      refine hK.out _ _ hH (fun hH => ?_)
      clear hK
      try simp only [Act.put, List.setIfInBounds_toArray, List.set_cons_zero, List.set_cons_succ]
      refine wpAnyH_take (i := 14) (oi := ⟨_, _, _, _, _, _⟩) (v := .pointer (some ⟨V4.heap.size, 0, none⟩)) rfl (by kernel_rfl) (by kernel_rfl) (by kernel_rfl) (fun _ _ _ h => h) (Or.inl ⟨by rfl, fun w' h => by clear h; go_simp⟩) hH ?_
      simp only [Act.put, List.setIfInBounds_toArray, List.set_cons_zero, List.set_cons_succ]
      refine wpAnyH_done (by kernel_rfl) ?_ _
      go_wp2
      go_ret
      have hw := HW1.out
      refine ⟨_, _, _, _, rfl, ⟨HG.out, row7_mono HM.out hw.size, OwI.mono HA.out hw.size, OwI.mono HT.out hw.size, HNE.out, HOK.out, HTP.out, ?_, hw.trans (hH.mono hw.size)⟩⟩
      have := hw.size
      omega
end Go.Proofs.YtgbiicmkhlnniaaGreatDoor
