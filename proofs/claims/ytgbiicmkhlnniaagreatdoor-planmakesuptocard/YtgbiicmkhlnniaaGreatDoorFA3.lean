import Derived.Test.YtgbiicmkhlnniaaGreatDoorFA1
import Derived.Test.YtgbiicmkhlnniaaGreatDoorCL12
/-
  plan: the planner in memory; known. (Written by FA2.py.)
-/
namespace Go.Proofs.YtgbiicmkhlnniaaGreatDoor
open Go.RowKit
attribute [local go_sem ↓] Go.wp_at_zero Go.wp_at_succ

/-- Is the term a constant, none, or a variable that was met? -/
def kn9 (met : List Bool) (t : Tm) : Bool := !t.var || met[t.n.toNat]?.getD false
/-- What is met, by numbers: a list of the call's own. -/
def OwB (w : World) (base : Nat) (v : Value) (l : List Bool) : Prop := w.ownsRow base 4 1 v l.length (l.map Value.bool)
/-- The variables of these terms are numbers below n. -/
def Vn9 (n : Nat) (l : List Tm) : Prop := ∀ t ∈ l, t.var = true → ∃ i : Nat, t.n = (i : Int) ∧ i < n
set_option maxRecDepth 20000 in
set_option maxHeartbeats 1000000 in
theorem known9_any (base g : Nat) (mv : Value) (met : List Bool) (t : Tm) (Y : World) (hg : g < Y.heap.size) (hc : Y.cell? ⟨g, 7, none⟩ = some mv) (hm : OwB Y base mv met) (hv : Vn9 met.length [t]) :
    Calls Tryz.prog 56 #[.pointer (some ⟨g, 0, none⟩), t.v] Y fun e Y' => e = .returned (.bool (kn9 met t)) ∧ Below Y.heap.size Y Y' := by
  obtain ⟨ma, mc, hmv, -⟩ := row7_form hm
  subst hmv
  have hv0 := hv t (List.mem_singleton.2 rfl)
  have HV0 : Hid (∀ X : World, Calls Tryz.prog 84 #[t.v] X fun e w' => e = .returned (.bool t.var) ∧ Below X.heap.size X w') := fun X => var_any t X
  obtain ⟨u, hu⟩ : ∃ u, t.var = u := ⟨_, rfl⟩
  rw [hu] at hv0
  have HK : Hid (kn9 met t = (!u || met[t.n.toNat]?.getD false)) := by show _ = _; unfold kn9; rw [hu]
  have HV1 : Hid (∀ X : World, Below Y.heap.size Y X → Calls Tryz.prog 84 #[t.v] X fun e w' => e = .returned (.bool u) ∧ Below X.heap.size X w') := fun X _ => by have := HV0.out X; rw [hu] at this; exact this
  clear HV0 hu hv
  obtain ⟨tk, tn, ts⟩ := t
  obtain ⟨Y0, hY0⟩ : ∃ Y0, Y.alloc (.cells #[.int .i64 tk, .int .i64 tn, .string ts] 23) = Y0 := ⟨_, rfl⟩
  have hb0 : Below Y.heap.size Y Y0 := by rw [← hY0]; exact below1 _ _
  have HBX : Hid (Bk Y0 Y.heap.size #[.int .i64 tk, .int .i64 tn, .string ts] 23) := by show Bk _ _ _ _; rw [← hY0]; exact Bk.new _ _ _
  have HB0 := hm7 hb0
  have HV2 : Hid (∀ X : World, Below Y0.heap.size Y0 X → Calls Tryz.prog 84 #[.agg #[.int .i64 tk, .int .i64 tn, .string ts]] X fun e w' => e = .returned (.bool u) ∧ Below X.heap.size X w') := fun X hX => HV1.out X (HB0.out.trans (hX.mono HB0.out.size))
  clear HV1
  have HV1 := HV2
  clear HV2
  simp only at hv0 HK
  cases u with
  | false =>
    have HBT : Hid (∀ X : World, Below Y0.heap.size Y0 X → X.cell? ⟨Y.heap.size, 0, none⟩ = some (.int .i64 tk) ∧ X.cell? ⟨Y.heap.size, 1, none⟩ = some (.int .i64 tn) ∧ X.cell? ⟨Y.heap.size, 2, none⟩ = some (.string ts)) := fun X hX => ⟨(HBX.out.below hX).cell rfl, (HBX.out.below hX).cell rfl, (HBX.out.below hX).cell rfl⟩
    clear hb0 hc hm hv0
    go_enter Tryz.func56, Tryz.ntmps56
    go_upto_region 1 with fail
    first | rw [hY0] | skip
    refine wp_region_held_drew (S := fun w' => Below Y0.heap.size Y0 w') (by kernel_rfl) (by exact (Below.refl _ _).drew) (fun hH => ?_)
    revert hH
    generalize Y0.drew = V
    intro hH
    refine wpAnyH_take (i := 0) (oi := ⟨_, _, _, _, _, _⟩) (v := .agg #[.int .i64 tk, .int .i64 tn, .string ts]) rfl (by kernel_rfl) (by kernel_rfl) (by kernel_rfl) (fun _ _ _ h => h) (Or.inl ⟨by rfl, fun w' h => by obtain ⟨o0, o1, o2⟩ := HBT.out w' h; clear h; go_simp⟩) hH ?_
    simp only [Act.put, List.setIfInBounds_toArray, List.set_cons_zero, List.set_cons_succ]
    refine wpAnyH_ready (rs := [1]) (by kernel_rfl) (by simp) ?_
    refine (AllReadyH.cons (o := ⟨_, _, _, _, _, _⟩) rfl (fun K hK => ?_) AllReadyH.nil)
    go_simp
    refine (HV1.out _ hH).mono ?_
    rintro e V1 ⟨rfl, hb⟩
    refine hK.out _ _ (hH.trans (hb.mono hH.size)) (fun hH => ?_)
    clear hK hb
    try simp only [Act.put, List.setIfInBounds_toArray, List.set_cons_zero, List.set_cons_succ]
    refine wpAnyH_take (i := 2) (oi := ⟨_, _, _, _, _, _⟩) (v := .bool true) rfl (by kernel_rfl) (by kernel_rfl) (by kernel_rfl) (fun _ _ _ h => h) (Or.inl ⟨by rfl, fun w' h => by clear h; go_simp⟩) hH ?_
    simp only [Act.put, List.setIfInBounds_toArray, List.set_cons_zero, List.set_cons_succ]
    refine wpAnyH_take (i := 3) (oi := ⟨_, _, _, _, _, _⟩) (v := .bool true) rfl (by kernel_rfl) (by kernel_rfl) (by kernel_rfl) (fun _ _ _ h => h) (Or.inl ⟨by rfl, fun w' h => by clear h; go_simp⟩) hH ?_
    simp only [Act.put, List.setIfInBounds_toArray, List.set_cons_zero, List.set_cons_succ]
    refine wpAnyH_take (i := 4) (oi := ⟨_, _, _, _, _, _⟩) (v := undef) rfl (by kernel_rfl) (by kernel_rfl) (by kernel_rfl) (fun _ _ _ h => h) (Or.inr ⟨by rfl, rfl⟩) hH ?_
    simp only [Act.put, List.setIfInBounds_toArray, List.set_cons_zero, List.set_cons_succ]
    refine wpAnyH_take (i := 5) (oi := ⟨_, _, _, _, _, _⟩) (v := undef) rfl (by kernel_rfl) (by kernel_rfl) (by kernel_rfl) (fun _ _ _ h => h) (Or.inr ⟨by rfl, rfl⟩) hH ?_
    simp only [Act.put, List.setIfInBounds_toArray, List.set_cons_zero, List.set_cons_succ]
    refine wpAnyH_take (i := 6) (oi := ⟨_, _, _, _, _, _⟩) (v := undef) rfl (by kernel_rfl) (by kernel_rfl) (by kernel_rfl) (fun _ _ _ h => h) (Or.inr ⟨by rfl, rfl⟩) hH ?_
    simp only [Act.put, List.setIfInBounds_toArray, List.set_cons_zero, List.set_cons_succ]
    refine wpAnyH_take (i := 7) (oi := ⟨_, _, _, _, _, _⟩) (v := undef) rfl (by kernel_rfl) (by kernel_rfl) (by kernel_rfl) (fun _ _ _ h => h) (Or.inr ⟨by rfl, rfl⟩) hH ?_
    simp only [Act.put, List.setIfInBounds_toArray, List.set_cons_zero, List.set_cons_succ]
    refine wpAnyH_take (i := 8) (oi := ⟨_, _, _, _, _, _⟩) (v := undef) rfl (by kernel_rfl) (by kernel_rfl) (by kernel_rfl) (fun _ _ _ h => h) (Or.inr ⟨by rfl, rfl⟩) hH ?_
    simp only [Act.put, List.setIfInBounds_toArray, List.set_cons_zero, List.set_cons_succ]
    refine wpAnyH_take (i := 9) (oi := ⟨_, _, _, _, _, _⟩) (v := undef) rfl (by kernel_rfl) (by kernel_rfl) (by kernel_rfl) (fun _ _ _ h => h) (Or.inr ⟨by rfl, rfl⟩) hH ?_
    simp only [Act.put, List.setIfInBounds_toArray, List.set_cons_zero, List.set_cons_succ]
    refine wpAnyH_take (i := 10) (oi := ⟨_, _, _, _, _, _⟩) (v := undef) rfl (by kernel_rfl) (by kernel_rfl) (by kernel_rfl) (fun _ _ _ h => h) (Or.inr ⟨by rfl, rfl⟩) hH ?_
    simp only [Act.put, List.setIfInBounds_toArray, List.set_cons_zero, List.set_cons_succ]
    refine wpAnyH_take (i := 11) (oi := ⟨_, _, _, _, _, _⟩) (v := undef) rfl (by kernel_rfl) (by kernel_rfl) (by kernel_rfl) (fun _ _ _ h => h) (Or.inr ⟨by rfl, rfl⟩) hH ?_
    simp only [Act.put, List.setIfInBounds_toArray, List.set_cons_zero, List.set_cons_succ]
    refine wpAnyH_take (i := 12) (oi := ⟨_, _, _, _, _, _⟩) (v := .bool true) rfl (by kernel_rfl) (by kernel_rfl) (by kernel_rfl) (fun _ _ _ h => h) (Or.inl ⟨by rfl, fun w' h => by clear h; go_simp⟩) hH ?_
    simp only [Act.put, List.setIfInBounds_toArray, List.set_cons_zero, List.set_cons_succ]
    refine wpAnyH_take (i := 13) (oi := ⟨_, _, _, _, _, _⟩) (v := .bool true) rfl (by kernel_rfl) (by kernel_rfl) (by kernel_rfl) (fun _ _ _ h => h) (Or.inl ⟨by rfl, fun w' h => by clear h; go_simp⟩) hH ?_
    simp only [Act.put, List.setIfInBounds_toArray, List.set_cons_zero, List.set_cons_succ]
    refine wpAnyH_done (by kernel_rfl) ?_ _
    have HV := hm7 hH
    clear hH
    go_wp2
    go_ret
    exact ⟨by rw [HK.out]; rfl, HB0.out.trans (HV.out.mono HB0.out.size)⟩
  | true =>
    obtain ⟨i, hi, hil⟩ := hv0 rfl
    subst hi
    obtain ⟨b, hb⟩ : ∃ b, met[i]? = some b := ⟨_, List.getElem?_eq_getElem hil⟩
    obtain ⟨mb, rfl, -, hmb, q0, -⟩ := row7_at hm (i := i) (u := .bool b) (by rw [List.getElem?_map, hb]; rfl)
    have HKB : Hid (kn9 met ⟨tk, (i : Int), ts⟩ = b) := by
      show _ = _
      rw [HK.out]
      simp [hb]
    obtain ⟨mn, hmn⟩ : ∃ mn, met.length = mn := ⟨_, rfl⟩
    rw [hmn] at hc hil
    have HCM : Hid (∀ X : World, Below Y0.heap.size Y0 X → X.cell? ⟨g, 7, none⟩ = some (.slice (some ⟨mb, 0, none⟩) mn mc)) := fun X hX => cell_step (HB0.out.trans (hX.mono HB0.out.size)) hg hc
    have HCB : Hid (∀ X : World, Below Y0.heap.size Y0 X → X.cell? ⟨mb, i, none⟩ = some (.bool b)) := fun X hX => cell_step (HB0.out.trans (hX.mono HB0.out.size)) hmb q0
    have HBT : Hid (∀ X : World, Below Y0.heap.size Y0 X → X.cell? ⟨Y.heap.size, 0, none⟩ = some (.int .i64 tk) ∧ X.cell? ⟨Y.heap.size, 1, none⟩ = some (.int .i64 (i : Int)) ∧ X.cell? ⟨Y.heap.size, 2, none⟩ = some (.string ts)) := fun X hX => ⟨(HBX.out.below hX).cell rfl, (HBX.out.below hX).cell rfl, (HBX.out.below hX).cell rfl⟩
    have i0 : (0 : Int) ≤ (i : Int) := by omega
    have i1 : (i : Int) < (mn : Int) := by omega
    clear hb0 hc hm hv0 hb q0 hmn HK
    go_enter Tryz.func56, Tryz.ntmps56
    go_upto_region 1 with fail
    first | rw [hY0] | skip
    refine wp_region_held_drew (S := fun w' => Below Y0.heap.size Y0 w') (by kernel_rfl) (by exact (Below.refl _ _).drew) (fun hH => ?_)
    revert hH
    generalize Y0.drew = V
    intro hH
    refine wpAnyH_take (i := 0) (oi := ⟨_, _, _, _, _, _⟩) (v := .agg #[.int .i64 tk, .int .i64 (i : Int), .string ts]) rfl (by kernel_rfl) (by kernel_rfl) (by kernel_rfl) (fun _ _ _ h => h) (Or.inl ⟨by rfl, fun w' h => by obtain ⟨o0, o1, o2⟩ := HBT.out w' h; clear h; go_simp⟩) hH ?_
    simp only [Act.put, List.setIfInBounds_toArray, List.set_cons_zero, List.set_cons_succ]
    refine wpAnyH_ready (rs := [1]) (by kernel_rfl) (by simp) ?_
    refine (AllReadyH.cons (o := ⟨_, _, _, _, _, _⟩) rfl (fun K hK => ?_) AllReadyH.nil)
    go_simp
    refine (HV1.out _ hH).mono ?_
    rintro e V1 ⟨rfl, hb⟩
    refine hK.out _ _ (hH.trans (hb.mono hH.size)) (fun hH => ?_)
    clear hK hb
    try simp only [Act.put, List.setIfInBounds_toArray, List.set_cons_zero, List.set_cons_succ]
    refine wpAnyH_take (i := 2) (oi := ⟨_, _, _, _, _, _⟩) (v := .bool false) rfl (by kernel_rfl) (by kernel_rfl) (by kernel_rfl) (fun _ _ _ h => h) (Or.inl ⟨by rfl, fun w' h => by clear h; go_simp⟩) hH ?_
    simp only [Act.put, List.setIfInBounds_toArray, List.set_cons_zero, List.set_cons_succ]
    refine wpAnyH_take (i := 3) (oi := ⟨_, _, _, _, _, _⟩) (v := .bool false) rfl (by kernel_rfl) (by kernel_rfl) (by kernel_rfl) (fun _ _ _ h => h) (Or.inl ⟨by rfl, fun w' h => by clear h; go_simp⟩) hH ?_
    simp only [Act.put, List.setIfInBounds_toArray, List.set_cons_zero, List.set_cons_succ]
    refine wpAnyH_take (i := 4) (oi := ⟨_, _, _, _, _, _⟩) (v := .pointer (some ⟨g, 0, none⟩)) rfl (by kernel_rfl) (by kernel_rfl) (by kernel_rfl) (fun _ _ _ h => h) (Or.inl ⟨by rfl, fun w' h => by clear h; go_simp⟩) hH ?_
    simp only [Act.put, List.setIfInBounds_toArray, List.set_cons_zero, List.set_cons_succ]
    refine wpAnyH_take (i := 5) (oi := ⟨_, _, _, _, _, _⟩) (v := .pointer (some ⟨g, 0, none⟩)) rfl (by kernel_rfl) (by kernel_rfl) (by kernel_rfl) (fun _ _ _ h => h) (Or.inl ⟨by rfl, fun w' h => by clear h; go_simp⟩) hH ?_
    simp only [Act.put, List.setIfInBounds_toArray, List.set_cons_zero, List.set_cons_succ]
    refine wpAnyH_take (i := 6) (oi := ⟨_, _, _, _, _, _⟩) (v := .pointer (some ⟨g, 7, none⟩)) rfl (by kernel_rfl) (by kernel_rfl) (by kernel_rfl) (fun _ _ _ h => h) (Or.inl ⟨by rfl, fun w' h => by clear h; go_simp⟩) hH ?_
    simp only [Act.put, List.setIfInBounds_toArray, List.set_cons_zero, List.set_cons_succ]
    refine wpAnyH_take (i := 7) (oi := ⟨_, _, _, _, _, _⟩) (v := .slice (some ⟨mb, 0, none⟩) mn mc) rfl (by kernel_rfl) (by kernel_rfl) (by kernel_rfl) (fun _ _ _ h => h) (Or.inl ⟨by rfl, fun w' h => by have o := HCM.out w' h; clear h; go_simp⟩) hH ?_
    simp only [Act.put, List.setIfInBounds_toArray, List.set_cons_zero, List.set_cons_succ]
    refine wpAnyH_take (i := 8) (oi := ⟨_, _, _, _, _, _⟩) (v := .pointer (some ⟨Y.heap.size, 1, none⟩)) rfl (by kernel_rfl) (by kernel_rfl) (by kernel_rfl) (fun _ _ _ h => h) (Or.inl ⟨by rfl, fun w' h => by clear h; go_simp⟩) hH ?_
    simp only [Act.put, List.setIfInBounds_toArray, List.set_cons_zero, List.set_cons_succ]
    refine wpAnyH_take (i := 9) (oi := ⟨_, _, _, _, _, _⟩) (v := .int .i64 (i : Int)) rfl (by kernel_rfl) (by kernel_rfl) (by kernel_rfl) (fun _ _ _ h => h) (Or.inl ⟨by rfl, fun w' h => by obtain ⟨o0, o1, o2⟩ := HBT.out w' h; clear h; go_simp⟩) hH ?_
    simp only [Act.put, List.setIfInBounds_toArray, List.set_cons_zero, List.set_cons_succ]
    refine wpAnyH_take (i := 10) (oi := ⟨_, _, _, _, _, _⟩) (v := .pointer (some ⟨mb, i, none⟩)) rfl (by kernel_rfl) (by kernel_rfl) (by kernel_rfl) (fun _ _ _ h => h) (Or.inl ⟨by rfl, fun w' h => by clear h; go_simp⟩) hH ?_
    simp only [Act.put, List.setIfInBounds_toArray, List.set_cons_zero, List.set_cons_succ]
    refine wpAnyH_take (i := 11) (oi := ⟨_, _, _, _, _, _⟩) (v := .bool b) rfl (by kernel_rfl) (by kernel_rfl) (by kernel_rfl) (fun _ _ _ h => h) (Or.inl ⟨by rfl, fun w' h => by have o := HCB.out w' h; clear h; go_simp⟩) hH ?_
    simp only [Act.put, List.setIfInBounds_toArray, List.set_cons_zero, List.set_cons_succ]
    refine wpAnyH_take (i := 12) (oi := ⟨_, _, _, _, _, _⟩) (v := .bool b) rfl (by kernel_rfl) (by kernel_rfl) (by kernel_rfl) (fun _ _ _ h => h) (Or.inl ⟨by rfl, fun w' h => by clear h; go_simp⟩) hH ?_
    simp only [Act.put, List.setIfInBounds_toArray, List.set_cons_zero, List.set_cons_succ]
    refine wpAnyH_take (i := 13) (oi := ⟨_, _, _, _, _, _⟩) (v := .bool b) rfl (by kernel_rfl) (by kernel_rfl) (by kernel_rfl) (fun _ _ _ h => h) (Or.inl ⟨by rfl, fun w' h => by clear h; go_simp⟩) hH ?_
    simp only [Act.put, List.setIfInBounds_toArray, List.set_cons_zero, List.set_cons_succ]
    refine wpAnyH_done (by kernel_rfl) ?_ _
    have HV := hm7 hH
    clear hH
    go_wp2
    go_ret
    exact ⟨by rw [HKB.out]; rfl, HB0.out.trans (HV.out.mono HB0.out.size)⟩
end Go.Proofs.YtgbiicmkhlnniaaGreatDoor
/-
  plan: the planner in memory; knownColumns.
-/
namespace Go.Proofs.YtgbiicmkhlnniaaGreatDoor
open Go.RowKit
attribute [local go_sem ↓] Go.wp_at_zero Go.wp_at_succ

theorem As.get9 {w : World} {la : Option Addr} {l : List (At × Value)} {n cap k : Nat} {x : At × Value} (h : As w (.slice la n cap) l) (hx : l[k]? = some x) :
    ∃ lb lo xa xc, la = some ⟨lb, lo, none⟩ ∧ x.2 = .slice xa x.1.args.length xc ∧ ∀ Y : World, Below w.heap.size w Y → Y.cell? ⟨lb, lo + k * 5, none⟩ = some (.int .i64 x.1.by_.k) ∧ Y.cell? ⟨lb, lo + k * 5 + 1, none⟩ = some (.int .i64 x.1.by_.n) ∧ Y.cell? ⟨lb, lo + k * 5 + 2, none⟩ = some (.string x.1.by_.s) ∧ Y.cell? ⟨lb, lo + k * 5 + 3, none⟩ = some (.string x.1.name) ∧ Y.cell? ⟨lb, lo + k * 5 + 4, none⟩ = some x.2 := by
  obtain ⟨a, c, e, -, hr, ht⟩ := h
  cases e
  rcases hr with hr | ⟨lb, lo, rfl, hlr⟩
  · rw [hr] at hx; simp at hx
  obtain ⟨a0, a1, a2, a3, a4⟩ := (hlr.2 k x hx)
  obtain ⟨xa, xc, hsh, -⟩ := ht x (List.mem_of_getElem? hx)
  exact ⟨lb, lo, xa, xc, rfl, hsh, fun Y hY => ⟨cell_step hY hlr.1 a0, cell_step hY hlr.1 a1, cell_step hY hlr.1 a2, cell_step hY hlr.1 a3, cell_step hY hlr.1 a4⟩⟩
/-- A planner in block g, for the clause c that lies below w0's end. -/
structure PN9 (w0 : World) (g : Nat) (c : Cm) (mv av tv : Value) (met : List Bool) (A T : List Int) (Y : World) : Prop where
  b : Bk Y g #[.int .i64 c.head.1.by_.k, .int .i64 c.head.1.by_.n, .string c.head.1.by_.s, .string c.head.1.name, c.head.2, c.bv, c.tv, mv, av, tv] 80
  m : OwB Y w0.heap.size mv met
  a : OwI Y w0.heap.size av A
  t : OwI Y w0.heap.size tv T
  ne : ∀ x, av.ownBlock = some x → tv.ownBlock ≠ some x
  ok : c.ok w0
  tp : ∀ x ∈ c.body, TsP w0 x.2 x.1.args ∧ x.1.args.length ≤ 1000000
  lo : w0.heap.size ≤ g
  be : Below w0.heap.size w0 Y
theorem PN9.below {w0 : World} {g : Nat} {c : Cm} {mv av tv : Value} {met : List Bool} {A T : List Int} {Y Y' : World} (h : PN9 w0 g c mv av tv met A T Y) (hb : Below Y.heap.size Y Y') : PN9 w0 g c mv av tv met A T Y' :=
  ⟨h.b.below hb, row7_below h.m hb, row7_below h.a hb, row7_below h.t hb, h.ne, h.ok, h.tp, h.lo, h.be.trans (hb.mono h.be.size)⟩
/-- The columns below j that are known. -/
def kc9 (met : List Bool) (l : List Tm) : Nat → List Int
  | 0 => []
  | j + 1 => kc9 met l j ++ if (l[j]?.map (kn9 met)).getD false = true then [(j : Int)] else []
theorem kc9_len (met : List Bool) (l : List Tm) (j : Nat) : (kc9 met l j).length ≤ j := by
  induction j with
  | zero => simp [kc9]
  | succ j ih => rw [kc9, List.length_append]; split <;> simp <;> omega
set_option maxRecDepth 20000 in
set_option maxHeartbeats 2000000 in
theorem kcols9_any (w0 : World) (g : Nat) (c : Cm) (mv av tv : Value) (met : List Bool) (A T : List Int) (Y : World) (h : PN9 w0 g c mv av tv met A T Y) (n : Nat) (x : At × Value) (hx : c.body[n]? = some x) (hv : Vn9 met.length x.1.pl) :
    Calls Tryz.prog 57 #[.pointer (some ⟨g, 0, none⟩), .int .i64 (n : Int)] Y fun e Y' => ∃ v, e = .returned v ∧ OwI Y' Y.heap.size v (kc9 met x.1.pl x.1.pl.length) ∧ Below Y.heap.size Y Y' := by
  have H := hm7 h
  have HV := hm7 hv
  have hbs : As Y c.bv c.body := (h.ok.later h.be).b
  obtain ⟨tp, hal⟩ := h.tp x (List.mem_of_getElem? hx)
  have HCO := hm7 (columns9_any x.1 x.2 Y (tp.later h.be) (by omega))
  obtain ⟨ba, bc, hbv, hbl, -⟩ := hbs
  have hbs : As Y c.bv c.body := (h.ok.later h.be).b
  rw [hbv] at hbs
  obtain ⟨bb, bo, ax, cx, hba, hax, hcs⟩ := As.get9 hbs hx
  subst hba
  obtain ⟨e0, e1, e2, e3, e4⟩ := hcs Y (Below.refl _ _)
  have c5 := h.b.cell (i := 5) rfl
  rw [hbv] at c5
  have hnl : n < c.body.length := (List.getElem?_eq_some_iff.1 hx).1
  obtain ⟨bn, hbn⟩ : ∃ bn, c.body.length = bn := ⟨_, rfl⟩
  rw [hbn] at c5 hnl
  have n0 : (0 : Int) ≤ (n : Int) := by omega
  have n1 : (n : Int) < (bn : Int) := by omega
  obtain ⟨⟨⟨kx, mx, sx⟩, nx, lx⟩, vx⟩ := x
  simp only at hax e0 e1 e2 e3 e4 HCO HV hal ⊢
  subst hax
  have HCC : Hid (Calls Tryz.prog 90 #[.agg #[.int .i64 kx, .int .i64 mx, .string sx, .string nx, .slice ax lx.length cx]] Y fun e Y' => ∃ v, e = .returned v ∧ OwnT Y' Y.heap.size v (At.mk ⟨kx, mx, sx⟩ nx lx).pl ∧ Below Y.heap.size Y Y') := HCO.out
  obtain ⟨P, hP⟩ : ∃ P, (At.mk ⟨kx, mx, sx⟩ nx lx).pl = P := ⟨_, rfl⟩
  rw [hP] at HCC HV ⊢
  have hPl : P.length ≤ 1000001 := by rw [← hP]; simp [At.pl]; omega
  clear h hv hbs tp hbv hbl hcs HCO hP hal hx hbn
  go_enter Tryz.func57, Tryz.ntmps57
  go_upto_region 3 with (go_at_call 90; refine HCC.out.mono ?_; rintro e W1 ⟨pv, rfl, ho, hb⟩; have HP1 := hm7 ho; have HB1 := hm7 hb; have hz1 := hb.size; obtain ⟨pa, pc, hpv⟩ : ∃ a c, pv = .slice a P.length c := by {obtain ⟨a, c, e, -⟩ := row7_form ho; exact ⟨a, c, e⟩}; subst hpv; clear ho hb e0 e1 e2 e3 e4 c5 HCC)
  go_loopg [18, 5, 6, 7] P.length (fun gg i v _ _ wr => ∃ j : Nat, j + gg = P.length ∧ i = .int .i64 j ∧ OwI wr W1.heap.size v (kc9 met P j) ∧ Below W1.heap.size W1 wr)
  case atStart => exact ⟨0, by omega, rfl, OwI.nil _ _, Below.refl _ _⟩
  case round =>
    obtain ⟨j, hj, rfl, ho, hb⟩ := hrel
    have HO := hm7 ho
    have HB := hm7 hb
    cases gk with
    | succ gg =>
      have hlt : (j : Int) < (P.length : Int) := by omega
      have j0 : (0 : Int) ≤ (j : Int) := by omega
      obtain ⟨t, ht⟩ : ∃ t, P[j]? = some t := ⟨_, List.getElem?_eq_getElem (by omega)⟩
      have HKC : Hid (kc9 met P (j + 1) = kc9 met P j ++ if kn9 met t = true then [(j : Int)] else []) := by show _ = _; rw [kc9, ht]; rfl
      have HKN : Hid (∀ X : World, Below W1.heap.size W1 X → Calls Tryz.prog 56 #[.pointer (some ⟨g, 0, none⟩), t.v] X fun e Y' => e = .returned (.bool (kn9 met t)) ∧ Below X.heap.size X Y') := fun X hX => by
        have HX := (H.out.below HB1.out).below hX
        exact known9_any w0.heap.size g mv met t X HX.b.lt (HX.b.cell (i := 7) rfl) HX.m fun s hs hvs => by
          rw [List.mem_singleton.1 hs] at hvs ⊢
          exact HV.out t (List.mem_of_getElem? ht) hvs
      rcases HP1.out.2 with ⟨e, -⟩ | ⟨pb, pc', cur, hv1, hpb, hpg, -⟩
      · simp only [Value.slice.injEq] at e
        omega
      cases hv1
      obtain ⟨c0, c1, c2⟩ := ownT_cells HP1.out j t ht
      have hpl := (Array.getElem?_eq_some_iff.1 hpg).1
      have d0 := cell_step hb hpl c0
      have d1 := cell_step hb hpl c1
      have d2 := cell_step hb hpl c2
      obtain ⟨va, vc, hvf, -⟩ := row7_form ho
      obtain ⟨m, hm⟩ : ∃ m, (kc9 met P j).length = m := ⟨_, rfl⟩
      have hml : m ≤ j := by rw [← hm]; exact kc9_len _ _ _
      rw [hm] at hvf
      subst hvf
      have HO1 : Hid (wr.ownsRow W1.heap.size 3 1 (.slice va m vc) m (ibs7 (kc9 met P j))) := by have := HO.out; unfold OwI at this; rw [hm] at this; exact this
      have HM := hm7 hm
      have hz := hb.size
      obtain ⟨kk, hkk⟩ : ∃ kk, kn9 met t = kk := ⟨_, rfl⟩
      rw [hkk] at HKC HKN
      obtain ⟨tk, tn, ts⟩ := t
      simp only at d0 d1 d2
      clear ho hb ht c0 c1 c2 hpg hm hkk
      have HBA : ∀ o : Obj, Hid (Below W1.heap.size W1 (wr.alloc o)) := fun o => HB.out.trans ((below1 wr o).mono HB.out.size)
      cases kk with
      | true =>
        go_wp2_with (first
          | (go_at_call 56; refine (HKN.out _ (HBA _).out).mono ?_; rintro e w2 ⟨rfl, hb2⟩; have HB2 := hm7 hb2; have hz2 := hb2.size; clear hb2 d0 d1 d2)
          | (at_builtin; refine gapp Tryz.underlying32 Tryz.infoInt7 rfl (by omega) rfl _ _ rfl W1.heap.size (.slice va m vc) m (ibs7 (kc9 met P j)) rfl (row7_below (row7_below (row7_below HO1.out (below1 _ _)) HB2.out) (below1 _ _)) w2.heap.size (.int .i64 (j : Int)) rfl (Bk.new _ _ _) rfl (by omega) (by simp at hz2 ⊢; omega) ?_; intro g3 q3 w3 ho3 hg3 hv3 hl3; have HO3 := hm7 ho3; have HB3 := hm7 ((((HBA _).out.trans (HB2.out.mono (HBA _).out.size)).trans ((below1 _ _).mono ((HBA _).out.trans (HB2.out.mono (HBA _).out.size)).size)).trans (Fr.low (Fr.grown hg3 fun b hb => (World.ownsRow.lt HO1.out b hb).1) (by simp at hz2 ⊢; omega))); clear ho3 hg3 hv3 hl3))
        go_roundg gg
        case measure => omega
        case rel => exact ⟨j + 1, by omega, by go_num, by rw [HKC.out]; exact OwI.snoc9 HM.out.symm HO3.out, HB3.out⟩
      | false =>
        go_wp2_with (go_at_call 56; refine (HKN.out _ (HBA _).out).mono ?_; rintro e w2 ⟨rfl, hb2⟩; have HB2 := hm7 hb2; clear hb2 d0 d1 d2)
        go_roundg gg
        case measure => omega
        case rel => exact ⟨j + 1, by omega, by go_num, by rw [HKC.out, if_neg (by simp), List.append_nil]; exact row7_below (row7_below HO.out (below1 _ _)) HB2.out, (HBA _).out.trans (HB2.out.mono (HBA _).out.size)⟩
    | zero =>
      have hlt : ¬ (j : Int) < (P.length : Int) := by omega
      obtain rfl : j = P.length := by omega
      clear ho hb
      go_wp2
      go_ret
      exact ⟨_, rfl, HO.out.mono hz1, HB1.out.trans (HB.out.mono hz1)⟩
end Go.Proofs.YtgbiicmkhlnniaaGreatDoor
