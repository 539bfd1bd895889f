/-
  plan: best's comparison. (Written by FA8.py.)
-/
import Derived.Test.YtgbiicmkhlnniaaGreatDoorFA7
import Derived.Test.YtgbiicmkhlnniaaGreatDoorCL8
namespace Go.Proofs.YtgbiicmkhlnniaaGreatDoor
open Go.RowKit
attribute [local go_sem ↓] Go.wp_at_zero Go.wp_at_succ

/-- How many columns of the atom number i are known. -/
def kl9 (c : Cm) (met : List Bool) (i : Nat) : Nat := match c.body[i]? with
  | some x => (kc9 met x.1.pl x.1.pl.length).length
  | none => 0
def al9 (c : Cm) (i : Nat) : Nat := match c.body[i]? with
  | some x => x.1.args.length
  | none => 0
/-- best's order. -/
def bc9 (c : Cm) (met : List Bool) (i k : Nat) : Int := or7 [sg7 (kl9 c met k) (kl9 c met i), sg7 (al9 c i) (al9 c k), sg7 i k]
/-- These are numbers of the body's atoms, whose variables are below n. -/
def Bd9 (c : Cm) (n : Nat) (A : List Int) : Prop := ∀ m ∈ A, ∃ (i : Nat) (x : At × Value), m = (i : Int) ∧ c.body[i]? = some x ∧ Vn9 n x.1.pl
set_option maxRecDepth 20000 in
set_option maxHeartbeats 4000000 in
theorem bcmp9_any (w0 : World) (g : Nat) (c : Cm) (mv av tv : Value) (met : List Bool) (A T : List Int) (Y : World) (h : PN9 w0 g c mv av tv met A T Y) (s : Nat) (hs : s < Y.heap.size) (hsc : Y.cell? ⟨s, 0, none⟩ = some (.pointer (some ⟨g, 0, none⟩))) (i k : Nat) (x y : At × Value) (hx : c.body[i]? = some x) (hy : c.body[k]? = some y) (hvx : Vn9 met.length x.1.pl) (hvy : Vn9 met.length y.1.pl) :
    Calls Tryz.prog 62 #[.int .i64 (i : Int), .int .i64 (k : Int), .pointer (some ⟨s, 0, none⟩)] Y fun e Y' => e = .returned (.int .i64 (bc9 c met i k)) ∧ Below Y.heap.size Y Y' := by
  have H := hm7 h
  have HCS : Hid (∀ w' : World, Below Y.heap.size Y w' → w'.cell? ⟨s, 0, none⟩ = some (.pointer (some ⟨g, 0, none⟩))) := fun w' hw => cell_step hw hs hsc
  have HKx : Hid (∀ w' : World, Below Y.heap.size Y w' → Calls Tryz.prog 57 #[.pointer (some ⟨g, 0, none⟩), .int .i64 (i : Int)] w' fun e Y' => ∃ v, e = .returned v ∧ OwI Y' w'.heap.size v (kc9 met x.1.pl x.1.pl.length) ∧ Below w'.heap.size w' Y') := fun w' hw => kcols9_any w0 g c mv av tv met A T w' (H.out.below hw) i x hx hvx
  have HKy : Hid (∀ w' : World, Below Y.heap.size Y w' → Calls Tryz.prog 57 #[.pointer (some ⟨g, 0, none⟩), .int .i64 (k : Int)] w' fun e Y' => ∃ v, e = .returned v ∧ OwI Y' w'.heap.size v (kc9 met y.1.pl y.1.pl.length) ∧ Below w'.heap.size w' Y') := fun w' hw => kcols9_any w0 g c mv av tv met A T w' (H.out.below hw) k y hy hvy
  have hbs : As w0 c.bv c.body := h.ok.b
  have hbf : ∃ ba bc, c.bv = .slice ba c.body.length bc := by obtain ⟨ba, bc, e, -⟩ := hbs; exact ⟨ba, bc, e⟩
  obtain ⟨za, zc, hbv⟩ := hbf
  rw [hbv] at hbs
  obtain ⟨bb, bo, ax, cx, hba, hax, hcx⟩ := As.get9 hbs hx
  obtain ⟨bb', bo', ay, cy, hba', hay, hcy⟩ := As.get9 hbs hy
  rw [hba] at hba'
  obtain ⟨rfl, rfl⟩ : bb = bb' ∧ bo = bo' := by simpa using hba'
  subst hba
  obtain ⟨n1, hn1⟩ : ∃ n1, (kc9 met x.1.pl x.1.pl.length).length = n1 := ⟨_, rfl⟩
  obtain ⟨n2, hn2⟩ : ∃ n2, (kc9 met y.1.pl y.1.pl.length).length = n2 := ⟨_, rfl⟩
  obtain ⟨lx, hlx⟩ : ∃ lx, x.1.args.length = lx := ⟨_, rfl⟩
  obtain ⟨ly, hly⟩ : ∃ ly, y.1.args.length = ly := ⟨_, rfl⟩
  have HLx := hm7 hn1
  have HLy := hm7 hn2
  have HAX : Hid (∀ w' : World, Below Y.heap.size Y w' → w'.cell? ⟨bb, bo + i * 5 + 4, none⟩ = some (.slice ax lx cx)) := fun w' hw => by rw [← hlx, ← hax]; exact (hcx w' (H.out.be.trans (hw.mono H.out.be.size))).2.2.2.2
  have HAY : Hid (∀ w' : World, Below Y.heap.size Y w' → w'.cell? ⟨bb, bo + k * 5 + 4, none⟩ = some (.slice ay ly cy)) := fun w' hw => by rw [← hly, ← hay]; exact (hcy w' (H.out.be.trans (hw.mono H.out.be.size))).2.2.2.2
  obtain ⟨bn, hbn⟩ : ∃ bn, c.body.length = bn := ⟨_, rfl⟩
  have HC5 : Hid (∀ w' : World, Below Y.heap.size Y w' → w'.cell? ⟨g, 5, none⟩ = some (.slice (some ⟨bb, bo, none⟩) bn zc)) := fun w' hw => by
    have := (H.out.below hw).b.cell (i := 5) rfl
    rw [this]
    show some c.bv = _
    rw [hbv, hbn]
  have hi1 : (i : Int) < (bn : Int) := by have := (List.getElem?_eq_some_iff.1 hx).1; omega
  have hk1 : (k : Int) < (bn : Int) := by have := (List.getElem?_eq_some_iff.1 hy).1; omega
  have hi0 : (0 : Int) ≤ (i : Int) := by omega
  have hk0 : (0 : Int) ≤ (k : Int) := by omega
  have hbc : bc9 c met i k = or7 [sg7 (n2 : Int) (n1 : Int), sg7 (lx : Int) (ly : Int), sg7 (i : Int) (k : Int)] := by unfold bc9 kl9 al9; rw [hx, hy]; simp only [hn1, hn2, hlx, hly]
  obtain ⟨x1, hx1⟩ : ∃ x1, sg7 (n2 : Int) (n1 : Int) = x1 := ⟨_, rfl⟩
  obtain ⟨x2, hx2⟩ : ∃ x2, sg7 (lx : Int) (ly : Int) = x2 := ⟨_, rfl⟩
  obtain ⟨x3, hx3⟩ : ∃ x3, sg7 (i : Int) (k : Int) = x3 := ⟨_, rfl⟩
  have HC1 : Hid (∀ X : World, Calls Tryz.prog 64 #[.int .i64 (n2 : Int), .int .i64 (n1 : Int)] X fun e w' => e = .returned (.int .i64 x1) ∧ w' = X) := fun X => by rw [← hx1]; exact cmpI7_any _ _ _
  have HC2 : Hid (∀ X : World, Calls Tryz.prog 64 #[.int .i64 (lx : Int), .int .i64 (ly : Int)] X fun e w' => e = .returned (.int .i64 x2) ∧ w' = X) := fun X => by rw [← hx2]; exact cmpI7_any _ _ _
  have HC3 : Hid (∀ X : World, Calls Tryz.prog 64 #[.int .i64 (i : Int), .int .i64 (k : Int)] X fun e w' => e = .returned (.int .i64 x3) ∧ w' = X) := fun X => by rw [← hx3]; exact cmpI7_any _ _ _
  have HW : Hid (w64 [x1, x2, x3]) := by
    intro z hz
    simp at hz
    rcases hz with rfl | rfl | rfl
    · rw [← hx1]; exact sg7_wf _ _
    · rw [← hx2]; exact sg7_wf _ _
    · rw [← hx3]; exact sg7_wf _ _
  rw [hx1, hx2, hx3] at hbc
  have HX : Hid (or7 [x1, x2, x3] = bc9 c met i k) := hbc.symm
  clear h hs hsc hx hy hvx hvy hbs hbv hax hay hcx hcy hba' hn1 hn2 hlx hly hbn hbc hx1 hx2 hx3
  go_enter Tryz.func62, Tryz.ntmps62
  go_upto_region 1 with fail
  refine wp_region_held_drew (S := fun w' => Below Y.heap.size Y w') (by kernel_rfl) (by exact (Below.refl _ _).drew) (fun hH => ?_)
  revert hH
  generalize Y.drew = V
  intro hH
  refine wpAnyH_take (i := 0) (oi := ⟨_, _, _, _, _, _⟩) (v := .pointer (some ⟨g, 0, none⟩)) rfl (by kernel_rfl) (by kernel_rfl) (by kernel_rfl) (fun _ _ _ h => h) (Or.inl ⟨by rfl, fun w' h => by have o := HCS.out w' h; clear h; go_simp⟩) hH ?_
  simp only [Act.put, List.setIfInBounds_toArray, List.set_cons_zero, List.set_cons_succ]
  refine wpAnyH_take (i := 1) (oi := ⟨_, _, _, _, _, _⟩) (v := .int .i64 (i : Int)) rfl (by kernel_rfl) (by kernel_rfl) (by kernel_rfl) (fun _ _ _ h => h) (Or.inl ⟨by rfl, fun w' h => by clear h; go_simp⟩) hH ?_
  simp only [Act.put, List.setIfInBounds_toArray, List.set_cons_zero, List.set_cons_succ]
  refine wpAnyH_take (i := 3) (oi := ⟨_, _, _, _, _, _⟩) (v := .pointer (some ⟨g, 0, none⟩)) rfl (by kernel_rfl) (by kernel_rfl) (by kernel_rfl) (fun _ _ _ h => h) (Or.inl ⟨by rfl, fun w' h => by have o := HCS.out w' h; clear h; go_simp⟩) hH ?_
  simp only [Act.put, List.setIfInBounds_toArray, List.set_cons_zero, List.set_cons_succ]
  refine wpAnyH_take (i := 4) (oi := ⟨_, _, _, _, _, _⟩) (v := .int .i64 (k : Int)) rfl (by kernel_rfl) (by kernel_rfl) (by kernel_rfl) (fun _ _ _ h => h) (Or.inl ⟨by rfl, fun w' h => by clear h; go_simp⟩) hH ?_
  simp only [Act.put, List.setIfInBounds_toArray, List.set_cons_zero, List.set_cons_succ]
  refine wpAnyH_ready (rs := [2]) (by kernel_rfl) (by simp) ?_
  refine (AllReadyH.cons (o := ⟨_, _, _, _, _, _⟩) rfl (fun K hK => ?_) AllReadyH.nil)
  go_simp
  refine (HKx.out _ hH).mono ?_
  rintro e Vx ⟨vx, rfl, ho, hb⟩
  obtain ⟨fa, fc, hf, -⟩ := row7_form ho
  rw [HLx.out] at hf
  subst hf
  refine hK.out _ _ (hH.trans (hb.mono hH.size)) (fun hH => ?_)
  clear hK ho hb
  try simp only [Act.put, List.setIfInBounds_toArray, List.set_cons_zero, List.set_cons_succ]
  refine wpAnyH_ready (rs := [5]) (by kernel_rfl) (by simp) ?_
  refine (AllReadyH.cons (o := ⟨_, _, _, _, _, _⟩) rfl (fun K hK => ?_) AllReadyH.nil)
  go_simp
  refine (HKy.out _ hH).mono ?_
  rintro e Vy ⟨vy, rfl, ho, hb⟩
  obtain ⟨sa, sc, hs, -⟩ := row7_form ho
  rw [HLy.out] at hs
  subst hs
  refine hK.out _ _ (hH.trans (hb.mono hH.size)) (fun hH => ?_)
  clear hK ho hb
  try simp only [Act.put, List.setIfInBounds_toArray, List.set_cons_zero, List.set_cons_succ]
  refine wpAnyH_take (i := 6) (oi := ⟨_, _, _, _, _, _⟩) (v := .slice fa n1 fc) rfl (by kernel_rfl) (by kernel_rfl) (by kernel_rfl) (fun _ _ _ h => h) (Or.inl ⟨by rfl, fun w' h => by clear h; go_simp⟩) hH ?_
  simp only [Act.put, List.setIfInBounds_toArray, List.set_cons_zero, List.set_cons_succ]
  refine wpAnyH_take (i := 7) (oi := ⟨_, _, _, _, _, _⟩) (v := .slice sa n2 sc) rfl (by kernel_rfl) (by kernel_rfl) (by kernel_rfl) (fun _ _ _ h => h) (Or.inl ⟨by rfl, fun w' h => by clear h; go_simp⟩) hH ?_
  simp only [Act.put, List.setIfInBounds_toArray, List.set_cons_zero, List.set_cons_succ]
  refine wpAnyH_done (by kernel_rfl) ?_ _
  have HV := hm7 hH
  clear hH
  go_upto_region 2 with fail
  refine wp_region_held_drew (S := fun w' => Below Y.heap.size Y w') (by kernel_rfl) (by exact HV.out.drew) (fun hH => ?_)
  revert hH
  generalize Vy.drew = U
  intro hH
  refine wpAnyH_take (i := 0) (oi := ⟨_, _, _, _, _, _⟩) (v := .slice sa n2 sc) rfl (by kernel_rfl) (by kernel_rfl) (by kernel_rfl) (fun _ _ _ h => h) (Or.inl ⟨by rfl, fun w' h => by clear h; go_simp⟩) hH ?_
  simp only [Act.put, List.setIfInBounds_toArray, List.set_cons_zero, List.set_cons_succ]
  refine wpAnyH_take (i := 1) (oi := ⟨_, _, _, _, _, _⟩) (v := .int .i64 (n2 : Int)) rfl (by kernel_rfl) (by kernel_rfl) (by kernel_rfl) (fun _ _ _ h => h) (Or.inl ⟨by rfl, fun w' h => by clear h; go_simp⟩) hH ?_
  simp only [Act.put, List.setIfInBounds_toArray, List.set_cons_zero, List.set_cons_succ]
  refine wpAnyH_take (i := 2) (oi := ⟨_, _, _, _, _, _⟩) (v := .slice fa n1 fc) rfl (by kernel_rfl) (by kernel_rfl) (by kernel_rfl) (fun _ _ _ h => h) (Or.inl ⟨by rfl, fun w' h => by clear h; go_simp⟩) hH ?_
  simp only [Act.put, List.setIfInBounds_toArray, List.set_cons_zero, List.set_cons_succ]
  refine wpAnyH_take (i := 3) (oi := ⟨_, _, _, _, _, _⟩) (v := .int .i64 (n1 : Int)) rfl (by kernel_rfl) (by kernel_rfl) (by kernel_rfl) (fun _ _ _ h => h) (Or.inl ⟨by rfl, fun w' h => by clear h; go_simp⟩) hH ?_
  simp only [Act.put, List.setIfInBounds_toArray, List.set_cons_zero, List.set_cons_succ]
  refine wpAnyH_take (i := 5) (oi := ⟨_, _, _, _, _, _⟩) (v := .pointer (some ⟨g, 0, none⟩)) rfl (by kernel_rfl) (by kernel_rfl) (by kernel_rfl) (fun _ _ _ h => h) (Or.inl ⟨by rfl, fun w' h => by have o := HCS.out w' h; clear h; go_simp⟩) hH ?_
  simp only [Act.put, List.setIfInBounds_toArray, List.set_cons_zero, List.set_cons_succ]
  refine wpAnyH_take (i := 6) (oi := ⟨_, _, _, _, _, _⟩) (v := .pointer (some ⟨g, 0, none⟩)) rfl (by kernel_rfl) (by kernel_rfl) (by kernel_rfl) (fun _ _ _ h => h) (Or.inl ⟨by rfl, fun w' h => by clear h; go_simp⟩) hH ?_
  simp only [Act.put, List.setIfInBounds_toArray, List.set_cons_zero, List.set_cons_succ]
  refine wpAnyH_take (i := 7) (oi := ⟨_, _, _, _, _, _⟩) (v := .pointer (some ⟨g, 0, none⟩)) rfl (by kernel_rfl) (by kernel_rfl) (by kernel_rfl) (fun _ _ _ h => h) (Or.inl ⟨by rfl, fun w' h => by clear h; go_simp⟩) hH ?_
  simp only [Act.put, List.setIfInBounds_toArray, List.set_cons_zero, List.set_cons_succ]
  refine wpAnyH_take (i := 8) (oi := ⟨_, _, _, _, _, _⟩) (v := .pointer (some ⟨g, 5, none⟩)) rfl (by kernel_rfl) (by kernel_rfl) (by kernel_rfl) (fun _ _ _ h => h) (Or.inl ⟨by rfl, fun w' h => by clear h; go_simp⟩) hH ?_
  simp only [Act.put, List.setIfInBounds_toArray, List.set_cons_zero, List.set_cons_succ]
  refine wpAnyH_take (i := 9) (oi := ⟨_, _, _, _, _, _⟩) (v := .slice (some ⟨bb, bo, none⟩) bn zc) rfl (by kernel_rfl) (by kernel_rfl) (by kernel_rfl) (fun _ _ _ h => h) (Or.inl ⟨by rfl, fun w' h => by have o := HC5.out w' h; clear h; go_simp⟩) hH ?_
  simp only [Act.put, List.setIfInBounds_toArray, List.set_cons_zero, List.set_cons_succ]
  refine wpAnyH_take (i := 10) (oi := ⟨_, _, _, _, _, _⟩) (v := .int .i64 (i : Int)) rfl (by kernel_rfl) (by kernel_rfl) (by kernel_rfl) (fun _ _ _ h => h) (Or.inl ⟨by rfl, fun w' h => by clear h; go_simp⟩) hH ?_
  simp only [Act.put, List.setIfInBounds_toArray, List.set_cons_zero, List.set_cons_succ]
  refine wpAnyH_take (i := 11) (oi := ⟨_, _, _, _, _, _⟩) (v := .pointer (some ⟨bb, bo + i * 5, none⟩)) rfl (by kernel_rfl) (by kernel_rfl) (by kernel_rfl) (fun _ _ _ h => h) (Or.inl ⟨by rfl, fun w' h => by clear h; go_simp⟩) hH ?_
  simp only [Act.put, List.setIfInBounds_toArray, List.set_cons_zero, List.set_cons_succ]
  refine wpAnyH_take (i := 12) (oi := ⟨_, _, _, _, _, _⟩) (v := .pointer (some ⟨bb, bo + i * 5 + 4, none⟩)) rfl (by kernel_rfl) (by kernel_rfl) (by kernel_rfl) (fun _ _ _ h => h) (Or.inl ⟨by rfl, fun w' h => by clear h; go_simp⟩) hH ?_
  simp only [Act.put, List.setIfInBounds_toArray, List.set_cons_zero, List.set_cons_succ]
  refine wpAnyH_take (i := 13) (oi := ⟨_, _, _, _, _, _⟩) (v := .slice ax lx cx) rfl (by kernel_rfl) (by kernel_rfl) (by kernel_rfl) (fun _ _ _ h => h) (Or.inl ⟨by rfl, fun w' h => by have o := HAX.out w' h; clear h; go_simp⟩) hH ?_
  simp only [Act.put, List.setIfInBounds_toArray, List.set_cons_zero, List.set_cons_succ]
  refine wpAnyH_take (i := 14) (oi := ⟨_, _, _, _, _, _⟩) (v := .int .i64 (lx : Int)) rfl (by kernel_rfl) (by kernel_rfl) (by kernel_rfl) (fun _ _ _ h => h) (Or.inl ⟨by rfl, fun w' h => by clear h; go_simp⟩) hH ?_
  simp only [Act.put, List.setIfInBounds_toArray, List.set_cons_zero, List.set_cons_succ]
  refine wpAnyH_take (i := 15) (oi := ⟨_, _, _, _, _, _⟩) (v := .pointer (some ⟨g, 0, none⟩)) rfl (by kernel_rfl) (by kernel_rfl) (by kernel_rfl) (fun _ _ _ h => h) (Or.inl ⟨by rfl, fun w' h => by have o := HCS.out w' h; clear h; go_simp⟩) hH ?_
  simp only [Act.put, List.setIfInBounds_toArray, List.set_cons_zero, List.set_cons_succ]
  refine wpAnyH_take (i := 16) (oi := ⟨_, _, _, _, _, _⟩) (v := .pointer (some ⟨g, 0, none⟩)) rfl (by kernel_rfl) (by kernel_rfl) (by kernel_rfl) (fun _ _ _ h => h) (Or.inl ⟨by rfl, fun w' h => by clear h; go_simp⟩) hH ?_
  simp only [Act.put, List.setIfInBounds_toArray, List.set_cons_zero, List.set_cons_succ]
  refine wpAnyH_take (i := 17) (oi := ⟨_, _, _, _, _, _⟩) (v := .pointer (some ⟨g, 0, none⟩)) rfl (by kernel_rfl) (by kernel_rfl) (by kernel_rfl) (fun _ _ _ h => h) (Or.inl ⟨by rfl, fun w' h => by clear h; go_simp⟩) hH ?_
  simp only [Act.put, List.setIfInBounds_toArray, List.set_cons_zero, List.set_cons_succ]
  refine wpAnyH_take (i := 18) (oi := ⟨_, _, _, _, _, _⟩) (v := .pointer (some ⟨g, 5, none⟩)) rfl (by kernel_rfl) (by kernel_rfl) (by kernel_rfl) (fun _ _ _ h => h) (Or.inl ⟨by rfl, fun w' h => by clear h; go_simp⟩) hH ?_
  simp only [Act.put, List.setIfInBounds_toArray, List.set_cons_zero, List.set_cons_succ]
  refine wpAnyH_take (i := 19) (oi := ⟨_, _, _, _, _, _⟩) (v := .slice (some ⟨bb, bo, none⟩) bn zc) rfl (by kernel_rfl) (by kernel_rfl) (by kernel_rfl) (fun _ _ _ h => h) (Or.inl ⟨by rfl, fun w' h => by have o := HC5.out w' h; clear h; go_simp⟩) hH ?_
  simp only [Act.put, List.setIfInBounds_toArray, List.set_cons_zero, List.set_cons_succ]
  refine wpAnyH_take (i := 20) (oi := ⟨_, _, _, _, _, _⟩) (v := .int .i64 (k : Int)) rfl (by kernel_rfl) (by kernel_rfl) (by kernel_rfl) (fun _ _ _ h => h) (Or.inl ⟨by rfl, fun w' h => by clear h; go_simp⟩) hH ?_
  simp only [Act.put, List.setIfInBounds_toArray, List.set_cons_zero, List.set_cons_succ]
  refine wpAnyH_take (i := 21) (oi := ⟨_, _, _, _, _, _⟩) (v := .pointer (some ⟨bb, bo + k * 5, none⟩)) rfl (by kernel_rfl) (by kernel_rfl) (by kernel_rfl) (fun _ _ _ h => h) (Or.inl ⟨by rfl, fun w' h => by clear h; go_simp⟩) hH ?_
  simp only [Act.put, List.setIfInBounds_toArray, List.set_cons_zero, List.set_cons_succ]
  refine wpAnyH_take (i := 22) (oi := ⟨_, _, _, _, _, _⟩) (v := .pointer (some ⟨bb, bo + k * 5 + 4, none⟩)) rfl (by kernel_rfl) (by kernel_rfl) (by kernel_rfl) (fun _ _ _ h => h) (Or.inl ⟨by rfl, fun w' h => by clear h; go_simp⟩) hH ?_
  simp only [Act.put, List.setIfInBounds_toArray, List.set_cons_zero, List.set_cons_succ]
  refine wpAnyH_take (i := 23) (oi := ⟨_, _, _, _, _, _⟩) (v := .slice ay ly cy) rfl (by kernel_rfl) (by kernel_rfl) (by kernel_rfl) (fun _ _ _ h => h) (Or.inl ⟨by rfl, fun w' h => by have o := HAY.out w' h; clear h; go_simp⟩) hH ?_
  simp only [Act.put, List.setIfInBounds_toArray, List.set_cons_zero, List.set_cons_succ]
  refine wpAnyH_take (i := 24) (oi := ⟨_, _, _, _, _, _⟩) (v := .int .i64 (ly : Int)) rfl (by kernel_rfl) (by kernel_rfl) (by kernel_rfl) (fun _ _ _ h => h) (Or.inl ⟨by rfl, fun w' h => by clear h; go_simp⟩) hH ?_
  simp only [Act.put, List.setIfInBounds_toArray, List.set_cons_zero, List.set_cons_succ]
  refine wpAnyH_take (i := 26) (oi := ⟨_, _, _, _, _, _⟩) (v := .int .i64 (i : Int)) rfl (by kernel_rfl) (by kernel_rfl) (by kernel_rfl) (fun _ _ _ h => h) (Or.inl ⟨by rfl, fun w' h => by clear h; go_simp⟩) hH ?_
  simp only [Act.put, List.setIfInBounds_toArray, List.set_cons_zero, List.set_cons_succ]
  refine wpAnyH_take (i := 27) (oi := ⟨_, _, _, _, _, _⟩) (v := .int .i64 (k : Int)) rfl (by kernel_rfl) (by kernel_rfl) (by kernel_rfl) (fun _ _ _ h => h) (Or.inl ⟨by rfl, fun w' h => by clear h; go_simp⟩) hH ?_
  simp only [Act.put, List.setIfInBounds_toArray, List.set_cons_zero, List.set_cons_succ]
  refine wpAnyH_ready (rs := [4]) (by kernel_rfl) (by simp) ?_
  refine (AllReadyH.cons (o := ⟨_, _, _, _, _, _⟩) rfl (fun K hK => ?_) AllReadyH.nil)
  go_simp
  refine (HC1.out _).mono ?_
  rintro e V1 ⟨rfl, hV1⟩
  rw [hV1]
  clear hV1 V1
  refine hK.out _ _ hH (fun hH => ?_)
  clear hK K
  try simp only [Act.put, List.setIfInBounds_toArray, List.set_cons_zero, List.set_cons_succ]
  refine wpAnyH_ready (rs := [25]) (by kernel_rfl) (by simp) ?_
  refine (AllReadyH.cons (o := ⟨_, _, _, _, _, _⟩) rfl (fun K hK => ?_) AllReadyH.nil)
  go_simp
  refine (HC2.out _).mono ?_
  rintro e V1 ⟨rfl, hV1⟩
  rw [hV1]
  clear hV1 V1
  refine hK.out _ _ hH (fun hH => ?_)
  clear hK K
  try simp only [Act.put, List.setIfInBounds_toArray, List.set_cons_zero, List.set_cons_succ]
  refine wpAnyH_ready (rs := [28]) (by kernel_rfl) (by simp) ?_
  refine (AllReadyH.cons (o := ⟨_, _, _, _, _, _⟩) rfl (fun K hK => ?_) AllReadyH.nil)
  go_simp
  refine (HC3.out _).mono ?_
  rintro e V1 ⟨rfl, hV1⟩
  rw [hV1]
  clear hV1 V1
  refine hK.out _ _ hH (fun hH => ?_)
  clear hK K
  try simp only [Act.put, List.setIfInBounds_toArray, List.set_cons_zero, List.set_cons_succ]
  refine wpAnyH_ready (rs := [29]) (by kernel_rfl) (by simp) ?_
  refine (AllReadyH.cons (o := ⟨_, _, _, _, _, _⟩) rfl (fun K hK => ?_) AllReadyH.nil)
  go_simp
  refine hK.out _ _ (balloc hH) (fun hH => ?_)
  clear hK K
  try simp only [Act.put, List.setIfInBounds_toArray, List.set_cons_zero, List.set_cons_succ]
  refine wpAnyH_ready (rs := [30]) (by kernel_rfl) (by simp) ?_
  refine (AllReadyH.cons (o := ⟨_, _, _, _, _, _⟩) rfl (fun K hK => ?_) AllReadyH.nil)
  go_simp
  refine (cmpOr7_any Any [x1, x2, x3] _ _ (li_lit7 (Bk.new _ _ _) rfl rfl HW.out (by simp))).mono ?_
  rintro e V2 ⟨rfl, hV2⟩
  rw [hV2, HX.out]
  clear hV2 V2
  refine hK.out _ _ hH (fun hH => ?_)
  clear hK K
  try simp only [Act.put, List.setIfInBounds_toArray, List.set_cons_zero, List.set_cons_succ]
  refine wpAnyH_take (i := 31) (oi := ⟨_, _, _, _, _, _⟩) (v := .int .i64 (bc9 c met i k)) rfl (by kernel_rfl) (by kernel_rfl) (by kernel_rfl) (fun _ _ _ h => h) (Or.inl ⟨by rfl, fun w' h => by clear h; go_simp⟩) hH ?_
  simp only [Act.put, List.setIfInBounds_toArray, List.set_cons_zero, List.set_cons_succ]
  refine wpAnyH_done (by kernel_rfl) ?_ _
  have HU := hm7 hH
  clear hH
  go_wp2
  go_ret
  exact ⟨rfl, HU.out⟩
end Go.Proofs.YtgbiicmkhlnniaaGreatDoor
