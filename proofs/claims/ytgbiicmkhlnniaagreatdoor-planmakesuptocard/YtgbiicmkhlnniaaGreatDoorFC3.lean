/-
  plan: Make, Solve and Fire of the clause 'on', without body and tests; law 9's first.
-/
import Derived.Test.YtgbiicmkhlnniaaGreatDoorFC2
import Derived.Test.YtgbiicmkhlnniaaGreatDoorMD5
import Derived.Test.YtgbiicmkhlnniaaGreatDoorMD8
namespace Go.Proofs.YtgbiicmkhlnniaaGreatDoor
open Go.RowKit
attribute [local go_sem ↓] Go.wp_at_zero Go.wp_at_succ

def on9 : Cm := ⟨(⟨zt, ⟨#[111, 110]⟩, []⟩, .slice none 0 0), [], .slice none 0 0, [], .slice none 0 0⟩
theorem on9_ok (w : World) : on9.ok w := ⟨⟨none, 0, rfl, by simp [on9], Or.inl rfl⟩, ⟨none, 0, rfl, by simp [on9], Or.inl rfl, fun x hx => by simp [on9] at hx⟩, ⟨none, 0, rfl, by simp [on9], Or.inl rfl⟩⟩
theorem on9_wf : on9.wf := ⟨fun t ht hv => by
  have : on9.terms = [zt] := by kernel_rfl
  rw [this] at ht
  rw [List.mem_singleton.1 ht] at hv
  exact absurd hv (by decide), by have : on9.terms = [zt] := by kernel_rfl
                                  rw [this]; decide⟩
theorem on9_chk : on9.chk = 0 := by kernel_rfl
theorem make9_on (w : World) : Calls Tryz.prog 5 #[on9.v, .int .i64 (-1)] w fun e w' => ∃ a ca j cj, e = .returned (.tuple #[.agg #[.slice a 0 ca, .slice j 0 cj], .int .i64 0]) ∧ Below w.heap.size w w' :=
  (make9_any on9 (-1) w (on9_ok w) on9_wf (fun x hx => by cases hx) (by have : dis on9.vars = [] := by kernel_rfl
                                                                        rw [this]; decide)).mono fun e w' h => by
    obtain ⟨hb, ⟨h, -⟩ | ⟨-, h, -⟩ | ⟨-, -, -, av, jv, l, rfl, ha, hj, hl⟩⟩ := h
    · exact absurd on9_chk h
    · rcases h with h | h
      · omega
      · have : on9.body.length = 0 := rfl
        omega
    · obtain ⟨a, ca, rfl, -⟩ := row7_form ha
      obtain ⟨j, cj, rfl, -⟩ := row7_form hj.o
      have h1 : (ah9 on9).length = 0 := by kernel_rfl
      have h2 : l.length = 0 := by
        have : (l.map Prod.fst).length = (js9 on9 (-1)).length := by rw [hl]
        rw [List.length_map] at this
        exact this.trans (by kernel_rfl)
      rw [h1, h2]
      exact ⟨a, ca, j, cj, rfl, hb⟩
theorem make9_on0 (w : World) : Calls Tryz.prog 5 #[on9.v, .int .i64 0] w fun e w' => e = .returned (.tuple #[.agg #[.slice none 0 0, .slice none 0 0], .int .i64 91]) ∧ Below w.heap.size w w' :=
  (make9_any on9 0 w (on9_ok w) on9_wf (fun x hx => by cases hx) (by have : dis on9.vars = [] := by kernel_rfl
                                                                     rw [this]; decide)).mono fun e w' h => by
    obtain ⟨hb, ⟨h, -⟩ | ⟨-, -, rfl⟩ | ⟨-, -, h, -⟩⟩ := h
    · exact absurd on9_chk h
    · exact ⟨rfl, hb⟩
    · have : on9.body.length = 0 := rfl
      omega
/-- Solve of 'on': one solution without values. -/
def SV9 (w : World) (e : Ending) (w' : World) : Prop :=
  ∃ g cap r rc, e = .returned (.tuple #[.slice (some ⟨g, 0, none⟩) 1 cap, .int .i64 0]) ∧ w'.cell? ⟨g, 0, none⟩ = some (.slice (some ⟨r, 0, none⟩) 0 rc) ∧ w.heap.size ≤ g ∧ g < w'.heap.size ∧ Below w.heap.size w w'
set_option maxRecDepth 20000 in
set_option maxHeartbeats 1000000 in
theorem solve9_on (b : Nat) (w : World) : Calls Tryz.prog 27 #[.pointer (some ⟨b, 0, none⟩), .agg #[.int .i64 0, .int .i64 0, .string ⟨#[]⟩, .string ⟨#[111, 110]⟩, .slice none 0 0, .slice none 0 0, .slice none 0 0], .int .i64 (-1)] w (SV9 w) := by
  have HMK : Hid (∀ w : World, Calls Tryz.prog 5 #[.agg #[.int .i64 0, .int .i64 0, .string ⟨#[]⟩, .string ⟨#[111, 110]⟩, .slice none 0 0, .slice none 0 0, .slice none 0 0], .int .i64 (-1)] w fun e w' => ∃ a ca j cj, e = .returned (.tuple #[.agg #[.slice a 0 ca, .slice j 0 cj], .int .i64 0]) ∧ Below w.heap.size w w') := make9_on
  have b0 := Bk.new w #[.int .i64 0, .int .i64 0, .string ⟨#[]⟩, .string ⟨#[111, 110]⟩, .slice none 0 0, .slice none 0 0, .slice none 0 0] 30
  obtain ⟨Y0, hY0⟩ : ∃ Y0, w.alloc (.cells #[.int .i64 0, .int .i64 0, .string ⟨#[]⟩, .string ⟨#[111, 110]⟩, .slice none 0 0, .slice none 0 0, .slice none 0 0] 30) = Y0 := ⟨_, rfl⟩
  have HB0 : Hid (Below w.heap.size w Y0) := by rw [← hY0]; exact below1 _ _
  rw [hY0] at b0
  obtain ⟨q, hq⟩ : ∃ q, w.heap.size = q := ⟨_, rfl⟩
  rw [hq] at b0
  have HB := hm7 b0
  go_enter Tryz.func27, Tryz.ntmps27
  go_upto_region 1 with fail
  first | rw [hY0] | skip
  first | rw [hq] | skip
  clear hY0 hq b0
  have d0 := HB.out.cell (i := 0) rfl
  have d1 := HB.out.cell (i := 1) rfl
  have d2 := HB.out.cell (i := 2) rfl
  have d3 := HB.out.cell (i := 3) rfl
  have d4 := HB.out.cell (i := 4) rfl
  have d5 := HB.out.cell (i := 5) rfl
  have d6 := HB.out.cell (i := 6) rfl
  go_upto_region 2 with (go_at_call 5; refine (HMK.out _).mono ?_; rintro e W1 ⟨a, ca, j, cj, rfl, hb⟩; have HB1 := hm7 (HB.out.below hb); have HW1 := hm7 (HB0.out.trans (hb.mono HB0.out.size)); clear hb d0 d1 d2 d3 d4 d5 d6)
  obtain ⟨W2, hW2⟩ : ∃ W2, W1.alloc (.cells #[.slice a 0 ca, .slice j 0 cj] 35) = W2 := ⟨_, rfl⟩
  have HB2 : Hid (Bk W2 q #[.int .i64 0, .int .i64 0, .string ⟨#[]⟩, .string ⟨#[111, 110]⟩, .slice none 0 0, .slice none 0 0, .slice none 0 0] 30) := by rw [← hW2]; exact HB1.out.below (below1 _ _)
  have HP2 : Hid (Bk W2 W1.heap.size #[.slice a 0 ca, .slice j 0 cj] 35) := by rw [← hW2]; exact Bk.new _ _ _
  have HW2 : Hid (Below w.heap.size w W2) := by rw [← hW2]; exact HW1.out.trans ((below1 _ _).mono HW1.out.size)
  first | rw [hW2] | skip
  clear hW2
  have d0 := HB2.out.cell (i := 0) rfl
  have d1 := HB2.out.cell (i := 1) rfl
  have d2 := HB2.out.cell (i := 2) rfl
  have d3 := HB2.out.cell (i := 3) rfl
  have d4 := HB2.out.cell (i := 4) rfl
  have d5 := HB2.out.cell (i := 5) rfl
  have d6 := HB2.out.cell (i := 6) rfl
  have p0 := HP2.out.cell (i := 0) rfl
  have p1 := HP2.out.cell (i := 1) rfl
  go_wp2_with (first
    | (go_at_call 44; refine (sortTs_tiny _ _ 1 _ (by omega) _).mono ?_; rintro e w1 ⟨rfl, rfl⟩)
    | (go_at_call 43; refine (sol9_none _ _ _ (Bk.new _ _ _) a j ca cj rfl rfl).mono ?_; rintro e W4 ⟨g, cap, r, rc, rfl, hc, hg, hl, hb⟩; have HR := hm7 (And.intro hc (And.intro hg (And.intro hl (below_step (below1 _ _) hb)))); clear hc hg hl hb))
  obtain ⟨hc, hg, hl, hb⟩ := HR.out
  rw [show ∀ (X : World) (o : Obj), (X.alloc o).heap.size = X.heap.size + 1 by intro X o; simp] at hg
  have hz := HW2.out.size
  exact bodyPost_ret (v := .tuple #[.slice (some ⟨g, 0, none⟩) 1 cap, .int .i64 0]) (by simp [results, Tryz.results27, go_sem]) rfl ⟨_, _, _, _, rfl, hc, by omega, hl, HW2.out.trans (hb.mono hz)⟩
theorem compactA_tiny (a : Option Addr) (f : Value) (cap : Nat) (w : World) : Calls Tryz.prog 47 #[.slice a 1 cap, f] w fun e w' => e = .returned (.slice a 1 cap) ∧ w' = w := by
  go_enter Tryz.func47, Tryz.ntmps47
  go_wp2
  go_ret
  exact ⟨rfl, rfl⟩
/-- Fire of 'on': one atom of that name. -/
def FI9 (w : World) (e : Ending) (w' : World) : Prop :=
  ∃ g cap, e = .returned (.tuple #[.slice (some ⟨g, 0, none⟩) 1 cap, .int .i64 0]) ∧ w'.cell? ⟨g, 3, none⟩ = some (.string ⟨#[111, 110]⟩) ∧ g < w'.heap.size ∧ Below w.heap.size w w'
theorem inst9_on (r rc : Nat) (w : World) : Calls Tryz.prog 46 #[.agg #[.int .i64 0, .int .i64 0, .string ⟨#[]⟩, .string ⟨#[111, 110]⟩, .slice none 0 0, .slice none 0 0, .slice none 0 0], .slice (some ⟨r, 0, none⟩) 0 rc] w fun e w' => (∃ M1 M2 M3 : Nat, e = .returned (.agg #[.int .i64 0, .int .i64 0, .string ⟨#[]⟩, .string ⟨#[111, 110]⟩, .slice (some ⟨M1, 0, none⟩) 0 0, .slice (some ⟨M2, 0, none⟩) 0 0, .slice (some ⟨M3, 0, none⟩) 0 0])) ∧ Below w.heap.size w w' :=
  (inst_any [] (.slice (some ⟨r, 0, none⟩) 0 rc) on9 w ⟨_, _, rfl, by decide, Or.inl rfl⟩ (on9_ok w) (by decide) (by decide) (by decide) (fun x hx => by cases hx)).mono fun e w' h => by
    obtain ⟨M1, M2, M3, lb, rfl, -, hb⟩ := h
    exact ⟨⟨M1, M2, M3, rfl⟩, hb⟩
theorem field9_head (a b c d e f g : Value) (w : World) : (Instr.field 30 (.agg #[a, b, c, d, e, f, g]) 0).run Tryz.prog w = .ok (.agg #[a, b, c, d, e]) w := by kernel_rfl
set_option maxRecDepth 20000 in
set_option maxHeartbeats 1000000 in
theorem fire9_on (b : Nat) (w : World) : Calls Tryz.prog 28 #[.pointer (some ⟨b, 0, none⟩), .agg #[.int .i64 0, .int .i64 0, .string ⟨#[]⟩, .string ⟨#[111, 110]⟩, .slice none 0 0, .slice none 0 0, .slice none 0 0], .int .i64 (-1)] w (FI9 w) := by
  have b0 := Bk.new w #[.int .i64 0, .int .i64 0, .string ⟨#[]⟩, .string ⟨#[111, 110]⟩, .slice none 0 0, .slice none 0 0, .slice none 0 0] 30
  obtain ⟨Y0, hY0⟩ : ∃ Y0, w.alloc (.cells #[.int .i64 0, .int .i64 0, .string ⟨#[]⟩, .string ⟨#[111, 110]⟩, .slice none 0 0, .slice none 0 0, .slice none 0 0] 30) = Y0 := ⟨_, rfl⟩
  have HB0 : Hid (Below w.heap.size w Y0) := by rw [← hY0]; exact below1 _ _
  rw [hY0] at b0
  obtain ⟨q, hq⟩ : ∃ q, w.heap.size = q := ⟨_, rfl⟩
  rw [hq] at b0
  have HB := hm7 b0
  go_enter Tryz.func28, Tryz.ntmps28
  go_upto_region 1 with fail
  first | rw [hY0] | skip
  first | rw [hq] | skip
  clear hY0 hq b0
  have d0 := HB.out.cell (i := 0) rfl
  have d1 := HB.out.cell (i := 1) rfl
  have d2 := HB.out.cell (i := 2) rfl
  have d3 := HB.out.cell (i := 3) rfl
  have d4 := HB.out.cell (i := 4) rfl
  have d5 := HB.out.cell (i := 5) rfl
  have d6 := HB.out.cell (i := 6) rfl
  go_wp2_with (go_at_call 27; refine (solve9_on _ _).mono ?_; rintro e W1 ⟨g, cap, r, rc, rfl, hc, hg, hl, hb⟩; have HB1 := hm7 (HB.out.below hb); have HW1 := hm7 (HB0.out.trans (hb.mono HB0.out.size)); have HC := hm7 hc; clear hb hc hg d0 d1 d2 d3 d4 d5 d6)
  go_loopg [10, 25] 1 (fun k h i wr => (k = 1 ∧ i = .int .i64 0 ∧ h = .slice none 0 0 ∧ wr = W1) ∨ (k = 0 ∧ i = .int .i64 1 ∧ ∃ g' cap', h = .slice (some ⟨g', 0, none⟩) 1 cap' ∧ wr.cell? ⟨g', 3, none⟩ = some (.string ⟨#[111, 110]⟩) ∧ g' < wr.heap.size ∧ Below w.heap.size w wr))
  case atStart => exact Or.inl ⟨rfl, rfl, rfl, rfl⟩
  case round =>
    rcases hrel with ⟨rfl, rfl, rfl, rfl⟩ | ⟨rfl, rfl, g', cap', rfl, hc', hl', hb'⟩
    · have d0 := HB1.out.cell (i := 0) rfl
      have d1 := HB1.out.cell (i := 1) rfl
      have d2 := HB1.out.cell (i := 2) rfl
      have d3 := HB1.out.cell (i := 3) rfl
      have d4 := HB1.out.cell (i := 4) rfl
      have c0 := HC.out
      have fh := field9_head
      go_upto_region 9 with (first
        | (go_at_call 46; refine (inst9_on _ _ _).mono ?_; rintro e W2 ⟨⟨M1, M2, M3, rfl⟩, hb2⟩; have HW2 := hm7 (HW1.out.trans (hb2.mono HW1.out.size)); clear hb2)
        | (at_builtin; refine aapp_one rfl _ _ rfl W2.heap.size (.slice none 0 0) [] rfl (World.ownsRow_nil _ _ _ _) W2.heap.size (⟨zt, ⟨#[111, 110]⟩, []⟩, .slice (some ⟨M1, 0, none⟩) 0 0) rfl (Bk.new _ _ _) (by simp [acell, Value.oneCell']) (by decide) (by simp) ?_; intro v' W3 ho hb3 hg3 hk3; have HO := hm7 ho; have HB3 := hm7 hb3; clear ho hb3 hg3 hk3))
      obtain ⟨va, vc, hv, -⟩ := row7_form HO.out
      rw [hv] at HO
      obtain ⟨g3, hva, -, hl3, hc3, -⟩ := row7_at (i := 3) (u := .string ⟨#[111, 110]⟩) HO.out rfl
      rw [hva] at hv
      have HC3 := hm7 hc3
      have HL3 := hm7 hl3
      have HB4 := hm7 (HW2.out.trans (((below1 _ _).trans HB3.out).mono HW2.out.size))
      obtain ⟨vn, hvn⟩ : ∃ vn, ([] ++ [((⟨zt, ⟨#[111, 110]⟩, []⟩ : At), Value.slice (some ⟨M1, 0, none⟩) 0 0)]).length = vn := ⟨_, rfl⟩
      rw [hvn] at hv
      have HVN : Hid (vn = 1) := hvn.symm
      clear hvn hva hc3 hl3 HO HB3
      subst hv
      go_wp2
      go_roundg 0
      case rel => exact Or.inr ⟨rfl, rfl, g3, vc, by rw [HVN.out], HC3.out, HL3.out, HB4.out⟩
      case measure => exact Nat.zero_lt_one
    · have HQ := hm7 (And.intro hc' (And.intro hl' hb'))
      clear hc' hb'
      go_wp2_with (go_at_call 47; refine (compactA_tiny _ _ _ _).mono ?_; rintro e w1 ⟨rfl, rfl⟩)
      obtain ⟨hc, hl, hb⟩ := HQ.out
      exact bodyPost_ret (v := .tuple #[.slice (some ⟨g', 0, none⟩) 1 cap', .int .i64 0]) (by simp [results, Tryz.results28, go_sem]) rfl ⟨_, _, rfl, hc, hl, hb⟩
set_option maxRecDepth 20000 in
set_option maxHeartbeats 2000000 in
theorem first9_any (w : World) : Calls Tryz.prog 9 #[] w fun e w' => e = .returned (.bool true) ∧ Below w.heap.size w w' := by
  have HM0 : Hid (∀ w : World, Calls Tryz.prog 5 #[.agg #[.int .i64 0, .int .i64 0, .string ⟨#[]⟩, .string ⟨#[111, 110]⟩, .slice none 0 0, .slice none 0 0, .slice none 0 0], .int .i64 0] w fun e w' => e = .returned (.tuple #[.agg #[.slice none 0 0, .slice none 0 0], .int .i64 91]) ∧ Below w.heap.size w w') := make9_on0
  have b0 := Bk.new w #[.int .i64 0, .int .i64 0, .string ⟨#[]⟩, .string ⟨#[111, 110]⟩, .slice none 0 0, .slice none 0 0, .slice none 0 0] 30
  obtain ⟨Y0, hY0⟩ : ∃ Y0, w.alloc (.cells #[.int .i64 0, .int .i64 0, .string ⟨#[]⟩, .string ⟨#[111, 110]⟩, .slice none 0 0, .slice none 0 0, .slice none 0 0] 30) = Y0 := ⟨_, rfl⟩
  have HB0 : Hid (Below w.heap.size w Y0) := by rw [← hY0]; exact below1 _ _
  rw [hY0] at b0
  obtain ⟨q, hq⟩ : ∃ q, w.heap.size = q := ⟨_, rfl⟩
  rw [hq] at b0
  have HB := hm7 b0
  have HY0 := hm7 hY0
  have HQ := hm7 hq
  clear hY0 hq b0
  go_enter Tryz.func9, Tryz.ntmps9
  go_upto_region 2 with fail
  rw [HY0.out, HQ.out]
  clear HY0 HQ
  go_upto_region 5 with (go_at_call 26; refine (new9_any _).mono ?_; rintro e W1 ⟨⟨bb, rfl⟩, hb⟩; have HB1 := hm7 (HB.out.below hb); have HW1 := hm7 (HB0.out.trans (hb.mono HB0.out.size)); clear hb)
  have d0 := HB1.out.cell (i := 0) rfl
  have d1 := HB1.out.cell (i := 1) rfl
  have d2 := HB1.out.cell (i := 2) rfl
  have d3 := HB1.out.cell (i := 3) rfl
  have d4 := HB1.out.cell (i := 4) rfl
  have d5 := HB1.out.cell (i := 5) rfl
  have d6 := HB1.out.cell (i := 6) rfl
  go_upto_region 6 with (go_at_call 27; refine (solve9_on _ _).mono ?_; rintro e W2 ⟨g, cap, r, rc, rfl, hc, hg, hl, hb⟩; have HB2 := hm7 (HB1.out.below hb); have HW2 := hm7 (HW1.out.trans (hb.mono HW1.out.size)); have HC := hm7 hc; have HL := hm7 hl; clear hb hc hg hl d0 d1 d2 d3 d4 d5 d6)
  have d0 := HB2.out.cell (i := 0) rfl
  have d1 := HB2.out.cell (i := 1) rfl
  have d2 := HB2.out.cell (i := 2) rfl
  have d3 := HB2.out.cell (i := 3) rfl
  have d4 := HB2.out.cell (i := 4) rfl
  have d5 := HB2.out.cell (i := 5) rfl
  have d6 := HB2.out.cell (i := 6) rfl
  go_upto_region 7 with (go_at_call 28; refine (fire9_on _ _).mono ?_; rintro e W3 ⟨g3, cap3, rfl, hc, hl, hb⟩; have HB3 := hm7 (HB2.out.below hb); have HW3 := hm7 (HW2.out.trans (hb.mono HW2.out.size)); have HC3 := hm7 (And.intro (by rw [hb.cell (p := ⟨g, 0, none⟩) HL.out]; exact HC.out : W3.cell? ⟨g, 0, none⟩ = some (.slice (some ⟨r, 0, none⟩) 0 rc)) hc); have HL3 := hm7 (And.intro (Nat.lt_of_lt_of_le HL.out hb.size) hl); clear hb hc hl d0 d1 d2 d3 d4 d5 d6)
  have d0 := HB3.out.cell (i := 0) rfl
  have d1 := HB3.out.cell (i := 1) rfl
  have d2 := HB3.out.cell (i := 2) rfl
  have d3 := HB3.out.cell (i := 3) rfl
  have d4 := HB3.out.cell (i := 4) rfl
  have d5 := HB3.out.cell (i := 5) rfl
  have d6 := HB3.out.cell (i := 6) rfl
  go_upto_region 8 with (go_at_call 5; refine (HM0.out _).mono ?_; rintro e W4 ⟨rfl, hb⟩; have HW4 := hm7 (HW3.out.trans (hb.mono HW3.out.size)); have HC4 := hm7 (And.intro (by rw [hb.cell (p := ⟨g, 0, none⟩) HL3.out.1]; exact HC3.out.1 : W4.cell? ⟨g, 0, none⟩ = some (.slice (some ⟨r, 0, none⟩) 0 rc)) (by rw [hb.cell (p := ⟨g3, 3, none⟩) HL3.out.2]; exact HC3.out.2 : W4.cell? ⟨g3, 3, none⟩ = some (.string ⟨#[111, 110]⟩))); have HL4 := hm7 (And.intro (Nat.lt_of_lt_of_le HL3.out.1 hb.size) (Nat.lt_of_lt_of_le HL3.out.2 hb.size)); clear hb d0 d1 d2 d3 d4 d5 d6)
  obtain ⟨W5, hW5⟩ : ∃ W5, W4.alloc (.cells #[.slice none 0 0, .slice none 0 0] 35) = W5 := ⟨_, rfl⟩
  have HW5 : Hid (Below w.heap.size w W5) := by rw [← hW5]; exact HW4.out.trans ((below1 _ _).mono HW4.out.size)
  have c0 : W5.cell? ⟨g, 0, none⟩ = some (.slice (some ⟨r, 0, none⟩) 0 rc) := by rw [← hW5, (below1 W4 (.cells #[.slice none 0 0, .slice none 0 0] 35)).cell (p := ⟨g, 0, none⟩) HL4.out.1]; exact HC4.out.1
  have c3 : W5.cell? ⟨g3, 3, none⟩ = some (.string ⟨#[111, 110]⟩) := by rw [← hW5, (below1 W4 (.cells #[.slice none 0 0, .slice none 0 0] 35)).cell (p := ⟨g3, 3, none⟩) HL4.out.2]; exact HC4.out.2
  first | rw [hW5] | skip
  clear hW5
  go_wp2
  go_ret
  exact ⟨rfl, HW5.out⟩
end Go.Proofs.YtgbiicmkhlnniaaGreatDoor
