import Derived.Test.YtechceagghcipaaGreatDoorX1
import Derived.Test.YtechceagghcipaaGreatDoorX3
import Derived.Test.YtechceagghcipaaGreatDoorT2
/-
  ref 8: Part. (Written by EJ4.py.)
-/
namespace Go.Proofs.YtechceagghcipaaGreatDoor
open Go.RowKit
attribute [local go_sem ↓] Go.wp_at_zero Go.wp_at_succ

/-- What Part answers. -/
def pt8 (R : List It8) (f : At) (q : Int) : Prop := (f, q) ∈ Ei R ∨ (f ∉ (Ei R).map Prod.fst ∧ q = 0)
theorem pt8_eq {R : List It8} {f : At} {q q' : Int} (h : ∀ p, (f, p) ∈ Ei R ↔ p ≠ 0 ∧ q = p) (h' : pt8 R f q') : q = q' := by
  rcases h' with h' | ⟨h', rfl⟩
  · exact ((h q').1 h').2
  · by_cases hq : q = 0
    · exact hq
    · exact absurd (List.mem_map.2 ⟨_, (h q).2 ⟨hq, rfl⟩, rfl⟩) h'
/-- An atom's texts are no longer than a text may be. -/
structure Sz8 (a : At) : Prop where
  t : ∀ t ∈ a.pl, t.s.size ≤ maxLen
  n : a.name.size ≤ maxLen
theorem Sz8.of {a : At} (hk : ∀ t ∈ a.pl, KeyT t) (hp : KeyP a.pd8) : Sz8 a := ⟨fun t ht => (hk t ht).s, hp.n⟩
theorem Kd8.sz {R : List It8} (h : Kd8 R) {j : Nat} {x : It8} (hx : R[j]? = some x) : Sz8 x.1.1 := Sz8.of (h x (List.mem_of_getElem? hx)).1 (h x (List.mem_of_getElem? hx)).2
set_option maxRecDepth 20000 in
set_option maxHeartbeats 1000000 in
theorem rbpart8_any (w0 : World) (A : Nat → Prop) (r : Nat) (lv : Value) (R : List It8) (f : At) (fx : Value) (Y : World) (h : RB8 w0 A r lv R Y) (hf : Ts Y fx f.args) (hz : Sz8 f) (hk : Kd8 R) (hl : R.length ≤ 1000000000) :
    Calls Tryz.prog 74 #[.pointer (some ⟨r, 0, none⟩), f.v fx] Y fun e Y' => ∃ q, pt8 R f q ∧ e = .returned (.int .i64 q) ∧ Below Y.heap.size Y Y' := by
  have H := hm7 h
  have HA := hm7 h.l.is
  have HF := hm7 hf
  have HZ := hm7 hz
  have HK := hm7 hk
  obtain ⟨la, cap, rfl⟩ := h.l.o.form
  have HTS : Hid (∀ x ∈ R, Ts Y x.1.2 x.1.1.args) := by obtain ⟨_, _, _, _, h⟩ := HA.out; exact h
  obtain ⟨ay, cy, hay, -⟩ := hf
  obtain ⟨⟨ky, my, sy⟩, ny, ly⟩ := f
  simp only at hay
  subst hay
  obtain ⟨Y0, hY0⟩ : ∃ Y0, Y.alloc (.cells #[.int .i64 ky, .int .i64 my, .string sy, .string ny, .slice ay ly.length cy] 27) = Y0 := ⟨_, rfl⟩
  have hb0 : Below Y.heap.size Y Y0 := by rw [← hY0]; exact below1 _ _
  have HBX : Hid (Bk Y0 Y.heap.size #[.int .i64 ky, .int .i64 my, .string sy, .string ny, .slice ay ly.length cy] 27) := by show Bk _ _ _ _; rw [← hY0]; exact Bk.new _ _ _
  have HB0 := hm7 hb0
  clear hb0 h hz hk
  go_enter Tryz.func74, Tryz.ntmps74
  go_wp2
  first | rw [hY0] | skip
  go_loopg [5] R.length (fun g i wr => ∃ j : Nat, j + g = R.length ∧ i = .int .i64 j ∧ (∀ (k : Nat) y, k < j → R[k]? = some y → y.1.1 ≠ ⟨⟨ky, my, sy⟩, ny, ly⟩) ∧ Below Y0.heap.size Y0 wr)
  case atStart => exact ⟨0, by omega, rfl, fun k y hk => by omega, Below.refl _ _⟩
  case round =>
    obtain ⟨j, hj, rfl, hno, hw⟩ := hrel
    have HNO := hm7 hno
    have HW := hm7 hw
    have HB := hm7 (HB0.out.trans (hw.mono HB0.out.size))
    have HCR : Hid (∀ (X : World), Below wr.heap.size wr X → X.cell? ⟨r, 0, none⟩ = some (.slice la R.length cap)) := fun X hX => ((H.out.below HB.out).below hX).cell
    have q0 := HCR.out wr (Below.refl _ _)
    cases gk with
    | succ g =>
      have hlt : (j : Int) < (R.length : Int) := by omega
      have j0 : (0 : Int) ≤ (j : Int) := by omega
      obtain ⟨x, hx⟩ : ∃ x, R[j]? = some x := ⟨_, List.getElem?_eq_getElem (by omega)⟩
      have hb := HB.out
      have t1 := HTS.out x (List.mem_of_getElem? hx)
      have s1 := HK.out.sz hx
      have HC0 := fun (X : World) (hX : Below wr.heap.size wr X) => rsame_any x.1.1 ⟨⟨ky, my, sy⟩, ny, ly⟩ x.1.2 (.slice ay ly.length cy) X ((t1.later hb).later hX) ((HF.out.later hb).later hX) s1.t HZ.out.t s1.n HZ.out.n
      obtain ⟨lb, lo, ax, cx, rfl, hax, c1⟩ := HA.out.get hx
      have HNX := hm7 hx
      have HX2 : Hid (∀ (X : World), Below wr.heap.size wr X → X.cell? ⟨Y.heap.size, 0, none⟩ = some (.int .i64 ky) ∧ X.cell? ⟨Y.heap.size, 1, none⟩ = some (.int .i64 my) ∧ X.cell? ⟨Y.heap.size, 2, none⟩ = some (.string sy) ∧ X.cell? ⟨Y.heap.size, 3, none⟩ = some (.string ny) ∧ X.cell? ⟨Y.heap.size, 4, none⟩ = some (.slice ay ly.length cy)) := fun X hX => by
        obtain ⟨⟨q0, q1⟩, q2, q3, q4⟩ := five8 ((HBX.out.below HW.out).below hX)
        exact ⟨q0, q1, q2, q3, q4⟩
      obtain ⟨⟨⟨⟨kx, mx, sx⟩, nx, lx⟩, vx⟩, px⟩ := x
      simp only at hax c1 HC0
      subst hax
      have HX1 := hm7 (fun (X : World) (hX : Below wr.heap.size wr X) => (c1 X (hb.trans (hX.mono hb.size))).1)
      have HX5 := hm7 (fun (X : World) (hX : Below wr.heap.size wr X) => (c1 X (hb.trans (hX.mono hb.size))).2)
      by_cases hxy : At.mk ⟨kx, mx, sx⟩ nx lx = ⟨⟨ky, my, sy⟩, ny, ly⟩
      · rw [decide_eq_true hxy] at HC0
        have HCM : Hid (∀ (X : World), Below wr.heap.size wr X → Calls Tryz.prog 108 #[.agg #[.int .i64 kx, .int .i64 mx, .string sx, .string nx, .slice ax lx.length cx], .agg #[.int .i64 ky, .int .i64 my, .string sy, .string ny, .slice ay ly.length cy]] X fun e w' => e = .returned (.bool true) ∧ Below X.heap.size X w') := HC0
        have HPL : Hid (pt8 R ⟨⟨ky, my, sy⟩, ny, ly⟩ px) := Or.inl (by rw [← hxy]; exact Ei_mem HNX.out)
        clear hx t1 s1 c1 HC0 hxy hb hno hw
        go_upto_region 4 with fail
        clear q0
        refine wp_region_held_drew (S := fun w' => Below wr.heap.size wr w') (by kernel_rfl) (by exact (Below.refl _ _).drew) (fun hH => ?_)
        revert hH
        generalize wr.drew = V
        intro hH
        refine wpAnyH_take (i := 0) (oi := ⟨_, _, _, _, _, _⟩) (v := .pointer (some ⟨r, 0, none⟩)) rfl (by kernel_rfl) (by kernel_rfl) (by kernel_rfl) (fun _ _ _ h => h) (Or.inl ⟨by rfl, fun w' h => by clear h; go_simp⟩) hH ?_
        simp only [Act.put, List.setIfInBounds_toArray, List.set_cons_zero, List.set_cons_succ]
        refine wpAnyH_take (i := 1) (oi := ⟨_, _, _, _, _, _⟩) (v := .pointer (some ⟨r, 0, none⟩)) rfl (by kernel_rfl) (by kernel_rfl) (by kernel_rfl) (fun _ _ _ h => h) (Or.inl ⟨by rfl, fun w' h => by clear h; go_simp⟩) hH ?_
        simp only [Act.put, List.setIfInBounds_toArray, List.set_cons_zero, List.set_cons_succ]
        refine wpAnyH_take (i := 2) (oi := ⟨_, _, _, _, _, _⟩) (v := .pointer (some ⟨r, 0, none⟩)) rfl (by kernel_rfl) (by kernel_rfl) (by kernel_rfl) (fun _ _ _ h => h) (Or.inl ⟨by rfl, fun w' h => by clear h; go_simp⟩) hH ?_
        simp only [Act.put, List.setIfInBounds_toArray, List.set_cons_zero, List.set_cons_succ]
        refine wpAnyH_take (i := 3) (oi := ⟨_, _, _, _, _, _⟩) (v := .slice (some ⟨lb, lo, none⟩) R.length cap) rfl (by kernel_rfl) (by kernel_rfl) (by kernel_rfl) (fun _ _ _ h => h) (Or.inl ⟨by rfl, fun w' h => by have q0 := HCR.out w' h; clear h; go_simp⟩) hH ?_
        simp only [Act.put, List.setIfInBounds_toArray, List.set_cons_zero, List.set_cons_succ]
        refine wpAnyH_take (i := 4) (oi := ⟨_, _, _, _, _, _⟩) (v := .int .i64 (j : Int)) rfl (by kernel_rfl) (by kernel_rfl) (by kernel_rfl) (fun _ _ _ h => h) (Or.inl ⟨by rfl, fun w' h => by clear h; go_simp⟩) hH ?_
        simp only [Act.put, List.setIfInBounds_toArray, List.set_cons_zero, List.set_cons_succ]
        refine wpAnyH_take (i := 5) (oi := ⟨_, _, _, _, _, _⟩) (v := .pointer (some ⟨lb, lo + j * 6, none⟩)) rfl (by kernel_rfl) (by kernel_rfl) (by kernel_rfl) (fun _ _ _ h => h) (Or.inl ⟨by rfl, fun w' h => by clear h; go_simp⟩) hH ?_
        simp only [Act.put, List.setIfInBounds_toArray, List.set_cons_zero, List.set_cons_succ]
        refine wpAnyH_take (i := 6) (oi := ⟨_, _, _, _, _, _⟩) (v := .pointer (some ⟨lb, lo + j * 6, none⟩)) rfl (by kernel_rfl) (by kernel_rfl) (by kernel_rfl) (fun _ _ _ h => h) (Or.inl ⟨by rfl, fun w' h => by clear h; go_simp⟩) hH ?_
        simp only [Act.put, List.setIfInBounds_toArray, List.set_cons_zero, List.set_cons_succ]
        refine wpAnyH_take (i := 7) (oi := ⟨_, _, _, _, _, _⟩) (v := .agg #[.int .i64 kx, .int .i64 mx, .string sx, .string nx, .slice ax lx.length cx]) rfl (by kernel_rfl) (by kernel_rfl) (by kernel_rfl) (fun _ _ _ h => h) (Or.inl ⟨by rfl, fun w' h => by obtain ⟨p0, p1, p2, p3, p4⟩ := HX1.out w' h; clear h; go_simp⟩) hH ?_
        simp only [Act.put, List.setIfInBounds_toArray, List.set_cons_zero, List.set_cons_succ]
        refine wpAnyH_take (i := 8) (oi := ⟨_, _, _, _, _, _⟩) (v := .agg #[.int .i64 ky, .int .i64 my, .string sy, .string ny, .slice ay ly.length cy]) rfl (by kernel_rfl) (by kernel_rfl) (by kernel_rfl) (fun _ _ _ h => h) (Or.inl ⟨by rfl, fun w' h => by obtain ⟨p0, p1, p2, p3, p4⟩ := HX2.out w' h; clear h; go_simp⟩) hH ?_
        simp only [Act.put, List.setIfInBounds_toArray, List.set_cons_zero, List.set_cons_succ]
        refine wpAnyH_ready (rs := [9]) (by kernel_rfl) (by simp) ?_
        refine (AllReadyH.cons (o := ⟨_, _, _, _, _, _⟩) rfl (fun K hK => ?_) AllReadyH.nil)
        go_simp
        refine (HCM.out _ hH).mono ?_
        rintro e V1 ⟨rfl, hb⟩
        refine hK.out _ _ (hH.trans (hb.mono hH.size)) (fun hH => ?_)
        clear hK hb
        try simp only [Act.put, List.setIfInBounds_toArray, List.set_cons_zero, List.set_cons_succ]
        refine wpAnyH_done (by kernel_rfl) ?_ _
        have HV := hm7 hH
        clear hH
        have q0 := HCR.out _ HV.out
        have q5 := HX5.out _ HV.out
        go_wp2
        go_ret
        exact ⟨px, HPL.out, rfl, HB.out.trans (HV.out.mono HB.out.size)⟩
      · rw [decide_eq_false hxy] at HC0
        have HCM : Hid (∀ (X : World), Below wr.heap.size wr X → Calls Tryz.prog 108 #[.agg #[.int .i64 kx, .int .i64 mx, .string sx, .string nx, .slice ax lx.length cx], .agg #[.int .i64 ky, .int .i64 my, .string sy, .string ny, .slice ay ly.length cy]] X fun e w' => e = .returned (.bool false) ∧ Below X.heap.size X w') := HC0
        have HXY := hm7 hxy
        clear hx t1 s1 c1 HC0 hxy hb hno hw
        go_upto_region 4 with fail
        clear q0
        refine wp_region_held_drew (S := fun w' => Below wr.heap.size wr w') (by kernel_rfl) (by exact (Below.refl _ _).drew) (fun hH => ?_)
        revert hH
        generalize wr.drew = V
        intro hH
        refine wpAnyH_take (i := 0) (oi := ⟨_, _, _, _, _, _⟩) (v := .pointer (some ⟨r, 0, none⟩)) rfl (by kernel_rfl) (by kernel_rfl) (by kernel_rfl) (fun _ _ _ h => h) (Or.inl ⟨by rfl, fun w' h => by clear h; go_simp⟩) hH ?_
        simp only [Act.put, List.setIfInBounds_toArray, List.set_cons_zero, List.set_cons_succ]
        refine wpAnyH_take (i := 1) (oi := ⟨_, _, _, _, _, _⟩) (v := .pointer (some ⟨r, 0, none⟩)) rfl (by kernel_rfl) (by kernel_rfl) (by kernel_rfl) (fun _ _ _ h => h) (Or.inl ⟨by rfl, fun w' h => by clear h; go_simp⟩) hH ?_
        simp only [Act.put, List.setIfInBounds_toArray, List.set_cons_zero, List.set_cons_succ]
        refine wpAnyH_take (i := 2) (oi := ⟨_, _, _, _, _, _⟩) (v := .pointer (some ⟨r, 0, none⟩)) rfl (by kernel_rfl) (by kernel_rfl) (by kernel_rfl) (fun _ _ _ h => h) (Or.inl ⟨by rfl, fun w' h => by clear h; go_simp⟩) hH ?_
        simp only [Act.put, List.setIfInBounds_toArray, List.set_cons_zero, List.set_cons_succ]
        refine wpAnyH_take (i := 3) (oi := ⟨_, _, _, _, _, _⟩) (v := .slice (some ⟨lb, lo, none⟩) R.length cap) rfl (by kernel_rfl) (by kernel_rfl) (by kernel_rfl) (fun _ _ _ h => h) (Or.inl ⟨by rfl, fun w' h => by have q0 := HCR.out w' h; clear h; go_simp⟩) hH ?_
        simp only [Act.put, List.setIfInBounds_toArray, List.set_cons_zero, List.set_cons_succ]
        refine wpAnyH_take (i := 4) (oi := ⟨_, _, _, _, _, _⟩) (v := .int .i64 (j : Int)) rfl (by kernel_rfl) (by kernel_rfl) (by kernel_rfl) (fun _ _ _ h => h) (Or.inl ⟨by rfl, fun w' h => by clear h; go_simp⟩) hH ?_
        simp only [Act.put, List.setIfInBounds_toArray, List.set_cons_zero, List.set_cons_succ]
        refine wpAnyH_take (i := 5) (oi := ⟨_, _, _, _, _, _⟩) (v := .pointer (some ⟨lb, lo + j * 6, none⟩)) rfl (by kernel_rfl) (by kernel_rfl) (by kernel_rfl) (fun _ _ _ h => h) (Or.inl ⟨by rfl, fun w' h => by clear h; go_simp⟩) hH ?_
        simp only [Act.put, List.setIfInBounds_toArray, List.set_cons_zero, List.set_cons_succ]
        refine wpAnyH_take (i := 6) (oi := ⟨_, _, _, _, _, _⟩) (v := .pointer (some ⟨lb, lo + j * 6, none⟩)) rfl (by kernel_rfl) (by kernel_rfl) (by kernel_rfl) (fun _ _ _ h => h) (Or.inl ⟨by rfl, fun w' h => by clear h; go_simp⟩) hH ?_
        simp only [Act.put, List.setIfInBounds_toArray, List.set_cons_zero, List.set_cons_succ]
        refine wpAnyH_take (i := 7) (oi := ⟨_, _, _, _, _, _⟩) (v := .agg #[.int .i64 kx, .int .i64 mx, .string sx, .string nx, .slice ax lx.length cx]) rfl (by kernel_rfl) (by kernel_rfl) (by kernel_rfl) (fun _ _ _ h => h) (Or.inl ⟨by rfl, fun w' h => by obtain ⟨p0, p1, p2, p3, p4⟩ := HX1.out w' h; clear h; go_simp⟩) hH ?_
        simp only [Act.put, List.setIfInBounds_toArray, List.set_cons_zero, List.set_cons_succ]
        refine wpAnyH_take (i := 8) (oi := ⟨_, _, _, _, _, _⟩) (v := .agg #[.int .i64 ky, .int .i64 my, .string sy, .string ny, .slice ay ly.length cy]) rfl (by kernel_rfl) (by kernel_rfl) (by kernel_rfl) (fun _ _ _ h => h) (Or.inl ⟨by rfl, fun w' h => by obtain ⟨p0, p1, p2, p3, p4⟩ := HX2.out w' h; clear h; go_simp⟩) hH ?_
        simp only [Act.put, List.setIfInBounds_toArray, List.set_cons_zero, List.set_cons_succ]
        refine wpAnyH_ready (rs := [9]) (by kernel_rfl) (by simp) ?_
        refine (AllReadyH.cons (o := ⟨_, _, _, _, _, _⟩) rfl (fun K hK => ?_) AllReadyH.nil)
        go_simp
        refine (HCM.out _ hH).mono ?_
        rintro e V1 ⟨rfl, hb⟩
        refine hK.out _ _ (hH.trans (hb.mono hH.size)) (fun hH => ?_)
        clear hK hb
        try simp only [Act.put, List.setIfInBounds_toArray, List.set_cons_zero, List.set_cons_succ]
        refine wpAnyH_done (by kernel_rfl) ?_ _
        have HV := hm7 hH
        clear hH
        go_wp2
        go_roundg g
        case measure => omega
        case rel =>
          refine ⟨j + 1, by omega, by go_num, fun k y hk hy => ?_, HW.out.trans (HV.out.mono HW.out.size)⟩
          rcases Nat.lt_or_ge k j with h1 | h1
          · exact HNO.out k y h1 hy
          · obtain rfl : k = j := by omega
            have e := HNX.out
            rw [hy] at e
            cases e
            exact HXY.out
    | zero =>
      have hlt : ¬ (j : Int) < (R.length : Int) := by omega
      have HPL : Hid (pt8 R ⟨⟨ky, my, sy⟩, ny, ly⟩ 0) := Or.inr ⟨fun hc => by
        obtain ⟨y, hy, e⟩ := List.mem_map.1 hc
        obtain ⟨x, hx, rfl⟩ := List.mem_map.1 hy
        obtain ⟨k, hk⟩ := List.getElem?_of_mem hx
        exact hno k x (by have := (List.getElem?_eq_some_iff.1 hk).1; omega) hk e, rfl⟩
      clear hno hw
      go_wp2
      go_ret
      exact ⟨0, HPL.out, rfl, HB.out⟩
end Go.Proofs.YtechceagghcipaaGreatDoor
/-
  ref 8: Facts, Len.
-/
namespace Go.Proofs.YtechceagghcipaaGreatDoor
open Go.RowKit
attribute [local go_sem ↓] Go.wp_at_zero Go.wp_at_succ

/-- A list of facts, all of it the call's own. -/
structure FL8 (V : World) (base : Nat) (v : Value) (Q : List (At × Value)) : Prop where
  o : OwnA V base v Q
  t : ∀ x ∈ Q, OwnT V base x.2 x.1.args ∧ x.1.args.length ≤ 1000000000
theorem FL8.nil (V : World) (base : Nat) : FL8 V base (.slice none 0 0) [] := ⟨World.ownsRow_nil _ _ _ _, nofun⟩
theorem FL8.below {V V' : World} {base : Nat} {v : Value} {Q : List (At × Value)} (h : FL8 V base v Q) (hb : Below V.heap.size V V') : FL8 V' base v Q := ⟨h.o.later hb, fun x hx => ⟨(h.t x hx).1.later hb, (h.t x hx).2⟩⟩
theorem FL8.app {V V' : World} {base : Nat} {v v' : Value} {Q : List (At × Value)} {y : At × Value} (h : FL8 V base v Q) (hy : OwnT V base y.2 y.1.args ∧ y.1.args.length ≤ 1000000000) (ho : OwnA V' base v' (Q ++ [y])) (hg : V.grownBy V' v.ownBlock) : FL8 V' base v' (Q ++ [y]) := by
  refine ⟨ho, fun x hx => ?_⟩
  have key : ∀ z : At × Value, OwnT V base z.2 z.1.args → OwnT V' base z.2 z.1.args := fun z hz => OwnT.grown hz hg fun k hk e => row7_ne hz h.o (by decide) k hk e
  rcases List.mem_append.1 hx with hx | hx
  · exact ⟨key x (h.t x hx).1, (h.t x hx).2⟩
  · obtain rfl := List.mem_singleton.1 hx
    exact ⟨key x hy.1, hy.2⟩
theorem FL8.as {V : World} {base : Nat} {v : Value} {Q : List (At × Value)} (h : FL8 V base v Q) (hl : Q.length ≤ 1000000000) : As V v Q := h.o.as (by omega) fun x hx => (h.t x hx).1.tsP.ts (by have := (h.t x hx).2; omega)
/-- The facts of these parts among the first j entries. -/
def fq8 (R : List It8) (parts : Int) (j : Nat) : List At := ((Ei (R.take j)).filter fun x => hp7 parts x.2).map Prod.fst
theorem fq8_step {R : List It8} {parts : Int} {j : Nat} {x : It8} (h : R[j]? = some x) : fq8 R parts (j + 1) = fq8 R parts j ++ if hp7 parts x.2 = true then [x.1.1] else [] := by
  unfold fq8
  rw [List.take_add_one, h, Ei_app, List.filter_append, List.map_append]
  congr 1
  by_cases hp : hp7 parts x.2 = true
  · simp [Ei, hp]
  · have : hp7 parts x.2 = false := by simpa using hp
    simp [Ei, this]
theorem fq8_len (R : List It8) (parts : Int) (j : Nat) : (fq8 R parts j).length ≤ R.length := by
  unfold fq8
  rw [List.length_map]
  refine Nat.le_trans (List.length_filter_le _ _) ?_
  rw [Ei_len, List.length_take]
  omega
/-- What Facts answers. -/
def RF8 (L : List At) (Y : World) (e : Ending) (Y' : World) : Prop := ∃ v Q, e = .returned v ∧ FL8 Y' Y.heap.size v Q ∧ Q.map Prod.fst = L ∧ Below Y.heap.size Y Y'
set_option maxRecDepth 20000 in
set_option maxHeartbeats 1000000 in
theorem rbfacts8_any (w0 : World) (A : Nat → Prop) (r : Nat) (lv : Value) (R : List It8) (parts : Int) (Y : World) (h : RB8 w0 A r lv R Y) (hl : R.length ≤ 1000000000) :
    Calls Tryz.prog 77 #[.pointer (some ⟨r, 0, none⟩), .int .i64 parts] Y (RF8 (((Ei R).filter fun x => hp7 parts x.2).map Prod.fst) Y) := by
  have H := hm7 h
  have HA := hm7 h.l.is
  obtain ⟨la, cap, rfl⟩ := h.l.o.form
  clear h
  go_enter Tryz.func77, Tryz.ntmps77
  go_wp2
  go_loopg [6, 5] R.length (fun g i v wr => ∃ (j : Nat) (Q : List (At × Value)), j + g = R.length ∧ i = .int .i64 j ∧ FL8 wr Y.heap.size v Q ∧ Q.map Prod.fst = fq8 R parts j ∧ Below Y.heap.size Y wr)
  case atStart => exact ⟨0, [], by omega, rfl, FL8.nil _ _, by simp [fq8, Ei], Below.refl _ _⟩
  case round =>
    obtain ⟨j, Q, hj, rfl, hfl, hq, hw⟩ := hrel
    have HB := hm7 hw
    have HFL := hm7 hfl
    have HQ := hm7 hq
    have q0 := (H.out.below hw).cell
    cases gk with
    | succ g =>
      have hlt : (j : Int) < (R.length : Int) := by omega
      have j0 : (0 : Int) ≤ (j : Int) := by omega
      obtain ⟨x, hx⟩ : ∃ x, R[j]? = some x := ⟨_, List.getElem?_eq_getElem (by omega)⟩
      have HST := hm7 (fq8_step (parts := parts) hx)
      obtain ⟨lb, lo, ax, cx, rfl, hax, c1⟩ := HA.out.get hx
      obtain ⟨⟨a0, a1, a2, a3, a4⟩, a5⟩ := c1 wr hw
      have hts := (H.out.l.t x (List.mem_of_getElem? hx)).1.tsP
      have hla := (H.out.l.t x (List.mem_of_getElem? hx)).2
      have HOW := hm7 (ownA8_any x.1.1 x.1.2 wr ((hts.ts (by omega)).later hw) hla)
      have HLA := hm7 hla
      obtain ⟨va, vc, rfl⟩ := hfl.o.form
      have hql : Q.length ≤ 1000000000 := by have := fq8_len R parts j; have h2 := congrArg List.length hq; rw [List.length_map] at h2; omega
      obtain ⟨⟨⟨⟨kx, mx, sx⟩, nx, lx⟩, vx⟩, px⟩ := x
      simp only at hax a0 a1 a2 a3 a4 a5 HOW HST HLA
      subst hax
      have HOC : Hid (Calls Tryz.prog 109 #[.agg #[.int .i64 kx, .int .i64 mx, .string sx, .string nx, .slice ax lx.length cx]] wr fun e Y' => ∃ y, e = .returned ((At.mk ⟨kx, mx, sx⟩ nx lx).v y) ∧ OwnT Y' wr.heap.size y lx ∧ Below wr.heap.size wr Y') := HOW.out
      have hz := hw.size
      clear hx hts hla hfl hq HOW c1 hw
      by_cases hp : hp7 parts px = true
      · rw [if_pos hp] at HST
        go_wp2_with (first
          | (go_at_call 113; refine (ofp8_any parts px _).mono ?_; rw [hp]; rintro e w1 ⟨rfl, rfl⟩)
          | (go_at_call 109; refine HOC.out.mono ?_; rintro e w1 ⟨y, rfl, ho1, hb1⟩; obtain ⟨ya, yn, yc, rfl⟩ := ownT_form3 ho1; have HO1 := hm7 ho1; have HB1 := hm7 hb1; have hz1 := hb1.size; clear ho1 hb1 a0 a1 a2 a3 a4 a5 q0)
          | (at_builtin; refine aapp_one rfl _ _ rfl Y.heap.size (.slice va Q.length vc) Q rfl ((HFL.out.below HB1.out).o.later (below1 _ _)) w1.heap.size (⟨⟨kx, mx, sx⟩, nx, lx⟩, .slice ya yn yc) rfl (CBlk.new _ _ _) (acell_one _ _ _ _) (by omega) (by simp; omega) ?_; intro v2 w2 ho2 hb2 hg2 hk2; have HF2 := hm7 (((HFL.out.below HB1.out).below (below1 _ _)).app ⟨(HO1.out.mono hz).later (below1 _ _), HLA.out⟩ ho2 hg2); have HB2 := hm7 ((HB.out.trans (HB1.out.mono hz)).trans (((below1 _ _).mono (by omega)).trans hb2)); clear ho2 hb2 hg2 hk2))
        go_roundg g
        case measure => omega
        case rel => exact ⟨j + 1, _, by omega, by go_num, HF2.out, by rw [List.map_append, HQ.out, HST.out]; rfl, HB2.out⟩
      · rw [if_neg hp, List.append_nil] at HST
        have hpf : hp7 parts px = false := by simpa using hp
        go_wp2_with (go_at_call 113; refine (ofp8_any parts px _).mono ?_; rw [hpf]; rintro e w1 ⟨rfl, rfl⟩)
        go_roundg g
        case measure => omega
        case rel => exact ⟨j + 1, Q, by omega, by go_num, HFL.out, by rw [HST.out]; exact HQ.out, HB.out⟩
    | zero =>
      have hlt : ¬ (j : Int) < (R.length : Int) := by omega
      obtain rfl : j = R.length := by omega
      clear hfl hq hw
      go_wp2
      go_ret
      exact ⟨_, Q, rfl, HFL.out, by rw [HQ.out]; unfold fq8; rw [List.take_length], HB.out⟩
set_option maxRecDepth 20000 in
theorem rblen8_any (w0 : World) (A : Nat → Prop) (r : Nat) (lv : Value) (R : List It8) (parts : Int) (Y : World) (h : RB8 w0 A r lv R Y) (hl : R.length ≤ 1000000000) :
    Calls Tryz.prog 76 #[.pointer (some ⟨r, 0, none⟩), .int .i64 parts] Y fun e Y' => e = .returned (.int .i64 (((Ei R).filter fun x => hp7 parts x.2).length : Int)) ∧ Below Y.heap.size Y Y' := by
  have HC := hm7 (rbfacts8_any w0 A r lv R parts Y h hl)
  clear h
  go_enter Tryz.func76, Tryz.ntmps76
  go_wp2_with (go_at_call 77; refine HC.out.mono ?_; rintro e w1 ⟨v, Q, rfl, hf, hq, hb⟩; obtain ⟨va, vc, rfl⟩ := hf.o.form; have HB := hm7 hb; have HQ := hm7 hq; clear hf hb hq)
  go_ret
  refine ⟨?_, HB.out⟩
  have := congrArg List.length HQ.out
  rw [List.length_map, List.length_map] at this
  rw [this]
  rfl
end Go.Proofs.YtechceagghcipaaGreatDoor
/-
  ref 8: Find. (Written by EJ6.py.)
-/
namespace Go.Proofs.YtechceagghcipaaGreatDoor
open Go.RowKit
attribute [local go_sem ↓] Go.wp_at_zero Go.wp_at_succ

theorem tsO_of {w : World} {v : Value} {l : List Tm} (h : TsP w v l) (hl : l.length ≤ 1000000000) : TsO w v l := by
  rcases h with ⟨rfl, rfl⟩ | ⟨ad, cap, rfl, h⟩
  · exact Or.inl ⟨rfl, rfl⟩
  · exact Or.inr ⟨ad, cap, rfl, by omega, h⟩
theorem rlmatch8_any (p f : At) (x y : Value) (X : World) (hx : TsP X x p.args) (hy : TsP X y f.args) (hl : p.args.length ≤ 1000000000) (hl' : f.args.length ≤ 1000000000) (sp : Sz8 p) (sf : Sz8 f) : Calls Tryz.prog 114 #[p.v x, f.v y, .slice none 0 0] X fun e X' => ∃ m, e = .returned (.tuple #[m, .bool (mt8 p f)]) ∧ Below X.heap.size X X' := by
  refine (rmatch_any p f [] x y (.slice none 0 0) X (tsO_of hx hl) (tsO_of hy hl') (Or.inl ⟨rfl, rfl⟩) (by simp; omega) sp.t sf.t (by simp) sp.n sf.n).mono ?_
  rintro e X' ⟨hb, h⟩
  unfold mt8
  rcases match_same p f [] with ⟨e1, e2⟩ | ⟨out, e1, e2, e3, -⟩
  · rw [e1]
    rcases h with ⟨-, rfl⟩ | ⟨k1, k2, -⟩
    · exact ⟨_, rfl, hb⟩
    · rcases e2 with e2 | e2
      · rw [e2] at k1; cases k1
      · exact absurd k2 e2
  · rw [e1]
    rcases h with ⟨k1, -⟩ | ⟨-, -, v', l, rfl, -⟩
    · rcases k1 with k1 | k1
      · rw [e2] at k1; cases k1
      · exact absurd e3 k1
    · exact ⟨_, rfl, hb⟩
set_option maxRecDepth 20000 in
set_option maxHeartbeats 2000000 in
theorem rbfind8_any (w0 : World) (A : Nat → Prop) (r : Nat) (lv : Value) (R : List It8) (parts : Int) (a : At) (x : Value) (Y : World) (h : RB8 w0 A r lv R Y) (hx : TsP Y x a.args) (hal : a.args.length ≤ 1000000000) (hz : Sz8 a) (hk : Kd8 R) (hl : R.length ≤ 1000000000) :
    Calls Tryz.prog 79 #[.pointer (some ⟨r, 0, none⟩), .int .i64 parts, a.v x] Y (RF8 (((Ei R).filter fun x => hp7 parts x.2 && mt8 a x.1).map Prod.fst) Y) := by
  obtain ⟨xa, xc, rfl⟩ := hx.shape
  obtain ⟨a0, ha0⟩ : ∃ a0 : At, a0 = a := ⟨_, rfl⟩
  have HTX := hm7 (show TsP Y (.slice xa a.args.length xc) a0.args by rw [ha0]; exact hx)
  have HZ := hm7 (show Sz8 a0 ∧ a0.args.length ≤ 1000000000 by rw [ha0]; exact ⟨hz, hal⟩)
  have HK := hm7 hk
  have H := hm7 h
  have HGO : Hid (∀ (Z : List At), Z = ((((Ei R).filter fun x => hp7 parts x.2).map Prod.fst).filter (mt8 a0)) → Z = ((Ei R).filter fun x => hp7 parts x.2 && mt8 a0 x.1).map Prod.fst) := fun Z hZ => by
    rw [hZ, List.filter_map, List.filter_filter]
    congr 1
    congr 1
    funext y
    simp [Bool.and_comm, Function.comp]
  rw [show (fun x : At × Int => hp7 parts x.2 && mt8 a x.1) = fun x => hp7 parts x.2 && mt8 a0 x.1 by rw [ha0]]
  clear hx hal hz hk h
  have HA0 := hm7 ha0
  clear ha0
  obtain ⟨⟨ak, an, as_⟩, nm, al⟩ := a
  have HTX2 : Hid (TsP Y (.slice xa al.length xc) a0.args) := HTX.out
  obtain ⟨Y0, hY0⟩ : ∃ Y0, Y.alloc (.cells #[.int .i64 ak, .int .i64 an, .string as_, .string nm, .slice xa al.length xc] 27) = Y0 := ⟨_, rfl⟩
  have hb0 : Below Y.heap.size Y Y0 := by rw [← hY0]; exact below1 _ _
  have HBX : Hid (Bk Y0 Y.heap.size #[.int .i64 ak, .int .i64 an, .string as_, .string nm, .slice xa al.length xc] 27) := by show Bk _ _ _ _; rw [← hY0]; exact Bk.new _ _ _
  have HB0 := hm7 hb0
  have HFC := hm7 (rbfacts8_any w0 A r lv R parts Y0 (H.out.below hb0) hl)
  clear hb0 HTX
  go_enter Tryz.func79, Tryz.ntmps79
  go_upto_region 2 with fail
  first | rw [hY0] | skip
  go_upto_region 3 with (go_at_call 77; refine HFC.out.mono ?_; rintro e W1 ⟨v8, Q, rfl, hf, hq, hb⟩; have HF := hm7 hf; have HQ := hm7 hq; have HB1 := hm7 hb; clear hf hq hb HFC)
  have HQL : Hid (Q.length ≤ 1000000000) := by
    have h1 := congrArg List.length HQ.out
    rw [List.length_map, List.length_map] at h1
    have h2 := List.length_filter_le (fun x : At × Int => hp7 parts x.2) (Ei R)
    rw [Ei_len] at h2
    show _ ≤ _
    omega
  have HAS := hm7 (HF.out.as HQL.out)
  obtain ⟨qa, qc, hqv⟩ := HF.out.o.form
  subst hqv
  have HQZ : Hid (∀ x ∈ Q, Sz8 x.1) := fun x hx => by
    have hm : x.1 ∈ Q.map Prod.fst := List.mem_map.2 ⟨x, hx, rfl⟩
    rw [HQ.out] at hm
    obtain ⟨y, hy, e⟩ := List.mem_map.1 hm
    obtain ⟨z, hz, rfl⟩ := List.mem_map.1 (List.mem_filter.1 hy).1
    rw [← e]
    exact Sz8.of (HK.out z hz).1 (HK.out z hz).2
  have hzz := (HB0.out.trans (HB1.out.mono HB0.out.size)).size
  go_wp2
  go_loopg [9, 7, 10, 11] Q.length (fun g1 i v _ _ wr => ∃ (k : Nat) (Q' : List (At × Value)), k + g1 = Q.length ∧ i = .int .i64 k ∧ OwnA wr W1.heap.size v Q' ∧ (∀ x ∈ Q', x ∈ Q) ∧ Q'.length ≤ k ∧ Q'.map Prod.fst = ((Q.take k).map Prod.fst).filter (mt8 a0) ∧ Below W1.heap.size W1 wr)
  case atStart => exact ⟨0, [], by omega, rfl, World.ownsRow_nil _ _ _ _, nofun, by simp, by simp, Below.refl _ _⟩
  case round =>
    obtain ⟨k, Q', hk, rfl, ho, hin, hln, hm, hb⟩ := hrel
    have HB := hm7 hb
    have HO := hm7 ho
    have HIN := hm7 hin
    have HM := hm7 hm
    cases gk with
    | succ g1 =>
      have hlt : (k : Int) < (Q.length : Int) := by omega
      have k0 : (0 : Int) ≤ (k : Int) := by omega
      obtain ⟨y, hy⟩ : ∃ y, Q[k]? = some y := ⟨_, List.getElem?_eq_getElem (by omega)⟩
      obtain ⟨qb, qo, fa, fc, rfl, hsh, hc⟩ := As.get8 HAS.out hy
      have hmy := List.mem_of_getElem? hy
      have hts := (HF.out.t y hmy).1.tsP
      have hfl := (HF.out.t y hmy).2
      have HMY := hm7 hmy
      have HTK := hm7 (show (Q.take (k + 1)).map Prod.fst = (Q.take k).map Prod.fst ++ [y.1] by rw [List.take_add_one, hy]; simp)
      have HM0 := fun (X : World) (hX : Below wr.heap.size wr X) => rlmatch8_any a0 y.1 (.slice xa al.length xc) y.2 X (HTX2.out.later ((HB0.out.trans (HB1.out.mono HB0.out.size)).trans ((hb.trans (hX.mono hb.size)).mono hzz))) ((hts.later hb).later hX) HZ.out.2 hfl HZ.out.1 (HQZ.out y hmy)
      have HXP : Hid (∀ X : World, Below wr.heap.size wr X → X.cell? ⟨Y.heap.size, 0, none⟩ = some (.int .i64 ak) ∧ X.cell? ⟨Y.heap.size, 1, none⟩ = some (.int .i64 an) ∧ X.cell? ⟨Y.heap.size, 2, none⟩ = some (.string as_) ∧ X.cell? ⟨Y.heap.size, 3, none⟩ = some (.string nm) ∧ X.cell? ⟨Y.heap.size, 4, none⟩ = some (.slice xa al.length xc)) := fun X hX => by
        obtain ⟨⟨q0, q1⟩, q2, q3, q4⟩ := five8 (((HBX.out.below HB1.out).below HB.out).below hX)
        exact ⟨q0, q1, q2, q3, q4⟩
      obtain ⟨va, vc, rfl⟩ := ho.form
      obtain ⟨⟨⟨fk, fn, fs⟩, fnm, fl⟩, fv7⟩ := y
      simp only at hsh hc HM0 HTK
      subst hsh
      have HXF := hm7 (fun (X : World) (hX : Below wr.heap.size wr X) => hc X (hb.trans (hX.mono hb.size)))
      obtain ⟨b, hbm⟩ : ∃ b, mt8 a0 ⟨⟨fk, fn, fs⟩, fnm, fl⟩ = b := ⟨_, rfl⟩
      have HMT : Hid (∀ X : World, Below wr.heap.size wr X → Calls Tryz.prog 114 #[.agg #[.int .i64 ak, .int .i64 an, .string as_, .string nm, .slice xa al.length xc], .agg #[.int .i64 fk, .int .i64 fn, .string fs, .string fnm, .slice fa fl.length fc], .slice none 0 0] X fun e X' => ∃ m, e = .returned (.tuple #[m, .bool b]) ∧ Below X.heap.size X X') := fun X hX => by
        have := HM0 X hX
        rw [hbm, HA0.out] at this
        exact this
      have HBM := hm7 hbm
      have HHK := hm7 hk
      have hq9 := HQL.out
      have hw1 := hb.size
      clear hy hc hts hfl HM0 hbm ho hin hm hk hb hmy
      go_upto_region 6 with fail
      refine wp_region_held_drew (S := fun w' => Below wr.heap.size wr w') (by kernel_rfl) (by exact (Below.refl _ _).drew) (fun hH => ?_)
      revert hH
      generalize wr.drew = V
      intro hH
      refine wpAnyH_take (i := 0) (oi := ⟨_, _, _, _, _, _⟩) (v := .agg #[.int .i64 ak, .int .i64 an, .string as_, .string nm, .slice xa al.length xc]) rfl (by kernel_rfl) (by kernel_rfl) (by kernel_rfl) (fun _ _ _ h => h) (Or.inl ⟨by rfl, fun w' h => by obtain ⟨p0, p1, p2, p3, p4⟩ := HXP.out w' h; clear h; go_simp⟩) hH ?_
      simp only [Act.put, List.setIfInBounds_toArray, List.set_cons_zero, List.set_cons_succ]
      refine wpAnyH_take (i := 1) (oi := ⟨_, _, _, _, _, _⟩) (v := .slice (some ⟨qb, qo, none⟩) Q.length qc) rfl (by kernel_rfl) (by kernel_rfl) (by kernel_rfl) (fun _ _ _ h => h) (Or.inl ⟨by rfl, fun w' h => by clear h; go_simp⟩) hH ?_
      simp only [Act.put, List.setIfInBounds_toArray, List.set_cons_zero, List.set_cons_succ]
      refine wpAnyH_take (i := 2) (oi := ⟨_, _, _, _, _, _⟩) (v := .int .i64 (k : Int)) rfl (by kernel_rfl) (by kernel_rfl) (by kernel_rfl) (fun _ _ _ h => h) (Or.inl ⟨by rfl, fun w' h => by clear h; go_simp⟩) hH ?_
      simp only [Act.put, List.setIfInBounds_toArray, List.set_cons_zero, List.set_cons_succ]
      refine wpAnyH_take (i := 3) (oi := ⟨_, _, _, _, _, _⟩) (v := .pointer (some ⟨qb, qo + k * 5, none⟩)) rfl (by kernel_rfl) (by kernel_rfl) (by kernel_rfl) (fun _ _ _ h => h) (Or.inl ⟨by rfl, fun w' h => by clear h; go_simp⟩) hH ?_
      simp only [Act.put, List.setIfInBounds_toArray, List.set_cons_zero, List.set_cons_succ]
      refine wpAnyH_take (i := 4) (oi := ⟨_, _, _, _, _, _⟩) (v := .agg #[.int .i64 fk, .int .i64 fn, .string fs, .string fnm, .slice fa fl.length fc]) rfl (by kernel_rfl) (by kernel_rfl) (by kernel_rfl) (fun _ _ _ h => h) (Or.inl ⟨by rfl, fun w' h => by obtain ⟨p0, p1, p2, p3, p4⟩ := HXF.out w' h; clear h; go_simp⟩) hH ?_
      simp only [Act.put, List.setIfInBounds_toArray, List.set_cons_zero, List.set_cons_succ]
      refine wpAnyH_ready (rs := [5]) (by kernel_rfl) (by simp) ?_
      refine (AllReadyH.cons (o := ⟨_, _, _, _, _, _⟩) rfl (fun K hK => ?_) AllReadyH.nil)
      go_simp
      refine (HMT.out _ hH).mono ?_
      rintro e V1 ⟨mv, rfl, hb⟩
      refine hK.out _ _ (hH.trans (hb.mono hH.size)) (fun hH => ?_)
      clear hK hb
      try simp only [Act.put, List.setIfInBounds_toArray, List.set_cons_zero, List.set_cons_succ]
      refine wpAnyH_take (i := 6) (oi := ⟨_, _, _, _, _, _⟩) (v := .tuple #[mv, .bool b]) rfl (by kernel_rfl) (by kernel_rfl) (by kernel_rfl) (fun _ _ _ h => h) (Or.inl ⟨by rfl, fun w' h => by clear h; go_simp⟩) hH ?_
      simp only [Act.put, List.setIfInBounds_toArray, List.set_cons_zero, List.set_cons_succ]
      refine wpAnyH_take (i := 7) (oi := ⟨_, _, _, _, _, _⟩) (v := mv) rfl (by kernel_rfl) (by kernel_rfl) (by kernel_rfl) (fun _ _ _ h => h) (Or.inl ⟨by rfl, fun w' h => by clear h; go_simp⟩) hH ?_
      simp only [Act.put, List.setIfInBounds_toArray, List.set_cons_zero, List.set_cons_succ]
      refine wpAnyH_take (i := 8) (oi := ⟨_, _, _, _, _, _⟩) (v := .bool b) rfl (by kernel_rfl) (by kernel_rfl) (by kernel_rfl) (fun _ _ _ h => h) (Or.inl ⟨by rfl, fun w' h => by clear h; go_simp⟩) hH ?_
      simp only [Act.put, List.setIfInBounds_toArray, List.set_cons_zero, List.set_cons_succ]
      refine wpAnyH_take (i := 9) (oi := ⟨_, _, _, _, _, _⟩) (v := mv) rfl (by kernel_rfl) (by kernel_rfl) (by kernel_rfl) (fun _ _ _ h => h) (Or.inl ⟨by rfl, fun w' h => by clear h; go_simp⟩) hH ?_
      simp only [Act.put, List.setIfInBounds_toArray, List.set_cons_zero, List.set_cons_succ]
      refine wpAnyH_take (i := 10) (oi := ⟨_, _, _, _, _, _⟩) (v := .bool b) rfl (by kernel_rfl) (by kernel_rfl) (by kernel_rfl) (fun _ _ _ h => h) (Or.inl ⟨by rfl, fun w' h => by clear h; go_simp⟩) hH ?_
      simp only [Act.put, List.setIfInBounds_toArray, List.set_cons_zero, List.set_cons_succ]
      refine wpAnyH_done (by kernel_rfl) ?_ _
      have HV := hm7 hH
      clear hH
      have HBV := hm7 (HB.out.trans (HV.out.mono HB.out.size))
      obtain ⟨p0, p1, p2, p3, p4⟩ := HXF.out _ HV.out
      have hwv := HV.out.size
      cases b with
      | false =>
        clear p0 p1 p2 p3 p4
        go_wp2
        go_roundg g1
        case measure => omega
        case rel => exact ⟨k + 1, Q', by have := HHK.out; omega, by go_num, HO.out.later HV.out, HIN.out, by omega, by rw [HTK.out, List.filter_append, ← HM.out]; simp [HBM.out], HBV.out⟩
      | true =>
        go_wp2_with (at_builtin; refine aapp_one rfl _ _ rfl W1.heap.size (.slice va Q'.length vc) Q' rfl ((HO.out.later HV.out).later (below1 _ _)) _ (⟨⟨fk, fn, fs⟩, fnm, fl⟩, .slice fa fl.length fc) rfl (CBlk.new _ _ _) (acell_one _ _ _ _) (by omega) (by simp; omega) ?_; intro v2 w2 ho2 hb2 hg2 hk2; have HO2 := hm7 ho2; have HB2 := hm7 (HBV.out.trans (((below1 _ _).mono (by omega)).trans hb2)); clear ho2 hb2 hg2 hk2)
        go_roundg g1
        case measure => omega
        case rel =>
          refine ⟨k + 1, _, by have := HHK.out; omega, by go_num, HO2.out, fun x hx => ?_, by simp; omega, by rw [HTK.out, List.filter_append, ← HM.out, List.map_append]; simp [HBM.out], HB2.out⟩
          rcases List.mem_append.1 hx with hx | hx
          · exact HIN.out x hx
          · rw [List.mem_singleton.1 hx]; exact HMY.out
    | zero =>
      have hlt : ¬ (k : Int) < (Q.length : Int) := by omega
      obtain rfl : k = Q.length := by omega
      clear ho hin hm hk hb
      go_wp2
      go_ret
      refine ⟨_, Q', rfl, ⟨HO.out.mono (by omega), fun x hx => ⟨(((HF.out.t x (HIN.out x hx)).1.later HB.out).mono (by have := HB0.out.size; omega)), (HF.out.t x (HIN.out x hx)).2⟩⟩, ?_, (HB0.out.trans (HB1.out.mono HB0.out.size)).trans (HB.out.mono hzz)⟩
      have := HM.out
      rw [List.take_length, HQ.out] at this
      exact HGO.out _ this
end Go.Proofs.YtechceagghcipaaGreatDoor
