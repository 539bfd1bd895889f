/-
  alike: two lists of tokens that are the same but for their places.
-/
import Derived.Test.YtekjicklbgpdcabDoorK31
namespace Go.Proofs.YtekjicklbgpdcabDoor
open Go.RowKit

set_option maxRecDepth 20000 in
set_option maxHeartbeats 2000000 in
theorem alike_any (T l : List Tk) (v u : Value) (w : World) (hv : Ks w v T) (hu : Ks w u l) (h : T.map Tk.bar = l.map Tk.bar) (hl : T.length < 1000000000) :
    Calls Tryd.prog 12 #[v, u] w fun e w' => e = .returned (.bool true) ∧ Below w.heap.size w w' := by
  have HV0 : Hid (Ks w v T) := hv
  have HU0 : Hid (Ks w u l) := hu
  have HM : Hid (T.map Tk.bar = l.map Tk.bar) := h
  have hll : T.length = l.length := by have := congrArg List.length h; simpa using this
  obtain ⟨va, vc, rfl, -⟩ := hv
  obtain ⟨ua, vc2, rfl, -⟩ := hu
  rw [← hll] at HU0 ⊢
  have HLL : Hid (T.length = l.length) := hll
  clear h hll
  go_enter Tryd.func12, Tryd.ntmps12
  go_wp2
  go_loopg [5] T.length (fun g i wr => ∃ j : Nat, j + g = T.length ∧ i = .int .i64 (j : Int) ∧ Below w.heap.size w wr)
  case atStart => exact ⟨0, by omega, rfl, Below.refl _ _⟩
  case round =>
    obtain ⟨j, hj, rfl, hbr⟩ := hrel
    have HBr : Hid (Below w.heap.size w wr) := hbr
    cases gk with
    | succ g =>
      have hlt : j < T.length := by omega
      have i0 : (0 : Int) ≤ (j : Int) := by omega
      have i1 : (j : Int) < (T.length : Int) := by omega
      obtain ⟨t, ht⟩ : ∃ t, T[j]? = some t := ⟨_, List.getElem?_eq_getElem hlt⟩
      obtain ⟨s, hs⟩ : ∃ s, l[j]? = some s := ⟨_, List.getElem?_eq_getElem (by rw [← HLL.out]; exact hlt)⟩
      have hts : t.bar = s.bar := by
        have := congrArg (fun z => z[j]?) HM.out
        simp only [List.getElem?_map, ht, hs, Option.map_some, Option.some.injEq] at this
        exact this
      obtain ⟨a1, cap1, hva, hm1⟩ := HV0.out.later hbr
      simp only [Value.slice.injEq, true_and] at hva
      obtain ⟨rfl, rfl⟩ := hva
      obtain ⟨a2, cap2, hva, hm2⟩ := HU0.out.later hbr
      simp only [Value.slice.injEq] at hva
      obtain ⟨rfl, -, rfl⟩ := hva
      rcases hm1 with hm1 | ⟨b1, o1, rfl, hb1, hm1⟩
      · rw [hm1] at hlt; simp at hlt
      rcases hm2 with hm2 | ⟨b2, o2, rfl, hb2, hm2⟩
      · rw [hm2] at hs; simp at hs
      have c1 := hm1 j t ht
      have c2 := hm2 j s hs
      obtain ⟨k, x, n, a, e⟩ := t
      obtain ⟨k', x', n', a', e'⟩ := s
      simp only [Tk.bar, Tk.mk.injEq, and_true] at hts
      obtain ⟨rfl, rfl, rfl⟩ := hts
      simp only at c1 c2
      have HAc : Hid (wr.cell? ⟨b1, o1 + j * 5, none⟩ = some (.int .i64 k) ∧ wr.cell? ⟨b1, o1 + j * 5 + 1, none⟩ = some (.string x) ∧ wr.cell? ⟨b1, o1 + j * 5 + 2, none⟩ = some (.int .i64 n) ∧ wr.cell? ⟨b1, o1 + j * 5 + 3, none⟩ = some (.int .i64 a) ∧ wr.cell? ⟨b1, o1 + j * 5 + 4, none⟩ = some (.int .i64 e)) := c1
      have HAz : Hid (b1 < wr.heap.size) := hb1
      have HBc : Hid (wr.cell? ⟨b2, o2 + j * 5, none⟩ = some (.int .i64 k) ∧ wr.cell? ⟨b2, o2 + j * 5 + 1, none⟩ = some (.string x) ∧ wr.cell? ⟨b2, o2 + j * 5 + 2, none⟩ = some (.int .i64 n) ∧ wr.cell? ⟨b2, o2 + j * 5 + 3, none⟩ = some (.int .i64 a') ∧ wr.cell? ⟨b2, o2 + j * 5 + 4, none⟩ = some (.int .i64 e')) := c2
      have HBz : Hid (b2 < wr.heap.size) := hb2
      clear c1 c2 hm1 hm2 ht hs hb1 hb2 hbr
      go_upto_region 6 with fail
      refine wp_region_held_drew (S := fun w' => Below wr.heap.size wr w') (by kernel_rfl) (Below.refl _ _).drew (fun hH => ?_)
      revert hH
      generalize wr.drew = V
      intro hH
      refine wpAnyH_take (i := 0) (oi := ⟨_, _, _, _, _, _⟩) (v := .slice (some ⟨b1, o1, none⟩) T.length vc) rfl (by kernel_rfl) (by kernel_rfl) (by kernel_rfl) (fun _ _ _ h => h) (Or.inl ⟨by rfl, fun w' _ => by go_simp⟩) hH ?_
      simp only [Act.put, List.setIfInBounds_toArray, List.set_cons_zero, List.set_cons_succ]
      refine wpAnyH_take (i := 1) (oi := ⟨_, _, _, _, _, _⟩) (v := .int .i64 (j : Int)) rfl (by kernel_rfl) (by kernel_rfl) (by kernel_rfl) (fun _ _ _ h => h) (Or.inl ⟨by rfl, fun w' _ => by go_simp⟩) hH ?_
      simp only [Act.put, List.setIfInBounds_toArray, List.set_cons_zero, List.set_cons_succ]
      refine wpAnyH_take (i := 2) (oi := ⟨_, _, _, _, _, _⟩) (v := .pointer (some ⟨b1, o1 + j * 5, none⟩)) rfl (by kernel_rfl) (by kernel_rfl) (by kernel_rfl) (fun _ _ _ h => h) (Or.inl ⟨by rfl, fun w' _ => by go_simp⟩) hH ?_
      simp only [Act.put, List.setIfInBounds_toArray, List.set_cons_zero, List.set_cons_succ]
      refine wpAnyH_take (i := 3) (oi := ⟨_, _, _, _, _, _⟩) (v := Tk.v ⟨k, x, n, a, e⟩) rfl (by kernel_rfl) (by kernel_rfl) (by kernel_rfl) (fun _ _ _ h => h) (Or.inl ⟨by rfl, fun w' h => by obtain ⟨p0, p1, p2, p3, p4⟩ := HAc.out; have z := HAz.out; have a0 := cell_step h z p0; have a1 := cell_step h z p1; have a2 := cell_step h z p2; have a3 := cell_step h z p3; have a4 := cell_step h z p4; clear p0 p1 p2 p3 p4; go_simp⟩) hH ?_
      simp only [Act.put, List.setIfInBounds_toArray, List.set_cons_zero, List.set_cons_succ]
      refine wpAnyH_take (i := 5) (oi := ⟨_, _, _, _, _, _⟩) (v := .slice (some ⟨b2, o2, none⟩) T.length vc2) rfl (by kernel_rfl) (by kernel_rfl) (by kernel_rfl) (fun _ _ _ h => h) (Or.inl ⟨by rfl, fun w' _ => by go_simp⟩) hH ?_
      simp only [Act.put, List.setIfInBounds_toArray, List.set_cons_zero, List.set_cons_succ]
      refine wpAnyH_take (i := 6) (oi := ⟨_, _, _, _, _, _⟩) (v := .int .i64 (j : Int)) rfl (by kernel_rfl) (by kernel_rfl) (by kernel_rfl) (fun _ _ _ h => h) (Or.inl ⟨by rfl, fun w' _ => by go_simp⟩) hH ?_
      simp only [Act.put, List.setIfInBounds_toArray, List.set_cons_zero, List.set_cons_succ]
      refine wpAnyH_take (i := 7) (oi := ⟨_, _, _, _, _, _⟩) (v := .pointer (some ⟨b2, o2 + j * 5, none⟩)) rfl (by kernel_rfl) (by kernel_rfl) (by kernel_rfl) (fun _ _ _ h => h) (Or.inl ⟨by rfl, fun w' _ => by go_simp⟩) hH ?_
      simp only [Act.put, List.setIfInBounds_toArray, List.set_cons_zero, List.set_cons_succ]
      refine wpAnyH_take (i := 8) (oi := ⟨_, _, _, _, _, _⟩) (v := Tk.v ⟨k, x, n, a', e'⟩) rfl (by kernel_rfl) (by kernel_rfl) (by kernel_rfl) (fun _ _ _ h => h) (Or.inl ⟨by rfl, fun w' h => by obtain ⟨p0, p1, p2, p3, p4⟩ := HBc.out; have z := HBz.out; have a0 := cell_step h z p0; have a1 := cell_step h z p1; have a2 := cell_step h z p2; have a3 := cell_step h z p3; have a4 := cell_step h z p4; clear p0 p1 p2 p3 p4; go_simp⟩) hH ?_
      simp only [Act.put, List.setIfInBounds_toArray, List.set_cons_zero, List.set_cons_succ]
      refine wpAnyH_ready (rs := [4]) (by kernel_rfl) (by simp) ?_
      refine (AllReadyH.cons (o := ⟨_, _, _, _, _, _⟩) rfl (fun K hK => ?_) AllReadyH.nil)
      go_simp
      refine (bare_any ⟨k, x, n, a, e⟩ _).mono ?_
      rintro x1 V1 ⟨rfl, hb⟩
      refine hK.out _ _ (below_step hH hb) (fun hH => ?_)
      clear hK K
      refine wpAnyH_ready (rs := [9]) (by kernel_rfl) (by simp) ?_
      refine (AllReadyH.cons (o := ⟨_, _, _, _, _, _⟩) rfl (fun K hK => ?_) AllReadyH.nil)
      go_simp
      refine (bare_any ⟨k, x, n, a', e'⟩ _).mono ?_
      rintro x1 V2 ⟨rfl, hb⟩
      refine hK.out _ _ (below_step hH hb) (fun hH => ?_)
      clear hK K
      refine wpAnyH_take (i := 10) (oi := ⟨_, _, _, _, _, _⟩) (v := .bool false) rfl (by kernel_rfl) (by kernel_rfl) (by kernel_rfl) (fun _ _ _ h => h) (Or.inl ⟨by rfl, fun w' _ => by go_simp⟩) hH ?_
      simp only [Act.put, List.setIfInBounds_toArray, List.set_cons_zero, List.set_cons_succ]
      refine wpAnyH_done (by kernel_rfl) ?_ _
      have HV : Hid (Below wr.heap.size wr V2) := hH
      clear hH hb
      go_wp2
      go_roundg g
      case measure => omega
      case rel => exact ⟨j + 1, by omega, by go_num, below_step HBr.out HV.out⟩
    | zero =>
      obtain rfl : j = T.length := by omega
      have hz : ¬ ((T.length : Int) < (T.length : Int)) := by omega
      clear hbr
      go_wp2
      go_ret
      exact ⟨rfl, HBr.out⟩
end Go.Proofs.YtekjicklbgpdcabDoor
