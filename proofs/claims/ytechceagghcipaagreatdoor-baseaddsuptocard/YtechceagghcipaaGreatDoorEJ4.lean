import Derived.Test.YtechceagghcipaaGreatDoorAA0
import Derived.Test.YtechceagghcipaaGreatDoorEJ3
import Derived.Test.YtechceagghcipaaGreatDoorX3
namespace Go.Proofs.YtechceagghcipaaGreatDoor
open Go.RowKit
attribute [local go_sem ↓] Go.wp_at_zero Go.wp_at_succ

def pt8 (R : List It8) (f : At) (q : Int) : Prop := (f, q) ∈ Ei R ∨ (f ∉ (Ei R).map Prod.fst /\ q = 0)
theorem pt8_eq {R : List It8} {f : At} {q q' : Int} (h : ∀ p, (f, p) ∈ Ei R ↔ p ≠ 0 /\ q = p) (h' : pt8 R f q') : q = q' := by
 rcases h' with h' | ⟨h', rfl⟩
 ·exact ((h q').1 h').2
 ·by_cases hq : q = 0
  ·exact hq
  ·exact absurd (List.mem_map.2 ⟨_, (h q).2 ⟨hq, rfl⟩, rfl⟩) h'
structure Sz8 (a : At) : Prop where
 t : ∀ t ∈ a.pl, t.s.size <= maxLen
 n : a.name.size <= maxLen
theorem Sz8.of {a : At} (hk : ∀ t ∈ a.pl, KeyT t) (hp : KeyP a.pd8) : Sz8 a := ⟨fun t ht => (hk t ht).s, hp.n⟩
theorem Kd8.sz {R : List It8} (h : Kd8 R) {j : Nat} {x : It8} (hx : R[j]? = some x) : Sz8 x.1.1 := Sz8.of (h x (List.mem_of_getElem? hx)).1 (h x (List.mem_of_getElem? hx)).2
set_option maxRecDepth 20000 in
set_option maxHeartbeats 1000000 in
theorem rbpart8_any (w0 : World) (A : Nat -> Prop) (r : Nat) (lv : Value) (R : List It8) (f : At) (fx : Value) (Y : World) (h : RB8 w0 A r lv R Y) (hf : Ts Y fx f.args) (hz : Sz8 f) (hk : Kd8 R) (hl : R.length <= 1000000000) :
  Calls Tryz.prog 74 #[.pointer (some ⟨r, 0, none⟩), f.v fx] Y fun e Y' => ∃ q, pt8 R f q /\ e = .returned (.int .i64 q) /\ Below Y.heap.size Y Y' := by
 have H := hm7 h
 have HA := hm7 h.l.is
 have HF := hm7 hf
 have HZ := hm7 hz
 have HK := hm7 hk
 obtain ⟨la, cap, rfl⟩ := h.l.o.form
 have HTS : Hid (∀ x ∈ R, Ts Y x.1.2 x.1.1.args) := by obtain ⟨_, _, _, _, h⟩ := HA.out; exact h
 obtain ⟨ay, cy, hay, -⟩ := hf
 obtain ⟨⟨ky, my, sy⟩, ny, ly⟩ := f
 simp only at hay
 subst hay
 obtain ⟨Y0, hY0⟩ : ∃ Y0, Y.alloc (.cells #[.int .i64 ky, .int .i64 my, .string sy, .string ny, .slice ay ly.length cy] 27) = Y0 := ⟨_, rfl⟩
 have hb0 : Below Y.heap.size Y Y0 := by rw [<- hY0]; exact below1 _ _
 have HBX : Hid (Bk Y0 Y.heap.size #[.int .i64 ky, .int .i64 my, .string sy, .string ny, .slice ay ly.length cy] 27) := by show Bk _ _ _ _; rw [<- hY0]; exact Bk.new _ _ _
 have HB0 := hm7 hb0
 clear hb0 h hz hk
 go_enter Tryz.func74, Tryz.ntmps74
 go_wp2
 first | rw [hY0] | skip
 go_loopg [5] R.length (fun g i wr => ∃ j : Nat, j + g = R.length /\ i = .int .i64 j /\ (∀ (k : Nat) y, k < j -> R[k]? = some y -> y.1.1 ≠ ⟨⟨ky, my, sy⟩, ny, ly⟩) /\ Below Y0.heap.size Y0 wr)
 case atStart => exact ⟨0, by omega, rfl, fun k y hk => by omega, Below.refl _ _⟩
 case round =>
  obtain ⟨j, hj, rfl, hno, hw⟩ := hrel
  have HNO := hm7 hno
  have HW := hm7 hw
  have HB := hm7 (HB0.out.trans (hw.mono HB0.out.size))
  have HCR : Hid (∀ (X : World), Below wr.heap.size wr X -> X.cell? ⟨r, 0, none⟩ = some (.slice la R.length cap)) := fun X hX => ((H.out.below HB.out).below hX).cell
  have q0 := HCR.out wr (Below.refl _ _)
  cases gk with
  | succ g =>
   have hlt : (j : Int) < (R.length : Int) := by omega
   have j0 : (0 : Int) <= (j : Int) := by omega
   obtain ⟨x, hx⟩ : ∃ x, R[j]? = some x := ⟨_, List.getElem?_eq_getElem (by omega)⟩
   have hb := HB.out
   have t1 := HTS.out x (List.mem_of_getElem? hx)
   have s1 := HK.out.sz hx
   have HC0 := fun (X : World) (hX : Below wr.heap.size wr X) => rsame_any x.1.1 ⟨⟨ky, my, sy⟩, ny, ly⟩ x.1.2 (.slice ay ly.length cy) X ((t1.later hb).later hX) ((HF.out.later hb).later hX) s1.t HZ.out.t s1.n HZ.out.n
   obtain ⟨lb, lo, ax, cx, rfl, hax, c1⟩ := HA.out.get hx
   have HNX := hm7 hx
   have HX2 : Hid (∀ (X : World), Below wr.heap.size wr X -> X.cell? ⟨Y.heap.size, 0, none⟩ = some (.int .i64 ky) /\ X.cell? ⟨Y.heap.size, 1, none⟩ = some (.int .i64 my) /\ X.cell? ⟨Y.heap.size, 2, none⟩ = some (.string sy) /\ X.cell? ⟨Y.heap.size, 3, none⟩ = some (.string ny) /\ X.cell? ⟨Y.heap.size, 4, none⟩ = some (.slice ay ly.length cy)) := fun X hX => by
    obtain ⟨⟨q0, q1⟩, q2, q3, q4⟩ := five8 ((HBX.out.below HW.out).below hX)
    exact ⟨q0, q1, q2, q3, q4⟩
   obtain ⟨⟨⟨⟨kx, mx, sx⟩, nx, lx⟩, vx⟩, px⟩ := x
   simp only at hax c1 HC0
   subst hax
   have HX1 := hm7 (fun (X : World) (hX : Below wr.heap.size wr X) => (c1 X (hb.trans (hX.mono hb.size))).1)
   have HX5 := hm7 (fun (X : World) (hX : Below wr.heap.size wr X) => (c1 X (hb.trans (hX.mono hb.size))).2)
   by_cases hxy : At.mk ⟨kx, mx, sx⟩ nx lx = ⟨⟨ky, my, sy⟩, ny, ly⟩
   ·rw [decide_eq_true hxy] at HC0
    have HCM : Hid (∀ (X : World), Below wr.heap.size wr X -> Calls Tryz.prog 108 #[.agg #[.int .i64 kx, .int .i64 mx, .string sx, .string nx, .slice ax lx.length cx], .agg #[.int .i64 ky, .int .i64 my, .string sy, .string ny, .slice ay ly.length cy]] X fun e w' => e = .returned (.bool true) /\ Below X.heap.size X w') := HC0
    have HPL : Hid (pt8 R ⟨⟨ky, my, sy⟩, ny, ly⟩ px) := Or.inl (by rw [<- hxy]; exact Ei_mem HNX.out)
    clear hx t1 s1 c1 HC0 hxy hb hno hw
    go_upto_region 4 with fail
    clear q0
    refine wp_region_held_drew (S := fun w' => Below wr.heap.size wr w') (by kernel_rfl) (by exact (Below.refl _ _).drew) (fun hH => ?_)
    revert hH
    generalize wr.drew = V
    intro hH
    refine wTk 0 (.pointer (some ⟨r, 0, none⟩)) rfl (by kernel_rfl) (fun _ _ _ h => h) (Or.inl ⟨by rfl, fun w' h => by clear h; go_simp⟩) hH ?_
    simp only [wA8, wB8, wC8, wD8]
    refine wTk 1 (.pointer (some ⟨r, 0, none⟩)) rfl (by kernel_rfl) (fun _ _ _ h => h) (Or.inl ⟨by rfl, fun w' h => by clear h; go_simp⟩) hH ?_
    simp only [wA8, wB8, wC8, wD8]
    refine wTk 2 (.pointer (some ⟨r, 0, none⟩)) rfl (by kernel_rfl) (fun _ _ _ h => h) (Or.inl ⟨by rfl, fun w' h => by clear h; go_simp⟩) hH ?_
    simp only [wA8, wB8, wC8, wD8]
    refine wTk 3 (.slice (some ⟨lb, lo, none⟩) R.length cap) rfl (by kernel_rfl) (fun _ _ _ h => h) (Or.inl ⟨by rfl, fun w' h => by have q0 := HCR.out w' h; clear h; go_simp⟩) hH ?_
    simp only [wA8, wB8, wC8, wD8]
    refine wTk 4 (.int .i64 (j : Int)) rfl (by kernel_rfl) (fun _ _ _ h => h) (Or.inl ⟨by rfl, fun w' h => by clear h; go_simp⟩) hH ?_
    simp only [wA8, wB8, wC8, wD8]
    refine wTk 5 (.pointer (some ⟨lb, lo + j * 6, none⟩)) rfl (by kernel_rfl) (fun _ _ _ h => h) (Or.inl ⟨by rfl, fun w' h => by clear h; go_simp⟩) hH ?_
    simp only [wA8, wB8, wC8, wD8]
    refine wTk 6 (.pointer (some ⟨lb, lo + j * 6, none⟩)) rfl (by kernel_rfl) (fun _ _ _ h => h) (Or.inl ⟨by rfl, fun w' h => by clear h; go_simp⟩) hH ?_
    simp only [wA8, wB8, wC8, wD8]
    refine wTk 7 (.agg #[.int .i64 kx, .int .i64 mx, .string sx, .string nx, .slice ax lx.length cx]) rfl (by kernel_rfl) (fun _ _ _ h => h) (Or.inl ⟨by rfl, fun w' h => by obtain ⟨p0, p1, p2, p3, p4⟩ := HX1.out w' h; clear h; go_simp⟩) hH ?_
    simp only [wA8, wB8, wC8, wD8]
    refine wTk 8 (.agg #[.int .i64 ky, .int .i64 my, .string sy, .string ny, .slice ay ly.length cy]) rfl (by kernel_rfl) (fun _ _ _ h => h) (Or.inl ⟨by rfl, fun w' h => by obtain ⟨p0, p1, p2, p3, p4⟩ := HX2.out w' h; clear h; go_simp⟩) hH ?_
    simp only [wA8, wB8, wC8, wD8]
    refine wRd 9 (by kernel_rfl) rfl (fun K hK => ?_)
    go_simp
    refine (HCM.out _ hH).mono ?_
    rintro e V1 ⟨rfl, hb⟩
    refine hK.out _ _ (hH.trans (hb.mono hH.size)) (fun hH => ?_)
    clear hK hb
    try simp only [wA8, wB8, wC8, wD8]
    refine wpAnyH_done (by kernel_rfl) ?_ _
    have HV := hm7 hH
    clear hH
    have q0 := HCR.out _ HV.out
    have q5 := HX5.out _ HV.out
    go_wp2
    go_ret
    exact ⟨px, HPL.out, rfl, HB.out.trans (HV.out.mono HB.out.size)⟩
   ·rw [decide_eq_false hxy] at HC0
    have HCM : Hid (∀ (X : World), Below wr.heap.size wr X -> Calls Tryz.prog 108 #[.agg #[.int .i64 kx, .int .i64 mx, .string sx, .string nx, .slice ax lx.length cx], .agg #[.int .i64 ky, .int .i64 my, .string sy, .string ny, .slice ay ly.length cy]] X fun e w' => e = .returned (.bool false) /\ Below X.heap.size X w') := HC0
    have HXY := hm7 hxy
    clear hx t1 s1 c1 HC0 hxy hb hno hw
    go_upto_region 4 with fail
    clear q0
    refine wp_region_held_drew (S := fun w' => Below wr.heap.size wr w') (by kernel_rfl) (by exact (Below.refl _ _).drew) (fun hH => ?_)
    revert hH
    generalize wr.drew = V
    intro hH
    refine wTk 0 (.pointer (some ⟨r, 0, none⟩)) rfl (by kernel_rfl) (fun _ _ _ h => h) (Or.inl ⟨by rfl, fun w' h => by clear h; go_simp⟩) hH ?_
    simp only [wA8, wB8, wC8, wD8]
    refine wTk 1 (.pointer (some ⟨r, 0, none⟩)) rfl (by kernel_rfl) (fun _ _ _ h => h) (Or.inl ⟨by rfl, fun w' h => by clear h; go_simp⟩) hH ?_
    simp only [wA8, wB8, wC8, wD8]
    refine wTk 2 (.pointer (some ⟨r, 0, none⟩)) rfl (by kernel_rfl) (fun _ _ _ h => h) (Or.inl ⟨by rfl, fun w' h => by clear h; go_simp⟩) hH ?_
    simp only [wA8, wB8, wC8, wD8]
    refine wTk 3 (.slice (some ⟨lb, lo, none⟩) R.length cap) rfl (by kernel_rfl) (fun _ _ _ h => h) (Or.inl ⟨by rfl, fun w' h => by have q0 := HCR.out w' h; clear h; go_simp⟩) hH ?_
    simp only [wA8, wB8, wC8, wD8]
    refine wTk 4 (.int .i64 (j : Int)) rfl (by kernel_rfl) (fun _ _ _ h => h) (Or.inl ⟨by rfl, fun w' h => by clear h; go_simp⟩) hH ?_
    simp only [wA8, wB8, wC8, wD8]
    refine wTk 5 (.pointer (some ⟨lb, lo + j * 6, none⟩)) rfl (by kernel_rfl) (fun _ _ _ h => h) (Or.inl ⟨by rfl, fun w' h => by clear h; go_simp⟩) hH ?_
    simp only [wA8, wB8, wC8, wD8]
    refine wTk 6 (.pointer (some ⟨lb, lo + j * 6, none⟩)) rfl (by kernel_rfl) (fun _ _ _ h => h) (Or.inl ⟨by rfl, fun w' h => by clear h; go_simp⟩) hH ?_
    simp only [wA8, wB8, wC8, wD8]
    refine wTk 7 (.agg #[.int .i64 kx, .int .i64 mx, .string sx, .string nx, .slice ax lx.length cx]) rfl (by kernel_rfl) (fun _ _ _ h => h) (Or.inl ⟨by rfl, fun w' h => by obtain ⟨p0, p1, p2, p3, p4⟩ := HX1.out w' h; clear h; go_simp⟩) hH ?_
    simp only [wA8, wB8, wC8, wD8]
    refine wTk 8 (.agg #[.int .i64 ky, .int .i64 my, .string sy, .string ny, .slice ay ly.length cy]) rfl (by kernel_rfl) (fun _ _ _ h => h) (Or.inl ⟨by rfl, fun w' h => by obtain ⟨p0, p1, p2, p3, p4⟩ := HX2.out w' h; clear h; go_simp⟩) hH ?_
    simp only [wA8, wB8, wC8, wD8]
    refine wRd 9 (by kernel_rfl) rfl (fun K hK => ?_)
    go_simp
    refine (HCM.out _ hH).mono ?_
    rintro e V1 ⟨rfl, hb⟩
    refine hK.out _ _ (hH.trans (hb.mono hH.size)) (fun hH => ?_)
    clear hK hb
    try simp only [wA8, wB8, wC8, wD8]
    refine wpAnyH_done (by kernel_rfl) ?_ _
    have HV := hm7 hH
    clear hH
    go_wp2
    go_roundg g
    case measure => omega
    case rel =>
     refine ⟨j + 1, by omega, by go_num, fun k y hk hy => ?_, HW.out.trans (HV.out.mono HW.out.size)⟩
     rcases Nat.lt_or_ge k j with h1 | h1
     ·exact HNO.out k y h1 hy
     ·obtain rfl : k = j := by omega
      have e := HNX.out
      rw [hy] at e
      cases e
      exact HXY.out
  | zero =>
   have hlt : ¬ (j : Int) < (R.length : Int) := by omega
   have HPL : Hid (pt8 R ⟨⟨ky, my, sy⟩, ny, ly⟩ 0) := Or.inr ⟨fun hc => by
    obtain ⟨y, hy, e⟩ := List.mem_map.1 hc
    obtain ⟨x, hx, rfl⟩ := List.mem_map.1 hy
    obtain ⟨k, hk⟩ := List.getElem?_of_mem hx
    exact hno k x (by have := (List.getElem?_eq_some_iff.1 hk).1; omega) hk e, rfl⟩
   clear hno hw
   go_wp2
   go_ret
   exact ⟨0, HPL.out, rfl, HB.out⟩
end Go.Proofs.YtechceagghcipaaGreatDoor
