import Derived.Test.YtechceagghcipabGreatDoorRA2
import Derived.Test.YtechceagghcipabGreatDoorX1
import Derived.Test.YtechceagghcipabGreatDoorX3
namespace Go.Proofs.YtechceagghcipabGreatDoor
open Go.RowKit
attribute [local go_sem ↓] Go.wp_at_zero Go.wp_at_succ
def pt8 (R : List It8) (f : At) (q : Int) : Prop := (f, q) ∈ Ei R ∨ (f ∉ (Ei R).map Prod.fst /\ q = 0)
theorem pt8_eq {R : List It8} {f : At} {q q' : Int} (h : ∀ p, (f, p) ∈ Ei R ↔ p ≠ 0 /\ q = p) (h' : pt8 R f q') : q = q' := by
 rcases h' with h' | ⟨h', rfl⟩
 ·exact ((h q').1 h').2
 ·by_cases hq : q = 0
  ·exact hq
  ·exact absurd (List.mem_map.2 ⟨_, (h q).2 ⟨hq, rfl⟩, rfl⟩) h'
structure Sz8 (a : At) : Prop where
 t : ∀ t ∈ a.pl, t.s.size <= maxLen
 n : a.name.size <= maxLen
theorem Sz8.of {a : At} (hk : ∀ t ∈ a.pl, KeyT t) (hp : KeyP a.pd8) : Sz8 a := ⟨fun t ht => (hk t ht).s, hp.n⟩
theorem Kd8.sz {R : List It8} (h : Kd8 R) {j : Nat} {x : It8} (hx : R[j]? = some x) : Sz8 x.1.1 := Sz8.of (h x (List.mem_of_getElem? hx)).1 (h x (List.mem_of_getElem? hx)).2
set_option maxRecDepth 20000 in
set_option maxHeartbeats 1000000 in
theorem rbpart8_any (w0 : World) (A : Nat -> Prop) (r : Nat) (lv : Value) (R : List It8) (f : At) (fx : Value) (Y : World) (h : RB8 w0 A r lv R Y) (hf : Ts Y fx f.args) (hz : Sz8 f) (hk : Kd8 R) (hl : R.length <= 1000000000) :
  Calls Tryz.prog 17 #[.pointer (some ⟨r, 0, none⟩), f.v fx] Y fun e Y' => ∃ q, pt8 R f q /\ e = .returned (.int .i64 q) /\ Below Y.heap.size Y Y' := by
 have H := hm7 h
 have HA := hm7 h.l.is
 have HF := hm7 hf
 have HZ := hm7 hz
 have HK := hm7 hk
 obtain ⟨la, cap, rfl⟩ := h.l.o.form
 have HTS : Hid (∀ x ∈ R, Ts Y x.1.2 x.1.1.args) := by obtain ⟨_, _, _, _, h⟩ := HA.out; exact h
 obtain ⟨ay, cy, hay, -⟩ := hf
 obtain ⟨⟨ky, my, sy⟩, ny, ly⟩ := f
 simp only at hay
 subst hay
 obtain ⟨Y0, hY0⟩ : ∃ Y0, Y.alloc (.cells #[.int .i64 ky, .int .i64 my, .string sy, .string ny, .slice ay ly.length cy] 33) = Y0 := ⟨_, rfl⟩
 have hb0 : Below Y.heap.size Y Y0 := by rw [<- hY0]; exact below1 _ _
 have HBX : Hid (Bk Y0 Y.heap.size #[.int .i64 ky, .int .i64 my, .string sy, .string ny, .slice ay ly.length cy] 33) := by show Bk _ _ _ _; rw [<- hY0]; exact Bk.new _ _ _
 have HB0 := hm7 hb0
 clear hb0 h hz hk
 go_enter Tryz.func17, Tryz.ntmps17
 go_wp2
 first | rw [hY0] | skip
 go_loopg [5] R.length (fun g i wr => ∃ j : Nat, j + g = R.length /\ i = .int .i64 j /\ (∀ (k : Nat) y, k < j -> R[k]? = some y -> y.1.1 ≠ ⟨⟨ky, my, sy⟩, ny, ly⟩) /\ Below Y0.heap.size Y0 wr)
 case atStart => exact ⟨0, by omega, rfl, fun k y hk => by omega, Below.refl _ _⟩
 case round =>
  obtain ⟨j, hj, rfl, hno, hw⟩ := hrel
  have HNO := hm7 hno
  have HW := hm7 hw
  have HB := hm7 (HB0.out.trans (hw.mono HB0.out.size))
  have HCR : Hid (∀ (X : World), Below wr.heap.size wr X -> X.cell? ⟨r, 0, none⟩ = some (.slice la R.length cap)) := fun X hX => ((H.out.below HB.out).below hX).cell
  have q0 := HCR.out wr (Below.refl _ _)
  cases gk with
  | succ g =>
   have hlt : (j : Int) < (R.length : Int) := by omega
   have j0 : (0 : Int) <= (j : Int) := by omega
   obtain ⟨x, hx⟩ : ∃ x, R[j]? = some x := ⟨_, List.getElem?_eq_getElem (by omega)⟩
   have hb := HB.out
   have t1 := HTS.out x (List.mem_of_getElem? hx)
   have s1 := HK.out.sz hx
   have HC0 := fun (X : World) (hX : Below wr.heap.size wr X) => rsame_any x.1.1 ⟨⟨ky, my, sy⟩, ny, ly⟩ x.1.2 (.slice ay ly.length cy) X ((t1.later hb).later hX) ((HF.out.later hb).later hX) s1.t HZ.out.t s1.n HZ.out.n
   obtain ⟨lb, lo, ax, cx, rfl, hax, c1⟩ := HA.out.get hx
   have HNX := hm7 hx
   have HX2 : Hid (∀ (X : World), Below wr.heap.size wr X -> X.cell? ⟨Y.heap.size, 0, none⟩ = some (.int .i64 ky) /\ X.cell? ⟨Y.heap.size, 1, none⟩ = some (.int .i64 my) /\ X.cell? ⟨Y.heap.size, 2, none⟩ = some (.string sy) /\ X.cell? ⟨Y.heap.size, 3, none⟩ = some (.string ny) /\ X.cell? ⟨Y.heap.size, 4, none⟩ = some (.slice ay ly.length cy)) := fun X hX => by
    obtain ⟨⟨q0, q1⟩, q2, q3, q4⟩ := five8 ((HBX.out.below HW.out).below hX)
    exact ⟨q0, q1, q2, q3, q4⟩
   obtain ⟨⟨⟨⟨kx, mx, sx⟩, nx, lx⟩, vx⟩, px⟩ := x
   simp only at hax c1 HC0
   subst hax
   have HX1 := hm7 (fun (X : World) (hX : Below wr.heap.size wr X) => (c1 X (hb.trans (hX.mono hb.size))).1)
   have HX5 := hm7 (fun (X : World) (hX : Below wr.heap.size wr X) => (c1 X (hb.trans (hX.mono hb.size))).2)
   by_cases hxy : At.mk ⟨kx, mx, sx⟩ nx lx = ⟨⟨ky, my, sy⟩, ny, ly⟩
   ·rw [decide_eq_true hxy] at HC0
    have HCM : Hid (∀ (X : World), Below wr.heap.size wr X -> Calls Tryz.prog 39 #[.agg #[.int .i64 kx, .int .i64 mx, .string sx, .string nx, .slice ax lx.length cx], .agg #[.int .i64 ky, .int .i64 my, .string sy, .string ny, .slice ay ly.length cy]] X fun e w' => e = .returned (.bool true) /\ Below X.heap.size X w') := HC0
    have HPL : Hid (pt8 R ⟨⟨ky, my, sy⟩, ny, ly⟩ px) := Or.inl (by rw [<- hxy]; exact Ei_mem HNX.out)
    clear hx t1 s1 c1 HC0 hxy hb hno hw
    go_upto_region 4 with fail
    clear q0
    refine wp_region_held_drew (S := fun w' => Below wr.heap.size wr w') (by kernel_rfl) (by exact (Below.refl _ _).drew) (fun hH => ?_)
    revert hH
    generalize wr.drew = V
    intro hH
    refine wTl 0 (.pointer (some ⟨r, 0, none⟩)) rfl (by kernel_rfl) (fun _ _ _ h => h) rfl (fun w' h => by clear h; go_simp) hH ?_
    simp only [wA, wB, wC, wD]
    refine wTl 1 (.pointer (some ⟨r, 0, none⟩)) rfl (by kernel_rfl) (fun _ _ _ h => h) rfl (fun w' h => by clear h; go_simp) hH ?_
    simp only [wA, wB, wC, wD]
    refine wTl 2 (.pointer (some ⟨r, 0, none⟩)) rfl (by kernel_rfl) (fun _ _ _ h => h) rfl (fun w' h => by clear h; go_simp) hH ?_
    simp only [wA, wB, wC, wD]
    refine wTl 3 (.slice (some ⟨lb, lo, none⟩) R.length cap) rfl (by kernel_rfl) (fun _ _ _ h => h) rfl (fun w' h => by have q0 := HCR.out w' h; clear h; go_simp) hH ?_
    simp only [wA, wB, wC, wD]
    refine wTl 4 (.int .i64 (j : Int)) rfl (by kernel_rfl) (fun _ _ _ h => h) rfl (fun w' h => by clear h; go_simp) hH ?_
    simp only [wA, wB, wC, wD]
    refine wTl 5 (.pointer (some ⟨lb, lo + j * 6, none⟩)) rfl (by kernel_rfl) (fun _ _ _ h => h) rfl (fun w' h => by clear h; go_simp) hH ?_
    simp only [wA, wB, wC, wD]
    refine wTl 6 (.pointer (some ⟨lb, lo + j * 6, none⟩)) rfl (by kernel_rfl) (fun _ _ _ h => h) rfl (fun w' h => by clear h; go_simp) hH ?_
    simp only [wA, wB, wC, wD]
    refine wTl 7 (.agg #[.int .i64 kx, .int .i64 mx, .string sx, .string nx, .slice ax lx.length cx]) rfl (by kernel_rfl) (fun _ _ _ h => h) rfl (fun w' h => by obtain ⟨p0, p1, p2, p3, p4⟩ := HX1.out w' h; clear h; go_simp) hH ?_
    simp only [wA, wB, wC, wD]
    refine wTl 8 (.agg #[.int .i64 ky, .int .i64 my, .string sy, .string ny, .slice ay ly.length cy]) rfl (by kernel_rfl) (fun _ _ _ h => h) rfl (fun w' h => by obtain ⟨p0, p1, p2, p3, p4⟩ := HX2.out w' h; clear h; go_simp) hH ?_
    simp only [wA, wB, wC, wD]
    refine wRd 9 (by kernel_rfl) rfl (fun K hK => ?_)
    go_simp
    refine (HCM.out _ hH).mono ?_
    rintro e V1 ⟨rfl, hb⟩
    refine hK.out _ _ (hH.trans (hb.mono hH.size)) (fun hH => ?_)
    clear hK hb
    try simp only [wA, wB, wC, wD]
    refine wpAnyH_done (by kernel_rfl) ?_ _
    have HV := hm7 hH
    clear hH
    have q0 := HCR.out _ HV.out
    have q5 := HX5.out _ HV.out
    go_wp2
    go_ret
    exact ⟨px, HPL.out, rfl, HB.out.trans (HV.out.mono HB.out.size)⟩
   ·rw [decide_eq_false hxy] at HC0
    have HCM : Hid (∀ (X : World), Below wr.heap.size wr X -> Calls Tryz.prog 39 #[.agg #[.int .i64 kx, .int .i64 mx, .string sx, .string nx, .slice ax lx.length cx], .agg #[.int .i64 ky, .int .i64 my, .string sy, .string ny, .slice ay ly.length cy]] X fun e w' => e = .returned (.bool false) /\ Below X.heap.size X w') := HC0
    have HXY := hm7 hxy
    clear hx t1 s1 c1 HC0 hxy hb hno hw
    go_upto_region 4 with fail
    clear q0
    refine wp_region_held_drew (S := fun w' => Below wr.heap.size wr w') (by kernel_rfl) (by exact (Below.refl _ _).drew) (fun hH => ?_)
    revert hH
    generalize wr.drew = V
    intro hH
    refine wTl 0 (.pointer (some ⟨r, 0, none⟩)) rfl (by kernel_rfl) (fun _ _ _ h => h) rfl (fun w' h => by clear h; go_simp) hH ?_
    simp only [wA, wB, wC, wD]
    refine wTl 1 (.pointer (some ⟨r, 0, none⟩)) rfl (by kernel_rfl) (fun _ _ _ h => h) rfl (fun w' h => by clear h; go_simp) hH ?_
    simp only [wA, wB, wC, wD]
    refine wTl 2 (.pointer (some ⟨r, 0, none⟩)) rfl (by kernel_rfl) (fun _ _ _ h => h) rfl (fun w' h => by clear h; go_simp) hH ?_
    simp only [wA, wB, wC, wD]
    refine wTl 3 (.slice (some ⟨lb, lo, none⟩) R.length cap) rfl (by kernel_rfl) (fun _ _ _ h => h) rfl (fun w' h => by have q0 := HCR.out w' h; clear h; go_simp) hH ?_
    simp only [wA, wB, wC, wD]
    refine wTl 4 (.int .i64 (j : Int)) rfl (by kernel_rfl) (fun _ _ _ h => h) rfl (fun w' h => by clear h; go_simp) hH ?_
    simp only [wA, wB, wC, wD]
    refine wTl 5 (.pointer (some ⟨lb, lo + j * 6, none⟩)) rfl (by kernel_rfl) (fun _ _ _ h => h) rfl (fun w' h => by clear h; go_simp) hH ?_
    simp only [wA, wB, wC, wD]
    refine wTl 6 (.pointer (some ⟨lb, lo + j * 6, none⟩)) rfl (by kernel_rfl) (fun _ _ _ h => h) rfl (fun w' h => by clear h; go_simp) hH ?_
    simp only [wA, wB, wC, wD]
    refine wTl 7 (.agg #[.int .i64 kx, .int .i64 mx, .string sx, .string nx, .slice ax lx.length cx]) rfl (by kernel_rfl) (fun _ _ _ h => h) rfl (fun w' h => by obtain ⟨p0, p1, p2, p3, p4⟩ := HX1.out w' h; clear h; go_simp) hH ?_
    simp only [wA, wB, wC, wD]
    refine wTl 8 (.agg #[.int .i64 ky, .int .i64 my, .string sy, .string ny, .slice ay ly.length cy]) rfl (by kernel_rfl) (fun _ _ _ h => h) rfl (fun w' h => by obtain ⟨p0, p1, p2, p3, p4⟩ := HX2.out w' h; clear h; go_simp) hH ?_
    simp only [wA, wB, wC, wD]
    refine wRd 9 (by kernel_rfl) rfl (fun K hK => ?_)
    go_simp
    refine (HCM.out _ hH).mono ?_
    rintro e V1 ⟨rfl, hb⟩
    refine hK.out _ _ (hH.trans (hb.mono hH.size)) (fun hH => ?_)
    clear hK hb
    try simp only [wA, wB, wC, wD]
    refine wpAnyH_done (by kernel_rfl) ?_ _
    have HV := hm7 hH
    clear hH
    go_wp2
    go_roundg g
    case measure => omega
    case rel =>
     refine ⟨j + 1, by omega, by go_num, fun k y hk hy => ?_, HW.out.trans (HV.out.mono HW.out.size)⟩
     rcases Nat.lt_or_ge k j with h1 | h1
     ·exact HNO.out k y h1 hy
     ·obtain rfl : k = j := by omega
      have e := HNX.out
      rw [hy] at e
      cases e
      exact HXY.out
  | zero =>
   have hlt : ¬ (j : Int) < (R.length : Int) := by omega
   have HPL : Hid (pt8 R ⟨⟨ky, my, sy⟩, ny, ly⟩ 0) := Or.inr ⟨fun hc => by
    obtain ⟨y, hy, e⟩ := List.mem_map.1 hc
    obtain ⟨x, hx, rfl⟩ := List.mem_map.1 hy
    obtain ⟨k, hk⟩ := List.getElem?_of_mem hx
    exact hno k x (by have := (List.getElem?_eq_some_iff.1 hk).1; omega) hk e, rfl⟩
   clear hno hw
   go_wp2
   go_ret
   exact ⟨0, HPL.out, rfl, HB.out⟩
end Go.Proofs.YtechceagghcipabGreatDoor
namespace Go.Proofs.YtechceagghcipabGreatDoor
open Go.RowKit
attribute [local go_sem ↓] Go.wp_at_zero Go.wp_at_succ
structure FL8 (V : World) (base : Nat) (v : Value) (Q : List (At × Value)) : Prop where
 o : OwnA V base v Q
 t : ∀ x ∈ Q, OwnT V base x.2 x.1.args /\ x.1.args.length <= 1000000000
theorem FL8.nil (V : World) (base : Nat) : FL8 V base (.slice none 0 0) [] := ⟨World.ownsRow_nil _ _ _ _, nofun⟩
theorem FL8.below {V V' : World} {base : Nat} {v : Value} {Q : List (At × Value)} (h : FL8 V base v Q) (hb : Below V.heap.size V V') : FL8 V' base v Q := ⟨h.o.later hb, fun x hx => ⟨(h.t x hx).1.later hb, (h.t x hx).2⟩⟩
theorem FL8.app {V V' : World} {base : Nat} {v v' : Value} {Q : List (At × Value)} {y : At × Value} (h : FL8 V base v Q) (hy : OwnT V base y.2 y.1.args /\ y.1.args.length <= 1000000000) (ho : OwnA V' base v' (Q ++ [y])) (hg : V.grownBy V' v.ownBlock) : FL8 V' base v' (Q ++ [y]) := by
 refine ⟨ho, fun x hx => ?_⟩
 have key : ∀ z : At × Value, OwnT V base z.2 z.1.args -> OwnT V' base z.2 z.1.args := fun z hz => OwnT.grown hz hg fun k hk e => row7_ne hz h.o (by decide) k hk e
 rcases List.mem_append.1 hx with hx | hx
 ·exact ⟨key x (h.t x hx).1, (h.t x hx).2⟩
 ·obtain rfl := List.mem_singleton.1 hx
  exact ⟨key x hy.1, hy.2⟩
theorem FL8.as {V : World} {base : Nat} {v : Value} {Q : List (At × Value)} (h : FL8 V base v Q) (hl : Q.length <= 1000000000) : As V v Q := h.o.as (by omega) fun x hx => (h.t x hx).1.tsP.ts (by have := (h.t x hx).2; omega)
def fq8 (R : List It8) (parts : Int) (j : Nat) : List At := ((Ei (R.take j)).filter fun x => hp7 parts x.2).map Prod.fst
theorem fq8_step {R : List It8} {parts : Int} {j : Nat} {x : It8} (h : R[j]? = some x) : fq8 R parts (j + 1) = fq8 R parts j ++ if hp7 parts x.2 = true then [x.1.1] else [] := by
 unfold fq8
 rw [List.take_add_one, h, Ei_app, List.filter_append, List.map_append]
 congr 1
 by_cases hp : hp7 parts x.2 = true
 ·simp [Ei, hp]
 ·have : hp7 parts x.2 = false := by simpa using hp
  simp [Ei, this]
theorem fq8_len (R : List It8) (parts : Int) (j : Nat) : (fq8 R parts j).length <= R.length := by
 unfold fq8
 rw [List.length_map]
 refine Nat.le_trans (List.length_filter_le _ _) ?_
 rw [Ei_len, List.length_take]
 omega
def RF8 (L : List At) (Y : World) (e : Ending) (Y' : World) : Prop := ∃ v Q, e = .returned v /\ FL8 Y' Y.heap.size v Q /\ Q.map Prod.fst = L /\ Below Y.heap.size Y Y'
set_option maxRecDepth 20000 in
set_option maxHeartbeats 1000000 in
theorem rbfacts8_any (w0 : World) (A : Nat -> Prop) (r : Nat) (lv : Value) (R : List It8) (parts : Int) (Y : World) (h : RB8 w0 A r lv R Y) (hl : R.length <= 1000000000) :
  Calls Tryz.prog 22 #[.pointer (some ⟨r, 0, none⟩), .int .i64 parts] Y (RF8 (((Ei R).filter fun x => hp7 parts x.2).map Prod.fst) Y) := by
 have H := hm7 h
 have HA := hm7 h.l.is
 obtain ⟨la, cap, rfl⟩ := h.l.o.form
 clear h
 go_enter Tryz.func22, Tryz.ntmps22
 go_wp2
 go_loopg [6, 5] R.length (fun g i v wr => ∃ (j : Nat) (Q : List (At × Value)), j + g = R.length /\ i = .int .i64 j /\ FL8 wr Y.heap.size v Q /\ Q.map Prod.fst = fq8 R parts j /\ Below Y.heap.size Y wr)
 case atStart => exact ⟨0, [], by omega, rfl, FL8.nil _ _, by simp [fq8, Ei], Below.refl _ _⟩
 case round =>
  obtain ⟨j, Q, hj, rfl, hfl, hq, hw⟩ := hrel
  have HB := hm7 hw
  have HFL := hm7 hfl
  have HQ := hm7 hq
  have q0 := (H.out.below hw).cell
  cases gk with
  | succ g =>
   have hlt : (j : Int) < (R.length : Int) := by omega
   have j0 : (0 : Int) <= (j : Int) := by omega
   obtain ⟨x, hx⟩ : ∃ x, R[j]? = some x := ⟨_, List.getElem?_eq_getElem (by omega)⟩
   have HST := hm7 (fq8_step (parts := parts) hx)
   obtain ⟨lb, lo, ax, cx, rfl, hax, c1⟩ := HA.out.get hx
   obtain ⟨⟨a0, a1, a2, a3, a4⟩, a5⟩ := c1 wr hw
   have hts := (H.out.l.t x (List.mem_of_getElem? hx)).1.tsP
   have hla := (H.out.l.t x (List.mem_of_getElem? hx)).2
   have HOW := hm7 (ownA8_any x.1.1 x.1.2 wr ((hts.ts (by omega)).later hw) hla)
   have HLA := hm7 hla
   obtain ⟨va, vc, rfl⟩ := hfl.o.form
   have hql : Q.length <= 1000000000 := by have := fq8_len R parts j; have h2 := congrArg List.length hq; rw [List.length_map] at h2; omega
   obtain ⟨⟨⟨⟨kx, mx, sx⟩, nx, lx⟩, vx⟩, px⟩ := x
   simp only at hax a0 a1 a2 a3 a4 a5 HOW HST HLA
   subst hax
   have HOC : Hid (Calls Tryz.prog 40 #[.agg #[.int .i64 kx, .int .i64 mx, .string sx, .string nx, .slice ax lx.length cx]] wr fun e Y' => ∃ y, e = .returned ((At.mk ⟨kx, mx, sx⟩ nx lx).v y) /\ OwnT Y' wr.heap.size y lx /\ Below wr.heap.size wr Y') := HOW.out
   have hz := hw.size
   clear hx hts hla hfl hq HOW c1 hw
   by_cases hp : hp7 parts px = true
   ·rw [if_pos hp] at HST
    go_wp2_with (first
     | (go_at_call 48; refine (ofp8_any parts px _).mono ?_; rw [hp]; rintro e w1 ⟨rfl, rfl⟩)
     | (go_at_call 40; refine HOC.out.mono ?_; rintro e w1 ⟨y, rfl, ho1, hb1⟩; obtain ⟨ya, yn, yc, rfl⟩ := ownT_form3 ho1; have HO1 := hm7 ho1; have HB1 := hm7 hb1; have hz1 := hb1.size; clear ho1 hb1 a0 a1 a2 a3 a4 a5 q0)
     | (at_builtin; refine aapp_one rfl _ _ rfl Y.heap.size (.slice va Q.length vc) Q rfl ((HFL.out.below HB1.out).o.later (below1 _ _)) w1.heap.size (⟨⟨kx, mx, sx⟩, nx, lx⟩, .slice ya yn yc) rfl (CBlk.new _ _ _) (acell_one _ _ _ _) (by omega) (by simp; omega) ?_; intro v2 w2 ho2 hb2 hg2 hk2; have HF2 := hm7 (((HFL.out.below HB1.out).below (below1 _ _)).app ⟨(HO1.out.mono hz).later (below1 _ _), HLA.out⟩ ho2 hg2); have HB2 := hm7 ((HB.out.trans (HB1.out.mono hz)).trans (((below1 _ _).mono (by omega)).trans hb2)); clear ho2 hb2 hg2 hk2))
    go_roundg g
    case measure => omega
    case rel => exact ⟨j + 1, _, by omega, by go_num, HF2.out, by rw [List.map_append, HQ.out, HST.out]; rfl, HB2.out⟩
   ·rw [if_neg hp, List.append_nil] at HST
    have hpf : hp7 parts px = false := by simpa using hp
    go_wp2_with (go_at_call 48; refine (ofp8_any parts px _).mono ?_; rw [hpf]; rintro e w1 ⟨rfl, rfl⟩)
    go_roundg g
    case measure => omega
    case rel => exact ⟨j + 1, Q, by omega, by go_num, HFL.out, by rw [HST.out]; exact HQ.out, HB.out⟩
  | zero =>
   have hlt : ¬ (j : Int) < (R.length : Int) := by omega
   obtain rfl : j = R.length := by omega
   clear hfl hq hw
   go_wp2
   go_ret
   exact ⟨_, Q, rfl, HFL.out, by rw [HQ.out]; unfold fq8; rw [List.take_length], HB.out⟩
set_option maxRecDepth 20000 in
theorem rblen8_any (w0 : World) (A : Nat -> Prop) (r : Nat) (lv : Value) (R : List It8) (parts : Int) (Y : World) (h : RB8 w0 A r lv R Y) (hl : R.length <= 1000000000) :
  Calls Tryz.prog 19 #[.pointer (some ⟨r, 0, none⟩), .int .i64 parts] Y fun e Y' => e = .returned (.int .i64 (((Ei R).filter fun x => hp7 parts x.2).length : Int)) /\ Below Y.heap.size Y Y' := by
 have HC := hm7 (rbfacts8_any w0 A r lv R parts Y h hl)
 clear h
 go_enter Tryz.func19, Tryz.ntmps19
 go_wp2_with (go_at_call 22; refine HC.out.mono ?_; rintro e w1 ⟨v, Q, rfl, hf, hq, hb⟩; obtain ⟨va, vc, rfl⟩ := hf.o.form; have HB := hm7 hb; have HQ := hm7 hq; clear hf hb hq)
 go_ret
 refine ⟨?_, HB.out⟩
 have := congrArg List.length HQ.out
 rw [List.length_map, List.length_map] at this
 rw [this]
 rfl
end Go.Proofs.YtechceagghcipabGreatDoor
