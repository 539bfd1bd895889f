import Derived.Test.YtcejljehjhlonaaGreatDoorCP1
import Derived.Test.YtcejljehjhlonaaGreatDoorMD1
import Derived.Test.YtcejljehjhlonaaGreatDoorB5
import Derived.Test.YtcejljehjhlonaaGreatDoorHC7
namespace Go.Proofs.YtcejljehjhlonaaGreatDoor
open Go.RowKit

theorem drop_eq_stepI (a b : List Int) (i : Nat) (t u : Int) (ht : a[i]? = some t) (hu : b[i]? = some u) : (a.drop i = b.drop i) ↔ (t = u /\ a.drop (i + 1) = b.drop (i + 1)) := by
 obtain ⟨h1, e1⟩ := List.getElem?_eq_some_iff.1 ht
 obtain ⟨h2, e2⟩ := List.getElem?_eq_some_iff.1 hu
 rw [List.drop_eq_getElem_cons h1, List.drop_eq_getElem_cons h2, e1, e2, List.cons.injEq]
set_option maxRecDepth 20000 in
set_option maxHeartbeats 600000 in
theorem sameInts_any (a b : List Int) (x y : Value) (w : World) (h : Ns w x a) (h' : Ns w y b) :
  Calls Tryz.prog 45 #[x, y] w fun e w' => e = .returned (.bool (decide (a = b))) /\ Below w.heap.size w w' := by
 obtain ⟨ad, cap, rfl, hl, h⟩ := h
 obtain ⟨ad', cap', rfl, hl', h'⟩ := h'
 by_cases e2 : a.length = b.length
 ·have n0 : ((a.length : Int) != (a.length : Int)) = false := by simp
  have E2 : Hid (a.length = b.length) := e2
  rw [<- e2]
  clear e2
  go_enter Tryz.func45, Tryz.ntmps45
  go_wp2
  go_loopg [5] a.length (fun g i wr => ∃ j : Nat, j + g = a.length /\ i = .int .i64 j /\ (a = b ↔ a.drop j = b.drop j) /\ Below w.heap.size w wr)
  case atStart => exact ⟨0, by omega, rfl, by simp, Below.refl _ _⟩
  case round =>
   obtain ⟨j, hj, rfl, hgo, hb⟩ := hrel
   have HG : Hid (a = b ↔ a.drop j = b.drop j) := hgo
   clear hgo
   cases gk with
   | succ g =>
    have hlt : (j : Int) < (a.length : Int) := by omega
    have hlt' : j < b.length := by have := E2.out; omega
    have j0 : (0 : Int) <= (j : Int) := by omega
    obtain ⟨t, ht⟩ : ∃ t, a[j]? = some t := ⟨_, List.getElem?_eq_getElem (by omega)⟩
    obtain ⟨u, hu⟩ : ∃ u, b[j]? = some u := ⟨_, List.getElem?_eq_getElem (by omega)⟩
    have HS : Hid ((a = b) ↔ (t = u /\ a.drop (j + 1) = b.drop (j + 1))) := HG.out.trans (drop_eq_stepI a b j t u ht hu)
    rcases h with h | ⟨b1, o1, rfl, hb1, h⟩
    ·subst h; simp at hj
    rcases h' with h' | ⟨b2, o2, rfl, hb2, h'⟩
    ·subst h'; simp at hu
    have p0 := h j t ht
    have q0 := h' j u hu
    rw [<- hb.cell (p := ⟨b1, _, none⟩) hb1] at p0
    rw [<- hb.cell (p := ⟨b2, _, none⟩) hb2] at q0
    clear h h' ht hu
    by_cases htu : t = u
    ·have HS2 : Hid (a = b ↔ a.drop (j + 1) = b.drop (j + 1)) := by
      have := HS.out; show a = b ↔ _; simpa [htu] using this
     subst htu
     go_wp2
     go_quiet (fail)
     go_wp2
     go_roundg g
     case measure => omega
     case rel => exact ⟨j + 1, by omega, by go_num, HS2.out, below_drewN hb _⟩
    ·have HS2 : Hid (decide (a = b) = false) := decide_eq_false fun e => htu (HS.out.1 e).1
     have n1 : (t == u) = false := beq_eq_false_iff_ne.2 htu
     have n2 : (t != u) = true := by rw [bne, n1]; rfl
     go_wp2
     go_quiet (fail)
     go_wp2
     go_ret
     exact ⟨ret_b HS2.out.symm, below_drewN hb _⟩
   | zero =>
    have hlt : ¬ (j : Int) < (a.length : Int) := by omega
    have HS2 : Hid (decide (a = b) = true) := decide_eq_true (HG.out.2 (by rw [List.drop_eq_nil_of_le (by omega), List.drop_eq_nil_of_le (by have := E2.out; omega)]))
    clear hj h h'
    go_wp2
    go_ret
    exact ⟨ret_b HS2.out.symm, hb⟩
 ·have hq2 : ((a.length : Int) == (b.length : Int)) = false := by simp; omega
  have HS2 : Hid (decide (a = b) = false) := decide_eq_false fun e => e2 (by rw [e])
  clear e2 h h'
  go_enter Tryz.func45, Tryz.ntmps45
  go_wp2
  go_ret
  exact ⟨ret_b HS2.out.symm, Below.refl _ _⟩
end Go.Proofs.YtcejljehjhlonaaGreatDoor
namespace Go.Proofs.YtcejljehjhlonaaGreatDoor
open Go.RowKit

set_option maxRecDepth 20000 in
set_option maxHeartbeats 800000 in
theorem sameSteps_yes (S T : List St) (v u : Value) (w : World) (h : SsP w v S) (hu : SsP w u T) (hk : S.map St.key = T.map St.key) (hl : S.length <= 1000000000000000000) :
  Calls Tryz.prog 22 #[v, u] w fun e w' => e = .returned (.bool true) /\ Below w.heap.size w w' := by
 have HP : Hid (SsP w v S) := h
 have HU : Hid (SsP w u T) := hu
 obtain ⟨va, vc, rfl⟩ := h.form
 obtain ⟨ua, uc, rfl⟩ := hu.form
 have hlen : S.length = T.length := by simpa using congrArg List.length hk
 have HK : Hid (S.map St.key = T.map St.key) := hk
 have HLL : Hid (S.length = T.length) := hlen
 have n1 : ((S.length : Int) != (S.length : Int)) = false := by simp
 rw [<- hlen] at HU ⊢
 clear h hu hk hlen
 go_enter Tryz.func22, Tryz.ntmps22
 go_wp2
 go_loopg [5] S.length (fun g i wr => ∃ j : Nat, j + g = S.length /\ i = .int .i64 (j : Int) /\ Below w.heap.size w wr)
 case atStart => exact ⟨0, by omega, rfl, Below.refl _ _⟩
 case round =>
  obtain ⟨j, hg, rfl, hb⟩ := hrel
  have HB : Hid (Below w.heap.size w wr) := hb
  clear hb
  cases gk with
  | succ g =>
   have i0 : (0 : Int) <= (j : Int) := by omega
   have i1 : (j : Int) < (S.length : Int) := by omega
   obtain ⟨x, hx⟩ : ∃ c, S[j]? = some c := ⟨_, List.getElem?_eq_getElem (by omega)⟩
   obtain ⟨y, hy⟩ : ∃ c, T[j]? = some c := ⟨_, List.getElem?_eq_getElem (by have := HLL.out; omega)⟩
   have hxy : x.key = y.key := by
    have h1 : (S.map St.key)[j]? = (T.map St.key)[j]? := by rw [HK.out]
    rw [List.getElem?_map, List.getElem?_map, hx, hy] at h1
    exact Option.some.inj h1
   obtain ⟨sb, so, rfl, hz0, hrw, hxo⟩ := (HP.out.later HB.out).at_ hx
   obtain ⟨sd, sq, rfl, hz2, hrw2, hyo⟩ := (HU.out.later HB.out).at_ hy
   have HC1 : ∀ Y : World, Below wr.heap.size wr Y -> Calls Tryz.prog 44 #[x.vv, y.vv] Y fun e w' => e = .returned (.bool true) /\ Below Y.heap.size Y w' := fun Y hY => by
    have := sameTerms_any x.vals y.vals _ _ Y (hxo.t.later hY) (hyo.t.later hY)
    rwa [decide_eq_true (show x.vals = y.vals from congrArg (fun k : Sk => k.2.1) hxy)] at this
   have HC2 : ∀ Y : World, Below wr.heap.size wr Y -> Calls Tryz.prog 45 #[x.uv, y.uv] Y fun e w' => e = .returned (.bool true) /\ Below Y.heap.size Y w' := fun Y hY => by
    have := sameInts_any x.uses y.uses _ _ Y (hxo.u.later hY) (hyo.u.later hY)
    rwa [decide_eq_true (show x.uses = y.uses from congrArg (fun k : Sk => k.2.2) hxy)] at this
   have hr : x.rule = y.rule := congrArg (fun k : Sk => k.1) hxy
   have HXZ : Hid (sb < wr.heap.size) := hz0
   have HYZ : Hid (sd < wr.heap.size) := hz2
   obtain ⟨q0, q1, q2⟩ := hrw.three hx
   obtain ⟨r0, r1, r2⟩ := hrw2.three hy
   obtain ⟨x1, x2, x3, e1⟩ : ∃ a n c, x.vv = .slice a n c := by obtain ⟨a, c, e, -⟩ := hxo.t; exact ⟨_, _, _, e⟩
   obtain ⟨x4, x5, x6, e2⟩ : ∃ a n c, x.uv = .slice a n c := by obtain ⟨a, c, e, -⟩ := hxo.u; exact ⟨_, _, _, e⟩
   obtain ⟨y1, y2, y3, e3⟩ : ∃ a n c, y.vv = .slice a n c := by obtain ⟨a, c, e, -⟩ := hyo.t; exact ⟨_, _, _, e⟩
   obtain ⟨y4, y5, y6, e4⟩ : ∃ a n c, y.uv = .slice a n c := by obtain ⟨a, c, e, -⟩ := hyo.u; exact ⟨_, _, _, e⟩
   rw [e1] at q1
   rw [e2] at q2
   rw [e3] at r1
   rw [e4] at r2
   rw [e1, e3] at HC1
   rw [e2, e4] at HC2
   rw [<- hr] at r0
   obtain ⟨xr, hxr⟩ : ∃ n, x.rule = n := ⟨_, rfl⟩
   rw [hxr] at q0 r0
   have X0 : Hid _ := q0
   have X1 : Hid _ := q1
   have X2 : Hid _ := q2
   have Y0 : Hid _ := r0
   have Y1 : Hid _ := r1
   have Y2 : Hid _ := r2
   have HC1 : Hid _ := HC1
   have HC2 : Hid _ := HC2
   clear q0 q1 q2 r0 r1 r2 e1 e2 e3 e4 hr hxr hxy hrw hrw2 hxo hyo hx hy hz0 hz2 x y
   go_upto_region 6 with fail
   refine wp_region_held_drew (S := fun w' => Below wr.heap.size wr w') (by kernel_rfl) (Below.refl _ _).drew (fun hH => ?_)
   revert hH
   generalize wr.drew = V
   intro hH
   refine wTk 0 (.slice (some ⟨sb, so, none⟩) S.length vc) rfl (by kernel_rfl) (fun _ _ _ h => h) (Or.inl ⟨by rfl, fun w' _ => by go_simp⟩) hH ?_
   simp only [wA8, wB8, wC8, wD8]
   refine wTk 1 (.int .i64 (j : Int)) rfl (by kernel_rfl) (fun _ _ _ h => h) (Or.inl ⟨by rfl, fun w' _ => by go_simp⟩) hH ?_
   simp only [wA8, wB8, wC8, wD8]
   refine wTk 2 (.pointer (some ⟨sb, so + j * 3, none⟩)) rfl (by kernel_rfl) (fun _ _ _ h => h) (Or.inl ⟨by rfl, fun w' _ => by go_simp⟩) hH ?_
   simp only [wA8, wB8, wC8, wD8]
   refine wTk 3 (.pointer (some ⟨sb, so + j * 3, none⟩)) rfl (by kernel_rfl) (fun _ _ _ h => h) (Or.inl ⟨by rfl, fun w' _ => by go_simp⟩) hH ?_
   simp only [wA8, wB8, wC8, wD8]
   refine wTk 4 (.int .i64 xr) rfl (by kernel_rfl) (fun _ _ _ h => h) (Or.inl ⟨by rfl, fun w' h => by have y0 := cell_step h (Hid.out HXZ) (Hid.out X0); clear h; go_simp⟩) hH ?_
   simp only [wA8, wB8, wC8, wD8]
   refine wTk 5 (.slice (some ⟨sd, sq, none⟩) S.length uc) rfl (by kernel_rfl) (fun _ _ _ h => h) (Or.inl ⟨by rfl, fun w' _ => by go_simp⟩) hH ?_
   simp only [wA8, wB8, wC8, wD8]
   refine wTk 6 (.int .i64 (j : Int)) rfl (by kernel_rfl) (fun _ _ _ h => h) (Or.inl ⟨by rfl, fun w' _ => by go_simp⟩) hH ?_
   simp only [wA8, wB8, wC8, wD8]
   refine wTk 7 (.pointer (some ⟨sd, sq + j * 3, none⟩)) rfl (by kernel_rfl) (fun _ _ _ h => h) (Or.inl ⟨by rfl, fun w' _ => by go_simp⟩) hH ?_
   simp only [wA8, wB8, wC8, wD8]
   refine wTk 8 (.pointer (some ⟨sd, sq + j * 3, none⟩)) rfl (by kernel_rfl) (fun _ _ _ h => h) (Or.inl ⟨by rfl, fun w' _ => by go_simp⟩) hH ?_
   simp only [wA8, wB8, wC8, wD8]
   refine wTk 9 (.int .i64 xr) rfl (by kernel_rfl) (fun _ _ _ h => h) (Or.inl ⟨by rfl, fun w' h => by have y0 := cell_step h (Hid.out HYZ) (Hid.out Y0); clear h; go_simp⟩) hH ?_
   simp only [wA8, wB8, wC8, wD8]
   refine wTk 10 (.bool false) rfl (by kernel_rfl) (fun _ _ _ h => h) (Or.inl ⟨by rfl, fun w' _ => by go_simp⟩) hH ?_
   simp only [wA8, wB8, wC8, wD8]
   refine wTk 11 (.bool false) rfl (by kernel_rfl) (fun _ _ _ h => h) (Or.inl ⟨by rfl, fun w' _ => by go_simp⟩) hH ?_
   simp only [wA8, wB8, wC8, wD8]
   refine wTk 12 (.slice (some ⟨sb, so, none⟩) S.length vc) rfl (by kernel_rfl) (fun _ _ _ h => h) (Or.inl ⟨by rfl, fun w' _ => by go_simp⟩) hH ?_
   simp only [wA8, wB8, wC8, wD8]
   refine wTk 13 (.int .i64 (j : Int)) rfl (by kernel_rfl) (fun _ _ _ h => h) (Or.inl ⟨by rfl, fun w' _ => by go_simp⟩) hH ?_
   simp only [wA8, wB8, wC8, wD8]
   refine wTk 14 (.pointer (some ⟨sb, so + j * 3, none⟩)) rfl (by kernel_rfl) (fun _ _ _ h => h) (Or.inl ⟨by rfl, fun w' _ => by go_simp⟩) hH ?_
   simp only [wA8, wB8, wC8, wD8]
   refine wTk 15 (.pointer (some ⟨sb, so + j * 3 + 1, none⟩)) rfl (by kernel_rfl) (fun _ _ _ h => h) (Or.inl ⟨by rfl, fun w' _ => by go_simp⟩) hH ?_
   simp only [wA8, wB8, wC8, wD8]
   refine wTk 16 (.slice x1 x2 x3) rfl (by kernel_rfl) (fun _ _ _ h => h) (Or.inl ⟨by rfl, fun w' h => by have y0 := cell_step h (Hid.out HXZ) (Hid.out X1); clear h; go_simp⟩) hH ?_
   simp only [wA8, wB8, wC8, wD8]
   refine wTk 17 (.slice (some ⟨sd, sq, none⟩) S.length uc) rfl (by kernel_rfl) (fun _ _ _ h => h) (Or.inl ⟨by rfl, fun w' _ => by go_simp⟩) hH ?_
   simp only [wA8, wB8, wC8, wD8]
   refine wTk 18 (.int .i64 (j : Int)) rfl (by kernel_rfl) (fun _ _ _ h => h) (Or.inl ⟨by rfl, fun w' _ => by go_simp⟩) hH ?_
   simp only [wA8, wB8, wC8, wD8]
   refine wTk 19 (.pointer (some ⟨sd, sq + j * 3, none⟩)) rfl (by kernel_rfl) (fun _ _ _ h => h) (Or.inl ⟨by rfl, fun w' _ => by go_simp⟩) hH ?_
   simp only [wA8, wB8, wC8, wD8]
   refine wTk 20 (.pointer (some ⟨sd, sq + j * 3 + 1, none⟩)) rfl (by kernel_rfl) (fun _ _ _ h => h) (Or.inl ⟨by rfl, fun w' _ => by go_simp⟩) hH ?_
   simp only [wA8, wB8, wC8, wD8]
   refine wTk 21 (.slice y1 y2 y3) rfl (by kernel_rfl) (fun _ _ _ h => h) (Or.inl ⟨by rfl, fun w' h => by have y0 := cell_step h (Hid.out HYZ) (Hid.out Y1); clear h; go_simp⟩) hH ?_
   simp only [wA8, wB8, wC8, wD8]
   refine wRd 22 (by kernel_rfl) rfl (fun K hK => ?_)
   go_simp
   refine (HC1.out _ hH).mono ?_
   rintro e V1 ⟨rfl, hb⟩
   refine hK.out _ _ (below_step hH hb) (fun hH => ?_)
   clear hK K hb
   refine wTk 23 (.bool false) rfl (by kernel_rfl) (fun _ _ _ h => h) (Or.inl ⟨by rfl, fun w' _ => by go_simp⟩) hH ?_
   simp only [wA8, wB8, wC8, wD8]
   refine wTk 24 (.bool false) rfl (by kernel_rfl) (fun _ _ _ h => h) (Or.inl ⟨by rfl, fun w' _ => by go_simp⟩) hH ?_
   simp only [wA8, wB8, wC8, wD8]
   refine wTk 25 (.bool false) rfl (by kernel_rfl) (fun _ _ _ h => h) (Or.inl ⟨by rfl, fun w' _ => by go_simp⟩) hH ?_
   simp only [wA8, wB8, wC8, wD8]
   refine wTk 26 (.slice (some ⟨sb, so, none⟩) S.length vc) rfl (by kernel_rfl) (fun _ _ _ h => h) (Or.inl ⟨by rfl, fun w' _ => by go_simp⟩) hH ?_
   simp only [wA8, wB8, wC8, wD8]
   refine wTk 27 (.int .i64 (j : Int)) rfl (by kernel_rfl) (fun _ _ _ h => h) (Or.inl ⟨by rfl, fun w' _ => by go_simp⟩) hH ?_
   simp only [wA8, wB8, wC8, wD8]
   refine wTk 28 (.pointer (some ⟨sb, so + j * 3, none⟩)) rfl (by kernel_rfl) (fun _ _ _ h => h) (Or.inl ⟨by rfl, fun w' _ => by go_simp⟩) hH ?_
   simp only [wA8, wB8, wC8, wD8]
   refine wTk 29 (.pointer (some ⟨sb, so + j * 3 + 2, none⟩)) rfl (by kernel_rfl) (fun _ _ _ h => h) (Or.inl ⟨by rfl, fun w' _ => by go_simp⟩) hH ?_
   simp only [wA8, wB8, wC8, wD8]
   refine wTk 30 (.slice x4 x5 x6) rfl (by kernel_rfl) (fun _ _ _ h => h) (Or.inl ⟨by rfl, fun w' h => by have y0 := cell_step h (Hid.out HXZ) (Hid.out X2); clear h; go_simp⟩) hH ?_
   simp only [wA8, wB8, wC8, wD8]
   refine wTk 31 (.slice (some ⟨sd, sq, none⟩) S.length uc) rfl (by kernel_rfl) (fun _ _ _ h => h) (Or.inl ⟨by rfl, fun w' _ => by go_simp⟩) hH ?_
   simp only [wA8, wB8, wC8, wD8]
   refine wTk 32 (.int .i64 (j : Int)) rfl (by kernel_rfl) (fun _ _ _ h => h) (Or.inl ⟨by rfl, fun w' _ => by go_simp⟩) hH ?_
   simp only [wA8, wB8, wC8, wD8]
   refine wTk 33 (.pointer (some ⟨sd, sq + j * 3, none⟩)) rfl (by kernel_rfl) (fun _ _ _ h => h) (Or.inl ⟨by rfl, fun w' _ => by go_simp⟩) hH ?_
   simp only [wA8, wB8, wC8, wD8]
   refine wTk 34 (.pointer (some ⟨sd, sq + j * 3 + 2, none⟩)) rfl (by kernel_rfl) (fun _ _ _ h => h) (Or.inl ⟨by rfl, fun w' _ => by go_simp⟩) hH ?_
   simp only [wA8, wB8, wC8, wD8]
   refine wTk 35 (.slice y4 y5 y6) rfl (by kernel_rfl) (fun _ _ _ h => h) (Or.inl ⟨by rfl, fun w' h => by have y0 := cell_step h (Hid.out HYZ) (Hid.out Y2); clear h; go_simp⟩) hH ?_
   simp only [wA8, wB8, wC8, wD8]
   refine wRd 36 (by kernel_rfl) rfl (fun K hK => ?_)
   go_simp
   refine (HC2.out _ hH).mono ?_
   rintro e V2 ⟨rfl, hb⟩
   refine hK.out _ _ (below_step hH hb) (fun hH => ?_)
   clear hK K hb
   refine wTk 37 (.bool false) rfl (by kernel_rfl) (fun _ _ _ h => h) (Or.inl ⟨by rfl, fun w' _ => by go_simp⟩) hH ?_
   simp only [wA8, wB8, wC8, wD8]
   refine wTk 38 (.bool false) rfl (by kernel_rfl) (fun _ _ _ h => h) (Or.inl ⟨by rfl, fun w' _ => by go_simp⟩) hH ?_
   simp only [wA8, wB8, wC8, wD8]
   refine wpAnyH_done (by kernel_rfl) ?_ _
   go_wp2
   go_roundg g
   case measure => omega
   case rel => exact ⟨j + 1, by omega, by go_num, below_step HB.out hH⟩
  | zero =>
   have hz : ¬ ((j : Int) < (S.length : Int)) := by omega
   go_wp2
   go_ret
   exact ⟨rfl, HB.out⟩
end Go.Proofs.YtcejljehjhlonaaGreatDoor
