import Derived.Test.YtelcoihmiglceaaGreatCR10
import Derived.Test.YtelcoihmiglceaaGreatSD5
import Derived.Test.YtelcoihmiglceaaGreatCL22
import Derived.Test.YtelcoihmiglceaaGreatM2
namespace Go.Proofs.YtelcoihmiglceaaGreat
open Go.RowKit

set_option maxRecDepth 20000 in
set_option maxHeartbeats 800000 in
theorem sameSteps_yes (S T : List St) (v u : Value) (w : World) (h : SsP w v S) (hu : SsP w u T) (hk : S.map St.key = T.map St.key) (hl : S.length <= 1000000000000000000) :
  Calls Tryz.prog 52 #[v, u] w fun e w' => e = .returned (.bool true) /\ Below w.heap.size w w' := by
 have HP : Hid (SsP w v S) := h
 have HU : Hid (SsP w u T) := hu
 obtain ⟨va, vc, rfl⟩ := h.form
 obtain ⟨ua, uc, rfl⟩ := hu.form
 have hlen : S.length = T.length := by simpa using congrArg List.length hk
 have HK : Hid (S.map St.key = T.map St.key) := hk
 have HLL : Hid (S.length = T.length) := hlen
 have n1 : ((S.length : Int) != (S.length : Int)) = false := by simp
 rw [<- hlen] at HU ⊢
 clear h hu hk hlen
 go_enter Tryz.func52, Tryz.ntmps52
 go_wp2
 go_loopg [5] S.length (fun g i wr => ∃ j : Nat, j + g = S.length /\ i = .int .i64 (j : Int) /\ Below w.heap.size w wr)
 case atStart => exact ⟨0, by omega, rfl, Below.refl _ _⟩
 case round =>
  obtain ⟨j, hg, rfl, hb⟩ := hrel
  have HB : Hid (Below w.heap.size w wr) := hb
  clear hb
  cases gk with
  | succ g =>
   have i0 : (0 : Int) <= (j : Int) := by omega
   have i1 : (j : Int) < (S.length : Int) := by omega
   obtain ⟨x, hx⟩ : ∃ c, S[j]? = some c := ⟨_, List.getElem?_eq_getElem (by omega)⟩
   obtain ⟨y, hy⟩ : ∃ c, T[j]? = some c := ⟨_, List.getElem?_eq_getElem (by have := HLL.out; omega)⟩
   have hxy : x.key = y.key := by
    have h1 : (S.map St.key)[j]? = (T.map St.key)[j]? := by rw [HK.out]
    rw [List.getElem?_map, List.getElem?_map, hx, hy] at h1
    exact Option.some.inj h1
   obtain ⟨sb, so, rfl, hz0, hrw, hxo⟩ := (HP.out.later HB.out).at_ hx
   obtain ⟨sd, sq, rfl, hz2, hrw2, hyo⟩ := (HU.out.later HB.out).at_ hy
   have HC1 : ∀ Y : World, Below wr.heap.size wr Y -> Calls Tryz.prog 68 #[x.vv, y.vv] Y fun e w' => e = .returned (.bool true) /\ Below Y.heap.size Y w' := fun Y hY => by
    have := sameTerms_any x.vals y.vals _ _ Y (hxo.t.later hY) (hyo.t.later hY)
    rwa [decide_eq_true (show x.vals = y.vals from congrArg (fun k : Sk => k.2.1) hxy)] at this
   have HC2 : ∀ Y : World, Below wr.heap.size wr Y -> Calls Tryz.prog 96 #[x.uv, y.uv] Y fun e w' => e = .returned (.bool true) /\ Below Y.heap.size Y w' := fun Y hY => by
    have := sameInts_any x.uses y.uses _ _ Y (hxo.u.later hY) (hyo.u.later hY)
    rwa [decide_eq_true (show x.uses = y.uses from congrArg (fun k : Sk => k.2.2) hxy)] at this
   have hr : x.rule = y.rule := congrArg (fun k : Sk => k.1) hxy
   have HXZ : Hid (sb < wr.heap.size) := hz0
   have HYZ : Hid (sd < wr.heap.size) := hz2
   obtain ⟨q0, q1, q2⟩ := hrw.three hx
   obtain ⟨r0, r1, r2⟩ := hrw2.three hy
   obtain ⟨x1, x2, x3, e1⟩ : ∃ a n c, x.vv = .slice a n c := by obtain ⟨a, c, e, -⟩ := hxo.t; exact ⟨_, _, _, e⟩
   obtain ⟨x4, x5, x6, e2⟩ : ∃ a n c, x.uv = .slice a n c := by obtain ⟨a, c, e, -⟩ := hxo.u; exact ⟨_, _, _, e⟩
   obtain ⟨y1, y2, y3, e3⟩ : ∃ a n c, y.vv = .slice a n c := by obtain ⟨a, c, e, -⟩ := hyo.t; exact ⟨_, _, _, e⟩
   obtain ⟨y4, y5, y6, e4⟩ : ∃ a n c, y.uv = .slice a n c := by obtain ⟨a, c, e, -⟩ := hyo.u; exact ⟨_, _, _, e⟩
   rw [e1] at q1
   rw [e2] at q2
   rw [e3] at r1
   rw [e4] at r2
   rw [e1, e3] at HC1
   rw [e2, e4] at HC2
   rw [<- hr] at r0
   obtain ⟨xr, hxr⟩ : ∃ n, x.rule = n := ⟨_, rfl⟩
   rw [hxr] at q0 r0
   have X0 : Hid _ := q0
   have X1 : Hid _ := q1
   have X2 : Hid _ := q2
   have Y0 : Hid _ := r0
   have Y1 : Hid _ := r1
   have Y2 : Hid _ := r2
   have HC1 : Hid _ := HC1
   have HC2 : Hid _ := HC2
   clear q0 q1 q2 r0 r1 r2 e1 e2 e3 e4 hr hxr hxy hrw hrw2 hxo hyo hx hy hz0 hz2 x y
   go_upto_region 6 with fail
   refine wp_region_held_drew (S := fun w' => Below wr.heap.size wr w') (by kernel_rfl) (Below.refl _ _).drew (fun hH => ?_)
   revert hH
   generalize wr.drew = V
   intro hH
   refine wpAnyH_take (i := 0) (oi := ⟨_, _, _, _, _, _⟩) (v := .slice (some ⟨sb, so, none⟩) S.length vc) rfl (by kernel_rfl) (by kernel_rfl) (by kernel_rfl) (fun _ _ _ h => h) (Or.inl ⟨by rfl, fun w' _ => by go_simp⟩) hH ?_
   simp only [Act.put, List.setIfInBounds_toArray, List.set_cons_zero, List.set_cons_succ]
   refine wpAnyH_take (i := 1) (oi := ⟨_, _, _, _, _, _⟩) (v := .int .i64 (j : Int)) rfl (by kernel_rfl) (by kernel_rfl) (by kernel_rfl) (fun _ _ _ h => h) (Or.inl ⟨by rfl, fun w' _ => by go_simp⟩) hH ?_
   simp only [Act.put, List.setIfInBounds_toArray, List.set_cons_zero, List.set_cons_succ]
   refine wpAnyH_take (i := 2) (oi := ⟨_, _, _, _, _, _⟩) (v := .pointer (some ⟨sb, so + j * 3, none⟩)) rfl (by kernel_rfl) (by kernel_rfl) (by kernel_rfl) (fun _ _ _ h => h) (Or.inl ⟨by rfl, fun w' _ => by go_simp⟩) hH ?_
   simp only [Act.put, List.setIfInBounds_toArray, List.set_cons_zero, List.set_cons_succ]
   refine wpAnyH_take (i := 3) (oi := ⟨_, _, _, _, _, _⟩) (v := .pointer (some ⟨sb, so + j * 3, none⟩)) rfl (by kernel_rfl) (by kernel_rfl) (by kernel_rfl) (fun _ _ _ h => h) (Or.inl ⟨by rfl, fun w' _ => by go_simp⟩) hH ?_
   simp only [Act.put, List.setIfInBounds_toArray, List.set_cons_zero, List.set_cons_succ]
   refine wpAnyH_take (i := 4) (oi := ⟨_, _, _, _, _, _⟩) (v := .int .i64 xr) rfl (by kernel_rfl) (by kernel_rfl) (by kernel_rfl) (fun _ _ _ h => h) (Or.inl ⟨by rfl, fun w' h => by have y0 := cell_step h (Hid.out HXZ) (Hid.out X0); clear h; go_simp⟩) hH ?_
   simp only [Act.put, List.setIfInBounds_toArray, List.set_cons_zero, List.set_cons_succ]
   refine wpAnyH_take (i := 5) (oi := ⟨_, _, _, _, _, _⟩) (v := .slice (some ⟨sd, sq, none⟩) S.length uc) rfl (by kernel_rfl) (by kernel_rfl) (by kernel_rfl) (fun _ _ _ h => h) (Or.inl ⟨by rfl, fun w' _ => by go_simp⟩) hH ?_
   simp only [Act.put, List.setIfInBounds_toArray, List.set_cons_zero, List.set_cons_succ]
   refine wpAnyH_take (i := 6) (oi := ⟨_, _, _, _, _, _⟩) (v := .int .i64 (j : Int)) rfl (by kernel_rfl) (by kernel_rfl) (by kernel_rfl) (fun _ _ _ h => h) (Or.inl ⟨by rfl, fun w' _ => by go_simp⟩) hH ?_
   simp only [Act.put, List.setIfInBounds_toArray, List.set_cons_zero, List.set_cons_succ]
   refine wpAnyH_take (i := 7) (oi := ⟨_, _, _, _, _, _⟩) (v := .pointer (some ⟨sd, sq + j * 3, none⟩)) rfl (by kernel_rfl) (by kernel_rfl) (by kernel_rfl) (fun _ _ _ h => h) (Or.inl ⟨by rfl, fun w' _ => by go_simp⟩) hH ?_
   simp only [Act.put, List.setIfInBounds_toArray, List.set_cons_zero, List.set_cons_succ]
   refine wpAnyH_take (i := 8) (oi := ⟨_, _, _, _, _, _⟩) (v := .pointer (some ⟨sd, sq + j * 3, none⟩)) rfl (by kernel_rfl) (by kernel_rfl) (by kernel_rfl) (fun _ _ _ h => h) (Or.inl ⟨by rfl, fun w' _ => by go_simp⟩) hH ?_
   simp only [Act.put, List.setIfInBounds_toArray, List.set_cons_zero, List.set_cons_succ]
   refine wpAnyH_take (i := 9) (oi := ⟨_, _, _, _, _, _⟩) (v := .int .i64 xr) rfl (by kernel_rfl) (by kernel_rfl) (by kernel_rfl) (fun _ _ _ h => h) (Or.inl ⟨by rfl, fun w' h => by have y0 := cell_step h (Hid.out HYZ) (Hid.out Y0); clear h; go_simp⟩) hH ?_
   simp only [Act.put, List.setIfInBounds_toArray, List.set_cons_zero, List.set_cons_succ]
   refine wpAnyH_take (i := 10) (oi := ⟨_, _, _, _, _, _⟩) (v := .bool false) rfl (by kernel_rfl) (by kernel_rfl) (by kernel_rfl) (fun _ _ _ h => h) (Or.inl ⟨by rfl, fun w' _ => by go_simp⟩) hH ?_
   simp only [Act.put, List.setIfInBounds_toArray, List.set_cons_zero, List.set_cons_succ]
   refine wpAnyH_take (i := 11) (oi := ⟨_, _, _, _, _, _⟩) (v := .bool false) rfl (by kernel_rfl) (by kernel_rfl) (by kernel_rfl) (fun _ _ _ h => h) (Or.inl ⟨by rfl, fun w' _ => by go_simp⟩) hH ?_
   simp only [Act.put, List.setIfInBounds_toArray, List.set_cons_zero, List.set_cons_succ]
   refine wpAnyH_take (i := 12) (oi := ⟨_, _, _, _, _, _⟩) (v := .slice (some ⟨sb, so, none⟩) S.length vc) rfl (by kernel_rfl) (by kernel_rfl) (by kernel_rfl) (fun _ _ _ h => h) (Or.inl ⟨by rfl, fun w' _ => by go_simp⟩) hH ?_
   simp only [Act.put, List.setIfInBounds_toArray, List.set_cons_zero, List.set_cons_succ]
   refine wpAnyH_take (i := 13) (oi := ⟨_, _, _, _, _, _⟩) (v := .int .i64 (j : Int)) rfl (by kernel_rfl) (by kernel_rfl) (by kernel_rfl) (fun _ _ _ h => h) (Or.inl ⟨by rfl, fun w' _ => by go_simp⟩) hH ?_
   simp only [Act.put, List.setIfInBounds_toArray, List.set_cons_zero, List.set_cons_succ]
   refine wpAnyH_take (i := 14) (oi := ⟨_, _, _, _, _, _⟩) (v := .pointer (some ⟨sb, so + j * 3, none⟩)) rfl (by kernel_rfl) (by kernel_rfl) (by kernel_rfl) (fun _ _ _ h => h) (Or.inl ⟨by rfl, fun w' _ => by go_simp⟩) hH ?_
   simp only [Act.put, List.setIfInBounds_toArray, List.set_cons_zero, List.set_cons_succ]
   refine wpAnyH_take (i := 15) (oi := ⟨_, _, _, _, _, _⟩) (v := .pointer (some ⟨sb, so + j * 3 + 1, none⟩)) rfl (by kernel_rfl) (by kernel_rfl) (by kernel_rfl) (fun _ _ _ h => h) (Or.inl ⟨by rfl, fun w' _ => by go_simp⟩) hH ?_
   simp only [Act.put, List.setIfInBounds_toArray, List.set_cons_zero, List.set_cons_succ]
   refine wpAnyH_take (i := 16) (oi := ⟨_, _, _, _, _, _⟩) (v := .slice x1 x2 x3) rfl (by kernel_rfl) (by kernel_rfl) (by kernel_rfl) (fun _ _ _ h => h) (Or.inl ⟨by rfl, fun w' h => by have y0 := cell_step h (Hid.out HXZ) (Hid.out X1); clear h; go_simp⟩) hH ?_
   simp only [Act.put, List.setIfInBounds_toArray, List.set_cons_zero, List.set_cons_succ]
   refine wpAnyH_take (i := 17) (oi := ⟨_, _, _, _, _, _⟩) (v := .slice (some ⟨sd, sq, none⟩) S.length uc) rfl (by kernel_rfl) (by kernel_rfl) (by kernel_rfl) (fun _ _ _ h => h) (Or.inl ⟨by rfl, fun w' _ => by go_simp⟩) hH ?_
   simp only [Act.put, List.setIfInBounds_toArray, List.set_cons_zero, List.set_cons_succ]
   refine wpAnyH_take (i := 18) (oi := ⟨_, _, _, _, _, _⟩) (v := .int .i64 (j : Int)) rfl (by kernel_rfl) (by kernel_rfl) (by kernel_rfl) (fun _ _ _ h => h) (Or.inl ⟨by rfl, fun w' _ => by go_simp⟩) hH ?_
   simp only [Act.put, List.setIfInBounds_toArray, List.set_cons_zero, List.set_cons_succ]
   refine wpAnyH_take (i := 19) (oi := ⟨_, _, _, _, _, _⟩) (v := .pointer (some ⟨sd, sq + j * 3, none⟩)) rfl (by kernel_rfl) (by kernel_rfl) (by kernel_rfl) (fun _ _ _ h => h) (Or.inl ⟨by rfl, fun w' _ => by go_simp⟩) hH ?_
   simp only [Act.put, List.setIfInBounds_toArray, List.set_cons_zero, List.set_cons_succ]
   refine wpAnyH_take (i := 20) (oi := ⟨_, _, _, _, _, _⟩) (v := .pointer (some ⟨sd, sq + j * 3 + 1, none⟩)) rfl (by kernel_rfl) (by kernel_rfl) (by kernel_rfl) (fun _ _ _ h => h) (Or.inl ⟨by rfl, fun w' _ => by go_simp⟩) hH ?_
   simp only [Act.put, List.setIfInBounds_toArray, List.set_cons_zero, List.set_cons_succ]
   refine wpAnyH_take (i := 21) (oi := ⟨_, _, _, _, _, _⟩) (v := .slice y1 y2 y3) rfl (by kernel_rfl) (by kernel_rfl) (by kernel_rfl) (fun _ _ _ h => h) (Or.inl ⟨by rfl, fun w' h => by have y0 := cell_step h (Hid.out HYZ) (Hid.out Y1); clear h; go_simp⟩) hH ?_
   simp only [Act.put, List.setIfInBounds_toArray, List.set_cons_zero, List.set_cons_succ]
   refine wpAnyH_ready (rs := [22]) (by kernel_rfl) (by simp) ?_
   refine (AllReadyH.cons (o := ⟨_, _, _, _, _, _⟩) rfl (fun K hK => ?_) AllReadyH.nil)
   go_simp
   refine (HC1.out _ hH).mono ?_
   rintro e V1 ⟨rfl, hb⟩
   refine hK.out _ _ (below_step hH hb) (fun hH => ?_)
   clear hK K hb
   refine wpAnyH_take (i := 23) (oi := ⟨_, _, _, _, _, _⟩) (v := .bool false) rfl (by kernel_rfl) (by kernel_rfl) (by kernel_rfl) (fun _ _ _ h => h) (Or.inl ⟨by rfl, fun w' _ => by go_simp⟩) hH ?_
   simp only [Act.put, List.setIfInBounds_toArray, List.set_cons_zero, List.set_cons_succ]
   refine wpAnyH_take (i := 24) (oi := ⟨_, _, _, _, _, _⟩) (v := .bool false) rfl (by kernel_rfl) (by kernel_rfl) (by kernel_rfl) (fun _ _ _ h => h) (Or.inl ⟨by rfl, fun w' _ => by go_simp⟩) hH ?_
   simp only [Act.put, List.setIfInBounds_toArray, List.set_cons_zero, List.set_cons_succ]
   refine wpAnyH_take (i := 25) (oi := ⟨_, _, _, _, _, _⟩) (v := .bool false) rfl (by kernel_rfl) (by kernel_rfl) (by kernel_rfl) (fun _ _ _ h => h) (Or.inl ⟨by rfl, fun w' _ => by go_simp⟩) hH ?_
   simp only [Act.put, List.setIfInBounds_toArray, List.set_cons_zero, List.set_cons_succ]
   refine wpAnyH_take (i := 26) (oi := ⟨_, _, _, _, _, _⟩) (v := .slice (some ⟨sb, so, none⟩) S.length vc) rfl (by kernel_rfl) (by kernel_rfl) (by kernel_rfl) (fun _ _ _ h => h) (Or.inl ⟨by rfl, fun w' _ => by go_simp⟩) hH ?_
   simp only [Act.put, List.setIfInBounds_toArray, List.set_cons_zero, List.set_cons_succ]
   refine wpAnyH_take (i := 27) (oi := ⟨_, _, _, _, _, _⟩) (v := .int .i64 (j : Int)) rfl (by kernel_rfl) (by kernel_rfl) (by kernel_rfl) (fun _ _ _ h => h) (Or.inl ⟨by rfl, fun w' _ => by go_simp⟩) hH ?_
   simp only [Act.put, List.setIfInBounds_toArray, List.set_cons_zero, List.set_cons_succ]
   refine wpAnyH_take (i := 28) (oi := ⟨_, _, _, _, _, _⟩) (v := .pointer (some ⟨sb, so + j * 3, none⟩)) rfl (by kernel_rfl) (by kernel_rfl) (by kernel_rfl) (fun _ _ _ h => h) (Or.inl ⟨by rfl, fun w' _ => by go_simp⟩) hH ?_
   simp only [Act.put, List.setIfInBounds_toArray, List.set_cons_zero, List.set_cons_succ]
   refine wpAnyH_take (i := 29) (oi := ⟨_, _, _, _, _, _⟩) (v := .pointer (some ⟨sb, so + j * 3 + 2, none⟩)) rfl (by kernel_rfl) (by kernel_rfl) (by kernel_rfl) (fun _ _ _ h => h) (Or.inl ⟨by rfl, fun w' _ => by go_simp⟩) hH ?_
   simp only [Act.put, List.setIfInBounds_toArray, List.set_cons_zero, List.set_cons_succ]
   refine wpAnyH_take (i := 30) (oi := ⟨_, _, _, _, _, _⟩) (v := .slice x4 x5 x6) rfl (by kernel_rfl) (by kernel_rfl) (by kernel_rfl) (fun _ _ _ h => h) (Or.inl ⟨by rfl, fun w' h => by have y0 := cell_step h (Hid.out HXZ) (Hid.out X2); clear h; go_simp⟩) hH ?_
   simp only [Act.put, List.setIfInBounds_toArray, List.set_cons_zero, List.set_cons_succ]
   refine wpAnyH_take (i := 31) (oi := ⟨_, _, _, _, _, _⟩) (v := .slice (some ⟨sd, sq, none⟩) S.length uc) rfl (by kernel_rfl) (by kernel_rfl) (by kernel_rfl) (fun _ _ _ h => h) (Or.inl ⟨by rfl, fun w' _ => by go_simp⟩) hH ?_
   simp only [Act.put, List.setIfInBounds_toArray, List.set_cons_zero, List.set_cons_succ]
   refine wpAnyH_take (i := 32) (oi := ⟨_, _, _, _, _, _⟩) (v := .int .i64 (j : Int)) rfl (by kernel_rfl) (by kernel_rfl) (by kernel_rfl) (fun _ _ _ h => h) (Or.inl ⟨by rfl, fun w' _ => by go_simp⟩) hH ?_
   simp only [Act.put, List.setIfInBounds_toArray, List.set_cons_zero, List.set_cons_succ]
   refine wpAnyH_take (i := 33) (oi := ⟨_, _, _, _, _, _⟩) (v := .pointer (some ⟨sd, sq + j * 3, none⟩)) rfl (by kernel_rfl) (by kernel_rfl) (by kernel_rfl) (fun _ _ _ h => h) (Or.inl ⟨by rfl, fun w' _ => by go_simp⟩) hH ?_
   simp only [Act.put, List.setIfInBounds_toArray, List.set_cons_zero, List.set_cons_succ]
   refine wpAnyH_take (i := 34) (oi := ⟨_, _, _, _, _, _⟩) (v := .pointer (some ⟨sd, sq + j * 3 + 2, none⟩)) rfl (by kernel_rfl) (by kernel_rfl) (by kernel_rfl) (fun _ _ _ h => h) (Or.inl ⟨by rfl, fun w' _ => by go_simp⟩) hH ?_
   simp only [Act.put, List.setIfInBounds_toArray, List.set_cons_zero, List.set_cons_succ]
   refine wpAnyH_take (i := 35) (oi := ⟨_, _, _, _, _, _⟩) (v := .slice y4 y5 y6) rfl (by kernel_rfl) (by kernel_rfl) (by kernel_rfl) (fun _ _ _ h => h) (Or.inl ⟨by rfl, fun w' h => by have y0 := cell_step h (Hid.out HYZ) (Hid.out Y2); clear h; go_simp⟩) hH ?_
   simp only [Act.put, List.setIfInBounds_toArray, List.set_cons_zero, List.set_cons_succ]
   refine wpAnyH_ready (rs := [36]) (by kernel_rfl) (by simp) ?_
   refine (AllReadyH.cons (o := ⟨_, _, _, _, _, _⟩) rfl (fun K hK => ?_) AllReadyH.nil)
   go_simp
   refine (HC2.out _ hH).mono ?_
   rintro e V2 ⟨rfl, hb⟩
   refine hK.out _ _ (below_step hH hb) (fun hH => ?_)
   clear hK K hb
   refine wpAnyH_take (i := 37) (oi := ⟨_, _, _, _, _, _⟩) (v := .bool false) rfl (by kernel_rfl) (by kernel_rfl) (by kernel_rfl) (fun _ _ _ h => h) (Or.inl ⟨by rfl, fun w' _ => by go_simp⟩) hH ?_
   simp only [Act.put, List.setIfInBounds_toArray, List.set_cons_zero, List.set_cons_succ]
   refine wpAnyH_take (i := 38) (oi := ⟨_, _, _, _, _, _⟩) (v := .bool false) rfl (by kernel_rfl) (by kernel_rfl) (by kernel_rfl) (fun _ _ _ h => h) (Or.inl ⟨by rfl, fun w' _ => by go_simp⟩) hH ?_
   simp only [Act.put, List.setIfInBounds_toArray, List.set_cons_zero, List.set_cons_succ]
   refine wpAnyH_done (by kernel_rfl) ?_ _
   go_wp2
   go_roundg g
   case measure => omega
   case rel => exact ⟨j + 1, by omega, by go_num, below_step HB.out hH⟩
  | zero =>
   have hz : ¬ ((j : Int) < (S.length : Int)) := by omega
   go_wp2
   go_ret
   exact ⟨rfl, HB.out⟩
end Go.Proofs.YtelcoihmiglceaaGreat
namespace Go.Proofs.YtelcoihmiglceaaGreat
open Go.RowKit

set_option maxRecDepth 20000 in
set_option maxHeartbeats 600000 in
theorem sameProof_yes (R R' : List Cm) (S S' : List St) (rv rv' sv sv' : Value) (w : World) (h : CsP w rv R) (h' : CsP w rv' R') (k : SsP w sv S) (k' : SsP w sv' S')
  (hr : R.map Cm.key = R'.map Cm.key) (hs : S.map St.key = S'.map St.key) (hl : R.length <= 1000000000000000000) (hm : S.length <= 1000000000000000000) :
  Calls Tryz.prog 21 #[.agg #[rv, sv], .agg #[rv', sv']] w fun e w' => e = .returned (.bool true) /\ Below w.heap.size w w' := by
 have HC1 : ∀ Y : World, Below w.heap.size w Y -> Calls Tryz.prog 23 #[rv, rv'] Y fun e w' => e = .returned (.bool true) /\ Below Y.heap.size Y w' := fun Y hY => by
  have := sameCs_any R R' rv rv' Y (h.later hY) (h'.later hY) hl
  rwa [decide_eq_true hr] at this
 have HC2 : ∀ Y : World, Below w.heap.size w Y -> Calls Tryz.prog 52 #[sv, sv'] Y fun e w' => e = .returned (.bool true) /\ Below Y.heap.size Y w' := fun Y hY => sameSteps_yes S S' sv sv' Y (k.later hY) (k'.later hY) hs hm
 obtain ⟨r1, r3, e1⟩ := h.form
 obtain ⟨t1, t3, e2⟩ := h'.form
 obtain ⟨s1, s3, e3⟩ := k.form
 obtain ⟨u1, u3, e4⟩ := k'.form
 obtain ⟨r2, g1⟩ : ∃ n, R.length = n := ⟨_, rfl⟩
 obtain ⟨t2, g2⟩ : ∃ n, R'.length = n := ⟨_, rfl⟩
 obtain ⟨s2, g3⟩ : ∃ n, S.length = n := ⟨_, rfl⟩
 obtain ⟨u2, g4⟩ : ∃ n, S'.length = n := ⟨_, rfl⟩
 rw [g1] at e1
 rw [g2] at e2
 rw [g3] at e3
 rw [g4] at e4
 subst e1 e2 e3 e4
 have HC1 : Hid _ := HC1
 have HC2 : Hid _ := HC2
 have hb2 := below2 w (.cells #[.slice r1 r2 r3, .slice s1 s2 s3] 35) (.cells #[.slice t1 t2 t3, .slice u1 u2 u3] 35)
 have HB2 : Hid (Below w.heap.size w ((w.alloc (.cells #[.slice r1 r2 r3, .slice s1 s2 s3] 35)).alloc (.cells #[.slice t1 t2 t3, .slice u1 u2 u3] 35))) := hb2
 have HK1 : Hid (CBlk ((w.alloc (.cells #[.slice r1 r2 r3, .slice s1 s2 s3] 35)).alloc (.cells #[.slice t1 t2 t3, .slice u1 u2 u3] 35)) w.heap.size #[.slice r1 r2 r3, .slice s1 s2 s3] 35) := Blk.old _ _ _ _
 have HK2 : Hid (CBlk ((w.alloc (.cells #[.slice r1 r2 r3, .slice s1 s2 s3] 35)).alloc (.cells #[.slice t1 t2 t3, .slice u1 u2 u3] 35)) (w.heap.size + 1) #[.slice t1 t2 t3, .slice u1 u2 u3] 35) := Blk.new2 _ _ _ _
 clear h h' k k' hr hs hl hm g1 g2 g3 g4 hb2
 go_enter Tryz.func21, Tryz.ntmps21
 go_wp2_with (first
  | (go_at_call 23; refine (HC1.out _ HB2.out).mono ?_; rintro e w1 ⟨rfl, hb1⟩; have HB1 : Hid (Below w.heap.size w w1) := below_step HB2.out hb1; obtain ⟨p0, p1⟩ := ctwo (HK1.out.later hb1); obtain ⟨q0, q1⟩ := ctwo (HK2.out.later hb1); clear hb1)
  | (go_at_call 52; refine (HC2.out _ HB1.out).mono ?_; rintro e w2 ⟨rfl, hb3⟩; have HB3 : Hid (Below w.heap.size w w2) := below_step HB1.out hb3; clear hb3))
 go_ret
 exact ⟨rfl, HB3.out⟩
end Go.Proofs.YtelcoihmiglceaaGreat
namespace Go.Proofs.YtelcoihmiglceaaGreat

abbrev ltM (a b : At × List At × List Te) : Prop := cmpC a b < 0
structure Mrg (p q out : List (At × List At × List Te)) (i k : Nat) : Prop where
 rise : out.Pairwise ltM
 mem : ∀ x, x ∈ out ↔ x ∈ p.take i ∨ x ∈ q.take k
 lp : ∀ x ∈ out, ∀ j y, i <= j -> p[j]? = some y -> cmpC x y < 0
 lq : ∀ x ∈ out, ∀ j y, k <= j -> q[j]? = some y -> cmpC x y < 0
theorem Mrg.start (p q : List (At × List At × List Te)) : Mrg p q [] 0 0 := ⟨List.Pairwise.nil, (fun x => by simp), (fun x hx => by cases hx), (fun x hx => by cases hx)⟩
theorem ltM_tr {a b c : At × List At × List Te} (h1 : cmpC a b < 0) (h2 : cmpC b c <= 0) : cmpC a c < 0 := (ord_c.tr _ _ _ (by omega) h2).2 (Or.inl h1)
theorem rise_get {p : List (At × List At × List Te)} (h : p.Pairwise ltM) {i j : Nat} {x y : At × List At × List Te} (hij : i < j) (hx : p[i]? = some x) (hy : p[j]? = some y) : cmpC x y < 0 := by
 obtain ⟨h1, rfl⟩ := List.getElem?_eq_some_iff.1 hx
 obtain ⟨h2, rfl⟩ := List.getElem?_eq_some_iff.1 hy
 exact List.pairwise_iff_getElem.1 h i j h1 h2 hij
theorem mem_take {α : Type} {p : List α} {i : Nat} {x y : α} (h : p[i]? = some x) : y ∈ p.take (i + 1) ↔ y ∈ p.take i ∨ y = x := by
 rw [List.take_add_one, h]; simp
theorem rise_snoc {o : List (At × List At × List Te)} {x : At × List At × List Te} (h : o.Pairwise ltM) (hx : ∀ y ∈ o, cmpC y x < 0) : (o ++ [x]).Pairwise ltM :=
 List.pairwise_append.2 ⟨h, List.pairwise_singleton _ _, fun a ha b hb => by rw [List.mem_singleton] at hb; subst hb; exact hx a ha⟩
theorem Mrg.left {p q out : List (At × List At × List Te)} {i k : Nat} {x : At × List At × List Te} (h : Mrg p q out i k) (hp : p.Pairwise ltM) (hq : q.Pairwise ltM) (hx : p[i]? = some x) (hl : ∀ y, q[k]? = some y -> cmpC x y < 0) : Mrg p q (out ++ [x]) (i + 1) k := by
 have hx2 : ∀ y ∈ out, cmpC y x < 0 := fun y hy => h.lp y hy i x (Nat.le_refl _) hx
 refine ⟨rise_snoc h.rise hx2, fun y => ?_, fun y hy j z hj hz => ?_, fun y hy j z hj hz => ?_⟩
 ·rw [List.mem_append, h.mem, mem_take hx, List.mem_singleton]
  constructor
  ·rintro ((h | h) | h)
   ·exact Or.inl (Or.inl h)
   ·exact Or.inr h
   ·exact Or.inl (Or.inr h)
  ·rintro ((h | h) | h)
   ·exact Or.inl (Or.inl h)
   ·exact Or.inr h
   ·exact Or.inl (Or.inr h)
 ·rcases List.mem_append.1 hy with hy | hy
  ·exact h.lp y hy j z (by omega) hz
  ·rw [List.mem_singleton] at hy; subst hy; exact rise_get hp (by omega) hx hz
 ·rcases List.mem_append.1 hy with hy | hy
  ·exact h.lq y hy j z hj hz
  ·rw [List.mem_singleton] at hy; subst hy
   have hk : k < q.length := by have := (List.getElem?_eq_some_iff.1 hz).1; omega
   have h1 := hl _ (List.getElem?_eq_getElem hk)
   by_cases e : j = k
   ·subst e; exact hl z hz
   ·exact ltM_tr h1 (by have := rise_get hq (show k < j by omega) (List.getElem?_eq_getElem hk) hz; omega)
theorem Mrg.swap {p q out : List (At × List At × List Te)} {i k : Nat} (h : Mrg p q out i k) : Mrg q p out k i := ⟨h.rise, fun x => by rw [h.mem, or_comm], h.lq, h.lp⟩
theorem Mrg.right {p q out : List (At × List At × List Te)} {i k : Nat} {x : At × List At × List Te} (h : Mrg p q out i k) (hp : p.Pairwise ltM) (hq : q.Pairwise ltM) (hx : q[k]? = some x) (hl : ∀ y, p[i]? = some y -> cmpC x y < 0) : Mrg p q (out ++ [x]) i (k + 1) := (h.swap.left hq hp hx hl).swap
theorem Mrg.both {p q out : List (At × List At × List Te)} {i k : Nat} {x : At × List At × List Te} (h : Mrg p q out i k) (hp : p.Pairwise ltM) (hq : q.Pairwise ltM) (hx : p[i]? = some x) (hy : q[k]? = some x) : Mrg p q (out ++ [x]) (i + 1) (k + 1) := by
 have hx2 : ∀ y ∈ out, cmpC y x < 0 := fun y hy => h.lp y hy i x (Nat.le_refl _) hx
 refine ⟨rise_snoc h.rise hx2, fun y => ?_, fun y hy' j z hj hz => ?_, fun y hy' j z hj hz => ?_⟩
 ·rw [List.mem_append, h.mem, mem_take hx, mem_take hy, List.mem_singleton]
  constructor
  ·rintro ((h | h) | h)
   ·exact Or.inl (Or.inl h)
   ·exact Or.inr (Or.inl h)
   ·exact Or.inl (Or.inr h)
  ·rintro ((h | h) | (h | h))
   ·exact Or.inl (Or.inl h)
   ·exact Or.inr h
   ·exact Or.inl (Or.inr h)
   ·exact Or.inr h
 ·rcases List.mem_append.1 hy' with hy' | hy'
  ·exact h.lp y hy' j z (by omega) hz
  ·rw [List.mem_singleton] at hy'; subst hy'; exact rise_get hp (by omega) hx hz
 ·rcases List.mem_append.1 hy' with hy' | hy'
  ·exact h.lq y hy' j z (by omega) hz
  ·rw [List.mem_singleton] at hy'; subst hy'; exact rise_get hq (by omega) hy hz
theorem Mrg.done {p q out : List (At × List At × List Te)} {i k : Nat} (h : Mrg p q out i k) (hi : p.length <= i) (hk : q.length <= k) : out.Pairwise ltM /\ ∀ x, x ∈ out ↔ x ∈ p ∨ x ∈ q :=
 ⟨h.rise, fun x => by rw [h.mem, List.take_of_length_le hi, List.take_of_length_le hk]⟩
end Go.Proofs.YtelcoihmiglceaaGreat
namespace Go.Proofs.YtelcoihmiglceaaGreat
open Go.RowKit

def vS (l : List Int) (t : Tm) : List Int := if t.var then (if l.any (fun n => decide (n = t.n)) then l else l ++ [t.n]) else l
def vs (pl : List Tm) : List Int := pl.foldl vS []
end Go.Proofs.YtelcoihmiglceaaGreat
