/-
  wire: law 23's same, ends; scripts.
-/
import Derived.Test.YtboomeeipnfbmabWRF
import Derived.Test.YtboomeeipnfbmabWRE
namespace Go.Proofs.Ytboomeeipnfbmab
open Go.RowKit
attribute [local go_sem ↓] Go.wp_at_zero Go.wp_at_succ

set_option maxRecDepth 20000 in
set_option maxHeartbeats 2000000 in
theorem samW_any {F G : Nat → Prop} {t : TdW} {u v : Value} {Y : World} (h : TdM F Y u t) (h' : TdM G Y v t) :
    Calls Try.prog 21 #[u, v] Y fun e Y' => e = .returned (.bool true) ∧ Below Y.heap.size Y Y' := by
  obtain ⟨ub, ur, rfl, u1, u2⟩ := h.ex
  obtain ⟨vb, vr, rfl, v1, v2⟩ := h'.ex
  obtain ⟨Y2, hY2⟩ : ∃ Y2, (Y.alloc (.cells #[.int .i64 t.n, ub, .int .i64 t.e, ur] 46)).alloc (.cells #[.int .i64 t.n, vb, .int .i64 t.e, vr] 46) = Y2 := ⟨_, rfl⟩
  have hb2 : Below Y.heap.size Y Y2 := by rw [← hY2]; exact (below1 _ _).alloc (by simp) _
  have k1 : Bk Y2 Y.heap.size #[.int .i64 t.n, ub, .int .i64 t.e, ur] 46 := by rw [← hY2]; exact (Bk.new _ _ _).below (below1 _ _)
  have k2 : Bk Y2 (Y.heap.size + 1) #[.int .i64 t.n, vb, .int .i64 t.e, vr] 46 := by rw [← hY2]; have := Bk.new (Y.alloc (.cells #[.int .i64 t.n, ub, .int .i64 t.e, ur] 46)) #[.int .i64 t.n, vb, .int .i64 t.e, vr] 46; simp only [size_alloc7] at this; exact this
  have HB := hm7 (sameW_any F G t.b t.b ub vb Y2 (u1.below hb2) (v1.below hb2))
  rw [decide_eq_true rfl] at HB
  have HR := hm7 (fun k => srowsW_any F G t.r ur vr (Y2.drewN k) ((u2.below hb2).drewN k) ((v2.below hb2).drewN k))
  obtain ⟨a1, b1, e1, -⟩ := u1.form
  obtain ⟨a2, b2, e2, -⟩ := u2.form
  obtain ⟨a3, b3, e3, -⟩ := v1.form
  obtain ⟨a4, b4, e4, -⟩ := v2.form
  generalize t.b.length = tbn at e1 e3
  generalize t.r.length = trn at e2 e4
  generalize t.n = tn at *
  generalize t.e = te at *
  subst e1 e2 e3 e4
  have c0 : Y2.cell? ⟨Y.heap.size, 0, none⟩ = some (.int .i64 tn) := k1.cell rfl
  have c1 : Y2.cell? ⟨Y.heap.size, 1, none⟩ = some (.slice a1 tbn b1) := k1.cell rfl
  have c2 : Y2.cell? ⟨Y.heap.size, 2, none⟩ = some (.int .i64 te) := k1.cell rfl
  have c3 : Y2.cell? ⟨Y.heap.size, 3, none⟩ = some (.slice a2 trn b2) := k1.cell rfl
  have d0 : Y2.cell? ⟨Y.heap.size + 1, 0, none⟩ = some (.int .i64 tn) := k2.cell rfl
  have d1 : Y2.cell? ⟨Y.heap.size + 1, 1, none⟩ = some (.slice a3 tbn b3) := k2.cell rfl
  have d2 : Y2.cell? ⟨Y.heap.size + 1, 2, none⟩ = some (.int .i64 te) := k2.cell rfl
  have d3 : Y2.cell? ⟨Y.heap.size + 1, 3, none⟩ = some (.slice a4 trn b4) := k2.cell rfl
  have HB2 := hm7 hb2
  clear h h' u1 u2 v1 v2 k1 k2 hb2
  go_enter Try.func21, Try.ntmps21
  go_wp2_with (first
    | (go_at_call 13; refine HB.out.mono ?_; rintro e Y3 ⟨rfl, m3, rfl⟩)
    | (go_at_call 16; refine (HR.out _).mono ?_; rintro e Y4 ⟨rfl, m4, rfl⟩))
  go_ret
  exact ⟨rfl, HB2.out.trans ⟨rfl, rfl, rfl, Nat.le_refl _, fun _ _ => rfl⟩⟩
set_option maxRecDepth 20000 in
set_option maxHeartbeats 2000000 in
theorem endsW_any {B D : Nat} {T R : Nat → Prop} {v u : Value} {s : WrW} {Y : World} (h : WzW B T v s Y) (h' : RzW D R u s Y) :
    Calls Try.prog 18 #[v, u] Y fun e Y' => e = .returned (.bool true) ∧ Below Y.heap.size Y Y' := by
  have HW := hm7 h
  have HR := hm7 h'
  obtain ⟨g, rfl⟩ := h.ptr
  obtain ⟨g', rfl⟩ := h'.ptr
  clear h h'
  go_enter Try.func18, Try.ntmps18
  go_upto_region 2 with (go_at_call 14; refine (wwaitW_any HW.out).mono ?_; rintro e Y1 ⟨a, Z, rfl, hz, ho, hb⟩; have hlm := ho.lm; rw [hz] at hlm; obtain ⟨x1, y1, rfl, -⟩ := hlm.form; have HL1 := hm7 hlm; have HB1 := hm7 hb; clear hlm ho hz hb)
  go_upto_region 3 with (go_at_call 30; refine (rwaitW_any (HR.out.below HB1.out)).mono ?_; rintro e Y2 ⟨a, rfl, hlm, hb⟩; obtain ⟨x2, y2, rfl, -⟩ := hlm.form; have HL2 := hm7 hlm; have HB2 := hm7 hb; clear hlm hb)
  go_upto_region 4 with (go_at_call 31; refine (wnextW_any ((HW.out.below HB1.out).below HB2.out)).mono ?_; rintro e Y3 ⟨rfl, hb⟩; have HB3 := hm7 hb; clear hb)
  have HS := hm7 (srowsW_any _ _ s.row _ _ Y3 ((HL1.out.below HB2.out).below HB3.out) (HL2.out.below HB3.out))
  have HN := hm7 (fun k => rnextW_any ((((HR.out.below HB1.out).below HB2.out).below HB3.out).drewN k))
  have HBA : Hid (Below Y.heap.size Y Y3) := (HB1.out.trans (HB2.out.mono HB1.out.size)).trans (HB3.out.mono (Nat.le_trans HB1.out.size HB2.out.size))
  obtain ⟨z, hz⟩ : ∃ z, nxtW s = z := ⟨_, rfl⟩
  rw [hz] at HN ⊢
  clear hz
  go_wp2_with (first
    | (go_at_call 16; refine HS.out.mono ?_; rintro e Y4 ⟨rfl, m4, rfl⟩)
    | (go_at_call 32; refine (HN.out _).mono ?_; rintro e Y5 ⟨rfl, m5, rfl⟩))
  go_ret
  exact ⟨ret_b (by simp), HBA.out.trans ⟨rfl, rfl, rfl, Nat.le_refl _, fun _ _ => rfl⟩⟩
end Go.Proofs.Ytboomeeipnfbmab
