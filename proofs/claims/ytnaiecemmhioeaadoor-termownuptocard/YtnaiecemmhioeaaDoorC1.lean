/-
  (*classes).canSay: what Unify was given.
-/
import Derived.Test.YtnaiecemmhioeaaDoorU6
namespace Go.Proofs.YtnaiecemmhioeaaDoor
open Go.RowKit
attribute [local go_sem ↓] Go.wp_at_zero Go.wp_at_succ

theorem Say.one {T : List Tm} {rt : Nat → Nat} {t x : Tm} {T' : List Tm} (ho : ∀ i, T.length ≤ i → rt i = i) (hv : t.var = true) (h : (∃ i : Nat, T[i]? = some t ∧ T' = T ∧ T[rt i]? = some x) ∨ ((∀ (m : Nat) (e : Tm), T[m]? = some e → ¬ e = t) ∧ T' = T ++ [t] ∧ x = t)) :
    (T' = T ∨ Ad T t T') ∧ Say T' rt t (x.var || x.prin) := by
  rcases h with ⟨i, a1, rfl, a3⟩ | ⟨a1, rfl, rfl⟩
  · exact ⟨Or.inl rfl, Or.inr ⟨hv, i, x, a1, a3, rfl⟩⟩
  · refine ⟨Or.inr (Or.inr ⟨a1, rfl⟩), Or.inr ⟨hv, T.length, x, by simp, ?_, rfl⟩⟩
    rw [ho _ (Nat.le_refl _)]; simp
set_option maxRecDepth 20000 in
set_option maxHeartbeats 1000000 in
theorem say_ok : SayOK := by
  intro t B C vt vu T U rt dep w h hu hB hl
  have hCw := h.blk.lt
  have HC : Hid (CL w B C vt vu T U) := h
  have HU : Hid (UF T.length U rt dep) := hu
  obtain ⟨tv, hv⟩ : ∃ v, Tm.var t = v := ⟨_, rfl⟩
  have HV : Hid (Tm.var t = tv) := hv
  obtain ⟨k, n, s⟩ := t
  clear h hu hv
  go_enter Tryd.func34, Tryd.ntmps34
  go_upto_region 1 with fail
  have hb1 := below1 w (.cells #[.int .i64 k, .int .i64 n, .string s] 23)
  have B1 := Blk.new w #[.int .i64 k, .int .i64 n, .string s] 23
  revert hb1 B1
  generalize w.alloc (.cells #[.int .i64 k, .int .i64 n, .string s] 23) = W1
  intro hb1 B1
  have HB1 : Hid (Below w.heap.size w W1) := hb1
  have BT : Hid (Blk W1 w.heap.size #[.int .i64 k, .int .i64 n, .string s] 23) := B1
  obtain ⟨c0, c1, c2, -, -, -⟩ := three B1
  clear hb1 B1
  cases tv with
  | false =>
    go_wp2_with (go_at_call 27; refine (var_any ⟨k, n, s⟩ _).mono ?_; rw [HV.out]; rintro e w2 ⟨rfl, hb2⟩)
    exact bodyPost_ret (v := .bool true) (by simp [results, Tryd.results34, go_sem]) rfl ⟨true, vt, vu, T, U, rfl, HC.out.later (below_step (Hid.out HB1) hb2), HU.out, Stp.below _ _ _ (below_step (Hid.out HB1) hb2), Or.inl rfl, Or.inl ⟨HV.out, rfl⟩⟩
  | true =>
    go_upto_region 3 with (go_at_call 27; refine (var_any ⟨k, n, s⟩ _).mono ?_; rw [HV.out]; rintro e X ⟨rfl, hb2⟩)
    have hbx := below_step (Hid.out HB1) hb2
    have HCX : Hid (CL X B C vt vu T U) := HC.out.later hbx
    have HSX : Hid (Stp w X C vt vu vt vu) := Stp.below _ _ _ hbx
    have hBX : B ≤ X.heap.size := Nat.le_trans hB hbx.size
    clear c0 c1 c2
    obtain ⟨c0, c1, c2, -, -, -⟩ := three (Blk.later (Hid.out BT) hb2)
    clear hb2 hbx
    go_upto_region 4 with (go_at_call 46; refine (bestTerm_any ⟨k, n, s⟩ B C vt vu T U rt dep _ HCX.out HU.out (by omega) (by omega)).mono ?_; rintro e V ⟨⟨xk, xn, xz⟩, vt2, vu2, T2, U2, rfl, hc2, hu2, hs2, hw2⟩)
    have HSay := Say.one (rt := rt) HU.out.out HV.out (hw2.imp (fun ⟨i, a, b, c, _⟩ => ⟨i, a, b, c⟩) id)
    have bY := below1 V (.cells #[.int .i64 xk, .int .i64 xn, .string xz] 23)
    have fG := Blk.new V #[.int .i64 xk, .int .i64 xn, .string xz] 23
    revert bY fG
    generalize V.alloc (.cells #[.int .i64 xk, .int .i64 xn, .string xz] 23) = Y
    intro bY fG
    have HFin : Hid _ := And.intro (hc2.later bY) (And.intro hu2 (And.intro ((Hid.out HSX).trans (hs2.trans (Stp.below _ _ _ bY))) HSay))
    have BG : Hid (Blk Y V.heap.size #[.int .i64 xk, .int .i64 xn, .string xz] 23) := fG
    obtain ⟨xv, hxv⟩ : ∃ v, Tm.var ⟨xk, xn, xz⟩ = v := ⟨_, rfl⟩
    obtain ⟨xp, hxp⟩ : ∃ v, Tm.prin ⟨xk, xn, xz⟩ = v := ⟨_, rfl⟩
    have HXV : Hid (Tm.var ⟨xk, xn, xz⟩ = xv) := hxv
    have HXP : Hid (Tm.prin ⟨xk, xn, xz⟩ = xp) := hxp
    obtain ⟨x0, x1, x2, -, -, -⟩ := three fG
    clear hc2 hu2 hs2 bY fG hw2 HSay hxv hxp c0 c1 c2
    cases xv with
    | true =>
      go_wp2_with (go_at_call 27; refine (var_any ⟨xk, xn, xz⟩ _).mono ?_; rw [HXV.out]; rintro e w3 ⟨rfl, hb3⟩)
      exact bodyPost_ret (v := .bool true) (by simp [results, Tryd.results34, go_sem]) rfl ⟨true, _, _, _, _, rfl, HFin.out.1.later hb3, HFin.out.2.1, HFin.out.2.2.1.trans (Stp.below _ _ _ hb3), HFin.out.2.2.2.1, by have := HFin.out.2.2.2.2; rw [HXV.out] at this; exact this⟩
    | false =>
      go_wp2_with (first | (go_at_call 27; refine (var_any ⟨xk, xn, xz⟩ _).mono ?_; rw [HXV.out]; rintro e w3 ⟨rfl, hb3⟩; clear x0 x1 x2; obtain ⟨x0, x1, x2, -, -, -⟩ := three (Blk.later (Hid.out BG) hb3); have HB3 : Hid (Below Y.heap.size Y w3) := hb3; clear hb3) | (go_at_call 47; refine (prin_any ⟨xk, xn, xz⟩ _).mono ?_; rw [HXP.out]; rintro e w4 ⟨rfl, hb4⟩))
      have hb5 := below_step (Hid.out HB3) hb4
      exact bodyPost_ret (v := .bool xp) (by simp [results, Tryd.results34, go_sem]) rfl ⟨xp, _, _, _, _, rfl, HFin.out.1.later hb5, HFin.out.2.1, HFin.out.2.2.1.trans (Stp.below _ _ _ hb5), HFin.out.2.2.2.1, by have := HFin.out.2.2.2.2; rw [HXV.out, HXP.out] at this; exact this⟩
end Go.Proofs.YtnaiecemmhioeaaDoor
