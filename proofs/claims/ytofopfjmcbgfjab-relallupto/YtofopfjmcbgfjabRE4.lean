import Derived.Test.YtofopfjmcbgfjabRE2
import Derived.Deep.RegionWith
/-
  law 7: the calls of both relations, in either order.
-/
namespace Go.Proofs.Ytofopfjmcbgfjab
open Go.RowKit

variable {w Y W W' : World} {T R : Nat → Prop} {g h m : Nat} {s : St7}
theorem BX.refl (H : BO w T R g h m s Y) : BX w T R g h m s Y Y := ⟨Fr.refl _ _, T, R, H, fun _ hb => Or.inl hb⟩
theorem BX.below (H : BX w T R g h m s Y W) (hb : Below W.heap.size W W') : BX w T R g h m s Y W' := by
  obtain ⟨h1, T', R', h2, h3⟩ := H
  exact ⟨h1.then hb, T', R', h2.below hb, h3⟩
theorem BX.drew (H : BX w T R g h m s Y W) : BX w T R g h m s Y W.drew := H.below (by exact ⟨rfl, rfl, rfl, Nat.le_refl _, fun _ _ => rfl⟩)
theorem BX.ok (H : BX w T R g h m s Y W) : s.Ok := by obtain ⟨h1, T', R', h2, h3⟩ := H; exact h2.p.ok
/-- Another step of the program's relation. -/
theorem BX.one {m' : Nat} {s' : St7} {T' R' : Nat → Prop} (hf : Fr (fun b => T b ∨ R b) Y W) (hi : ∀ b, T' b ∨ R' b → (T b ∨ R b) ∨ Y.heap.size ≤ b) (hr : RR w R' h s' W) (hd : ∀ b, T' b → ¬ R' b) (ht : ∀ b, T' b → w.heap.size ≤ b) (k : PX w T' g m' s' W W') : BX w T R g h m' s' Y W' := by
  obtain ⟨k1, T2, k2, k3⟩ := k
  have hz := hf.size
  refine ⟨hf.trans k1 fun b hb hc => (hi b (Or.inl hc)).elim id fun h => by omega, T2, R', ⟨k2, hr.fr k1 fun b hb hl => ⟨ht b hb, hd b hb⟩, fun b hb hc => ?_⟩, fun b hb => ?_⟩
  · rcases k3 b hb with h1 | h1
    · exact hd b h1 hc
    · have := (hr.t b hc).2; omega
  · rcases hb with hb | hb
    · rcases k3 b hb with h1 | h1
      · exact hi b (Or.inl h1)
      · exact Or.inr (by omega)
    · exact hi b (Or.inr hb)
theorem bx_len (H : BX w T R g h m s Y W) (parts : Int) : Calls Try.prog 21 #[.pointer (some ⟨g, 0, none⟩), .int .i64 parts] W fun e W' => e = .returned (.int .i64 ((rsel7 s parts).length : Int)) ∧ BX w T R g h m s Y W' := by
  obtain ⟨h1, T', R', h2, h3⟩ := H
  refine (h2.p.kr.len parts).mono ?_
  rintro e W' ⟨rfl, hb⟩
  exact ⟨by rw [rsel_len h2.p.ok], BX.below ⟨h1, T', R', h2, h3⟩ hb⟩
theorem bx_rlen (H : BX w T R g h m s Y W) (parts : Int) : Calls Try.prog 22 #[.pointer (some ⟨h, 0, none⟩), .int .i64 parts] W fun e W' => e = .returned (.int .i64 ((rsel7 s parts).length : Int)) ∧ BX w T R g h m s Y W' := by
  obtain ⟨h1, T', R', h2, h3⟩ := H
  refine (rlen7_any w R' h s parts W h2.r).mono ?_
  rintro e W' ⟨rfl, hb⟩
  exact ⟨rfl, BX.below ⟨h1, T', R', h2, h3⟩ hb⟩
theorem bx_part {G : Nat → Prop} {v : Value} {r : List Int} (H : BX w T R g h m s Y W) (hv : Li G W v r) (hl : r.length ≤ 10000000000) : Calls Try.prog 15 #[.pointer (some ⟨g, 0, none⟩), v] W fun e W' => e = .returned (.int .i64 (part7 s r)) ∧ BX w T R g h m s Y W' ∧ Below W.heap.size W W' := by
  obtain ⟨h1, T', R', h2, h3⟩ := H
  refine (h2.p.kr.part hv hl).mono ?_
  rintro e W' ⟨rfl, hb⟩
  exact ⟨rfl, BX.below ⟨h1, T', R', h2, h3⟩ hb, hb⟩
theorem bx_rpart {G : Nat → Prop} {v : Value} {r : List Int} (H : BX w T R g h m s Y W) (hv : Li G W v r) : Calls Try.prog 20 #[.pointer (some ⟨h, 0, none⟩), v] W fun e W' => e = .returned (.int .i64 (part7 s r)) ∧ BX w T R g h m s Y W' ∧ Below W.heap.size W W' := by
  obtain ⟨h1, T', R', h2, h3⟩ := H
  refine (rpart7_any w R' G h s v r W h2.r hv).mono ?_
  rintro e W' ⟨rfl, n, rfl⟩
  exact ⟨rfl, BX.below ⟨h1, T', R', h2, h3⟩ (below_dn7 W n), below_dn7 W n⟩
/-- A list of rows, and both relations beside it. -/
def RL7 (W : World) (u : Value) (L : List (List Int)) : Prop := ∃ Q, Ls7 W u Q ∧ Q.map Prod.fst = L
theorem RL7.below {u : Value} {L : List (List Int)} (H : RL7 W u L) (hb : Below W.heap.size W W') : RL7 W' u L := by obtain ⟨Q, h1, h2⟩ := H; exact ⟨Q, ⟨h1.1.imp fun _ h => row7_below h hb, fun p hp => (h1.2 p hp).below hb⟩, h2⟩
def RO2 (w : World) (T R : Nat → Prop) (g h m : Nat) (s : St7) (Y : World) (L : List (List Int)) (u : Value) (W : World) : Prop := Fr (fun b => T b ∨ R b) Y W ∧ ∃ T' R' : Nat → Prop, BO w T' R' g h m s W ∧ (∀ b, T' b ∨ R' b → (T b ∨ R b) ∨ Y.heap.size ≤ b) ∧ ∃ Q B, OL W B u Q ∧ (∀ b, T' b → b < B) ∧ Q.map Prod.fst = L
theorem bx_rows (H : BX w T R g h m s Y W) (parts : Int) (hm : m ≤ 100000000000000) : Calls Try.prog 16 #[.pointer (some ⟨g, 0, none⟩), .int .i64 parts] W fun e W' => ∃ u, e = .returned u ∧ RL7 W' u (rsel7 s parts) ∧ BX w T R g h (m + 1) s Y W' := by
  obtain ⟨h1, T', R', h2, h3⟩ := H
  refine (h2.p.rows parts hm).mono ?_
  rintro e W' ⟨u, rfl, Q, B, k1, k2, k3, k4⟩
  exact ⟨u, rfl, ⟨Q, k1.ls, by rw [k3, rsel_eq h2.p.ok]⟩, BX.one h1 h3 h2.r h2.d (fun b hb => (h2.p.t b hb).1) k4⟩
theorem bx_rrows {u : Value} {L : List (List Int)} (H : RL7 W u L ∧ BX w T R g h m s Y W) (parts : Int) : Calls Try.prog 24 #[.pointer (some ⟨h, 0, none⟩), .int .i64 parts] W fun e W' => ∃ u', e = .returned u' ∧ RL7 W' u L ∧ RL7 W' u' (rsel7 s parts) ∧ BX w T R g h m s Y W' := by
  obtain ⟨h0, h1, T', R', h2, h3⟩ := H
  refine (rrows7_any w R' h s parts W h2.r).mono ?_
  rintro e W' ⟨u', rfl, Q, k1, k2, hb⟩
  exact ⟨u', rfl, h0.below hb, ⟨Q, k1.ls, k2⟩, BX.below ⟨h1, T', R', h2, h3⟩ hb⟩
theorem bx_rrows1 (H : BX w T R g h m s Y W) (parts : Int) : Calls Try.prog 24 #[.pointer (some ⟨h, 0, none⟩), .int .i64 parts] W fun e W' => ∃ u, e = .returned u ∧ RO2 w T R g h m s Y (rsel7 s parts) u W' := by
  obtain ⟨h1, T', R', h2, h3⟩ := H
  refine (rrows7_any w R' h s parts W h2.r).mono ?_
  rintro e W' ⟨u', rfl, Q, k1, k2, hb⟩
  exact ⟨u', rfl, h1.then hb, T', R', h2.below hb, h3, Q, W.heap.size, k1, fun b hc => (h2.p.t b hc).2, k2⟩
theorem bx_rows2 {u : Value} {L : List (List Int)} (H : RO2 w T R g h m s Y L u W) (parts : Int) (hm : m ≤ 100000000000000) : Calls Try.prog 16 #[.pointer (some ⟨g, 0, none⟩), .int .i64 parts] W fun e W' => ∃ u', e = .returned u' ∧ RL7 W' u' (rsel7 s parts) ∧ RL7 W' u L ∧ BX w T R g h (m + 1) s Y W' := by
  obtain ⟨h1, T', R', h2, h3, Q, B0, h4, h6, h5⟩ := H
  refine (h2.p.rows parts hm).mono ?_
  rintro e W' ⟨u', rfl, Q', B, k1, k2, k3, k4⟩
  exact ⟨u', rfl, ⟨Q', k1.ls, by rw [k3, rsel_eq h2.p.ok]⟩, ⟨Q, (h4.fr k4.1 fun b hb _ hc => by have := h6 b hc; omega).ls, h5⟩, BX.one h1 h3 h2.r h2.d (fun b hb => (h2.p.t b hb).1) k4⟩
theorem bx_same {u u' : Value} {L : List (List Int)} (H : RL7 W u L ∧ RL7 W u' L) : Calls Try.prog 23 #[u, u'] W fun e W' => e = .returned (.bool true) ∧ ∃ n, W' = W.drewN n := by
  obtain ⟨⟨P, h1, h2⟩, Q, h3, h4⟩ := H
  exact sameRows7_any P Q u u' W h1 h3 (h2.trans h4.symm)
theorem bx_turn (H : BX w T R g h m s Y W) : Calls Try.prog 14 #[.pointer (some ⟨g, 0, none⟩)] W fun e W' => e = .returned (.int .i64 ((s.rows.length : Int) - (s.xf : Int))) ∧ ∃ T' R' : Nat → Prop, Fr (fun b => T b ∨ R b) Y W' ∧ PT w T' g m (Turn7 s) W' ∧ RR w R' h s W' ∧ (∀ b, T' b → ¬ R' b) ∧ ∀ b, T' b ∨ R' b → (T b ∨ R b) ∨ Y.heap.size ≤ b := by
  obtain ⟨h1, T', R', h2, h3⟩ := H
  refine h2.p.turn.mono ?_
  rintro e W' ⟨rfl, k1, T2, k2, k3⟩
  have hz := h1.size
  refine ⟨rfl, T2, R', h1.trans k1 fun b hb hc => (h3 b (Or.inl hc)).elim id fun h => by omega, k2, h2.r.fr k1 fun b hb hl => ⟨(h2.p.t b hb).1, h2.d b hb⟩, fun b hb hc => ?_, fun b hb => ?_⟩
  · rcases k3 b hb with h5 | h5
    · exact h2.d b h5 hc
    · have := (h2.r.t b hc).2; omega
  · rcases hb with hb | hb
    · rcases k3 b hb with h5 | h5
      · exact h3 b (Or.inl h5)
      · exact Or.inr (by omega)
    · exact h3 b (Or.inr hb)
end Go.Proofs.Ytofopfjmcbgfjab
/-
  law 7: looks.
-/
namespace Go.Proofs.Ytofopfjmcbgfjab
open Go.RowKit
attribute [local go_sem ↓] Go.wp_at_zero Go.wp_at_succ

def LkQ (w : World) (T R : Nat → Prop) (g h m : Nat) (s : St7) (Y : World) (e : Ending) (Y' : World) : Prop := e = .returned (.bool true) ∧ BX w T R g h m s Y Y'
theorem BX.kin {w Y W : World} {T R : Nat → Prop} {g h m : Nat} {s : St7} (H : BX w T R g h m s Y W) {b : Nat} {c : Array Value} {t : TypeId} (hb : Bk Y b c t) (hn : ¬ T b ∧ ¬ R b) : Bk W b c t := hb.fr H.1 fun h => h.elim hn.1 hn.2
theorem RO2.kin {w Y W : World} {T R : Nat → Prop} {g h m : Nat} {s : St7} {L : List (List Int)} {u : Value} (H : RO2 w T R g h m s Y L u W) {b : Nat} {c : Array Value} {t : TypeId} (hb : Bk Y b c t) (hn : ¬ T b ∧ ¬ R b) : Bk W b c t := hb.fr H.1 fun h => h.elim hn.1 hn.2
set_option maxRecDepth 20000 in
set_option maxHeartbeats 4000000 in
theorem looks7_any (w : World) (T R : Nat → Prop) (g h m : Nat) (s : St7) (Y : World) (H : BO w T R g h m s Y) (hm : m ≤ 10000000000000) :
    Calls Try.prog 9 #[.agg #[.pointer (some ⟨g, 0, none⟩), .pointer (some ⟨h, 0, none⟩)]] Y (LkQ w T R g h (m + 8) s Y) := by
  obtain ⟨Y0, hY0⟩ : ∃ Y0, Y.alloc (.cells #[.pointer (some ⟨g, 0, none⟩), .pointer (some ⟨h, 0, none⟩)] 28) = Y0 := ⟨_, rfl⟩
  have hb0 : Below Y.heap.size Y Y0 := by rw [← hY0]; exact below1 _ _
  have hk0 : Bk Y0 Y.heap.size #[.pointer (some ⟨g, 0, none⟩), .pointer (some ⟨h, 0, none⟩)] 28 := by rw [← hY0]; exact Bk.new _ _ _
  have HN : Hid (¬ T Y.heap.size ∧ ¬ R Y.heap.size) := ⟨fun hc => by have := (H.p.t _ hc).2; omega, fun hc => by have := (H.r.t _ hc).2; omega⟩
  have HB0 := hm7 hb0
  have HK0 := hm7 hk0
  have H0 := hm7 (H.below hb0)
  clear H hb0 hk0
  go_enter Try.func9, Try.ntmps9
  go_wp2
  go_loopg [3] 8 (fun gg i wr => ∃ j : Nat, j + gg = 8 ∧ i = .int .i64 j ∧ BX w T R g h (m + j) s Y0 wr)
  case atStart => exact ⟨0, by omega, rfl, BX.refl H0.out⟩
  case round =>
    obtain ⟨j, hj, rfl, hx⟩ := hrel
    cases gk with
    | succ gg =>
      have hlt : (j : Int) < 8 := by omega
      have hk := hx.kin HK0.out HN.out
      have c0 := hk.cell (i := 0) rfl
      have c1 := hk.cell (i := 1) rfl
      have HX := hm7 hx
      have HMJ : Hid (m + j ≤ 100000000000000) := by show _ ≤ _; omega
      clear hx hk
      go_upto_region 4 with fail
      obtain ⟨L, hL⟩ : ∃ L, rsel7 s (j : Int) = L := ⟨_, rfl⟩
      obtain ⟨ln, hln⟩ : ∃ n, L.length = n := ⟨_, rfl⟩
      have HLEN : Hid (∀ W, BX w T R g h (m + j) s Y0 W → Calls Try.prog 21 #[.pointer (some ⟨g, 0, none⟩), .int .i64 (j : Int)] W fun e W' => e = .returned (.int .i64 (ln : Int)) ∧ BX w T R g h (m + j) s Y0 W') := fun W hW => by have := bx_len hW (j : Int); rw [hL, hln] at this; exact this
      have HRLEN : Hid (∀ W, BX w T R g h (m + j) s Y0 W → Calls Try.prog 22 #[.pointer (some ⟨h, 0, none⟩), .int .i64 (j : Int)] W fun e W' => e = .returned (.int .i64 (ln : Int)) ∧ BX w T R g h (m + j) s Y0 W') := fun W hW => by have := bx_rlen hW (j : Int); rw [hL, hln] at this; exact this
      have HXD := hm7 HX.out.drew
      clear HX hL hln
      go_region_with (first
        | (go_at_call 21; refine Calls.mono (HLEN.out _ (by first | exact HXR.out | exact HXD.out)) ?_; rintro e WL ⟨rfl, hxl⟩; have cL0 := (hxl.kin HK0.out HN.out).cell (i := 0) rfl; have cL1 := (hxl.kin HK0.out HN.out).cell (i := 1) rfl; have HXL := hm7 hxl; clear hxl)
        | (go_at_call 22; refine Calls.mono (HRLEN.out _ (by first | exact HXL.out | exact HXD.out)) ?_; rintro e WR ⟨rfl, hxr⟩; have cR0 := (hxr.kin HK0.out HN.out).cell (i := 0) rfl; have cR1 := (hxr.kin HK0.out HN.out).cell (i := 1) rfl; have HXR := hm7 hxr; clear hxr)
        | (go_at_call 16; refine Calls.mono (bx_rows2 (by exact HQR.out) (j : Int) HMJ.out) ?_; rintro e WP ⟨u, rfl, hlu, hlv, hxp⟩; have cP0 := (hxp.kin HK0.out HN.out).cell (i := 0) rfl; have cP1 := (hxp.kin HK0.out HN.out).cell (i := 1) rfl; have HXP := hm7 hxp; have HSM := hm7 (And.intro hlu hlv); clear hxp hlu hlv)
        | (go_at_call 16; refine Calls.mono (bx_rows (by first | exact HXR.out | exact HXL.out) (j : Int) HMJ.out) ?_; rintro e WP ⟨u, rfl, hlu, hxp⟩; have cP0 := (hxp.kin HK0.out HN.out).cell (i := 0) rfl; have cP1 := (hxp.kin HK0.out HN.out).cell (i := 1) rfl; have HQP := hm7 (And.intro hlu hxp); clear hxp hlu)
        | (go_at_call 24; refine Calls.mono (bx_rrows HQP.out (j : Int)) ?_; rintro e WQ ⟨u2, rfl, hlu, hlv, hxp⟩; have HXP := hm7 hxp; have HSM := hm7 (And.intro hlu hlv); clear hxp hlu hlv)
        | (go_at_call 24; refine Calls.mono (bx_rrows1 (by first | exact HXR.out | exact HXL.out) (j : Int)) ?_; rintro e WQ ⟨u2, rfl, hro⟩; have cQ0 := (hro.kin HK0.out HN.out).cell (i := 0) rfl; have cQ1 := (hro.kin HK0.out HN.out).cell (i := 1) rfl; have HQR := hm7 hro; clear hro)
        | (go_at_call 23; refine Calls.mono (bx_same HSM.out) ?_; rintro e WS ⟨rfl, n2, rfl⟩))
      all_goals (go_wp2; go_roundg gg)
      all_goals first | omega | exact ⟨j + 1, by omega, by go_num, HXP.out.below (below_dn7 _ _)⟩
    | zero =>
      have hlt : ¬ (j : Int) < 8 := by omega
      obtain rfl : j = 8 := by omega
      go_wp2
      go_ret
      refine ⟨rfl, ?_⟩
      obtain ⟨h1, T', R', h2, h3⟩ := hx
      exact ⟨(Fr.of HB0.out).trans h1 fun _ _ h => h, T', R', h2, fun b hb => (h3 b hb).imp id fun h => Nat.le_trans HB0.out.size h⟩
end Go.Proofs.Ytofopfjmcbgfjab
