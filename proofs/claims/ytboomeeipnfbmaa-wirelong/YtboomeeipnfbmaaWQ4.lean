/-
  wire: Send, Look, Copy, Next.
-/
import Derived.Test.YtboomeeipnfbmaaWQ3
namespace Go.Proofs.Ytboomeeipnfbmaa
open Go.RowKit
attribute [local go_sem ↓] Go.wp_at_zero Go.wp_at_succ

theorem plI_some {s : WrW} {n : Int} {i : Nat} (h : plW s n = some i) : plI s n = (i : Int) := by unfold plI; rw [h]
theorem plI_none {s : WrW} {n : Int} (h : plW s n = none) : plI s n = -1 := by unfold plI; rw [h]
theorem place_some {B : Nat} {T : Nat → Prop} {g : Nat} {s : WrW} {Z : List (MsW × Value)} {rv : Value} {Y : World} (h : WyX B T g s Z rv Y) {n : Int} {i : Nat} (hp : plW s n = some i) :
    Calls Try.prog 27 #[.pointer (some ⟨g, 0, none⟩), .int .i64 n] Y fun e Y' => e = .returned (.tuple #[.int .i64 (i : Int), .bool true]) ∧ Below Y.heap.size Y Y' := by
  have := wplaceW_any h n
  rw [plI_some hp, decide_eq_true (by omega)] at this
  exact this
theorem place_none {B : Nat} {T : Nat → Prop} {g : Nat} {s : WrW} {Z : List (MsW × Value)} {rv : Value} {Y : World} (h : WyX B T g s Z rv Y) {n : Int} (hp : plW s n = none) :
    Calls Try.prog 27 #[.pointer (some ⟨g, 0, none⟩), .int .i64 n] Y fun e Y' => e = .returned (.tuple #[.int .i64 (-1), .bool false]) ∧ Below Y.heap.size Y Y' := by
  have := wplaceW_any h n
  rw [plI_none hp, decide_eq_false (by omega)] at this
  exact this
/-- The message that stands there, with its cells. -/
theorem WyX.row_at {B : Nat} {T : Nat → Prop} {g : Nat} {s : WrW} {Z : List (MsW × Value)} {rv : Value} {Y : World} (h : WyX B T g s Z rv Y) {n : Int} {i : Nat} (hp : plW s n = some i) : ∃ q, Z[i]? = some q ∧ s.row[i]? = some q.1 ∧ (q.1.n : Int) = n ∧ byW s n = q.1.b ∧ i < Z.length ∧ Z.length ≤ 4096 ∧ q.1.b.length ≤ 1048576 := by
  obtain ⟨m, hm, hn, hi⟩ := plW_some hp
  have hl := h.len
  obtain ⟨q, hq⟩ : ∃ q, Z[i]? = some q := ⟨_, List.getElem?_eq_getElem (by omega)⟩
  have e : s.row[i]? = some q.1 := by rw [← h.z, List.getElem?_map, hq]; rfl
  rw [hm] at e
  cases e
  exact ⟨q, hq, hm, hn, byW_at hp hm, by omega, by have := h.ok.r; have := h.ok.g; omega, h.ok.l _ (List.mem_of_getElem? hm)⟩
set_option maxRecDepth 20000 in
set_option maxHeartbeats 1000000 in
theorem ysend_any {B : Nat} {T G : Nat → Prop} {v bv : Value} {s : WrW} {b : List Int} {Y : World} (h : WyW B T v s Y) (hv : LbW G Y bv b) (hG : ∀ x, T x → ¬ G x) :
    Calls Try.prog 10 #[v, bv] Y fun e Y' => e = .returned (.tuple #[.int .i64 (sndN s b), .int .i64 (sndE s b)]) ∧ WkW B T v (sndS s b) Y Y' := by
  have H := hm7 h
  obtain ⟨a, cap, e, -⟩ := hv.form
  have HV := hm7 hv
  obtain ⟨N, hN⟩ : ∃ N, b.length = N := ⟨_, rfl⟩
  have hp : ∃ g, v = .pointer (some ⟨g, 0, none⟩) := by obtain ⟨g, Z, rv, e, -⟩ := h; exact ⟨g, e⟩
  have HGG : Hid (∀ g, v = .pointer (some ⟨g, 0, none⟩) → ¬ G g) := fun g e => by
    obtain ⟨g', Z, rv, e', hx⟩ := h
    rw [e] at e'
    cases e'
    exact hG g hx.tg
  rw [hN] at e
  subst e
  have HN := hm7 hN
  obtain ⟨g, rfl⟩ := hp
  by_cases hl : 1048576 < N
  · have e1 : sndE s b = 233 := by unfold sndE; rw [if_pos (by omega)]
    have e2 : sndN s b = 0 := by unfold sndN; rw [e1, if_neg (by decide)]
    have e3 : sndS s b = s := by unfold sndS; rw [e1, if_neg (by decide)]
    rw [e1, e2, e3]
    have hl1 : ¬ (N : Int) ≤ 1048576 := by omega
    have hl2 : (N : Int) > 1048576 := by omega
    clear h hv hG e1 e2 e3 hN
    go_enter Try.func10, Try.ntmps10
    go_wp2
    go_ret2
    exact ⟨rfl, WkW.keep H.out (Below.refl _ _)⟩
  · have hl2 : ¬ (N : Int) > 1048576 := by omega
    by_cases hg : 4096 ≤ s.gv
    · have e1 : sndE s b = 234 := by unfold sndE; rw [if_neg (by omega), if_pos hg]
      have e2 : sndN s b = 0 := by unfold sndN; rw [e1, if_neg (by decide)]
      have e3 : sndS s b = s := by unfold sndS; rw [e1, if_neg (by decide)]
      rw [e1, e2, e3]
      have HC := hm7 (yputW_full h ⟨_, _, _, rfl⟩ hg (bv := .slice a N cap))
      clear h hv hG e1 e2 e3 hN
      go_enter Try.func10, Try.ntmps10
      go_wp2_with (go_at_call 26; refine HC.out.mono ?_; rintro e w1 ⟨rfl, rfl⟩)
      go_ret2
      exact ⟨rfl, WkW.keep H.out (Below.refl _ _)⟩
    · have e1 : sndE s b = 0 := by unfold sndE; rw [if_neg (by omega), if_neg hg]
      have e2 : sndN s b = ((s.gv + 1 : Nat) : Int) := by unfold sndN; rw [e1, if_pos rfl]
      have e3 : sndS s b = putW s b := by unfold sndS; rw [e1, if_pos rfl]
      rw [e1, e2, e3]
      have HC := hm7 (yputW_any h hv HGG.out (by omega) (by omega))
      obtain ⟨k, hk⟩ : ∃ k : Int, ((s.gv + 1 : Nat) : Int) = k := ⟨_, rfl⟩
      rw [hk] at HC ⊢
      clear h hv hG e1 e2 e3 hN hk
      go_enter Try.func10, Try.ntmps10
      go_wp2_with (go_at_call 26; refine HC.out.mono ?_; rintro e w1 ⟨rfl, hw1⟩; have HW1 := hm7 hw1; clear hw1)
      go_ret2
      exact ⟨rfl, HW1.out⟩
end Go.Proofs.Ytboomeeipnfbmaa
