/-
  wire: Send, Look, Copy, Next.
-/
import Derived.Test.YtboomeeipnfbmaaWQ3
namespace Go.Proofs.Ytboomeeipnfbmaa
open Go.RowKit
attribute [local go_sem ↓] Go.wp_at_zero Go.wp_at_succ

theorem own_base {w : World} {b b' n m : Nat} {e : TypeId} {v : Value} {xs : List Value} (h : w.ownsRow b e n v m xs) (hb : b' ≤ b) : w.ownsRow b' e n v m xs := by
  refine ⟨h.1, h.2.imp id ?_⟩
  rintro ⟨g, cap, cur, e1, e2, e3⟩
  exact ⟨g, cap, cur, e1, Nat.le_trans hb e2, e3⟩
theorem plI_some {s : WrW} {n : Int} {i : Nat} (h : plW s n = some i) : plI s n = (i : Int) := by unfold plI; rw [h]
theorem plI_none {s : WrW} {n : Int} (h : plW s n = none) : plI s n = -1 := by unfold plI; rw [h]
theorem place_some {B : Nat} {T : Nat → Prop} {g : Nat} {s : WrW} {Z : List (MsW × Value)} {rv : Value} {Y : World} (h : WyX B T g s Z rv Y) {n : Int} {i : Nat} (hp : plW s n = some i) :
    Calls Try.prog 27 #[.pointer (some ⟨g, 0, none⟩), .int .i64 n] Y fun e Y' => e = .returned (.tuple #[.int .i64 (i : Int), .bool true]) ∧ Below Y.heap.size Y Y' := by
  have := wplaceW_any h n
  rw [plI_some hp, decide_eq_true (by omega)] at this
  exact this
theorem place_none {B : Nat} {T : Nat → Prop} {g : Nat} {s : WrW} {Z : List (MsW × Value)} {rv : Value} {Y : World} (h : WyX B T g s Z rv Y) {n : Int} (hp : plW s n = none) :
    Calls Try.prog 27 #[.pointer (some ⟨g, 0, none⟩), .int .i64 n] Y fun e Y' => e = .returned (.tuple #[.int .i64 (-1), .bool false]) ∧ Below Y.heap.size Y Y' := by
  have := wplaceW_any h n
  rw [plI_none hp, decide_eq_false (by omega)] at this
  exact this
/-- The message that stands there, with its cells. -/
theorem WyX.row_at {B : Nat} {T : Nat → Prop} {g : Nat} {s : WrW} {Z : List (MsW × Value)} {rv : Value} {Y : World} (h : WyX B T g s Z rv Y) {n : Int} {i : Nat} (hp : plW s n = some i) : ∃ q, Z[i]? = some q ∧ s.row[i]? = some q.1 ∧ (q.1.n : Int) = n ∧ byW s n = q.1.b ∧ i < Z.length ∧ Z.length ≤ 4096 ∧ q.1.b.length ≤ 1048576 := by
  obtain ⟨m, hm, hn, hi⟩ := plW_some hp
  have hl := h.len
  obtain ⟨q, hq⟩ : ∃ q, Z[i]? = some q := ⟨_, List.getElem?_eq_getElem (by omega)⟩
  have e : s.row[i]? = some q.1 := by rw [← h.z, List.getElem?_map, hq]; rfl
  rw [hm] at e
  cases e
  exact ⟨q, hq, hm, hn, byW_at hp hm, by omega, by have := h.ok.r; have := h.ok.g; omega, h.ok.l _ (List.mem_of_getElem? hm)⟩
theorem WkW.below {B : Nat} {T : Nat → Prop} {v : Value} {s' : WrW} {Y Y1 Y' : World} (hb : Below Y.heap.size Y Y1) (h : WkW B T v s' Y1 Y') : WkW B T v s' Y Y' :=
  ⟨(Fr.of hb).tr h.1, by
    obtain ⟨T', h1, h2⟩ := h.2
    exact ⟨T', h1, fun b hb1 => (h2 b hb1).imp id fun h3 => Nat.le_trans hb.size h3⟩⟩
set_option maxRecDepth 20000 in
set_option maxHeartbeats 1000000 in
theorem ysend_any {B : Nat} {T G : Nat → Prop} {v bv : Value} {s : WrW} {b : List Int} {Y : World} (h : WyW B T v s Y) (hv : LbW G Y bv b) (hG : ∀ x, T x → ¬ G x) :
    Calls Try.prog 10 #[v, bv] Y fun e Y' => e = .returned (.tuple #[.int .i64 (sndN s b), .int .i64 (sndE s b)]) ∧ WkW B T v (sndS s b) Y Y' := by
  have H := hm7 h
  obtain ⟨a, cap, e, -⟩ := hv.form
  have HV := hm7 hv
  obtain ⟨N, hN⟩ : ∃ N, b.length = N := ⟨_, rfl⟩
  have hp : ∃ g, v = .pointer (some ⟨g, 0, none⟩) := by obtain ⟨g, Z, rv, e, -⟩ := h; exact ⟨g, e⟩
  have HGG : Hid (∀ g, v = .pointer (some ⟨g, 0, none⟩) → ¬ G g) := fun g e => by
    obtain ⟨g', Z, rv, e', hx⟩ := h
    rw [e] at e'
    cases e'
    exact hG g hx.tg
  rw [hN] at e
  subst e
  have HN := hm7 hN
  obtain ⟨g, rfl⟩ := hp
  by_cases hl : 1048576 < N
  · have e1 : sndE s b = 233 := by unfold sndE; rw [if_pos (by omega)]
    have e2 : sndN s b = 0 := by unfold sndN; rw [e1, if_neg (by decide)]
    have e3 : sndS s b = s := by unfold sndS; rw [e1, if_neg (by decide)]
    rw [e1, e2, e3]
    have hl1 : ¬ (N : Int) ≤ 1048576 := by omega
    have hl2 : (N : Int) > 1048576 := by omega
    clear h hv hG e1 e2 e3 hN
    go_enter Try.func10, Try.ntmps10
    go_wp2
    go_ret2
    exact ⟨rfl, WkW.keep H.out (Below.refl _ _)⟩
  · have hl2 : ¬ (N : Int) > 1048576 := by omega
    by_cases hg : 4096 ≤ s.gv
    · have e1 : sndE s b = 234 := by unfold sndE; rw [if_neg (by omega), if_pos hg]
      have e2 : sndN s b = 0 := by unfold sndN; rw [e1, if_neg (by decide)]
      have e3 : sndS s b = s := by unfold sndS; rw [e1, if_neg (by decide)]
      rw [e1, e2, e3]
      have HC := hm7 (yputW_full h ⟨_, _, _, rfl⟩ hg (bv := .slice a N cap))
      clear h hv hG e1 e2 e3 hN
      go_enter Try.func10, Try.ntmps10
      go_wp2_with (go_at_call 26; refine HC.out.mono ?_; rintro e w1 ⟨rfl, rfl⟩)
      go_ret2
      exact ⟨rfl, WkW.keep H.out (Below.refl _ _)⟩
    · have e1 : sndE s b = 0 := by unfold sndE; rw [if_neg (by omega), if_neg hg]
      have e2 : sndN s b = ((s.gv + 1 : Nat) : Int) := by unfold sndN; rw [e1, if_pos rfl]
      have e3 : sndS s b = putW s b := by unfold sndS; rw [e1, if_pos rfl]
      rw [e1, e2, e3]
      have HC := hm7 (yputW_any h hv HGG.out (by omega) (by omega))
      obtain ⟨k, hk⟩ : ∃ k : Int, ((s.gv + 1 : Nat) : Int) = k := ⟨_, rfl⟩
      rw [hk] at HC ⊢
      clear h hv hG e1 e2 e3 hN hk
      go_enter Try.func10, Try.ntmps10
      go_wp2_with (go_at_call 26; refine HC.out.mono ?_; rintro e w1 ⟨rfl, hw1⟩; have HW1 := hm7 hw1; clear hw1)
      go_ret2
      exact ⟨rfl, HW1.out⟩
set_option maxRecDepth 20000 in
set_option maxHeartbeats 1000000 in
theorem ylook_any {B : Nat} {T : Nat → Prop} {v : Value} {s : WrW} {Y : World} (h : WyW B T v s Y) (n : Int) :
    Calls Try.prog 15 #[v, .int .i64 n] Y fun e Y' => ∃ u, e = .returned (.tuple #[u, .int .i64 (lokE s n)]) ∧ (OwW Y' Y.heap.size u (byW s n) ∨ (byW s n = [] ∧ ∃ a, u = .slice a 0 0)) ∧ Below Y.heap.size Y Y' := by
  obtain ⟨g, Z, rv, rfl, h⟩ := h
  cases hp : plW s n with
  | none =>
    have HC := hm7 (place_none h hp)
    have e1 : lokE s n = 231 := by unfold lokE; rw [hp]
    have e2 : byW s n = [] := by unfold byW; rw [hp]
    rw [e1, e2]
    clear h hp e1 e2
    go_enter Try.func15, Try.ntmps15
    go_wp2_with (go_at_call 27; refine HC.out.mono ?_; rintro e w1 ⟨rfl, hb1⟩; have HB1 := hm7 hb1; clear hb1)
    go_ret2
    exact ⟨_, rfl, Or.inl (World.ownsRow_nil _ _ _ _), HB1.out⟩
  | some i =>
    have HC := hm7 (place_some h hp)
    have e1 : lokE s n = 0 := by unfold lokE; rw [hp]
    obtain ⟨q, hq, hrow, -, e2, hi, hz, hbl⟩ := h.row_at hp
    rw [e1, e2]
    have H := hm7 h
    have HQ := hm7 hq
    obtain ⟨aa, cap, hav, -⟩ := row7_form h.a
    obtain ⟨M, hM⟩ : ∃ M, Z.length = M := ⟨_, rfl⟩
    rw [hM] at hav hi hz
    subst hav
    have i0 : (0 : Int) ≤ (i : Int) := by omega
    have i1 : (i : Int) < (M : Int) := by omega
    clear h hp e1 e2 hM hq hrow
    go_enter Try.func15, Try.ntmps15
    go_upto_region 4 with (go_at_call 27; refine HC.out.mono ?_; rintro e w1 ⟨rfl, hb1⟩; have HB1 := hm7 hb1; clear hb1)
    have hx := H.out.below HB1.out
    have c0 : w1.cell? ⟨g, 0, none⟩ = some (.slice aa M cap) := hx.b.cell (i := 0) rfl
    obtain ⟨g', rfl, -, -, -, -, p0, p1, -, -⟩ := hx.at_ HQ.out
    obtain ⟨u, hu⟩ : ∃ u, q.2 = u := ⟨_, rfl⟩
    rw [hu] at p1
    have HC2 := hm7 (copiedW_any (hx.u q (List.mem_of_getElem? HQ.out)) (by omega))
    rw [hu] at HC2
    clear hx hu p0
    go_wp2_with (go_at_call 29; refine HC2.out.mono ?_; rintro e w2 ⟨u2, rfl, ho2, hb2⟩; have HO2 := hm7 ho2; have HB2 := hm7 hb2; clear ho2 hb2)
    go_ret2
    exact ⟨_, rfl, Or.inl (own_base HO2.out HB1.out.size), bel_step HB1.out HB2.out⟩
set_option maxRecDepth 20000 in
set_option maxHeartbeats 1000000 in
theorem ycpy_any {B : Nat} {T : Nat → Prop} {v : Value} {s : WrW} {Y : World} (h : WyW B T v s Y) (n : Int) :
    Calls Try.prog 13 #[v, .int .i64 n] Y fun e Y' => e = .returned (.tuple #[.int .i64 (cpyN s n), .int .i64 (cpyE s n)]) ∧ WkW B T v (cpyS s n) Y Y' := by
  have HW := hm7 h
  obtain ⟨g, Z, rv, rfl, h⟩ := h
  cases hp : plW s n with
  | none =>
    have HC := hm7 (place_none h hp)
    have e1 : cpyE s n = 231 := by unfold cpyE; rw [hp]
    have e2 : cpyN s n = 0 := by unfold cpyN; rw [e1, if_neg (by decide)]
    have e3 : cpyS s n = s := by unfold cpyS; rw [e1, if_neg (by decide)]
    rw [e1, e2, e3]
    clear h hp e1 e2 e3
    go_enter Try.func13, Try.ntmps13
    go_wp2_with (go_at_call 27; refine HC.out.mono ?_; rintro e w1 ⟨rfl, hb1⟩; have HB1 := hm7 hb1; clear hb1)
    go_ret2
    exact ⟨rfl, WkW.keep HW.out HB1.out⟩
  | some i =>
    have HC := hm7 (place_some h hp)
    obtain ⟨q, hq, hrow, -, e2, hi, hz, hbl⟩ := h.row_at hp
    have H := hm7 h
    have HQ := hm7 hq
    have HBY := hm7 e2
    have HBL := hm7 hbl
    obtain ⟨aa, cap, hav, -⟩ := row7_form h.a
    obtain ⟨M, hM⟩ : ∃ M, Z.length = M := ⟨_, rfl⟩
    rw [hM] at hav hi hz
    subst hav
    have HM := hm7 hM
    have i0 : (0 : Int) ≤ (i : Int) := by omega
    have i1 : (i : Int) < (M : Int) := by omega
    have hcE : cpyE s n = if 4096 ≤ s.gv then 234 else 0 := by unfold cpyE; rw [hp]
    have HCE := hm7 hcE
    clear h hp hM hq hrow e2 hcE hbl
    go_enter Try.func13, Try.ntmps13
    go_upto_region 4 with (go_at_call 27; refine HC.out.mono ?_; rintro e w1 ⟨rfl, hb1⟩; have HB1 := hm7 hb1; clear hb1)
    have hx := H.out.below HB1.out
    have c0 : w1.cell? ⟨g, 0, none⟩ = some (.slice aa M cap) := hx.b.cell (i := 0) rfl
    obtain ⟨g', rfl, -, -, -, -, p0, p1, -, -⟩ := hx.at_ HQ.out
    obtain ⟨u, hu⟩ : ∃ u, q.2 = u := ⟨_, rfl⟩
    rw [hu] at p1
    have hlu := hx.u q (List.mem_of_getElem? HQ.out)
    rw [hu] at hlu
    have hw1 : WyW B T (.pointer (some ⟨g, 0, none⟩)) s w1 := ⟨g, Z, _, rfl, hx⟩
    by_cases hg : 4096 ≤ s.gv
    · have e1 : cpyE s n = 234 := by rw [HCE.out, if_pos hg]
      have e2 : cpyN s n = 0 := by unfold cpyN; rw [e1, if_neg (by decide)]
      have e3 : cpyS s n = s := by unfold cpyS; rw [e1, if_neg (by decide)]
      have HE1 := hm7 e1
      have HE2 := hm7 e2
      have HE3 := hm7 e3
      obtain ⟨ua, uc, hue, -⟩ := hlu.form
      have HC2 := hm7 (yputW_full hw1 ⟨_, _, _, hue⟩ hg)
      clear hx hu p0 hlu hw1 e1 e2 e3 hue
      go_wp2_with (go_at_call 26; refine HC2.out.mono ?_; rintro e w2 ⟨rfl, rfl⟩)
      go_ret2
      exact ⟨by rw [HE1.out, HE2.out]; rfl, by rw [HE3.out]; exact WkW.keep HW.out HB1.out⟩
    · have e1 : cpyE s n = 0 := by rw [HCE.out, if_neg hg]
      have e2 : cpyN s n = ((s.gv + 1 : Nat) : Int) := by unfold cpyN; rw [e1, if_pos rfl]
      have e3 : cpyS s n = putW s q.1.b := by unfold cpyS; rw [e1, if_pos rfl, HBY.out]
      have HE1 := hm7 e1
      have HE2 := hm7 e2
      have HE3 := hm7 e3
      have HC2 := hm7 (yputW_any hw1 hlu (fun g' e hc => by cases e; exact hc.2.1 rfl) HBL.out (by omega))
      obtain ⟨k, hk⟩ : ∃ k : Int, ((s.gv + 1 : Nat) : Int) = k := ⟨_, rfl⟩
      rw [hk] at HC2
      have HK := hm7 hk
      clear hx hu p0 hlu hw1 e1 e2 e3 hk
      go_wp2_with (go_at_call 26; refine HC2.out.mono ?_; rintro e w2 ⟨rfl, hw2⟩; have HW2 := hm7 hw2; clear hw2)
      go_ret2
      exact ⟨by rw [HE1.out, HE2.out, HK.out]; rfl, by rw [HE3.out]; exact WkW.below HB1.out HW2.out⟩
set_option maxRecDepth 20000 in
theorem ynext_any {B : Nat} {T : Nat → Prop} {v : Value} {s : WrW} {Y : World} (h : WyW B T v s Y) : Calls Try.prog 25 #[v] Y fun e Y' => e = .returned (.int .i64 (nxtW s)) ∧ Below Y.heap.size Y Y' := by
  obtain ⟨g, Z, rv, rfl, h⟩ := h
  obtain ⟨aa, cap, hav, -⟩ := row7_form h.a
  have c0 : Y.cell? ⟨g, 0, none⟩ = some rv := h.b.cell (i := 0) rfl
  obtain ⟨M, hM⟩ : ∃ M, Z.length = M := ⟨_, rfl⟩
  rw [hM] at hav
  subst hav
  cases hz : Z with
  | nil =>
    rw [hz] at hM
    have e : nxtW s = 0 := by unfold nxtW; rw [← h.z, hz]; rfl
    rw [e]
    obtain rfl : 0 = M := hM
    clear h e hz
    go_enter Try.func25, Try.ntmps25
    go_wp2
    go_ret
    exact ⟨rfl, Below.refl _ _⟩
  | cons q Q =>
    have hq : Z[0]? = some q := by rw [hz]; rfl
    have e : nxtW s = (q.1.n : Int) := by unfold nxtW; rw [← h.z, hz]; rfl
    rw [e]
    obtain ⟨g', rfl, -, -, -, -, p0, -, -, -⟩ := h.at_ hq
    obtain ⟨x, hx⟩ : ∃ x : Int, (q.1.n : Int) = x := ⟨_, rfl⟩
    rw [hx] at p0 ⊢
    have hm : 0 < M := by rw [← hM, hz]; simp
    have i1 : (0 : Int) < (M : Int) := by omega
    have i2 : ((M : Int) == 0) = false := by simp; omega
    clear h e hz hq hM hx
    go_enter Try.func25, Try.ntmps25
    go_wp2
    go_ret
    exact ⟨rfl, Below.refl _ _⟩
end Go.Proofs.Ytboomeeipnfbmaa
