/-
  wire: the document's wire: New, Send, Look, Take, Drop, Copy.
-/
import Derived.Test.YtboomeeipnfbmabWR6
namespace Go.Proofs.Ytboomeeipnfbmab
open Go.RowKit
attribute [local go_sem ↓] Go.wp_at_zero Go.wp_at_succ

theorem RqW.keep {B : Nat} {T : Nat → Prop} {v : Value} {s : WrW} {Y Y' : World} (h : RzW B T v s Y) (hb : Below Y.heap.size Y Y') : RqW B T v s Y Y' := ⟨Fr.of hb, T, h.below hb, fun _ hx => Or.inl hx⟩
set_option maxRecDepth 20000 in
theorem rnewW_any (B : Nat) (Y : World) (hB : B ≤ Y.heap.size) : Calls Try.prog 29 #[] Y fun e Y' => ∃ T v, e = .returned v ∧ RzW B T v ⟨[], 0⟩ Y' ∧ (∀ x, T x → Y.heap.size ≤ x) ∧ Below Y.heap.size Y Y' := by
  go_enter Try.func29, Try.ntmps29
  go_wp2
  go_ret
  refine ⟨fun x => x = Y.heap.size, _, rfl, ⟨_, [], [], .slice none 0 0, rfl, ⟨⟨by simp, by simp, by simp, by simp, by simp, by simp⟩, RsW.nil, Bk.new _ _ _, World.ownsRow_nil _ _ _ _, by simp, (fun b hb => by cases hb), rfl, fun b hb => by subst hb; exact ⟨hB, by simp⟩⟩⟩, fun x hx => by omega, below1 _ _⟩
theorem RzW.gv {B : Nat} {T : Nat → Prop} {v : Value} {s : WrW} {Y : World} (h : RzW B T v s Y) : ∃ g av cap, v = .pointer (some ⟨g, 0, none⟩) ∧ Y.cell? ⟨g, 0, none⟩ = some (.slice av s.gv cap) := by
  obtain ⟨g, Q, P, av, rfl, h⟩ := h
  obtain ⟨aa, cap, hav, -⟩ := row7_form h.a
  rw [h.len] at hav
  have c0 : Y.cell? ⟨g, 0, none⟩ = some av := h.b.cell (i := 0) rfl
  rw [hav] at c0
  exact ⟨g, aa, cap, rfl, c0⟩
set_option maxRecDepth 20000 in
set_option maxHeartbeats 1000000 in
theorem rsendW_any {B : Nat} {T G : Nat → Prop} {v bv : Value} {s : WrW} {b : List Int} {Y : World} (h : RzW B T v s Y) (hv : LbW G Y bv b) (hG : ∀ x, T x → ¬ G x) :
    Calls Try.prog 23 #[v, bv] Y fun e Y' => e = .returned (.tuple #[.int .i64 (sndN s b), .int .i64 (sndE s b)]) ∧ RqW B T v (sndS s b) Y Y' := by
  have H := hm7 h
  have hok := h.ok
  obtain ⟨g, av, cap, hp, c0⟩ := h.gv
  have hT : ∀ g', v = .pointer (some ⟨g', 0, none⟩) → ¬ G g' := by
    obtain ⟨g1, Q, P, av', e1, h'⟩ := h
    intro g2 e2
    rw [e1] at e2
    cases e2
    exact hG _ h'.tg
  have hput : b.length ≤ 1048576 → s.gv < 4096 → Hid (Calls Try.prog 44 #[v, bv] Y fun e Y' => e = .returned (.int .i64 ((s.gv + 1 : Nat) : Int)) ∧ RqW B T v (putW s b) Y Y') := fun h1 h2 => rputW_any h hv hT h1 h2
  obtain ⟨va, vc, rfl, -⟩ := hv.form
  obtain ⟨n, hn⟩ : ∃ n, b.length = n := ⟨_, rfl⟩
  obtain ⟨k, hk⟩ : ∃ k, s.gv = k := ⟨_, rfl⟩
  have HS : Hid (sndN s b = (if n ≤ 1048576 ∧ k < 4096 then ((k + 1 : Nat) : Int) else 0) ∧ sndE s b = (if 1048576 < n then 233 else if 4096 ≤ k then 234 else 0) ∧ sndS s b = (if n ≤ 1048576 ∧ k < 4096 then putW s b else s)) := by
    refine hm7 ?_
    unfold sndN sndS sndE
    rw [hn, hk]
    by_cases h1 : 1048576 < n
    · simp [h1, show ¬ n ≤ 1048576 by omega]
    · by_cases h2 : 4096 ≤ k
      · simp [h1, h2, show ¬ k < 4096 by omega]
      · simp [h1, h2, show n ≤ 1048576 by omega, show k < 4096 by omega]
  rw [hn, hk] at hput
  rw [hk] at c0
  subst hp
  have hkk : k ≤ 4096 := by have := hok.g; omega
  have hnn : (n : Int) ≤ 9223372036854775807 := by
    obtain ⟨a', c', e, h1, h2, -⟩ := hv
    omega
  clear h hv hG hok hT
  rw [hn]
  by_cases h1 : 1048576 < n
  · have i1 : (n : Int) > 1048576 := by omega
    clear hput
    go_enter Try.func23, Try.ntmps23
    go_wp2
    go_ret2
    refine ⟨ret2W (by rw [HS.out.1, if_neg (by omega)]) (by rw [HS.out.2.1, if_pos h1]), ?_⟩
    · rw [HS.out.2.2, if_neg (by omega)]
      exact RqW.keep H.out (Below.refl _ _)
  · have i1 : ¬ (n : Int) > 1048576 := by omega
    by_cases h2 : 4096 ≤ k
    · have i2 : (k : Int) ≥ 4096 := by omega
      clear hput
      go_enter Try.func23, Try.ntmps23
      go_wp2
      go_ret2
      refine ⟨ret2W (by rw [HS.out.1, if_neg (by omega)]) (by rw [HS.out.2.1, if_neg h1, if_pos h2]), ?_⟩
      · rw [HS.out.2.2, if_neg (by omega)]
        exact RqW.keep H.out (Below.refl _ _)
    · have i2 : ¬ (k : Int) ≥ 4096 := by omega
      have HP := hput (by omega) (by omega)
      clear hput
      go_enter Try.func23, Try.ntmps23
      go_wp2_with (go_at_call 44; refine HP.out.mono ?_; rintro e Y1 ⟨rfl, hq⟩; have HQ := hm7 hq; clear hq)
      go_ret2
      refine ⟨ret2W (by rw [HS.out.1, if_pos (by omega)]; omega) (by rw [HS.out.2.1, if_neg h1, if_neg h2]), ?_⟩
      · rw [HS.out.2.2, if_pos (by omega)]
        exact HQ.out
/-- A message that is there, in memory. -/
theorem RzW.msg {B : Nat} {T : Nat → Prop} {v : Value} {s : WrW} {Y : World} (h : RzW B T v s Y) {n : Int} {i : Nat} (hp : plW s n = some i) : ∃ (g g' cap k : Nat) (u : Value) (m : MsW) (p : Nat), v = .pointer (some ⟨g, 0, none⟩) ∧ n = (k : Int) + 1 ∧ k < s.gv ∧ s.row[i]? = some m ∧ byW s n = m.b ∧ Y.cell? ⟨g, 0, none⟩ = some (.slice (some ⟨g', 0, none⟩) s.gv cap) ∧ Y.cell? ⟨g', k * 2, none⟩ = some u ∧ Y.cell? ⟨g', k * 2 + 1, none⟩ = some (.int .i64 (p : Int)) ∧ (∀ j, Y.frozen? ⟨g', j, none⟩ = false) ∧ LbW (fun x => T x ∧ x ≠ g ∧ x ≠ g') Y u m.b := by
  obtain ⟨g, Q, P, av, rfl, h⟩ := h
  obtain ⟨aa, cap, hav, -⟩ := row7_form h.a
  rw [h.len] at hav
  obtain ⟨m, p, hm, hn, h1, h2, -, -, -, -, hal⟩ := h.rs.some_ hp
  obtain ⟨k, rfl⟩ : ∃ k : Nat, n = (k : Int) + 1 := ⟨n.toNat - 1, by omega⟩
  have hl := h.len
  obtain ⟨q, hq⟩ : ∃ q, Q[k]? = some q := ⟨_, List.getElem?_eq_getElem (by omega)⟩
  have c0 : Y.cell? ⟨g, 0, none⟩ = some av := h.b.cell (i := 0) rfl
  have hx : (Q.map MrW.x)[k]? = some q.x := by rw [List.getElem?_map, hq]; rfl
  rw [show m.n - 1 = k by omega, hx] at hal
  have hb : q.b = m.b := congrArg Prod.fst (Option.some.inj hal)
  have hu := h.u q (List.mem_of_getElem? hq)
  rw [hb] at hu
  subst hav
  obtain ⟨g', rfl, -, -, -, -, q0, q1, q2⟩ := h.at_ hq
  exact ⟨g, g', cap, k, q.u, m, q.p, rfl, rfl, by omega, hm, byW_at hp hm, c0, q0, q1, q2, hu.mono fun x _ hx => ⟨hx.1, hx.2.1, fun e => hx.2.2 (by rw [e]; rfl)⟩⟩
set_option maxRecDepth 20000 in
set_option maxHeartbeats 1000000 in
theorem rlookW_any {B : Nat} {T : Nat → Prop} {v : Value} {s : WrW} {Y : World} (h : RzW B T v s Y) (n : Int) :
    Calls Try.prog 37 #[v, .int .i64 n] Y fun e Y' => ∃ u, e = .returned (.tuple #[u, .int .i64 (lokE s n)]) ∧ OwW Y' Y.heap.size u (byW s n) ∧ Below Y.heap.size Y Y' := by
  have HT := hm7 (rthereW_any h n)
  obtain ⟨g, hg⟩ := h.ptr
  cases hp : plW s n with
  | none =>
    rw [hp] at HT
    have e1 : lokE s n = 231 := by unfold lokE; rw [hp]
    have e2 : byW s n = [] := by unfold byW; rw [hp]
    rw [e1, e2]
    clear h e1 e2 hp
    subst hg
    go_enter Try.func37, Try.ntmps37
    go_wp2_with (go_at_call 49; refine HT.out.mono ?_; rintro e Y1 ⟨rfl, rfl⟩)
    go_ret2
    exact ⟨_, rfl, World.ownsRow_nil _ _ _ _, Below.refl _ _⟩
  | some i =>
    rw [hp] at HT
    obtain ⟨g1, g', cap, k, u, m, p, e1, rfl, hk, hm, hb, c0, q0, q1, q2, hl⟩ := h.msg hp
    have e3 : lokE s ((k : Int) + 1) = 0 := by unfold lokE; rw [hp]
    have hbl : m.b.length ≤ 1048576 := h.ok.l m (List.mem_of_getElem? hm)
    have hg4 := h.ok.g
    rw [e3, hb]
    have HC := hm7 (bcopyW_any _ u m.b Y hl (by omega))
    obtain ⟨ua, uc, hu, -⟩ := hl.form
    generalize m.b.length = un at hu
    subst hu
    subst hg
    cases e1
    have i0 : (0 : Int) ≤ (k : Int) := by omega
    have i1 : (k : Int) < (s.gv : Int) := by omega
    clear h hl hb e3 hp hm
    go_enter Try.func37, Try.ntmps37
    go_wp2_with (first | (go_at_call 49; refine HT.out.mono ?_; rintro e Y1 ⟨rfl, rfl⟩) | (go_at_call 48; refine HC.out.mono ?_; rintro e Y2 ⟨uv, rfl, hu, hb⟩; obtain ⟨ra, rc, rfl, -⟩ := row7_form hu; have HU := hm7 (And.intro hu hb); clear hu hb))
    go_ret2
    exact ⟨_, rfl, HU.out⟩
end Go.Proofs.Ytboomeeipnfbmab
