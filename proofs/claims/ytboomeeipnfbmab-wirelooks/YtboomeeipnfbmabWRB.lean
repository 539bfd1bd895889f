/-
  wire: the document's wire: Cut.
-/
import Derived.Test.YtboomeeipnfbmabWRA
namespace Go.Proofs.Ytboomeeipnfbmab
open Go.RowKit
attribute [local go_sem ↓] Go.wp_at_zero Go.wp_at_succ

set_option maxRecDepth 20000 in
set_option maxHeartbeats 2000000 in
theorem rcutW_any {B : Nat} {T : Nat → Prop} {v : Value} {s : WrW} {Y : World} (h : RzW B T v s Y) (n len_ : Int) :
    Calls Try.prog 43 #[v, .int .i64 n, .int .i64 len_] Y fun e Y' => e = .returned (.int .i64 (cutE s n len_)) ∧ RqW B T v (cutS s n len_) Y Y' := by
  have HT := hm7 (rthereW_any h n)
  obtain ⟨g, hg⟩ := h.ptr
  cases hp : plW s n with
  | none =>
    rw [hp] at HT
    have e1 : cutE s n len_ = 231 := by unfold cutE; rw [hp]
    have e3 : cutS s n len_ = s := by unfold cutS; rw [e1]; rfl
    rw [e1, e3]
    have H := hm7 h
    clear h e1 e3 hp
    subst hg
    go_enter Try.func43, Try.ntmps43
    go_wp2_with (go_at_call 49; refine HT.out.mono ?_; rintro e Y1 ⟨rfl, rfl⟩)
    go_ret
    exact ⟨rfl, RqW.keep H.out (Below.refl _ _)⟩
  | some i =>
    rw [hp] at HT
    obtain ⟨g1, g', cap, k, m, p, Q, P, q, f1, rfl, hmk, hk, hm, hpi, hb, hq, hqb, hqp, hx⟩ := h.full hp
    subst hg
    cases f1
    have c0 : Y.cell? ⟨g, 0, none⟩ = some (.slice (some ⟨g', 0, none⟩) s.gv cap) := hx.b.cell (i := 0) rfl
    obtain ⟨_, e4, -, -, -, -, q0, q1, cf⟩ := hx.at_ hq
    cases e4
    have i0 : (0 : Int) ≤ (k : Int) := by omega
    have i1 : (k : Int) < (s.gv : Int) := by omega
    have hg4 := h.ok.g
    have hgl := hx.b.lt
    have hne : g' ≠ g := fun e => hx.ne (by rw [e]; rfl)
    have hgl' := (hx.t g' (hx.ta g' rfl)).2
    have hmb : m.b.length ≤ 1048576 := h.ok.l m (List.mem_of_getElem? hm)
    have hmy : bytW m.b := h.ok.b m (List.mem_of_getElem? hm)
    have hlb := hx.u q (List.mem_of_getElem? hq)
    rw [hqb] at hlb
    obtain ⟨ua, uc, hu, huc⟩ := hlb.form
    obtain ⟨N, hN⟩ : ∃ N, m.b.length = N := ⟨_, rfl⟩
    rw [hN] at hu hmb huc
    rw [hu] at hlb q0
    have HX := hm7 hx
    have HQ := hm7 hq
    have HN := hm7 hN
    have hE : cutE s ((k : Int) + 1) len_ = if len_ < 0 ∨ (N : Int) < len_ then 232 else 0 := by unfold cutE; rw [hp, hb, hN]
    by_cases hbad : len_ < 0 ∨ (N : Int) < len_
    · rw [if_pos hbad] at hE
      have e3 : cutS s ((k : Int) + 1) len_ = s := by unfold cutS; rw [hE]; rfl
      rw [hE, e3]
      have H := hm7 h
      have hbad2 : len_ < 0 ∨ (¬ len_ < 0 ∧ len_ > (N : Int)) := by omega
      clear h hE e3 hp hm hpi hb hq hqb hqp hx hlb hmk hN hbad hmy hu
      rcases hbad2 with hbad | ⟨hbad, hb2⟩ <;>
      · go_enter Try.func43, Try.ntmps43
        go_wp2_with (go_at_call 49; with_reducible refine HT.out.mono ?_; rintro e Y1 ⟨rfl, rfl⟩)
        go_ret
        exact ⟨rfl, RqW.keep H.out (Below.refl _ _)⟩
    · rw [if_neg hbad] at hE
      obtain ⟨L, rfl⟩ : ∃ L : Nat, len_ = (L : Int) := ⟨len_.toNat, by omega⟩
      have hL : L ≤ N := by omega
      have hl0 : ¬ (L : Int) < 0 := by omega
      have hl1 : ¬ (L : Int) > (N : Int) := by omega
      have hl2 : (0 : Int) ≤ (L : Int) := by omega
      have hl3 : (L : Int) ≤ (uc : Int) := by omega
      have e3 : cutS s ((k : Int) + 1) (L : Int) = ⟨s.row.set i ⟨m.n, m.b.take L⟩, s.gv⟩ := by
        unfold cutS
        rw [hE, if_pos rfl, newB_at hp hmk, hb, Int.toNat_natCast]
      have hty : bytW (m.b.take L) := fun x hx => hmy x (List.mem_of_mem_take hx)
      have htl : (m.b.take L).length = L := by rw [List.length_take]; omega
      have hok := newB_ok h.ok ((k : Int) + 1) (b := m.b.take L) hty (by omega)
      rw [newB_at hp hmk] at hok
      have hrs := hx.rs.newB h.ok hm hpi (m.b.take L)
      rw [show m.n - 1 = k by omega, ← hqp] at hrs
      rw [hE, e3]
      have HR := hm7 hrs
      have HO := hm7 hok
      have HTY := hm7 hty
      have HTL := hm7 htl
      have hlt := hlb.take hL
      have HC := hm7 (bcopyW_any _ _ (m.b.take L) Y.drew (hlt.below ⟨rfl, rfl, rfl, Nat.le_refl _, fun _ _ => rfl⟩) (by omega))
      clear h hE e3 hp hm hpi hb hq hqb hqp hx hlb hmk hN hbad hmy hu hok hrs hty htl hlt
      go_enter Try.func43, Try.ntmps43
      go_wp2_with (go_at_call 49; with_reducible refine HT.out.mono ?_; rintro e Y1 ⟨rfl, rfl⟩)
      have hs1 : (k : Int) + 1 - 1 = (k : Int) := by omega
      have hw1 : IntKind.i64.wrap ((k : Int) + 1 - 1) = (k : Int) := by rw [hs1]; simp [IntKind.wrap, IntKind.bits, IntKind.signed]; omega
      have hw2 : IntKind.i64.wrap (k : Int) = (k : Int) := by rw [hs1] at hw1; exact hw1
      go_region_held3 (fun w' => w'.cell? ⟨g, 0, none⟩ = some (.slice (some ⟨g', 0, none⟩) s.gv cap)) (go_keep)
        ((go_at_call 48; refine HC.out.mono ?_; rintro e Y2 ⟨uv, rfl, hu2, hb2⟩; obtain ⟨ra, rc, rfl, hrc⟩ := row7_form hu2; rw [HTL.out] at hrc ⊢; have c0' : Y2.cell? ⟨g, 0, none⟩ = some (.slice (some ⟨g', 0, none⟩) s.gv cap) := (hb2.cell (p := ⟨g, 0, none⟩) hgl).trans c0; have c1' : ∀ v, (Y2.setCell ⟨g', k * 2, none⟩ v).cell? ⟨g, 0, none⟩ = some (.slice (some ⟨g', 0, none⟩) s.gv cap) := fun v => by {rw [World.cell?_setCell_far _ _ _ _ (by simpa using hne)]; exact c0'}; have q0' : Y2.cell? ⟨g', k * 2, none⟩ = some (.slice ua N uc) := (hb2.cell (p := ⟨g', k * 2, none⟩) hgl').trans q0; have cf' : Y2.frozen? ⟨g', k * 2, none⟩ = false := (hb2.frozen (p := ⟨g', k * 2, none⟩) hgl').trans (cf _); have HU := hm7 (And.intro hu2 hb2); clear hu2 hb2))
      go_wp2
      go_ret
      have hbd : Below _ _ Y2 := HU.out.2
      exact ⟨rfl, HX.out.newb HQ.out ⟨hbd.os, hbd.tape, hbd.output, hbd.size, hbd.block⟩ (by
        have h1 := HU.out.1
        have h2 := h1.lb HTY.out
        rw [HTL.out] at h2
        exact h2.mono fun y _ hF => hF.1) HO.out rfl HR.out⟩
end Go.Proofs.Ytboomeeipnfbmab
