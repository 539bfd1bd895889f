/-
  wire: the document's wire: Flip, Cut.
-/
import Derived.Test.YtboomeeipnfbmabWR9
namespace Go.Proofs.Ytboomeeipnfbmab
open Go.RowKit
attribute [local go_sem ↓] Go.wp_at_zero Go.wp_at_succ

theorem RzX.newb {B : Nat} {T : Nat → Prop} {g g' m cap : Nat} {s s' : WrW} {Q : List MrW} {P P' : List Nat} {Y Y2 : World} (h : RzX B T g s Q P (.slice (some ⟨g', 0, none⟩) m cap) Y) {k : Nat} {q : MrW} (hq : Q[k]? = some q) (h2 : Below Y.heap.size Y Y2) {b' : List Int} {u' : Value} (hu : LbW (fun x => Y.heap.size ≤ x) Y2 u' b') (ho : s'.Ok) (hgv : s'.gv = s.gv) (hrs : RsW ((Q.map MrW.x).set k (b', q.p)) s' P') :
    RqW B T (.pointer (some ⟨g, 0, none⟩)) s' Y (Y2.setCell ⟨g', k * 2, none⟩ u') := by
  have h3 := h.same h2.size fun b hb _ => h2.block b hb
  have hle : B ≤ Y.heap.size := Nat.le_trans (h.t g h.tg).1 (Nat.le_of_lt h.b.lt)
  have h4 := h3.grow Y.heap.size hle
  have hgl := h.b.lt
  have hgl' := (h.t g' (h.ta g' rfl)).2
  refine ⟨(Fr.of h2).set (Or.inl (h.ta g' rfl)), _, ⟨g, _, _, _, rfl, h4.setu hq (hu.mono fun x hx hF => ⟨Or.inr ⟨hF, hx⟩, by omega, by omega⟩) ho hgv hrs⟩, fun x hx => hx.imp id fun h => h.1⟩
theorem newB_at {s : WrW} {k i : Nat} {m : MsW} (hp : plW s ((k : Int) + 1) = some i) (hm : m.n = k + 1) (b : List Int) : newB s ((k : Int) + 1) b = ⟨s.row.set i ⟨m.n, b⟩, s.gv⟩ := by
  unfold newB; rw [hp]; simp only; rw [hm, show ((k : Int) + 1).toNat = k + 1 by omega]
set_option maxRecDepth 20000 in
set_option maxHeartbeats 2000000 in
theorem rflpW_any {B : Nat} {T : Nat → Prop} {v : Value} {s : WrW} {Y : World} (h : RzW B T v s Y) (n at_ bits_ : Int) :
    Calls Try.prog 42 #[v, .int .i64 n, .int .i64 at_, .int .i64 bits_] Y fun e Y' => e = .returned (.int .i64 (flpE s n at_)) ∧ RqW B T v (flpS s n at_ bits_) Y Y' := by
  have HT := hm7 (rthereW_any h n)
  obtain ⟨g, hg⟩ := h.ptr
  cases hp : plW s n with
  | none =>
    rw [hp] at HT
    have e1 : flpE s n at_ = 231 := by unfold flpE; rw [hp]
    have e3 : flpS s n at_ bits_ = s := by unfold flpS; rw [e1]; rfl
    rw [e1, e3]
    have H := hm7 h
    clear h e1 e3 hp
    subst hg
    go_enter Try.func42, Try.ntmps42
    go_wp2_with (go_at_call 49; refine HT.out.mono ?_; rintro e Y1 ⟨rfl, rfl⟩)
    go_ret
    exact ⟨rfl, RqW.keep H.out (Below.refl _ _)⟩
  | some i =>
    rw [hp] at HT
    obtain ⟨g1, g', cap, k, m, p, Q, P, q, f1, rfl, hmk, hk, hm, hpi, hb, hq, hqb, hqp, hx⟩ := h.full hp
    subst hg
    cases f1
    have c0 : Y.cell? ⟨g, 0, none⟩ = some (.slice (some ⟨g', 0, none⟩) s.gv cap) := hx.b.cell (i := 0) rfl
    obtain ⟨_, e4, -, -, -, -, q0, q1, cf⟩ := hx.at_ hq
    cases e4
    have i0 : (0 : Int) ≤ (k : Int) := by omega
    have i1 : (k : Int) < (s.gv : Int) := by omega
    have hg4 := h.ok.g
    have hgl := hx.b.lt
    have hgl' := (hx.t g' (hx.ta g' rfl)).2
    have hmb : m.b.length ≤ 1048576 := h.ok.l m (List.mem_of_getElem? hm)
    have hmy : bytW m.b := h.ok.b m (List.mem_of_getElem? hm)
    have hlb := hx.u q (List.mem_of_getElem? hq)
    rw [hqb] at hlb
    have HC := hm7 (bcopyW_any _ q.u m.b Y hlb (by omega))
    obtain ⟨ua, uc, hu, -⟩ := hlb.form
    obtain ⟨N, hN⟩ : ∃ N, m.b.length = N := ⟨_, rfl⟩
    rw [hN] at hu hmb
    rw [hu] at HC q0
    have HX := hm7 hx
    have HQ := hm7 hq
    have HN := hm7 hN
    have hE : flpE s ((k : Int) + 1) at_ = if at_ < 0 ∨ (N : Int) ≤ at_ then 232 else 0 := by unfold flpE; rw [hp, hb, hN]
    by_cases hbad : at_ < 0 ∨ (N : Int) ≤ at_
    · rw [if_pos hbad] at hE
      have e3 : flpS s ((k : Int) + 1) at_ bits_ = s := by unfold flpS; rw [hE]; rfl
      rw [hE, e3]
      have H := hm7 h
      have hbad2 : at_ < 0 ∨ (¬ at_ < 0 ∧ at_ ≥ (N : Int)) := by omega
      clear h hE e3 hp hm hpi hb hq hqb hqp hx hlb hmk hN hbad hmy hu
      rcases hbad2 with hbad | ⟨hbad, hb2⟩ <;>
      · go_enter Try.func42, Try.ntmps42
        go_wp2_with (first | (go_at_call 49; with_reducible refine HT.out.mono ?_; rintro e Y1 ⟨rfl, rfl⟩) | (go_at_call 48; refine HC.out.mono ?_; rintro e Y2 ⟨uv, rfl, hu2, hb2'⟩; obtain ⟨ra, rc, rfl, -⟩ := row7_form hu2; rw [HN.out]; have HU := hm7 (And.intro hu2 hb2'); clear hu2 hb2'))
        go_ret
        exact ⟨rfl, RqW.keep H.out HU.out.2⟩
    · rw [if_neg hbad] at hE
      obtain ⟨j, rfl⟩ : ∃ j : Nat, at_ = (j : Int) := ⟨at_.toNat, by omega⟩
      have hj : j < N := by omega
      have hj0 : (0 : Int) ≤ (j : Int) := by omega
      have hj1 : (j : Int) < (N : Int) := by omega
      obtain ⟨x, hxj⟩ : ∃ x, m.b[j]? = some x := ⟨_, List.getElem?_eq_getElem (by omega)⟩
      have e3 : flpS s ((k : Int) + 1) (j : Int) bits_ = ⟨s.row.set i ⟨m.n, m.b.set j (xrB x bits_)⟩, s.gv⟩ := by
        unfold flpS
        rw [hE, if_pos rfl, newB_at hp hmk, hb]
        unfold flpL
        rw [Int.toNat_natCast, List.getD_eq_getElem?_getD, hxj]
        rfl
      have hok := newB_ok h.ok ((k : Int) + 1) (b := m.b.set j (xrB x bits_)) (by
        have := flpL_byt hmy (j : Int) bits_
        unfold flpL at this
        rw [Int.toNat_natCast, List.getD_eq_getElem?_getD, hxj] at this
        exact this) (by rw [List.length_set]; omega)
      rw [newB_at hp hmk] at hok
      have hrs := hx.rs.newB h.ok hm hpi (m.b.set j (xrB x bits_))
      rw [show m.n - 1 = k by omega, ← hqp] at hrs
      rw [hE, e3]
      have HR := hm7 hrs
      have HO := hm7 hok
      have HXJ := hm7 hxj
      have HMY := hm7 hmy
      have HMK := hm7 hmk
      have hand := and255W bits_
      have hwr := wrap256W bits_
      have hx2 : bits BinOp.xor IntKind.u8 x (bits_ % 256) = xrB x bits_ := rfl
      obtain ⟨z, hz⟩ : ∃ z, xrB x bits_ = z := ⟨_, rfl⟩
      rw [hz] at hx2 HR HO ⊢
      clear h hE e3 hp hm hpi hb hq hqb hqp hx hlb hmk hN hbad hmy hu hxj hok hrs hz
      go_enter Try.func42, Try.ntmps42
      go_wp2_with (first | (go_at_call 49; with_reducible refine HT.out.mono ?_; rintro e Y1 ⟨rfl, rfl⟩) | (go_at_call 48; refine HC.out.mono ?_; rintro e Y2 ⟨uv, rfl, hu2, hb2'⟩; obtain ⟨ra, rc, rfl, hrc⟩ := row7_form hu2; rw [HN.out] at hrc ⊢; obtain ⟨gb, rfl, hgb, hgb2, r0, rf⟩ := row7_at (i := j) (u := .int .u8 x) hu2 (by simp [ubW, HXJ.out]); have c0' : ∀ v, (Y2.setCell ⟨gb, j, none⟩ v).cell? ⟨g, 0, none⟩ = some (.slice (some ⟨g', 0, none⟩) s.gv cap) := fun v => by {rw [World.cell?_setCell_far _ _ _ _ (by simp; omega)]; exact (hb2'.cell (p := ⟨g, 0, none⟩) hgl).trans c0}; have q0' : ∀ v, (Y2.setCell ⟨gb, j, none⟩ v).cell? ⟨g', k * 2, none⟩ = some (.slice ua N uc) := fun v => by {rw [World.cell?_setCell_far _ _ _ _ (by simp; omega)]; exact (hb2'.cell (p := ⟨g', k * 2, none⟩) hgl').trans q0}; have cf' : ∀ v, (Y2.setCell ⟨gb, j, none⟩ v).frozen? ⟨g', k * 2, none⟩ = false := fun v => by {rw [World.frozen?_setCell]; exact (hb2'.frozen (p := ⟨g', k * 2, none⟩) hgl').trans (cf _)}; have HU := hm7 (And.intro hu2 hb2'); clear hu2 hb2'))
      go_ret
      have hb3 : Below _ _ (Y2.setCell ⟨gb, j, none⟩ (.int .u8 z)) := HU.out.2.setCell (p := ⟨gb, j, none⟩) hgb (.int .u8 z)
      have hu3 := HU.out.1
      rw [HN.out] at hu3
      have hu4 := (hu3.put (j := j) (x := z) HN.out).lb (by
        intro y hy
        rcases List.mem_or_eq_of_mem_set hy with hy | rfl
        · exact HMY.out y hy
        · rw [← hx2]
          exact xrB_rng _ _ (HMY.out x (List.mem_of_getElem? HXJ.out)).1 (HMY.out x (List.mem_of_getElem? HXJ.out)).2)
      exact ⟨rfl, HX.out.newb HQ.out hb3 (hu4.mono fun y _ hF => hF.1) HO.out rfl HR.out⟩
end Go.Proofs.Ytboomeeipnfbmab
