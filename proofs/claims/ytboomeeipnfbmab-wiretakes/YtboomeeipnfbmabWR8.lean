/-
  wire: the document's wire: Take, Drop, Copy, Swap, Flip, Cut.
-/
import Derived.Test.YtboomeeipnfbmabWR7
namespace Go.Proofs.Ytboomeeipnfbmab
open Go.RowKit
attribute [local go_sem ↓] Go.wp_at_zero Go.wp_at_succ

theorem RzX.grow {B : Nat} {T : Nat → Prop} {g : Nat} {s : WrW} {Q : List MrW} {P : List Nat} {av : Value} {Y : World} (h : RzX B T g s Q P av Y) (a : Nat) (ha : B ≤ a) : RzX B (fun x => T x ∨ (a ≤ x ∧ x < Y.heap.size)) g s Q P av Y :=
  ⟨h.ok, h.rs, h.b, h.a, fun q hq => (h.u q hq).mono fun x _ hx => ⟨Or.inl hx.1, hx.2⟩, fun b hb => Or.inl (h.ta b hb), Or.inl h.tg, fun b hb => hb.elim (h.t b) fun hb => ⟨by omega, hb.2⟩⟩
/-- A message's place changes. -/
theorem RzX.setp {B : Nat} {T : Nat → Prop} {g g' m cap : Nat} {s s' : WrW} {Q : List MrW} {P P' : List Nat} {Y : World} (h : RzX B T g s Q P (.slice (some ⟨g', 0, none⟩) m cap) Y) {k : Nat} {q : MrW} (hq : Q[k]? = some q) (p' : Nat) (ho : s'.Ok) (hgv : s'.gv = s.gv) (hrs : RsW ((Q.map MrW.x).set k (q.b, p')) s' P') :
    RzX B T g s' (Q.set k ⟨q.b, p', q.u⟩) P' (.slice (some ⟨g', 0, none⟩) m cap) (Y.setCell ⟨g', k * 2 + 1, none⟩ (.int .i64 (p' : Int))) := by
  have hm : m = Q.length := by
    obtain ⟨a', c', e, -⟩ := row7_form h.a
    simp only [Value.slice.injEq] at e
    exact e.2.1
  subst hm
  have hne : g' ≠ g := fun e => h.ne (by rw [e]; rfl)
  have hfr : Fr (fun x => x = g') Y (Y.setCell ⟨g', k * 2 + 1, none⟩ (.int .i64 (p' : Int))) := (Fr.refl _ Y).set (Or.inl rfl)
  have hc : (Q.map MrW.c)[k]? = some q.c := by rw [List.getElem?_map, hq]; rfl
  refine ⟨ho, by rw [List.map_set]; exact hrs, by rw [hgv]; exact h.b.fr hfr (fun e => hne e.symm), ?_, fun r hr => ?_, h.ta, h.tg, fun b hb => by rw [show (Y.setCell ⟨g', k * 2 + 1, none⟩ (.int .i64 (p' : Int))).heap.size = Y.heap.size by simp]; exact h.t b hb⟩
  · rw [List.length_set, List.map_set]
    have e : (MrW.mk q.b p' q.u).c = (q.c.1, .int .i64 (p' : Int)) := rfl
    rw [e, twoW_set2 hc]
    exact (h.a.stored _ _).1
  · rcases List.mem_or_eq_of_mem_set hr with hr | rfl
    · exact (h.u r hr).fr hfr fun x _ hx e => hx.2.2 (by rw [e]; rfl)
    · exact (h.u q (List.mem_of_getElem? hq)).fr hfr fun x _ hx e => hx.2.2 (by rw [e]; rfl)
/-- A message's bytes change. -/
theorem RzX.setu {B : Nat} {T : Nat → Prop} {g g' m cap : Nat} {s s' : WrW} {Q : List MrW} {P P' : List Nat} {Y : World} (h : RzX B T g s Q P (.slice (some ⟨g', 0, none⟩) m cap) Y) {k : Nat} {q : MrW} (hq : Q[k]? = some q) {b' : List Int} {u' : Value} (hu : LbW (fun x => T x ∧ x ≠ g ∧ x ≠ g') Y u' b') (ho : s'.Ok) (hgv : s'.gv = s.gv) (hrs : RsW ((Q.map MrW.x).set k (b', q.p)) s' P') :
    RzX B T g s' (Q.set k ⟨b', q.p, u'⟩) P' (.slice (some ⟨g', 0, none⟩) m cap) (Y.setCell ⟨g', k * 2, none⟩ u') := by
  have hm : m = Q.length := by
    obtain ⟨a', c', e, -⟩ := row7_form h.a
    simp only [Value.slice.injEq] at e
    exact e.2.1
  subst hm
  have hne : g' ≠ g := fun e => h.ne (by rw [e]; rfl)
  have hfr : Fr (fun x => x = g') Y (Y.setCell ⟨g', k * 2, none⟩ u') := (Fr.refl _ Y).set (Or.inl rfl)
  have hc : (Q.map MrW.c)[k]? = some q.c := by rw [List.getElem?_map, hq]; rfl
  refine ⟨ho, by rw [List.map_set]; exact hrs, by rw [hgv]; exact h.b.fr hfr (fun e => hne e.symm), ?_, fun r hr => ?_, h.ta, h.tg, fun b hb => by rw [show (Y.setCell ⟨g', k * 2, none⟩ u').heap.size = Y.heap.size by simp]; exact h.t b hb⟩
  · rw [List.length_set, List.map_set]
    have e : (MrW.mk b' q.p u').c = (u', q.c.2) := rfl
    rw [e, twoW_set1 hc]
    exact (h.a.stored _ _).1
  · rcases List.mem_or_eq_of_mem_set hr with hr | rfl
    · exact (h.u r hr).fr hfr fun x _ hx e => hx.2.2 (by rw [e]; rfl)
    · refine (hu.fr hfr fun x _ hx e => hx.2.2 e).mono fun x _ hx => ⟨hx.1, hx.2.1, fun e => hx.2.2 ?_⟩
      simp only [Value.ownBlock, Option.some.injEq] at e
      exact e.symm
/-- A message that is there, in memory and in full. -/
theorem RzW.full {B : Nat} {T : Nat → Prop} {v : Value} {s : WrW} {Y : World} (h : RzW B T v s Y) {n : Int} {i : Nat} (hp : plW s n = some i) : ∃ (g g' cap k : Nat) (m : MsW) (p : Nat) (Q : List MrW) (P : List Nat) (q : MrW), v = .pointer (some ⟨g, 0, none⟩) ∧ n = (k : Int) + 1 ∧ m.n = k + 1 ∧ k < s.gv ∧ s.row[i]? = some m ∧ P[i]? = some p ∧ byW s n = m.b ∧ Q[k]? = some q ∧ q.b = m.b ∧ q.p = p ∧ RzX B T g s Q P (.slice (some ⟨g', 0, none⟩) s.gv cap) Y := by
  obtain ⟨g, Q, P, av, rfl, h⟩ := h
  obtain ⟨aa, cap, hav, -⟩ := row7_form h.a
  rw [h.len] at hav
  obtain ⟨m, p, hm, hn, h1, h2, -, -, -, hpi, hal⟩ := h.rs.some_ hp
  obtain ⟨k, rfl⟩ : ∃ k : Nat, n = (k : Int) + 1 := ⟨n.toNat - 1, by omega⟩
  have hl := h.len
  obtain ⟨q, hq⟩ : ∃ q, Q[k]? = some q := ⟨_, List.getElem?_eq_getElem (by omega)⟩
  have hx : (Q.map MrW.x)[k]? = some q.x := by rw [List.getElem?_map, hq]; rfl
  rw [show m.n - 1 = k by omega, hx] at hal
  have hb : q.b = m.b := congrArg Prod.fst (Option.some.inj hal)
  have hq2 : q.p = p := congrArg Prod.snd (Option.some.inj hal)
  subst hav
  obtain ⟨g', rfl, -, -, -, -, q0, q1, q2⟩ := h.at_ hq
  exact ⟨g, g', cap, k, m, p, Q, P, q, rfl, rfl, by omega, by omega, hm, hpi, byW_at hp hm, hq, hb, hq2, h⟩
set_option maxRecDepth 20000 in
set_option maxHeartbeats 1000000 in
theorem rtakeW_any {B : Nat} {T : Nat → Prop} {v : Value} {s : WrW} {Y : World} (h : RzW B T v s Y) (n : Int) :
    Calls Try.prog 38 #[v, .int .i64 n] Y fun e Y' => ∃ u, e = .returned (.tuple #[u, .int .i64 (lokE s n)]) ∧ OwW Y' Y.heap.size u (byW s n) ∧ Fr T Y Y' ∧ RzW B T v (takS s n) Y' := by
  have HT := hm7 (rlookW_any h n)
  obtain ⟨g, hg⟩ := h.ptr
  cases hp : plW s n with
  | none =>
    have e1 : lokE s n = 231 := by unfold lokE; rw [hp]
    have e3 : takS s n = s := by unfold takS; rw [hp]
    rw [e1] at HT ⊢
    rw [e3]
    have H := hm7 h
    clear h e1 hp e3
    subst hg
    go_enter Try.func38, Try.ntmps38
    go_wp2_with (go_at_call 37; refine HT.out.mono ?_; rintro e Y1 ⟨u, rfl, hu, hb⟩; obtain ⟨ra, rc, rfl, -⟩ := row7_form hu; have HU := hm7 (And.intro hu hb); clear hu hb)
    go_ret2
    exact ⟨_, rfl, HU.out.1, Fr.of HU.out.2, H.out.below HU.out.2⟩
  | some i =>
    obtain ⟨g1, g', cap, k, m, p, Q, P, q, e1, rfl, hmk, hk, hm, hpi, hb, hq, hqb, hqp, hx⟩ := h.full hp
    have e3 : lokE s ((k : Int) + 1) = 0 := by unfold lokE; rw [hp]
    have e4 : takS s ((k : Int) + 1) = ⟨s.row.eraseIdx i, s.gv⟩ := by unfold takS; rw [hp]
    have hok4 := takS_ok h.ok ((k : Int) + 1)
    rw [e4] at hok4
    rw [e3] at HT ⊢
    rw [e4]
    subst hg
    cases e1
    have i0 : (0 : Int) ≤ (k : Int) := by omega
    have i1 : (k : Int) < (s.gv : Int) := by omega
    have hg4 := h.ok.g
    have HX := hm7 hx
    have hrs := hx.rs.take h.ok hm hpi
    rw [show m.n - 1 = k by omega, ← hqb] at hrs
    have HR := hm7 hrs
    have HO := hm7 hok4
    have HQ := hm7 hq
    clear h hb e3 e4 hp hm hpi hx hrs hok4 hq hqb hqp hmk
    go_enter Try.func38, Try.ntmps38
    go_wp2_with (go_at_call 37; refine HT.out.mono ?_; rintro e Y1 ⟨u, rfl, hu, hb⟩; obtain ⟨ra, rc, rfl, -⟩ := row7_form hu; have hx1 := HX.out.same hb.size (fun b h1 _ => hb.block b h1); have c0 : Y1.cell? ⟨g, 0, none⟩ = some (.slice (some ⟨g', 0, none⟩) s.gv cap) := hx1.b.cell (i := 0) rfl; obtain ⟨g2, eg, -, -, -, -, q0, q1, q2⟩ := hx1.at_ HQ.out; cases eg; have HX1 := hm7 hx1; have HU := hm7 (And.intro hu hb); clear hu hb hx1)
    go_ret2
    have hf : Fr T Y (Y1.setCell ⟨g', k * 2 + 1, none⟩ (.int .i64 0)) := (Fr.of HU.out.2).set (Or.inl (HX.out.ta g' rfl))
    have h3 := HX1.out.setp HQ.out 0 HO.out rfl HR.out
    refine ⟨_, rfl, row7_fr HU.out.1 ((Fr.refl (fun x => x = g') Y1).set (Or.inl rfl)) fun x hx e => ?_, hf, g, _, _, _, rfl, h3⟩
    have h1 := (World.ownsRow.lt HU.out.1 x hx).1
    have h2 := (HX.out.t g' (HX.out.ta g' rfl)).2
    omega
end Go.Proofs.Ytboomeeipnfbmab
