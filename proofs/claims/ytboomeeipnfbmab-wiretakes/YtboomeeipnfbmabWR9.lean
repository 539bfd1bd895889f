/-
  wire: the document's wire: Drop, Copy, Swap, Flip, Cut.
-/
import Derived.Test.YtboomeeipnfbmabWR8
namespace Go.Proofs.Ytboomeeipnfbmab
open Go.RowKit
attribute [local go_sem ↓] Go.wp_at_zero Go.wp_at_succ

set_option maxRecDepth 20000 in
theorem rdropW_any {B : Nat} {T : Nat → Prop} {v : Value} {s : WrW} {Y : World} (h : RzW B T v s Y) (n : Int) :
    Calls Try.prog 39 #[v, .int .i64 n] Y fun e Y' => e = .returned (.int .i64 (lokE s n)) ∧ RqW B T v (takS s n) Y Y' := by
  have HT := hm7 (rtakeW_any h n)
  obtain ⟨g, hg⟩ := h.ptr
  clear h
  subst hg
  go_enter Try.func39, Try.ntmps39
  go_wp2_with (go_at_call 38; refine HT.out.mono ?_; rintro e Y1 ⟨u, rfl, hu, hf, hb⟩; obtain ⟨ra, rc, rfl, -⟩ := row7_form hu; have HU := hm7 (And.intro hf hb); clear hu hb hf)
  go_ret
  exact ⟨rfl, HU.out.1, T, HU.out.2, fun _ hx => Or.inl hx⟩
set_option maxRecDepth 20000 in
set_option maxHeartbeats 1000000 in
theorem rcpyW_any {B : Nat} {T : Nat → Prop} {v : Value} {s : WrW} {Y : World} (h : RzW B T v s Y) (n : Int) :
    Calls Try.prog 40 #[v, .int .i64 n] Y fun e Y' => e = .returned (.tuple #[.int .i64 (cpyN s n), .int .i64 (cpyE s n)]) ∧ RqW B T v (cpyS s n) Y Y' := by
  have HT := hm7 (rthereW_any h n)
  obtain ⟨g, hg⟩ := h.ptr
  cases hp : plW s n with
  | none =>
    rw [hp] at HT
    have e1 : cpyE s n = 231 := by unfold cpyE; rw [hp]
    have e2 : cpyN s n = 0 := by unfold cpyN; rw [e1]; rfl
    have e3 : cpyS s n = s := by unfold cpyS; rw [e1]; rfl
    rw [e1, e2, e3]
    have H := hm7 h
    clear h e1 e2 e3 hp
    subst hg
    go_enter Try.func40, Try.ntmps40
    go_wp2_with (go_at_call 49; refine HT.out.mono ?_; rintro e Y1 ⟨rfl, rfl⟩)
    go_ret2
    exact ⟨rfl, RqW.keep H.out (Below.refl _ _)⟩
  | some i =>
    rw [hp] at HT
    obtain ⟨g1, g', cap, k, u, m, p, e1, rfl, hk, hm, hb, c0, q0, q1, q2, hl⟩ := h.msg hp
    have hg4 := h.ok.g
    have i0 : (0 : Int) ≤ (k : Int) := by omega
    have i1 : (k : Int) < (s.gv : Int) := by omega
    obtain ⟨ua, uc, hu, -⟩ := hl.form
    subst hg
    cases e1
    by_cases hf : 4096 ≤ s.gv
    · have e1 : cpyE s ((k : Int) + 1) = 234 := by unfold cpyE; rw [hp]; simp [hf]
      have e2 : cpyN s ((k : Int) + 1) = 0 := by unfold cpyN; rw [e1]; rfl
      have e3 : cpyS s ((k : Int) + 1) = s := by unfold cpyS; rw [e1]; rfl
      rw [e1, e2, e3]
      have H := hm7 h
      have i2 : (s.gv : Int) ≥ 4096 := by omega
      clear h e1 e2 e3 hp hb hm hl
      go_enter Try.func40, Try.ntmps40
      go_wp2_with (go_at_call 49; refine HT.out.mono ?_; rintro e Y1 ⟨rfl, rfl⟩)
      go_ret2
      exact ⟨rfl, RqW.keep H.out (Below.refl _ _)⟩
    · have e1 : cpyE s ((k : Int) + 1) = 0 := by unfold cpyE; rw [hp]; simp [hf]
      have e2 : cpyN s ((k : Int) + 1) = ((s.gv + 1 : Nat) : Int) := by unfold cpyN; rw [e1]; rfl
      have e3 : cpyS s ((k : Int) + 1) = putW s m.b := by unfold cpyS; rw [e1, hb]; rfl
      rw [e1, e2, e3]
      have i2 : ¬ (s.gv : Int) ≥ 4096 := by omega
      have HP := hm7 (rputW_any h hl (fun g1 e => by cases e; exact fun hx => hx.2.1 rfl) (h.ok.l m (List.mem_of_getElem? hm)) (by omega))
      generalize m.b.length = un at hu
      subst hu
      clear h e1 e2 e3 hp hb hm hl
      go_enter Try.func40, Try.ntmps40
      go_wp2_with (first | (go_at_call 49; refine HT.out.mono ?_; rintro e Y1 ⟨rfl, rfl⟩) | (go_at_call 44; refine HP.out.mono ?_; rintro e Y2 ⟨rfl, hq⟩; have HQ := hm7 hq; clear hq))
      go_ret2
      exact ⟨rfl, HQ.out⟩
theorem RzX.swp2 {B : Nat} {T : Nat → Prop} {g g' m cap : Nat} {s s' : WrW} {Q : List MrW} {P P' : List Nat} {Y : World} (h : RzX B T g s Q P (.slice (some ⟨g', 0, none⟩) m cap) Y) {k l : Nat} {a b : MrW} (ha : Q[k]? = some a) (hb : Q[l]? = some b) (ho : s'.Ok) (hgv : s'.gv = s.gv) (hrs : RsW (((Q.map MrW.x).set k (a.b, b.p)).set l (b.b, a.p)) s' P') :
    RzX B T g s' ((Q.set k ⟨a.b, b.p, a.u⟩).set l ⟨b.b, a.p, b.u⟩) P' (.slice (some ⟨g', 0, none⟩) m cap) ((Y.setCell ⟨g', k * 2 + 1, none⟩ (.int .i64 (b.p : Int))).setCell ⟨g', l * 2 + 1, none⟩ (.int .i64 (a.p : Int))) := by
  have hm : m = Q.length := by
    obtain ⟨a', c', e, -⟩ := row7_form h.a
    simp only [Value.slice.injEq] at e
    exact e.2.1
  subst hm
  have hne : g' ≠ g := fun e => h.ne (by rw [e]; rfl)
  have hfr : Fr (fun x => x = g') Y ((Y.setCell ⟨g', k * 2 + 1, none⟩ (.int .i64 (b.p : Int))).setCell ⟨g', l * 2 + 1, none⟩ (.int .i64 (a.p : Int))) := ((Fr.refl (fun x => x = g') Y).set (Or.inl rfl)).set (Or.inl rfl)
  have hc : (Q.map MrW.c)[k]? = some a.c := by rw [List.getElem?_map, ha]; rfl
  have hd : ((Q.map MrW.c).set k (a.u, .int .i64 (b.p : Int)))[l]? = some (b.u, if l = k then .int .i64 (b.p : Int) else .int .i64 (b.p : Int)) := by
    by_cases e : l = k
    · subst e
      rw [ha] at hb
      cases hb
      rw [List.getElem?_set_self (List.getElem?_eq_some_iff.1 hc).1]
      simp
    · rw [List.getElem?_set_ne (by omega), List.getElem?_map, hb]
      simp [MrW.c]
  have hu : ∀ q ∈ (Q.set k ⟨a.b, b.p, a.u⟩).set l ⟨b.b, a.p, b.u⟩, LbW (fun x => T x ∧ x ≠ g ∧ (Value.slice (some ⟨g', 0, none⟩) Q.length cap).ownBlock ≠ some x) Y q.u q.b := fun q hq => by
    rcases List.mem_or_eq_of_mem_set hq with hq | rfl
    · rcases List.mem_or_eq_of_mem_set hq with hq | rfl
      · exact h.u q hq
      · exact h.u a (List.mem_of_getElem? ha)
    · exact h.u b (List.mem_of_getElem? hb)
  refine ⟨ho, by rw [List.map_set, List.map_set]; exact hrs, by rw [hgv]; exact h.b.fr hfr (fun e => hne e.symm), ?_, fun r hr => (hu r hr).fr hfr fun x _ hx e => hx.2.2 (by rw [e]; rfl), h.ta, h.tg, fun b hb => ⟨(h.t b hb).1, Nat.lt_of_lt_of_le (h.t b hb).2 hfr.size⟩⟩
  rw [List.length_set, List.length_set, List.map_set, List.map_set]
  have e1 : (MrW.mk a.b b.p a.u).c = (a.c.1, .int .i64 (b.p : Int)) := rfl
  have e2 : (MrW.mk b.b a.p b.u).c = (b.u, .int .i64 (a.p : Int)) := rfl
  rw [e1, e2]
  have e3 := twoW_set2 hd (.int .i64 (a.p : Int))
  simp only at e3
  rw [show (a.c.1, Value.int .i64 (b.p : Int)) = (a.u, Value.int .i64 (b.p : Int)) from rfl, e3]
  have e4 := twoW_set2 hc (.int .i64 (b.p : Int))
  rw [show (a.c.1, Value.int .i64 (b.p : Int)) = (a.u, Value.int .i64 (b.p : Int)) from rfl] at e4
  rw [e4]
  exact ((h.a.stored (k * 2 + 1) (.int .i64 (b.p : Int))).1.stored (l * 2 + 1) (.int .i64 (a.p : Int))).1
set_option maxRecDepth 20000 in
set_option maxHeartbeats 2000000 in
theorem rswpW_any {B : Nat} {T : Nat → Prop} {v : Value} {s : WrW} {Y : World} (h : RzW B T v s Y) (n m : Int) :
    Calls Try.prog 41 #[v, .int .i64 n, .int .i64 m] Y fun e Y' => e = .returned (.int .i64 (swpE s n m)) ∧ RqW B T v (swpS s n m) Y Y' := by
  have HT := hm7 (rthereW_any h n)
  have HT2 := hm7 (rthereW_any h m)
  obtain ⟨g, hg⟩ := h.ptr
  cases hp : plW s n with
  | none =>
    rw [hp] at HT
    have e1 : swpE s n m = 231 := by unfold swpE; rw [hp]
    have e3 : swpS s n m = s := by unfold swpS; rw [hp]
    rw [e1, e3]
    have H := hm7 h
    clear h e1 e3 hp
    subst hg
    go_enter Try.func41, Try.ntmps41
    go_wp2_with (first | (go_at_call 49; with_reducible refine HT.out.mono ?_; rintro e Y1 ⟨rfl, rfl⟩) | (go_at_call 49; with_reducible refine HT2.out.mono ?_; rintro e Y1 ⟨rfl, rfl⟩))
    go_ret
    exact ⟨rfl, RqW.keep H.out (Below.refl _ _)⟩
  | some i =>
    rw [hp] at HT
    cases hq : plW s m with
    | none =>
      rw [hq] at HT2
      have e1 : swpE s n m = 231 := by unfold swpE; rw [hp, hq]
      have e3 : swpS s n m = s := by unfold swpS; rw [hp, hq]
      rw [e1, e3]
      have H := hm7 h
      clear h e1 e3 hp hq
      subst hg
      go_enter Try.func41, Try.ntmps41
      go_wp2_with (first | (go_at_call 49; with_reducible refine HT.out.mono ?_; rintro e Y1 ⟨rfl, rfl⟩) | (go_at_call 49; with_reducible refine HT2.out.mono ?_; rintro e Y1 ⟨rfl, rfl⟩))
      go_ret
      exact ⟨rfl, RqW.keep H.out (Below.refl _ _)⟩
    | some j =>
      rw [hq] at HT2
      have e1 : swpE s n m = 0 := by unfold swpE; rw [hp, hq]
      have e3 : swpS s n m = ⟨swpR s.row i j, s.gv⟩ := by unfold swpS; rw [hp, hq]
      rw [e1, e3]
      have hokS := swpS_ok h.ok n m
      rw [e3] at hokS
      obtain ⟨g1, g', cap, k, x, p, Q, P, a, f1, rfl, hxk, hk, hx, hpi, -, ha, hab, hap, hX⟩ := h.full hp
      obtain ⟨y, q, hy, hm2, hm0, hm1, -, -, -, hqj, hal⟩ := hX.rs.some_ hq
      obtain ⟨l, rfl⟩ : ∃ l : Nat, m = (l : Int) + 1 := ⟨m.toNat - 1, by omega⟩
      have hlen := hX.len
      obtain ⟨b, hb⟩ : ∃ b, Q[l]? = some b := ⟨_, List.getElem?_eq_getElem (by omega)⟩
      have hbx : (Q.map MrW.x)[l]? = some b.x := by rw [List.getElem?_map, hb]; rfl
      rw [show y.n - 1 = l by omega, hbx] at hal
      have hbb : b.b = y.b := congrArg Prod.fst (Option.some.inj hal)
      have hbp : b.p = q := congrArg Prod.snd (Option.some.inj hal)
      obtain ⟨_, e4, -, -, -, -, c1, c2, cf⟩ := hX.at_ ha
      cases e4
      obtain ⟨_, e5, -, -, -, -, d1, d2, -⟩ := hX.at_ hb
      cases e5
      have c0 : Y.cell? ⟨g1, 0, none⟩ = some (.slice (some ⟨g', 0, none⟩) s.gv cap) := hX.b.cell (i := 0) rfl
      have hne : g' ≠ g1 := fun e => hX.ne (by rw [e]; rfl)
      subst hg
      cases f1
      have i0 : (0 : Int) ≤ (k : Int) := by omega
      have i1 : (k : Int) < (s.gv : Int) := by omega
      have j0 : (0 : Int) ≤ (l : Int) := by omega
      have j1 : (l : Int) < (s.gv : Int) := by omega
      have hg4 := h.ok.g
      have hrs := hX.rs.swp h.ok hx hy hpi hqj
      rw [show x.n - 1 = k by omega, show y.n - 1 = l by omega, ← hab, ← hbb, ← hap, ← hbp] at hrs
      have H := hm7 hX
      have HR := hm7 hrs
      have HO := hm7 hokS
      have HA := hm7 ha
      have HB := hm7 hb
      have hS := hX.swp2 ha hb hokS rfl hrs
      have HS := hm7 hS
      have hfr1 : ∀ v, Fr (fun x => x = g') Y (Y.setCell ⟨g', k * 2 + 1, none⟩ v) := fun v => (Fr.refl (fun x => x = g') Y).set (Or.inl rfl)
      have c0' : ∀ v, (Y.setCell ⟨g', k * 2 + 1, none⟩ v).cell? ⟨g, 0, none⟩ = some (.slice (some ⟨g', 0, none⟩) s.gv cap) := fun v => (hfr1 v).cell hX.b.lt (fun e => hne e.symm) c0
      have cf' : ∀ v j, (Y.setCell ⟨g', k * 2 + 1, none⟩ v).frozen? ⟨g', j, none⟩ = false := fun v j => by rw [World.frozen?_setCell]; exact cf j
      have d2' : ∀ v, ∃ u, (Y.setCell ⟨g', k * 2 + 1, none⟩ v).cell? ⟨g', l * 2 + 1, none⟩ = some u := fun v => by
        by_cases e : l = k
        · subst e
          exact ⟨v, World.cell?_setCell_same _ _ _ c2⟩
        · exact ⟨_, by rw [World.cell?_setCell_other _ _ _ _ (fun e' => by simp at e' <;> omega)]; exact d2⟩
      have hbp2 : ∃ z : Int, (b.p : Int) = z := ⟨_, rfl⟩
      obtain ⟨du, d3⟩ := d2' (.int .i64 (b.p : Int))
      clear h hX hx hy hp hq hpi hqj hal hab hap hbb hbp hrs hokS ha hb hbx hlen e1 e3 hm0 hm1 hm2 hxk hS hfr1 d2' hbp2
      go_enter Try.func41, Try.ntmps41
      go_wp2_with (first | (go_at_call 49; with_reducible refine HT.out.mono ?_; rintro e Y1 ⟨rfl, rfl⟩) | (go_at_call 49; with_reducible refine HT2.out.mono ?_; rintro e Y1 ⟨rfl, rfl⟩))
      go_region
      all_goals
        go_wp2
        go_ret
        exact ⟨rfl, (((Fr.refl T _).set (Or.inl (H.out.ta g' rfl))).set (Or.inl (H.out.ta g' rfl))).drew, T, ⟨g, _, _, _, rfl, HS.out.same (Nat.le_refl _) fun b _ _ => rfl⟩, fun _ hx => Or.inl hx⟩
end Go.Proofs.Ytboomeeipnfbmab
