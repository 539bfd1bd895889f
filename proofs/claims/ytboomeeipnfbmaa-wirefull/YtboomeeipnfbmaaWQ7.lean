/-
  wire: Drop, Take, Flip, Cut.
-/
import Derived.Test.YtboomeeipnfbmaaWQ6
namespace Go.Proofs.Ytboomeeipnfbmaa
open Go.RowKit
attribute [local go_sem ↓] Go.wp_at_zero Go.wp_at_succ

theorem yremX {B : Nat} {T : Nat → Prop} {g : Nat} {s : WrW} {Z : List (MsW × Value)} {rv : Value} {Y : World} (h : WyX B T g s Z rv Y) {n : Int} {i : Nat} (hp : plW s n = some i) {q0 : MsW × Value} (hq : Z[i]? = some q0) :
    Calls Try.prog 28 #[.pointer (some ⟨g, 0, none⟩), .int .i64 (i : Int)] Y fun e Y' => e = .returned (.tuple #[]) ∧ Fr (fun x => x = g ∨ rv.ownBlock = some x) Y Y' ∧
      ∀ U : Nat → Prop, ¬ U g → (∀ x, rv.ownBlock = some x → ¬ U x) → (∀ (j : Nat) (q : MsW × Value) (x : Nat), j ≠ i → Z[j]? = some q → q.1.b ≠ [] → q.2.ownBlock = some x → ¬ U x) → ∃ rv', WyX B (fun b => T b ∧ ¬ U b) g (takS s n) (Z.eraseIdx i) rv' Y' := by
  obtain ⟨aa, cap, hav, -⟩ := row7_form h.a
  subst hav
  obtain ⟨g', rfl, -, -, hne, -⟩ := h.at_ hq
  obtain ⟨R, hr, h1, h2, h3, h4, -⟩ := row_split h.a
  have hlt := (List.getElem?_eq_some_iff.1 hq).1
  have hl := h.len
  have hok := takS_ok h.ok n
  have et : takS s n = ⟨s.row.eraseIdx i, s.gv⟩ := by unfold takS; rw [hp]
  rw [et] at hok ⊢
  refine (yrem_any g g' Z.length cap i (.int .i64 (s.gv : Int)) _ R Y h.b hr h1 h2 hlt (by have := h.ok.r; have := h.ok.g; omega) (fun e => hne e.symm) h.one).mono ?_
  rintro e Y' ⟨rfl, hb, hc, hf⟩
  refine ⟨rfl, hf.mono fun x _ hx => hx.imp id fun e => by rw [e]; rfl, fun U hU1 hU2 hU3 => ⟨_, h.erase hq hok (by omega) h4 hf hb hc U hU1 (hU2 g' rfl) hU3⟩⟩
set_option maxRecDepth 20000 in
set_option maxHeartbeats 1000000 in
theorem ydrop_any {B : Nat} {T : Nat → Prop} {v : Value} {s : WrW} {Y : World} (h : WyW B T v s Y) (n : Int) :
    Calls Try.prog 14 #[v, .int .i64 n] Y fun e Y' => e = .returned (.int .i64 (lokE s n)) ∧ WkW B T v (takS s n) Y Y' := by
  have HW := hm7 h
  obtain ⟨g, Z, rv, rfl, h⟩ := h
  cases hp : plW s n with
  | none =>
    have HC := hm7 (place_none h hp)
    have e1 : lokE s n = 231 := by unfold lokE; rw [hp]
    have e2 : takS s n = s := by unfold takS; rw [hp]
    rw [e1, e2]
    clear h hp e1 e2
    go_enter Try.func14, Try.ntmps14
    go_wp2_with (go_at_call 27; refine HC.out.mono ?_; rintro e w1 ⟨rfl, hb1⟩; have HB1 := hm7 hb1; clear hb1)
    go_ret
    exact ⟨rfl, WkW.keep HW.out HB1.out⟩
  | some i =>
    have HC := hm7 (place_some h hp)
    have e1 : lokE s n = 0 := by unfold lokE; rw [hp]
    obtain ⟨q, hq, -⟩ := h.row_at hp
    have H := hm7 h
    have HR : Hid (∀ w1, Below Y.heap.size Y w1 → Calls Try.prog 28 #[.pointer (some ⟨g, 0, none⟩), .int .i64 (i : Int)] w1 fun e Y' => e = .returned (.tuple #[]) ∧ WkW B T (.pointer (some ⟨g, 0, none⟩)) (takS s n) Y Y') := fun w1 hb => by
      have hx := H.out.below hb
      refine (yremX hx hp hq).mono ?_
      rintro e Y' ⟨rfl, hf, hU⟩
      obtain ⟨rv', h2⟩ := hU (fun _ => False) (fun h => h) (fun _ _ h => h) (fun _ _ _ _ _ _ _ h => h)
      have hf2 : Fr T w1 Y' := hf.mono fun x _ hx' => hx'.elim (fun e => by rw [e]; exact H.out.tg) (H.out.ta x)
      exact ⟨rfl, (Fr.of hb).tr hf2, _, ⟨g, _, _, rfl, h2⟩, fun b hb' => Or.inl hb'.1⟩
    rw [e1]
    clear h hp e1 hq
    go_enter Try.func14, Try.ntmps14
    go_wp2_with (first | (go_at_call 27; with_reducible refine HC.out.mono ?_; rintro e w1 ⟨rfl, hb1⟩; have HB1 := hm7 hb1; clear hb1) | (go_at_call 28; refine (HR.out _ HB1.out).mono ?_; rintro e w2 ⟨rfl, hw2⟩; have HW2 := hm7 hw2; clear hw2))
    go_ret
    exact ⟨rfl, HW2.out⟩
set_option maxRecDepth 20000 in
set_option maxHeartbeats 1000000 in
theorem ytake_any {B : Nat} {T : Nat → Prop} {v : Value} {s : WrW} {Y : World} (h : WyW B T v s Y) (n : Int) :
    Calls Try.prog 11 #[v, .int .i64 n] Y fun e Y' => ∃ (u : Value) (T' : Nat → Prop), e = .returned (.tuple #[u, .int .i64 (lokE s n)]) ∧ WyW B T' v (takS s n) Y' ∧ (∀ x, T' x → T x ∨ Y.heap.size ≤ x) ∧ Fr T Y Y' ∧ LbW (fun x => (T x ∨ Y.heap.size ≤ x) ∧ ¬ T' x) Y' u (byW s n) := by
  have HW := hm7 h
  obtain ⟨g, Z, rv, rfl, h⟩ := h
  cases hp : plW s n with
  | none =>
    have HC := hm7 (place_none h hp)
    have e1 : lokE s n = 231 := by unfold lokE; rw [hp]
    have e2 : takS s n = s := by unfold takS; rw [hp]
    have e3 : byW s n = [] := by unfold byW; rw [hp]
    rw [e1, e2, e3]
    clear h hp e1 e2 e3
    go_enter Try.func11, Try.ntmps11
    go_wp2_with (go_at_call 27; refine HC.out.mono ?_; rintro e w1 ⟨rfl, hb1⟩; have HB1 := hm7 hb1; clear hb1)
    go_ret2
    exact ⟨_, T, rfl, HW.out.fr (Fr.of HB1.out) (P := fun _ => False) fun _ _ _ h => h, fun x hx => Or.inl hx, Fr.of HB1.out, LbW.nil _ _⟩
  | some i =>
    have HC := hm7 (place_some h hp)
    have e1 : lokE s n = 0 := by unfold lokE; rw [hp]
    obtain ⟨q, hq, hrow, -, e2, hi, hz, hbl⟩ := h.row_at hp
    rw [e1, e2]
    have H := hm7 h
    have HQ := hm7 hq
    obtain ⟨aa, cap, hav, -⟩ := row7_form h.a
    obtain ⟨M, hM⟩ : ∃ M, Z.length = M := ⟨_, rfl⟩
    rw [hM] at hav hi hz
    subst hav
    have i0 : (0 : Int) ≤ (i : Int) := by omega
    have i1 : (i : Int) < (M : Int) := by omega
    have HP := hm7 hp
    clear h hp e1 e2 hM hq hrow
    go_enter Try.func11, Try.ntmps11
    go_upto_region 4 with (go_at_call 27; refine HC.out.mono ?_; rintro e w1 ⟨rfl, hb1⟩; have HB1 := hm7 hb1; clear hb1)
    have hx := H.out.below HB1.out
    have c0 : w1.cell? ⟨g, 0, none⟩ = some (.slice aa M cap) := hx.b.cell (i := 0) rfl
    obtain ⟨g', rfl, -, -, -, -, p0, p1, -, -⟩ := hx.at_ HQ.out
    obtain ⟨u, hu⟩ : ∃ u, q.2 = u := ⟨_, rfl⟩
    rw [hu] at p1
    have HU := hm7 hu
    have HX := hm7 hx
    have HR := hm7 (yremX hx HP.out HQ.out)
    clear hx hu p0
    go_wp2_with (go_at_call 28; refine HR.out.mono ?_; rintro e w2 ⟨rfl, hw2⟩; have HW2 := hm7 hw2; clear hw2)
    go_ret2
    obtain ⟨hf, hE⟩ := HW2.out
    have hf2 : Fr T Y w2 := (Fr.of HB1.out).tr (hf.mono fun x _ hx' => hx'.elim (fun e => by rw [e]; exact H.out.tg) (H.out.ta x))
    have hlu := HX.out.u q (List.mem_of_getElem? HQ.out)
    rw [HU.out] at hlu
    by_cases hn : q.1.b = []
    · obtain ⟨rv', h2⟩ := hE (fun _ => False) (fun h => h) (fun _ _ h => h) (fun _ _ _ _ _ _ _ h => h)
      exact ⟨u, _, rfl, ⟨g, _, _, rfl, h2⟩, fun b hb' => Or.inl hb'.1, hf2, hlu.none_ hn _ _⟩
    · obtain ⟨x, ex, hxT, hxl⟩ := hlu.own hn
      have hd := HX.out.d
      obtain ⟨rv', h2⟩ := hE (fun y => y = x) (fun e => hxT.2.1 e.symm) (fun y hy e => hxT.2.2 (by rw [← e]; exact hy)) (fun j r y hj hr hn' hy e => hj (hd j i r q x hr HQ.out hn' hn (by rw [← e]; exact hy) (by rw [HU.out]; exact ex)))
      refine ⟨u, _, rfl, ⟨g, _, _, rfl, h2⟩, fun b hb' => Or.inl hb'.1, hf2, ?_⟩
      refine ((hlu.exact hn).fr hf fun b _ hF hP => ?_).mono fun b _ hF => ⟨Or.inl hF.1.1, fun hT' => hT'.2 ?_⟩
      · exact hP.elim hF.1.2.1 hF.1.2.2
      · have := hF.2
        rw [ex] at this
        exact (Option.some.inj this).symm
end Go.Proofs.Ytboomeeipnfbmaa
