/-
  wire: Drop, Take, Flip, Cut.
-/
import Derived.Test.YtboomeeipnfbmaaWQ6
namespace Go.Proofs.Ytboomeeipnfbmaa
open Go.RowKit
attribute [local go_sem ↓] Go.wp_at_zero Go.wp_at_succ

theorem yremX {B : Nat} {T : Nat → Prop} {g : Nat} {s : WrW} {Z : List (MsW × Value)} {rv : Value} {Y : World} (h : WyX B T g s Z rv Y) {n : Int} {i : Nat} (hp : plW s n = some i) {q0 : MsW × Value} (hq : Z[i]? = some q0) :
    Calls Try.prog 28 #[.pointer (some ⟨g, 0, none⟩), .int .i64 (i : Int)] Y fun e Y' => e = .returned (.tuple #[]) ∧ Fr (fun x => x = g ∨ rv.ownBlock = some x) Y Y' ∧
      ∀ U : Nat → Prop, ¬ U g → (∀ x, rv.ownBlock = some x → ¬ U x) → (∀ (j : Nat) (q : MsW × Value) (x : Nat), j ≠ i → Z[j]? = some q → q.1.b ≠ [] → q.2.ownBlock = some x → ¬ U x) → ∃ rv', WyX B (fun b => T b ∧ ¬ U b) g (takS s n) (Z.eraseIdx i) rv' Y' := by
  obtain ⟨aa, cap, hav, -⟩ := row7_form h.a
  subst hav
  obtain ⟨g', rfl, -, -, hne, -⟩ := h.at_ hq
  obtain ⟨R, hr, h1, h2, h3, h4, -⟩ := row_split h.a
  have hlt := (List.getElem?_eq_some_iff.1 hq).1
  have hl := h.len
  have hok := takS_ok h.ok n
  have et : takS s n = ⟨s.row.eraseIdx i, s.gv⟩ := by unfold takS; rw [hp]
  rw [et] at hok ⊢
  refine (yrem_any g g' Z.length cap i (.int .i64 (s.gv : Int)) _ R Y h.b hr h1 h2 hlt (by have := h.ok.r; have := h.ok.g; omega) (fun e => hne e.symm) h.one).mono ?_
  rintro e Y' ⟨rfl, hb, hc, hf⟩
  refine ⟨rfl, hf.mono fun x _ hx => hx.imp id fun e => by rw [e]; rfl, fun U hU1 hU2 hU3 => ⟨_, h.erase hq hok (by omega) h4 hf hb hc U hU1 (hU2 g' rfl) hU3⟩⟩
set_option maxRecDepth 20000 in
set_option maxHeartbeats 1000000 in
theorem ydrop_any {B : Nat} {T : Nat → Prop} {v : Value} {s : WrW} {Y : World} (h : WyW B T v s Y) (n : Int) :
    Calls Try.prog 14 #[v, .int .i64 n] Y fun e Y' => e = .returned (.int .i64 (lokE s n)) ∧ WkW B T v (takS s n) Y Y' := by
  have HW := hm7 h
  obtain ⟨g, Z, rv, rfl, h⟩ := h
  cases hp : plW s n with
  | none =>
    have HC := hm7 (place_none h hp)
    have e1 : lokE s n = 231 := by unfold lokE; rw [hp]
    have e2 : takS s n = s := by unfold takS; rw [hp]
    rw [e1, e2]
    clear h hp e1 e2
    go_enter Try.func14, Try.ntmps14
    go_wp2_with (go_at_call 27; refine HC.out.mono ?_; rintro e w1 ⟨rfl, hb1⟩; have HB1 := hm7 hb1; clear hb1)
    go_ret
    exact ⟨rfl, WkW.keep HW.out HB1.out⟩
  | some i =>
    have HC := hm7 (place_some h hp)
    have e1 : lokE s n = 0 := by unfold lokE; rw [hp]
    obtain ⟨q, hq, -⟩ := h.row_at hp
    have H := hm7 h
    have HR : Hid (∀ w1, Below Y.heap.size Y w1 → Calls Try.prog 28 #[.pointer (some ⟨g, 0, none⟩), .int .i64 (i : Int)] w1 fun e Y' => e = .returned (.tuple #[]) ∧ WkW B T (.pointer (some ⟨g, 0, none⟩)) (takS s n) Y Y') := fun w1 hb => by
      have hx := H.out.below hb
      refine (yremX hx hp hq).mono ?_
      rintro e Y' ⟨rfl, hf, hU⟩
      obtain ⟨rv', h2⟩ := hU (fun _ => False) (fun h => h) (fun _ _ h => h) (fun _ _ _ _ _ _ _ h => h)
      have hf2 : Fr T w1 Y' := hf.mono fun x _ hx' => hx'.elim (fun e => by rw [e]; exact H.out.tg) (H.out.ta x)
      exact ⟨rfl, (Fr.of hb).tr hf2, _, ⟨g, _, _, rfl, h2⟩, fun b hb' => Or.inl hb'.1⟩
    rw [e1]
    clear h hp e1 hq
    go_enter Try.func14, Try.ntmps14
    go_wp2_with (first | (go_at_call 27; with_reducible refine HC.out.mono ?_; rintro e w1 ⟨rfl, hb1⟩; have HB1 := hm7 hb1; clear hb1) | (go_at_call 28; refine (HR.out _ HB1.out).mono ?_; rintro e w2 ⟨rfl, hw2⟩; have HW2 := hm7 hw2; clear hw2))
    go_ret
    exact ⟨rfl, HW2.out⟩
set_option maxRecDepth 20000 in
set_option maxHeartbeats 1000000 in
theorem ytake_any {B : Nat} {T : Nat → Prop} {v : Value} {s : WrW} {Y : World} (h : WyW B T v s Y) (n : Int) :
    Calls Try.prog 11 #[v, .int .i64 n] Y fun e Y' => ∃ (u : Value) (T' : Nat → Prop), e = .returned (.tuple #[u, .int .i64 (lokE s n)]) ∧ WyW B T' v (takS s n) Y' ∧ (∀ x, T' x → T x ∨ Y.heap.size ≤ x) ∧ Fr T Y Y' ∧ LbW (fun x => (T x ∨ Y.heap.size ≤ x) ∧ ¬ T' x) Y' u (byW s n) := by
  have HW := hm7 h
  obtain ⟨g, Z, rv, rfl, h⟩ := h
  cases hp : plW s n with
  | none =>
    have HC := hm7 (place_none h hp)
    have e1 : lokE s n = 231 := by unfold lokE; rw [hp]
    have e2 : takS s n = s := by unfold takS; rw [hp]
    have e3 : byW s n = [] := by unfold byW; rw [hp]
    rw [e1, e2, e3]
    clear h hp e1 e2 e3
    go_enter Try.func11, Try.ntmps11
    go_wp2_with (go_at_call 27; refine HC.out.mono ?_; rintro e w1 ⟨rfl, hb1⟩; have HB1 := hm7 hb1; clear hb1)
    go_ret2
    exact ⟨_, T, rfl, HW.out.fr (Fr.of HB1.out) (P := fun _ => False) fun _ _ _ h => h, fun x hx => Or.inl hx, Fr.of HB1.out, LbW.nil _ _⟩
  | some i =>
    have HC := hm7 (place_some h hp)
    have e1 : lokE s n = 0 := by unfold lokE; rw [hp]
    obtain ⟨q, hq, hrow, -, e2, hi, hz, hbl⟩ := h.row_at hp
    rw [e1, e2]
    have H := hm7 h
    have HQ := hm7 hq
    obtain ⟨aa, cap, hav, -⟩ := row7_form h.a
    obtain ⟨M, hM⟩ : ∃ M, Z.length = M := ⟨_, rfl⟩
    rw [hM] at hav hi hz
    subst hav
    have i0 : (0 : Int) ≤ (i : Int) := by omega
    have i1 : (i : Int) < (M : Int) := by omega
    have HP := hm7 hp
    clear h hp e1 e2 hM hq hrow
    go_enter Try.func11, Try.ntmps11
    go_upto_region 4 with (go_at_call 27; refine HC.out.mono ?_; rintro e w1 ⟨rfl, hb1⟩; have HB1 := hm7 hb1; clear hb1)
    have hx := H.out.below HB1.out
    have c0 : w1.cell? ⟨g, 0, none⟩ = some (.slice aa M cap) := hx.b.cell (i := 0) rfl
    obtain ⟨g', rfl, -, -, -, -, p0, p1, -, -⟩ := hx.at_ HQ.out
    obtain ⟨u, hu⟩ : ∃ u, q.2 = u := ⟨_, rfl⟩
    rw [hu] at p1
    have HU := hm7 hu
    have HX := hm7 hx
    have HR := hm7 (yremX hx HP.out HQ.out)
    clear hx hu p0
    go_wp2_with (go_at_call 28; refine HR.out.mono ?_; rintro e w2 ⟨rfl, hw2⟩; have HW2 := hm7 hw2; clear hw2)
    go_ret2
    obtain ⟨hf, hE⟩ := HW2.out
    have hf2 : Fr T Y w2 := (Fr.of HB1.out).tr (hf.mono fun x _ hx' => hx'.elim (fun e => by rw [e]; exact H.out.tg) (H.out.ta x))
    have hlu := HX.out.u q (List.mem_of_getElem? HQ.out)
    rw [HU.out] at hlu
    by_cases hn : q.1.b = []
    · obtain ⟨rv', h2⟩ := hE (fun _ => False) (fun h => h) (fun _ _ h => h) (fun _ _ _ _ _ _ _ h => h)
      exact ⟨u, _, rfl, ⟨g, _, _, rfl, h2⟩, fun b hb' => Or.inl hb'.1, hf2, hlu.none_ hn _ _⟩
    · obtain ⟨x, ex, hxT, hxl⟩ := hlu.own hn
      have hd := HX.out.d
      obtain ⟨rv', h2⟩ := hE (fun y => y = x) (fun e => hxT.2.1 e.symm) (fun y hy e => hxT.2.2 (by rw [← e]; exact hy)) (fun j r y hj hr hn' hy e => hj (hd j i r q x hr HQ.out hn' hn (by rw [← e]; exact hy) (by rw [HU.out]; exact ex)))
      refine ⟨u, _, rfl, ⟨g, _, _, rfl, h2⟩, fun b hb' => Or.inl hb'.1, hf2, ?_⟩
      refine ((hlu.exact hn).fr hf fun b _ hF hP => ?_).mono fun b _ hF => ⟨Or.inl hF.1.1, fun hT' => hT'.2 ?_⟩
      · exact hP.elim hF.1.2.1 hF.1.2.2
      · have := hF.2
        rw [ex] at this
        exact (Option.some.inj this).symm
theorem newB_is {s : WrW} {n : Int} {i : Nat} {m : MsW} (hp : plW s n = some i) (hm : (m.n : Int) = n) (b : List Int) : newB s n b = ⟨s.row.set i ⟨m.n, b⟩, s.gv⟩ := by
  unfold newB; rw [hp]; simp only; rw [show n.toNat = m.n by omega]
theorem wrapu8W (k : Int) : IntKind.u8.wrap k = k % 256 := by
  simp [IntKind.wrap, IntKind.bits, IntKind.signed]
set_option maxRecDepth 20000 in
set_option maxHeartbeats 2000000 in
theorem yflp_any {B : Nat} {T : Nat → Prop} {v : Value} {s : WrW} {Y : World} (h : WyW B T v s Y) (n at_ bits_ : Int) :
    Calls Try.prog 17 #[v, .int .i64 n, .int .i64 at_, .int .i64 bits_] Y fun e Y' => e = .returned (.int .i64 (flpE s n at_)) ∧ WkW B T v (flpS s n at_ bits_) Y Y' := by
  have HW := hm7 h
  obtain ⟨g, Z, rv, rfl, h⟩ := h
  cases hp : plW s n with
  | none =>
    have HC := hm7 (place_none h hp)
    have e1 : flpE s n at_ = 231 := by unfold flpE; rw [hp]
    have e3 : flpS s n at_ bits_ = s := by unfold flpS; rw [e1]; rfl
    rw [e1, e3]
    clear h hp e1 e3
    go_enter Try.func17, Try.ntmps17
    go_wp2_with (go_at_call 27; refine HC.out.mono ?_; rintro e w1 ⟨rfl, hb1⟩; have HB1 := hm7 hb1; clear hb1)
    go_ret
    exact ⟨rfl, WkW.keep HW.out HB1.out⟩
  | some i =>
    have HC := hm7 (place_some h hp)
    obtain ⟨q, hq, hrow, hqn, hby, hi, hz, hbl⟩ := h.row_at hp
    have H := hm7 h
    have HQ := hm7 hq
    obtain ⟨aa, cap, hav, -⟩ := row7_form h.a
    obtain ⟨M, hM⟩ : ∃ M, Z.length = M := ⟨_, rfl⟩
    rw [hM] at hav hi hz
    subst hav
    have i0 : (0 : Int) ≤ (i : Int) := by omega
    have i1 : (i : Int) < (M : Int) := by omega
    obtain ⟨N, hN⟩ : ∃ N, q.1.b.length = N := ⟨_, rfl⟩
    obtain ⟨ua, uc, hu, huc⟩ := (h.u q (List.mem_of_getElem? hq)).form
    rw [hN] at hu huc hbl
    have HN := hm7 hN
    have HU := hm7 hu
    have hE : flpE s n at_ = if at_ < 0 ∨ (N : Int) ≤ at_ then 232 else 0 := by unfold flpE; rw [hp, hby, hN]
    by_cases hbad : at_ < 0 ∨ (N : Int) ≤ at_
    · rw [if_pos hbad] at hE
      have e3 : flpS s n at_ bits_ = s := by unfold flpS; rw [hE]; rfl
      rw [hE, e3]
      have hbad2 : at_ < 0 ∨ (¬ at_ < 0 ∧ at_ ≥ (N : Int)) := by omega
      clear h hE e3 hp hq hrow hqn hby hM hN hbad hu
      rcases hbad2 with hbad | ⟨hbad, hb2⟩
      · go_enter Try.func17, Try.ntmps17
        go_upto_region 4 with (go_at_call 27; refine HC.out.mono ?_; rintro e w1 ⟨rfl, hb1⟩; have HB1 := hm7 hb1; clear hb1)
        have hx := H.out.below HB1.out
        have c0 : w1.cell? ⟨g, 0, none⟩ = some (.slice aa M cap) := hx.b.cell (i := 0) rfl
        obtain ⟨g', rfl, -, -, -, -, p0, p1, -, -⟩ := hx.at_ HQ.out
        rw [HU.out] at p1
        clear hx p0
        go_wp2
        go_ret
        exact ⟨rfl, WkW.keep HW.out HB1.out⟩
      · go_enter Try.func17, Try.ntmps17
        go_upto_region 4 with (go_at_call 27; refine HC.out.mono ?_; rintro e w1 ⟨rfl, hb1⟩; have HB1 := hm7 hb1; clear hb1)
        have hx := H.out.below HB1.out
        have c0 : w1.cell? ⟨g, 0, none⟩ = some (.slice aa M cap) := hx.b.cell (i := 0) rfl
        obtain ⟨g', rfl, -, -, -, -, p0, p1, -, -⟩ := hx.at_ HQ.out
        rw [HU.out] at p1
        clear hx p0
        go_wp2
        go_ret
        exact ⟨rfl, WkW.keep HW.out HB1.out⟩
    · rw [if_neg hbad] at hE
      obtain ⟨j, rfl⟩ : ∃ j : Nat, at_ = (j : Int) := ⟨at_.toNat, by omega⟩
      have hj : j < N := by omega
      have hj0 : (0 : Int) ≤ (j : Int) := by omega
      have hj1 : (j : Int) < (N : Int) := by omega
      have hj2 : ¬ (j : Int) < 0 := by omega
      have hj3 : ¬ (j : Int) ≥ (N : Int) := by omega
      obtain ⟨x, hxj⟩ : ∃ x, q.1.b[j]? = some x := ⟨_, List.getElem?_eq_getElem (by omega)⟩
      have hmy : bytW q.1.b := h.ok.b q.1 (List.mem_of_getElem? hrow)
      have e3 : flpS s n (j : Int) bits_ = ⟨s.row.set i ⟨q.1.n, q.1.b.set j (xrB x bits_)⟩, s.gv⟩ := by
        unfold flpS
        rw [hE, if_pos rfl, newB_is hp hqn, hby]
        unfold flpL
        rw [Int.toNat_natCast, List.getD_eq_getElem?_getD, hxj]
        rfl
      have hty : bytW (q.1.b.set j (xrB x bits_)) := by
        have := flpL_byt hmy (j : Int) bits_
        unfold flpL at this
        rw [Int.toNat_natCast, List.getD_eq_getElem?_getD, hxj] at this
        exact this
      have hok := newB_ok h.ok n hty (by rw [List.length_set]; omega)
      rw [newB_is hp hqn] at hok
      rw [hE, e3]
      have HO := hm7 hok
      have HTY := hm7 hty
      have HXJ := hm7 hxj
      have hwr := wrapu8W bits_
      have hx2 : bits BinOp.xor IntKind.u8 x (bits_ % 256) = xrB x bits_ := rfl
      obtain ⟨z, hz2⟩ : ∃ z, xrB x bits_ = z := ⟨_, rfl⟩
      rw [hz2] at hx2 HO HTY ⊢
      clear h hE e3 hp hq hrow hqn hby hM hN hbad hu hxj hmy hty hok hz2
      go_enter Try.func17, Try.ntmps17
      go_upto_region 4 with (go_at_call 27; refine HC.out.mono ?_; rintro e w1 ⟨rfl, hb1⟩; have HB1 := hm7 hb1; clear hb1)
      have hx := H.out.below HB1.out
      have HX := hm7 hx
      have c0 : w1.cell? ⟨g, 0, none⟩ = some (.slice aa M cap) := hx.b.cell (i := 0) rfl
      obtain ⟨g', rfl, -, -, hgg, -, p0, p1, -, -⟩ := hx.at_ HQ.out
      have hlu := hx.u q (List.mem_of_getElem? HQ.out)
      have hbne : q.1.b ≠ [] := fun e => by have := HN.out; rw [e] at this; simp at this; omega
      obtain ⟨a2, c2, eu, -, -, -, h4⟩ := hlu.exact hbne
      rcases h4 with ⟨h4, -⟩ | ⟨xb, o, rfl, hxl, ⟨⟨hxT, hxg, hxg'⟩, hxo⟩, hcells⟩
      · exact absurd h4 hbne
      have eu2 := eu
      rw [HU.out, HN.out] at eu2
      simp only [Value.slice.injEq, true_and] at eu2
      obtain ⟨rfl, rfl⟩ := eu2
      obtain ⟨cur, hcur⟩ := hx.w q (List.mem_of_getElem? HQ.out) hbne xb hxo
      have hfz := hcur.froz (o + j)
      have r0 := hcells j x HXJ.out
      have HCE := hm7 hcells
      rw [HU.out] at p1
      clear hx p0 hlu hbne eu hcells hcur
      go_wp2
      go_ret
      have hk := WyX.flip (z := z) HX.out HQ.out HU.out (by rw [HN.out]; exact hj) HTY.out HO.out HCE.out hxg (fun e => hxg' (by rw [e]; rfl)) hxT
      exact ⟨rfl, WkW.below HB1.out hk⟩
set_option maxRecDepth 20000 in
set_option maxHeartbeats 2000000 in
theorem ycut_any {B : Nat} {T : Nat → Prop} {v : Value} {s : WrW} {Y : World} (h : WyW B T v s Y) (n len_ : Int) :
    Calls Try.prog 18 #[v, .int .i64 n, .int .i64 len_] Y fun e Y' => e = .returned (.int .i64 (cutE s n len_)) ∧ WkW B T v (cutS s n len_) Y Y' := by
  have HW := hm7 h
  obtain ⟨g, Z, rv, rfl, h⟩ := h
  cases hp : plW s n with
  | none =>
    have HC := hm7 (place_none h hp)
    have e1 : cutE s n len_ = 231 := by unfold cutE; rw [hp]
    have e3 : cutS s n len_ = s := by unfold cutS; rw [e1]; rfl
    rw [e1, e3]
    clear h hp e1 e3
    go_enter Try.func18, Try.ntmps18
    go_wp2_with (go_at_call 27; refine HC.out.mono ?_; rintro e w1 ⟨rfl, hb1⟩; have HB1 := hm7 hb1; clear hb1)
    go_ret
    exact ⟨rfl, WkW.keep HW.out HB1.out⟩
  | some i =>
    have HC := hm7 (place_some h hp)
    obtain ⟨q, hq, hrow, hqn, hby, hi, hz, hbl⟩ := h.row_at hp
    have H := hm7 h
    have HQ := hm7 hq
    obtain ⟨aa, cap, hav, -⟩ := row7_form h.a
    obtain ⟨M, hM⟩ : ∃ M, Z.length = M := ⟨_, rfl⟩
    rw [hM] at hav hi hz
    subst hav
    have i0 : (0 : Int) ≤ (i : Int) := by omega
    have i1 : (i : Int) < (M : Int) := by omega
    obtain ⟨N, hN⟩ : ∃ N, q.1.b.length = N := ⟨_, rfl⟩
    obtain ⟨ua, uc, hu, huc⟩ := (h.u q (List.mem_of_getElem? hq)).form
    rw [hN] at hu huc hbl
    have HN := hm7 hN
    have HU := hm7 hu
    have hE : cutE s n len_ = if len_ < 0 ∨ (N : Int) < len_ then 232 else 0 := by unfold cutE; rw [hp, hby, hN]
    by_cases hbad : len_ < 0 ∨ (N : Int) < len_
    · rw [if_pos hbad] at hE
      have e3 : cutS s n len_ = s := by unfold cutS; rw [hE]; rfl
      rw [hE, e3]
      have hbad2 : len_ < 0 ∨ (¬ len_ < 0 ∧ len_ > (N : Int)) := by omega
      clear h hE e3 hp hq hrow hqn hby hM hN hbad hu
      rcases hbad2 with hbad | ⟨hbad, hb2⟩
      · go_enter Try.func18, Try.ntmps18
        go_upto_region 4 with (go_at_call 27; refine HC.out.mono ?_; rintro e w1 ⟨rfl, hb1⟩; have HB1 := hm7 hb1; clear hb1)
        have hx := H.out.below HB1.out
        have c0 : w1.cell? ⟨g, 0, none⟩ = some (.slice aa M cap) := hx.b.cell (i := 0) rfl
        obtain ⟨g', rfl, -, -, -, -, p0, p1, -, -⟩ := hx.at_ HQ.out
        rw [HU.out] at p1
        clear hx p0
        go_wp2
        go_ret
        exact ⟨rfl, WkW.keep HW.out HB1.out⟩
      · go_enter Try.func18, Try.ntmps18
        go_upto_region 4 with (go_at_call 27; refine HC.out.mono ?_; rintro e w1 ⟨rfl, hb1⟩; have HB1 := hm7 hb1; clear hb1)
        have hx := H.out.below HB1.out
        have c0 : w1.cell? ⟨g, 0, none⟩ = some (.slice aa M cap) := hx.b.cell (i := 0) rfl
        obtain ⟨g', rfl, -, -, -, -, p0, p1, -, -⟩ := hx.at_ HQ.out
        rw [HU.out] at p1
        clear hx p0
        go_wp2
        go_ret
        exact ⟨rfl, WkW.keep HW.out HB1.out⟩
    · rw [if_neg hbad] at hE
      obtain ⟨L, rfl⟩ : ∃ L : Nat, len_ = (L : Int) := ⟨len_.toNat, by omega⟩
      have hL : L ≤ N := by omega
      have hl0 : ¬ (L : Int) < 0 := by omega
      have hl1 : ¬ (L : Int) > (N : Int) := by omega
      have hl2 : (0 : Int) ≤ (L : Int) := by omega
      have hl3 : (L : Int) ≤ (uc : Int) := by omega
      have e3 : cutS s n (L : Int) = ⟨s.row.set i ⟨q.1.n, q.1.b.take L⟩, s.gv⟩ := by
        unfold cutS
        rw [hE, if_pos rfl, newB_is hp hqn, hby, Int.toNat_natCast]
      have hmy : bytW q.1.b := h.ok.b q.1 (List.mem_of_getElem? hrow)
      have hty : bytW (q.1.b.take L) := fun x hx => hmy x (List.mem_of_mem_take hx)
      have htl : (q.1.b.take L).length = L := by rw [List.length_take]; omega
      have hok := newB_ok h.ok n hty (by omega)
      rw [newB_is hp hqn] at hok
      rw [hE, e3]
      have HO := hm7 hok
      have HTY := hm7 hty
      have HTL := hm7 htl
      clear h hE e3 hp hq hrow hqn hby hM hN hbad hu hmy hty htl hok
      go_enter Try.func18, Try.ntmps18
      go_upto_region 4 with (go_at_call 27; refine HC.out.mono ?_; rintro e w1 ⟨rfl, hb1⟩; have HB1 := hm7 hb1; clear hb1)
      have hx := H.out.below HB1.out
      have HX := hm7 hx
      have c0 : w1.cell? ⟨g, 0, none⟩ = some (.slice aa M cap) := hx.b.cell (i := 0) rfl
      obtain ⟨g', rfl, -, hgl', hgg, -, p0, p1, pf, -⟩ := hx.at_ HQ.out
      have hgl := hx.b.lt
      have hlu := hx.u q (List.mem_of_getElem? HQ.out)
      rw [HU.out] at p1 hlu
      have hlt := hlu.take hL
      have HC2 := hm7 (copiedW_any (w := w1.drew) (hlt.below ⟨rfl, rfl, rfl, Nat.le_refl _, fun _ _ => rfl⟩) (by rw [HTL.out]; omega))
      clear hx p0 hlu hlt
      go_upto_region 7 with (fail)
      go_region_held3 (fun w' => w'.cell? ⟨g, 0, none⟩ = some (.slice (some ⟨g', 0, none⟩) M cap)) (go_keep)
        ((go_at_call 29; refine HC2.out.mono ?_; rintro e Y2 ⟨uv, rfl, hu2, hb2⟩; obtain ⟨ra, rc, rfl, hrc⟩ := row7_form hu2; rw [HTL.out] at hrc ⊢; have c0' : Y2.cell? ⟨g, 0, none⟩ = some (.slice (some ⟨g', 0, none⟩) M cap) := (hb2.cell (p := ⟨g, 0, none⟩) hgl).trans c0; have c1' : ∀ v, (Y2.setCell ⟨g', i * 2 + 1, none⟩ v).cell? ⟨g, 0, none⟩ = some (.slice (some ⟨g', 0, none⟩) M cap) := fun v => by {rw [World.cell?_setCell_far _ _ _ _ (by simpa using hgg)]; exact c0'}; have q0' : Y2.cell? ⟨g', i * 2 + 1, none⟩ = some (.slice ua N uc) := (hb2.cell (p := ⟨g', i * 2 + 1, none⟩) hgl').trans p1; have cf' : Y2.frozen? ⟨g', i * 2 + 1, none⟩ = false := (hb2.frozen (p := ⟨g', i * 2 + 1, none⟩) hgl').trans (pf _); have HU2 := hm7 (And.intro hu2 hb2); clear hu2 hb2))
      go_wp2
      go_ret
      have hbd : Below _ _ Y2 := HU2.out.2
      have hu3 := HU2.out.1
      rw [HTL.out] at hu3
      have hk := HX.out.newb HQ.out (b' := q.1.b.take L) (u' := .slice ra L rc) ⟨hbd.os, hbd.tape, hbd.output, hbd.size, hbd.block⟩ HTY.out hu3 HO.out
      exact ⟨rfl, WkW.below HB1.out hk⟩
end Go.Proofs.Ytboomeeipnfbmaa
