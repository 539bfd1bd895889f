/-
  wire: Swap, Waiting.
-/
import Derived.Test.YtboomeeipnfbmaaWQ7
import Derived.Deep.RegionHeld3
namespace Go.Proofs.Ytboomeeipnfbmaa
open Go.RowKit
attribute [local go_sem ↓] Go.wp_at_zero Go.wp_at_succ

theorem swp_pi {α : Type} {l : List α} {i j : Nat} {x y : α} (hx : l[i]? = some x) (hy : l[j]? = some y) (k : Nat) : ((l.set i y).set j x)[k]? = l[piW i j k]? := by
  have hi := (List.getElem?_eq_some_iff.1 hx).1
  have hj := (List.getElem?_eq_some_iff.1 hy).1
  unfold piW
  by_cases h1 : k = j
  · subst h1
    rw [if_pos rfl, List.getElem?_set_self (by rw [List.length_set]; exact hj), hx]
  · rw [if_neg h1, List.getElem?_set_ne (by omega)]
    by_cases h2 : k = i
    · subst h2
      rw [if_pos rfl, List.getElem?_set_self hi, hy]
    · rw [if_neg h2, List.getElem?_set_ne (by omega)]
/-- Two messages change their places. -/
theorem WyX.swap {B : Nat} {T : Nat → Prop} {g g' m cap : Nat} {s : WrW} {Z : List (MsW × Value)} {Y : World} (h : WyX B T g s Z (.slice (some ⟨g', 0, none⟩) m cap) Y) {i j : Nat} {x y : MsW × Value} (hx : Z[i]? = some x) (hy : Z[j]? = some y) (ho : (WrW.mk (swpR s.row i j) s.gv).Ok) :
    WyX B T g ⟨swpR s.row i j, s.gv⟩ ((Z.set i y).set j x) (.slice (some ⟨g', 0, none⟩) m cap) ((((Y.setCell ⟨g', i * 2, none⟩ (.int .i64 (y.1.n : Int))).setCell ⟨g', i * 2 + 1, none⟩ y.2).setCell ⟨g', j * 2, none⟩ (.int .i64 (x.1.n : Int))).setCell ⟨g', j * 2 + 1, none⟩ x.2) := by
  have hm : m = Z.length := by
    obtain ⟨a', c', e, -⟩ := row7_form h.a
    simp only [Value.slice.injEq] at e
    exact e.2.1
  subst hm
  have hg1 : g' ≠ g := fun e => h.ne (by rw [e]; rfl)
  have hfr : Fr (fun b => b = g') Y ((((Y.setCell ⟨g', i * 2, none⟩ (.int .i64 (y.1.n : Int))).setCell ⟨g', i * 2 + 1, none⟩ y.2).setCell ⟨g', j * 2, none⟩ (.int .i64 (x.1.n : Int))).setCell ⟨g', j * 2 + 1, none⟩ x.2) := ((((Fr.refl (fun b => b = g') Y).set (Or.inl rfl)).set (Or.inl rfl)).set (Or.inl rfl)).set (Or.inl rfl)
  have hmem : ∀ {r : MsW × Value}, r ∈ (Z.set i y).set j x → r ∈ Z := fun {r} hr => by
    rcases List.mem_or_eq_of_mem_set hr with hr | rfl
    · rcases List.mem_or_eq_of_mem_set hr with hr | rfl
      · exact hr
      · exact List.mem_of_getElem? hy
    · exact List.mem_of_getElem? hx
  have hxr : s.row[i]? = some x.1 := by rw [← h.z, List.getElem?_map, hx]; rfl
  have hyr : s.row[j]? = some y.1 := by rw [← h.z, List.getElem?_map, hy]; rfl
  refine ⟨ho, by rw [List.map_set, List.map_set, h.z, swpR_at hxr hyr], h.b.fr hfr (fun e => hg1 e.symm), ?_, fun r hr => ?_, fun r hr hn z hz => ?_, fun a b p q z ha hb hp hq h1 h2 => ?_, h.ta, h.tg, fun b hb => by rw [show ((((Y.setCell ⟨g', i * 2, none⟩ (.int .i64 (y.1.n : Int))).setCell ⟨g', i * 2 + 1, none⟩ y.2).setCell ⟨g', j * 2, none⟩ (.int .i64 (x.1.n : Int))).setCell ⟨g', j * 2 + 1, none⟩ x.2).heap.size = Y.heap.size by simp]; exact h.t b hb⟩
  · rw [List.length_set, List.length_set, List.map_set, List.map_set]
    have e1 : zcW x = (.int .i64 (x.1.n : Int), x.2) := rfl
    have e2 : zcW y = (.int .i64 (y.1.n : Int), y.2) := rfl
    rw [e1, e2, twoW_set, twoW_set]
    exact ((((h.a.stored (i * 2) _).1.stored (i * 2 + 1) _).1.stored (j * 2) _).1.stored (j * 2 + 1) _).1
  · exact (h.u r (hmem hr)).fr hfr fun b _ hF e => hF.2.2 (by rw [e]; rfl)
  · obtain ⟨cur, hc⟩ := h.w r (hmem hr) hn z hz
    obtain ⟨x', e, hT, -⟩ := (h.u r (hmem hr)).own hn
    rw [hz] at e; cases e
    exact ⟨cur, hc.fr hfr fun e => hT.2.2 (by rw [e]; rfl)⟩
  · rw [swp_pi hx hy] at ha hb
    exact piW_inj (h.d _ _ p q z ha hb hp hq h1 h2)
set_option maxRecDepth 20000 in
set_option maxHeartbeats 4000000 in
theorem yswp_any {B : Nat} {T : Nat → Prop} {v : Value} {s : WrW} {Y : World} (h : WyW B T v s Y) (n m : Int) :
    Calls Try.prog 16 #[v, .int .i64 n, .int .i64 m] Y fun e Y' => e = .returned (.int .i64 (swpE s n m)) ∧ WkW B T v (swpS s n m) Y Y' := by
  have HW := hm7 h
  obtain ⟨g, Z, rv, rfl, h⟩ := h
  have H := hm7 h
  cases hp : plW s n with
  | none =>
    have HC : Hid (∀ w, Below Y.heap.size Y w → Calls Try.prog 27 #[.pointer (some ⟨g, 0, none⟩), .int .i64 n] w fun e Y' => e = .returned (.tuple #[.int .i64 (-1), .bool false]) ∧ Below w.heap.size w Y') := fun w hb => place_none (H.out.below hb) hp
    have HC2 : Hid (∀ w, Below Y.heap.size Y w → Calls Try.prog 27 #[.pointer (some ⟨g, 0, none⟩), .int .i64 m] w fun e Y' => e = .returned (.tuple #[.int .i64 (plI s m), .bool (decide (0 ≤ plI s m))]) ∧ Below w.heap.size w Y') := fun w hb => wplaceW_any (H.out.below hb) m
    have e1 : swpE s n m = 231 := by unfold swpE; rw [hp]
    have e3 : swpS s n m = s := by unfold swpS; rw [hp]
    rw [e1, e3]
    have HB0 := hm7 (Below.refl Y.heap.size Y)
    obtain ⟨zi, hzi⟩ : ∃ zi, plI s m = zi := ⟨_, rfl⟩
    rw [hzi] at HC2
    obtain ⟨zb, hzb⟩ : ∃ zb, decide (0 ≤ zi) = zb := ⟨_, rfl⟩
    rw [hzb] at HC2
    clear h hp e1 e3 hzi hzb
    go_enter Try.func16, Try.ntmps16
    go_upto_region 2 with (go_at_call 27; refine (HC.out _ HB0.out).mono ?_; rintro e w1 ⟨rfl, hb1⟩; have HB1 := hm7 hb1; clear hb1)
    go_wp2_with (go_at_call 27; refine (HC2.out _ HB1.out).mono ?_; rintro e w2 ⟨rfl, hb2⟩; have HB2 := hm7 (bel_step HB1.out hb2); clear hb2)
    go_ret
    exact ⟨rfl, WkW.keep HW.out HB2.out⟩
  | some i =>
    have HC : Hid (∀ w, Below Y.heap.size Y w → Calls Try.prog 27 #[.pointer (some ⟨g, 0, none⟩), .int .i64 n] w fun e Y' => e = .returned (.tuple #[.int .i64 (i : Int), .bool true]) ∧ Below w.heap.size w Y') := fun w hb => place_some (H.out.below hb) hp
    have HB0 := hm7 (Below.refl Y.heap.size Y)
    cases hq : plW s m with
    | none =>
      have HC2 : Hid (∀ w, Below Y.heap.size Y w → Calls Try.prog 27 #[.pointer (some ⟨g, 0, none⟩), .int .i64 m] w fun e Y' => e = .returned (.tuple #[.int .i64 (-1), .bool false]) ∧ Below w.heap.size w Y') := fun w hb => place_none (H.out.below hb) hq
      have e1 : swpE s n m = 231 := by unfold swpE; rw [hp, hq]
      have e3 : swpS s n m = s := by unfold swpS; rw [hp, hq]
      rw [e1, e3]
      clear h hp e1 e3 hq
      go_enter Try.func16, Try.ntmps16
      go_upto_region 2 with (go_at_call 27; refine (HC.out _ HB0.out).mono ?_; rintro e w1 ⟨rfl, hb1⟩; have HB1 := hm7 hb1; clear hb1)
      go_wp2_with (go_at_call 27; refine (HC2.out _ HB1.out).mono ?_; rintro e w2 ⟨rfl, hb2⟩; have HB2 := hm7 (bel_step HB1.out hb2); clear hb2)
      go_ret
      exact ⟨rfl, WkW.keep HW.out HB2.out⟩
    | some j =>
      have HC2 : Hid (∀ w, Below Y.heap.size Y w → Calls Try.prog 27 #[.pointer (some ⟨g, 0, none⟩), .int .i64 m] w fun e Y' => e = .returned (.tuple #[.int .i64 (j : Int), .bool true]) ∧ Below w.heap.size w Y') := fun w hb => place_some (H.out.below hb) hq
      have e1 : swpE s n m = 0 := by unfold swpE; rw [hp, hq]
      have e3 : swpS s n m = ⟨swpR s.row i j, s.gv⟩ := by unfold swpS; rw [hp, hq]
      have hokS := swpS_ok h.ok n m
      rw [e3] at hokS
      rw [e1, e3]
      obtain ⟨x, hx, -, -, -, hi, hz, -⟩ := h.row_at hp
      obtain ⟨y, hy, -, -, -, hj, -, -⟩ := h.row_at hq
      obtain ⟨aa, cap, hav, -⟩ := row7_form h.a
      obtain ⟨M, hM⟩ : ∃ M, Z.length = M := ⟨_, rfl⟩
      rw [hM] at hav hi hz hj
      subst hav
      have i0 : (0 : Int) ≤ (i : Int) := by omega
      have i1 : (i : Int) < (M : Int) := by omega
      have j0 : (0 : Int) ≤ (j : Int) := by omega
      have j1 : (j : Int) < (M : Int) := by omega
      have HX := hm7 hx
      have HY := hm7 hy
      have HO := hm7 hokS
      clear h hp e1 e3 hq hx hy hokS hM
      go_enter Try.func16, Try.ntmps16
      go_upto_region 2 with (go_at_call 27; refine (HC.out _ HB0.out).mono ?_; rintro e w1 ⟨rfl, hb1⟩; have HB1 := hm7 hb1; clear hb1)
      go_upto_region 5 with (go_at_call 27; refine (HC2.out _ HB1.out).mono ?_; rintro e w2 ⟨rfl, hb2⟩; have HB2 := hm7 (bel_step HB1.out hb2); clear hb2)
      have hh := H.out.below HB2.out
      have c0 : w2.cell? ⟨g, 0, none⟩ = some (.slice aa M cap) := hh.b.cell (i := 0) rfl
      obtain ⟨g', rfl, -, hgl, hgg, -, p0, p1, pf, -⟩ := hh.at_ HX.out
      obtain ⟨_, eg, -, -, -, -, q0, q1, -, -⟩ := hh.at_ HY.out
      cases eg
      obtain ⟨xb, xc, xl, hxu⟩ : ∃ a n c, x.2 = .slice a n c := by obtain ⟨a, c, e, -⟩ := (hh.u x (List.mem_of_getElem? HX.out)).form; exact ⟨_, _, _, e⟩
      obtain ⟨yb, yc, yl, hyu⟩ : ∃ a n c, y.2 = .slice a n c := by obtain ⟨a, c, e, -⟩ := (hh.u y (List.mem_of_getElem? HY.out)).form; exact ⟨_, _, _, e⟩
      have HS := hm7 (hh.swap HX.out HY.out HO.out)
      rw [hxu, hyu] at HS
      rw [hxu] at p1
      rw [hyu] at q1
      obtain ⟨xn, hxn⟩ : ∃ xn : Int, (x.1.n : Int) = xn := ⟨_, rfl⟩
      obtain ⟨yn, hyn⟩ : ∃ yn : Int, (y.1.n : Int) = yn := ⟨_, rfl⟩
      rw [hxn] at p0
      rw [hyn] at q0
      rw [hxn, hyn] at HS
      have ex : ∀ (W : World) (k k2 : Nat) (u v : Value), W.cell? ⟨g', k2, none⟩ = some u → ∃ u', (W.setCell ⟨g', k, none⟩ v).cell? ⟨g', k2, none⟩ = some u' := fun W k k2 u v hu => cell?_setCell_some hu
      obtain ⟨r1, k1⟩ := ex w2 (i * 2) (i * 2 + 1) _ (.int .i64 yn) p1
      obtain ⟨r2, k2⟩ := ex _ (i * 2 + 1) (j * 2) _ (.slice yb yc yl) (ex w2 (i * 2) (j * 2) _ (.int .i64 yn) q0).choose_spec
      obtain ⟨r3, k3⟩ := ex _ (j * 2) (j * 2 + 1) _ (.int .i64 xn) (ex _ (i * 2 + 1) (j * 2 + 1) _ (.slice yb yc yl) (ex w2 (i * 2) (j * 2 + 1) _ (.int .i64 yn) q1).choose_spec).choose_spec
      have hTA := H.out.ta g' rfl
      clear hh hxu hyu hxn hyn ex
      go_region
      all_goals
        go_wp2
        go_ret
        exact ⟨rfl, (Fr.of HB2.out).tr ((((((Fr.refl T _).set (Or.inl hTA)).set (Or.inl hTA)).set (Or.inl hTA)).set (Or.inl hTA)).drew), T, ⟨g, _, _, rfl, HS.out.same (Nat.le_refl _) fun b _ _ => rfl⟩, fun _ hx => Or.inl hx⟩
end Go.Proofs.Ytboomeeipnfbmaa
