/-
  The reference writes: atom, Atom.
-/
import Derived.Test.YtjnipcakjoiplaaDoorCD4
namespace Go.Proofs.YtjnipcakjoiplaaDoor
open Go.RowKit

set_option maxRecDepth 20000 in
set_option maxHeartbeats 4000000 in
theorem ratomB_any (a : At) (ha : Fit a) (y : Value) (w : World) (hy : Ts w y a.args) :
    Calls Tryd.prog 18 #[a.v y] w fun e w' => ∃ v', e = .returned v' ∧ OwnB w' w.heap.size v' (aB a) ∧ Below w.heap.size w w' := by
  obtain ⟨t, nm, m⟩ := a
  obtain ⟨f1, f2, f3, f4⟩ := ha
  simp only at f1 f2 f3 f4 hy
  have HT : Hid (∀ X : World, Calls Tryd.prog 35 #[t.v] X fun e w' => ∃ v', e = .returned v' ∧ OwnB w' X.heap.size v' (tB t) ∧ Below X.heap.size X w') := fun X => rterm_any t f1 X
  have hl1 : (tB t).length ≤ 100 := by have := (tB_len t).2; have := f1.2; omega
  have HF : Hid (∀ u ∈ m, knd u) := f4
  have HY : Hid (∀ X, Below w.heap.size w X → Ts X y m) := fun X hX => hy.later hX
  have hm1 : (nm.size : Int) % 256 = (nm.size : Int) := by omega
  have hm2 : (m.length : Int) % 256 = (m.length : Int) := by omega
  have HE : Hid (aB ⟨t, nm, m⟩ = tB t ++ [(nm.size : Int)] ++ bl nm ++ [(m.length : Int)] ++ tBs m m.length) := by show _ = _; simp [aB, sB, tBs, List.append_assoc]
  obtain ⟨ad, cap, rfl, -, -⟩ := hy
  clear f1 f4
  obtain ⟨T, hT⟩ : ∃ T, tB t = T := ⟨_, rfl⟩
  rw [hT] at HT hl1 HE
  clear hT
  obtain ⟨k, n, s⟩ := t
  go_enter Tryd.func18, Tryd.ntmps18
  go_upto_region 5 with (first
    | (go_at_call 35; refine (HT.out _).mono ?_; rintro e w1 ⟨v1, rfl, ho1, hb1⟩; have HO1 : Hid (OwnB w1 w.heap.size v1 T) := ho1.mono (by simp); have HB1 : Hid (Below w.heap.size w w1) := below_step (below1 _ _) hb1; have B1 := (Blk.new w #[.int .i64 k, .int .i64 n, .string s, .string nm, .slice ad m.length cap] 26).later hb1; have HK1 : Hid (Blk _ _ _ _) := B1; obtain ⟨p0, p1, p2, p3, p4⟩ := five B1; have hz1 := HB1.out.size; clear ho1 hb1 B1)
    | (at_builtin; refine app8 rfl _ _ rfl w.heap.size v1 T rfl (HO1.out.later (below1 _ _)) w1.heap.size [(nm.size : Int)] rfl (heap_alloc_new w1 _) (by simp) (by simp only [List.length_cons, List.length_nil]; omega) (by simp; omega) ?_; intro v2 w2 ho2; have HO2 : Hid (Wr w1 w.heap.size _ v2 w2) := Wr.ahead (below1 _ _) hz1 ho2; have hz2 := HO2.out.low.size; have B2 := HK1.out.k8 HO2.out.k8 (by decide); have HK2 : Hid (Blk _ _ _ _) := B2; clear p0 p1 p2 p3 p4; obtain ⟨p0, p1, p2, p3, p4⟩ := five B2; clear ho2 B2)
    | (at_builtin; refine app8s rfl _ _ rfl w.heap.size v2 (T ++ [(nm.size : Int)]) rfl HO2.out.own nm rfl (by simp; omega) (by omega) ?_; intro v3 w3 ho3; have HO3 : Hid (Wr w1 w.heap.size _ v3 w3) := HO2.out.step ho3; have hz3 := HO3.out.low.size; have B3 := HK1.out.k8 HO3.out.k8 (by decide); have HK3 : Hid (Blk _ _ _ _) := B3; clear p0 p1 p2 p3 p4; obtain ⟨p0, p1, p2, p3, p4⟩ := five B3; clear ho3 B3)
    | (at_builtin; refine app8 rfl _ _ rfl w.heap.size v3 (T ++ [(nm.size : Int)] ++ bl nm) rfl (HO3.out.own.later (below1 _ _)) w3.heap.size [(m.length : Int)] rfl (heap_alloc_new w3 _) (by simp) (by simp only [List.length_append, List.length_cons, List.length_nil, bl_len]; omega) (by simp; omega) ?_; intro v4 w4 ho4; have HO4 : Hid (Wr w1 w.heap.size _ v4 w4) := HO3.out.step (Wr.ahead (below1 _ _) (by omega) ho4); have hz4 := HO4.out.low.size; have B4 := HK1.out.k8 HO4.out.k8 (by decide); have HK4 : Hid (Blk _ _ _ _) := B4; clear p0 p1 p2 p3 p4; clear ho4 B4))
  go_wp2
  go_loopg [3, 4] m.length (fun g u i wr => ∃ j : Nat, j + g = m.length ∧ i = .int .i64 j ∧ Wr w1 w.heap.size (T ++ [(nm.size : Int)] ++ bl nm ++ [(m.length : Int)] ++ tBs m j) u wr)
  case atStart => exact ⟨0, by omega, rfl, by rw [show tBs m 0 = [] from rfl, List.append_nil]; exact HO4.out⟩
  case round =>
    obtain ⟨j, hj, rfl, hw⟩ := hrel
    have HWr : Hid (Wr w1 w.heap.size (T ++ [(nm.size : Int)] ++ bl nm ++ [(m.length : Int)] ++ tBs m j) u3 wr) := hw
    have hsz := hw.low.size
    have hbw : Below w.heap.size w wr := HB1.out.trans hw.low
    have HBw : Hid (Below w.heap.size w wr) := hbw
    obtain ⟨p0, p1, p2, p3, p4⟩ := five (HK1.out.k8 hw.k8 (by decide))
    have HKr : Hid (Blk wr _ _ _) := HK1.out.k8 hw.k8 (by decide)
    clear hw
    cases gk with
    | succ g =>
      have hlt : j < m.length := by omega
      obtain ⟨t, ht⟩ : ∃ t, m[j]? = some t := ⟨_, List.getElem?_eq_getElem hlt⟩
      obtain ⟨ad', cap', hx, -, hxx⟩ := HY.out _ hbw
      clear hbw
      simp only [Value.slice.injEq] at hx
      obtain ⟨rfl, -, rfl⟩ := hx
      rcases hxx with hxx | ⟨b, o, rfl, hbs, hxx⟩
      · subst hxx; simp at hlt
      · obtain ⟨c0, c1, c2⟩ := hxx j _ ht
        have hlen : (T ++ [(nm.size : Int)] ++ bl nm ++ [(m.length : Int)] ++ tBs m j).length ≤ 60100000 := by
          have := tBs_len HF.out j
          simp only [List.length_append, List.length_cons, List.length_nil, bl_len]; omega
        have hlt8 : 0 < (tB t).length ∧ (tB t).length ≤ 100 := by have := tB_len t; have := (HF.out t (List.mem_of_getElem? ht)).2; omega
        have HS : Hid (tBs m (j + 1) = tBs m j ++ tB t) := tBs_succ ht
        have HPT : Hid (∀ X : World, Calls Tryd.prog 35 #[t.v] X fun e w' => ∃ v', e = .returned v' ∧ OwnB w' X.heap.size v' (tB t) ∧ Below X.heap.size X w') := fun X => rterm_any t (HF.out t (List.mem_of_getElem? ht)) X
        obtain ⟨U, hU⟩ : ∃ U, tB t = U := ⟨_, rfl⟩
        rw [hU] at HPT hlt8 HS
        clear hU
        obtain ⟨tk, tn, ts⟩ := t
        simp only at c0 c1 c2
        clear hxx ht
        have i1 : (0 : Int) ≤ (j : Int) := by omega
        have i2 : (j : Int) < (m.length : Int) := by omega
        go_wp2_with (first
          | (go_at_call 35; refine (HPT.out _).mono ?_; rintro e w5 ⟨v5, rfl, ho5, hb5⟩; have HO5 : Hid (OwnB w5 _ v5 U) := ho5; have HB5 : Hid (Below wr.heap.size wr w5) := hb5; have hz5 := hb5.size; clear ho5 hb5)
          | (at_builtin; refine app8w rfl _ _ rfl w.heap.size u3 _ rfl (HWr.out.own.later HB5.out) v5 _ U rfl HO5.out hlt8.1 (by omega) (by omega) ?_; intro v6 w6 ho6))
        go_roundg g
        case measure => omega
        case rel =>
          refine ⟨j + 1, by omega, by go_num, ?_⟩
          rw [HS.out, ← List.append_assoc]
          exact HWr.out.step (Wr.ahead HB5.out (by omega) ho6)
    | zero =>
      obtain rfl : j = m.length := by omega
      have hz : ¬ ((m.length : Int) < (m.length : Int)) := by omega
      clear hbw
      go_wp2
      go_ret
      exact ⟨_, rfl, by rw [HE.out]; exact HWr.out.own, HBw.out⟩
set_option maxRecDepth 20000 in
set_option maxHeartbeats 2000000 in
theorem ratomW_no (a : At) (y : Value) (w : World) (hy : Ts w y a.args) (he : a.err ≠ 0) :
    Calls Tryd.prog 6 #[a.v y] w fun e w' => e = .returned (.tuple #[.slice none 0 0, .int .i64 a.err]) ∧ Below w.heap.size w w' := by
  have HC : Hid (∀ X, Below w.heap.size w X → Calls Tryd.prog 17 #[a.v y] X fun e w' => e = .returned (.int .i64 a.err) ∧ Below X.heap.size X w') := fun X hX => rchk_any a y X (hy.later hX)
  obtain ⟨c, hc⟩ : ∃ c, a.err = c := ⟨_, rfl⟩
  rw [hc] at HC he ⊢
  have hne : (c != 0) = true := by simpa using he
  obtain ⟨ad, cap, rfl, -, -⟩ := hy
  obtain ⟨⟨k, n, s⟩, nm, m⟩ := a
  clear he hc
  go_enter Tryd.func6, Tryd.ntmps6
  go_wp2_with (go_at_call 17; refine (HC.out _ (below1 _ _)).mono ?_; rintro e w1 ⟨rfl, hb1⟩)
  exact bodyPost_ret (v := .tuple #[.slice none 0 0, .int .i64 c]) (by simp [results, Tryd.results6, go_sem]) rfl ⟨rfl, below_step (below1 _ _) hb1⟩
set_option maxRecDepth 20000 in
set_option maxHeartbeats 2000000 in
theorem ratomW_ok (a : At) (y : Value) (w : World) (hy : Ts w y a.args) (he : a.err = 0) :
    Calls Tryd.prog 6 #[a.v y] w fun e w' => ∃ v, e = .returned (.tuple #[v, .int .i64 0]) ∧ OwnB w' w.heap.size v (aB a) ∧ Below w.heap.size w w' := by
  have HC : Hid (∀ X, Below w.heap.size w X → Calls Tryd.prog 17 #[a.v y] X fun e w' => e = .returned (.int .i64 0) ∧ Below X.heap.size X w') := fun X hX => by rw [← he]; exact rchk_any a y X (hy.later hX)
  have HP : Hid (∀ X : World, Below w.heap.size w X → Calls Tryd.prog 18 #[a.v y] X fun e w' => ∃ v', e = .returned v' ∧ OwnB w' X.heap.size v' (aB a) ∧ Below X.heap.size X w') := fun X hX => ratomB_any a (fit_of he) y X (hy.later hX)
  obtain ⟨ad, cap, rfl, -, -⟩ := hy
  obtain ⟨⟨k, n, s⟩, nm, m⟩ := a
  clear he
  go_enter Tryd.func6, Tryd.ntmps6
  go_wp2_with (first
    | (go_at_call 17; refine (HC.out _ (below1 _ _)).mono ?_; rintro e w1 ⟨rfl, hb1⟩; obtain ⟨p0, p1, p2, p3, p4⟩ := five ((Blk.new w #[.int .i64 k, .int .i64 n, .string s, .string nm, .slice ad m.length cap] 26).later hb1); have HB1 : Hid (Below w.heap.size w w1) := below_step (below1 _ _) hb1; have hz1 := HB1.out.size; clear hb1)
    | (go_at_call 18; refine (HP.out _ HB1.out).mono ?_; rintro e w2 ⟨v2, rfl, hw2, hb2⟩))
  exact bodyPost_ret (v := .tuple #[v2, .int .i64 0]) (by simp [results, Tryd.results6, go_sem]) rfl ⟨v2, rfl, hw2.mono hz1, below_step HB1.out hb2⟩
end Go.Proofs.YtjnipcakjoiplaaDoor
