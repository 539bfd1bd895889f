import Derived.Test.YtjnipcakjoiplaaGreatDoorCD3
/-
  The reference writes: be, term, atom, Atom.
-/
namespace Go.Proofs.YtjnipcakjoiplaaGreatDoor
open Go.RowKit

set_option maxRecDepth 20000 in
set_option maxHeartbeats 1000000 in
theorem rbe_any (k : Nat) (hk : k ≤ 8) (n : Int) (w : World) :
    Calls Tryz.prog 74 #[.int .u64 n, .int .i64 k] w fun e w' => ∃ v', e = .returned v' ∧ OwnB w' w.heap.size v' (be k n) ∧ Below w.heap.size w w' := by
  go_enter Tryz.func74, Tryz.ntmps74
  go_wp2
  go_loopg [5, 6] k (fun g u i wr => ∃ j : Nat, j + g = k ∧ i = .int .i64 ((g : Int) - 1) ∧ OwnB wr w.heap.size u ((be k n).take j) ∧ Below w.heap.size w wr)
  case atStart => exact ⟨0, by omega, by simp, by rw [List.take_zero]; exact ownB_nil _ _, Below.refl _ _⟩
  case round =>
    obtain ⟨j, hj, rfl, hw, hb⟩ := hrel
    have HW : Hid (OwnB wr w.heap.size u5 ((be k n).take j)) := hw
    have HB : Hid (Below w.heap.size w wr) := hb
    have hsz := hb.size
    clear hw hb
    cases gk with
    | succ g =>
      have e1 : ((g + 1 : Nat) : Int) - 1 = (g : Int) := by omega
      rw [e1]
      have i0 : (0 : Int) ≤ (g : Int) := by omega
      have i8 : (g : Int) ≤ 7 := by omega
      have hlen : ((be k n).take j).length ≤ 8 := by rw [List.length_take, be_len]; omega
      go_wp2_with (at_builtin; refine app8 rfl _ _ rfl w.heap.size u5 ((be k n).take j) rfl (HW.out.later (below1 _ _)) wr.heap.size [n / 2 ^ (8 * g) % 256] rfl (heap_alloc_new wr _) (by simp) (by simp only [List.length_cons, List.length_nil]; omega) (by simp; omega) ?_; intro v' w1 ho1)
      go_roundg g
      case measure => omega
      case rel =>
        refine ⟨j + 1, by omega, by go_num, ?_, HB.out.trans (((below1 _ _).mono (by omega)).trans ho1.low)⟩
        have e : (be k n).take (j + 1) = (be k n).take j ++ [n / 2 ^ (8 * g) % 256] := by rw [be_take k j n (by omega), pow8]; congr 5; omega
        rw [e]
        exact ho1.own
    | zero =>
      obtain rfl : j = k := by omega
      go_wp2
      go_ret
      refine ⟨_, rfl, ?_, HB.out⟩
      have := HW.out
      rwa [List.take_of_length_le (by rw [be_len]; exact Nat.le_refl _)] at this
set_option maxRecDepth 20000 in
set_option maxHeartbeats 2000000 in
theorem rterm_any (t : Tm) (ht : knd t) (w : World) :
    Calls Tryz.prog 45 #[t.v] w fun e w' => ∃ v', e = .returned v' ∧ OwnB w' w.heap.size v' (tB t) ∧ Below w.heap.size w w' := by
  obtain ⟨k, n, s⟩ := t
  obtain ⟨hk, hs⟩ := ht
  simp only at hk hs
  have HBE : Hid (∀ X : World, Calls Tryz.prog 74 #[.int .u64 (n % 18446744073709551616), .int .i64 8] X fun e w' => ∃ v', e = .returned v' ∧ OwnB w' X.heap.size v' (be 8 (n % 18446744073709551616)) ∧ Below X.heap.size X w') := fun X => rbe_any 8 (Nat.le_refl _) _ X
  have hl8 : (be 8 (n % 18446744073709551616)).length = 8 := be_len _ _
  rcases hk with rfl | rfl | rfl | rfl
  · have HE : Hid (tB ⟨0, n, s⟩ = [0]) := by show _ = _; simp [tB]
    go_enter Tryz.func45, Tryz.ntmps45
    go_wp2
    go_ret
    refine ⟨_, rfl, ?_, below2 _ _ _⟩
    rw [HE.out]
    have := OwnB.lit (w.alloc (.cells #[.int .i64 0, .int .i64 n, .string s] 23)) [0] (by simp)
    rw [show (w.alloc (.cells #[.int .i64 0, .int .i64 n, .string s] 23)).heap.size = w.heap.size + 1 by simp] at this
    exact this.mono (by omega)
  · have HE : Hid (tB ⟨1, n, s⟩ = [1] ++ be 8 (n % 18446744073709551616)) := by show _ = _; simp [tB]
    have HL : Hid (OwnB ((w.alloc (.cells #[.int .i64 1, .int .i64 n, .string s] 23)).alloc (.cells #[.int .u8 1] 5)) (w.heap.size + 1) (.slice (some ⟨w.heap.size + 1, 0, none⟩) 1 1) [1]) := by
      have := OwnB.lit (w.alloc (.cells #[.int .i64 1, .int .i64 n, .string s] 23)) [1] (by simp)
      rw [show (w.alloc (.cells #[.int .i64 1, .int .i64 n, .string s] 23)).heap.size = w.heap.size + 1 by simp] at this
      exact this
    go_enter Tryz.func45, Tryz.ntmps45
    go_wp2_with (first
      | (go_at_call 74; refine (HBE.out _).mono ?_; rintro e w1 ⟨v1, rfl, ho1, hb1⟩; have HO1 : Hid (OwnB w1 _ v1 _) := ho1; have HB1 : Hid (Below w.heap.size w w1) := below_step (below2 _ _ _) hb1; have HL1 : Hid (OwnB w1 _ _ [1]) := HL.out.later hb1; have hz : w.heap.size + 2 ≤ w1.heap.size := (by have := hb1.size; simpa using this); clear ho1 hb1)
      | (at_builtin; refine app8w rfl _ _ rfl (w.heap.size + 1) _ [1] rfl HL1.out v1 _ _ rfl HO1.out (by rw [hl8]; omega) (by rw [hl8]; simp) (by omega) ?_; intro v2 w2 ho2))
    go_ret
    exact ⟨_, rfl, by rw [HE.out]; exact ho2.own.mono (by omega), HB1.out.trans (ho2.low.mono (by omega))⟩
  · have HE : Hid (tB ⟨2, n, s⟩ = [2, (s.size : Int)] ++ bl s) := by show _ = _; simp [tB, sB]
    have hm : (s.size : Int) % 256 = (s.size : Int) := by omega
    have HL : Hid (OwnB ((w.alloc (.cells #[.int .i64 2, .int .i64 n, .string s] 23)).alloc (.cells #[.int .u8 2, .int .u8 (s.size : Int)] 5)) (w.heap.size + 1) (.slice (some ⟨w.heap.size + 1, 0, none⟩) 2 2) [2, (s.size : Int)]) := by
      have := OwnB.lit (w.alloc (.cells #[.int .i64 2, .int .i64 n, .string s] 23)) [2, (s.size : Int)] (by simp)
      rw [show (w.alloc (.cells #[.int .i64 2, .int .i64 n, .string s] 23)).heap.size = w.heap.size + 1 by simp] at this
      exact this
    go_enter Tryz.func45, Tryz.ntmps45
    go_wp2_with (at_builtin; refine app8s rfl _ _ rfl (w.heap.size + 1) _ [2, (s.size : Int)] rfl HL.out s rfl (by simp; omega) (by simp) ?_; intro v2 w2 ho2)
    go_ret
    exact ⟨_, rfl, by rw [HE.out]; exact ho2.own.mono (by omega), (below2 _ _ _).trans (ho2.low.mono (by omega))⟩
  · have HE : Hid (tB ⟨3, n, s⟩ = [3] ++ be 8 (n % 18446744073709551616)) := by show _ = _; simp [tB]
    have HL : Hid (OwnB ((w.alloc (.cells #[.int .i64 3, .int .i64 n, .string s] 23)).alloc (.cells #[.int .u8 3] 5)) (w.heap.size + 1) (.slice (some ⟨w.heap.size + 1, 0, none⟩) 1 1) [3]) := by
      have := OwnB.lit (w.alloc (.cells #[.int .i64 3, .int .i64 n, .string s] 23)) [3] (by simp)
      rw [show (w.alloc (.cells #[.int .i64 3, .int .i64 n, .string s] 23)).heap.size = w.heap.size + 1 by simp] at this
      exact this
    go_enter Tryz.func45, Tryz.ntmps45
    go_wp2_with (first
      | (go_at_call 74; refine (HBE.out _).mono ?_; rintro e w1 ⟨v1, rfl, ho1, hb1⟩; have HO1 : Hid (OwnB w1 _ v1 _) := ho1; have HB1 : Hid (Below w.heap.size w w1) := below_step (below2 _ _ _) hb1; have HL1 : Hid (OwnB w1 _ _ [3]) := HL.out.later hb1; have hz : w.heap.size + 2 ≤ w1.heap.size := (by have := hb1.size; simpa using this); clear ho1 hb1)
      | (at_builtin; refine app8w rfl _ _ rfl (w.heap.size + 1) _ [3] rfl HL1.out v1 _ _ rfl HO1.out (by rw [hl8]; omega) (by rw [hl8]; simp) (by omega) ?_; intro v2 w2 ho2))
    go_ret
    exact ⟨_, rfl, by rw [HE.out]; exact ho2.own.mono (by omega), HB1.out.trans (ho2.low.mono (by omega))⟩
end Go.Proofs.YtjnipcakjoiplaaGreatDoor
/-
  The reference writes: atom, Atom.
-/
namespace Go.Proofs.YtjnipcakjoiplaaGreatDoor
open Go.RowKit

set_option maxRecDepth 20000 in
set_option maxHeartbeats 4000000 in
theorem ratomB_any (a : At) (ha : Fit a) (y : Value) (w : World) (hy : Ts w y a.args) :
    Calls Tryz.prog 44 #[a.v y] w fun e w' => ∃ v', e = .returned v' ∧ OwnB w' w.heap.size v' (aB a) ∧ Below w.heap.size w w' := by
  obtain ⟨t, nm, m⟩ := a
  obtain ⟨f1, f2, f3, f4⟩ := ha
  simp only at f1 f2 f3 f4 hy
  have HT : Hid (∀ X : World, Calls Tryz.prog 45 #[t.v] X fun e w' => ∃ v', e = .returned v' ∧ OwnB w' X.heap.size v' (tB t) ∧ Below X.heap.size X w') := fun X => rterm_any t f1 X
  have hl1 : (tB t).length ≤ 100 := by have := (tB_len t).2; have := f1.2; omega
  have HF : Hid (∀ u ∈ m, knd u) := f4
  have HY : Hid (∀ X, Below w.heap.size w X → Ts X y m) := fun X hX => hy.later hX
  have hm1 : (nm.size : Int) % 256 = (nm.size : Int) := by omega
  have hm2 : (m.length : Int) % 256 = (m.length : Int) := by omega
  have HE : Hid (aB ⟨t, nm, m⟩ = tB t ++ [(nm.size : Int)] ++ bl nm ++ [(m.length : Int)] ++ tBs m m.length) := by show _ = _; simp [aB, sB, tBs, List.append_assoc]
  obtain ⟨ad, cap, rfl, -, -⟩ := hy
  clear f1 f4
  obtain ⟨T, hT⟩ : ∃ T, tB t = T := ⟨_, rfl⟩
  rw [hT] at HT hl1 HE
  clear hT
  obtain ⟨k, n, s⟩ := t
  go_enter Tryz.func44, Tryz.ntmps44
  go_upto_region 5 with (first
    | (go_at_call 45; refine (HT.out _).mono ?_; rintro e w1 ⟨v1, rfl, ho1, hb1⟩; have HO1 : Hid (OwnB w1 w.heap.size v1 T) := ho1.mono (by simp); have HB1 : Hid (Below w.heap.size w w1) := below_step (below1 _ _) hb1; have B1 := (Blk.new w #[.int .i64 k, .int .i64 n, .string s, .string nm, .slice ad m.length cap] 26).later hb1; have HK1 : Hid (Blk _ _ _ _) := B1; obtain ⟨p0, p1, p2, p3, p4⟩ := five B1; have hz1 := HB1.out.size; clear ho1 hb1 B1)
    | (at_builtin; refine app8 rfl _ _ rfl w.heap.size v1 T rfl (HO1.out.later (below1 _ _)) w1.heap.size [(nm.size : Int)] rfl (heap_alloc_new w1 _) (by simp) (by simp only [List.length_cons, List.length_nil]; omega) (by simp; omega) ?_; intro v2 w2 ho2; have HO2 : Hid (Wr w1 w.heap.size _ v2 w2) := Wr.ahead (below1 _ _) hz1 ho2; have hz2 := HO2.out.low.size; have B2 := HK1.out.k8 HO2.out.k8 (by decide); have HK2 : Hid (Blk _ _ _ _) := B2; clear p0 p1 p2 p3 p4; obtain ⟨p0, p1, p2, p3, p4⟩ := five B2; clear ho2 B2)
    | (at_builtin; refine app8s rfl _ _ rfl w.heap.size v2 (T ++ [(nm.size : Int)]) rfl HO2.out.own nm rfl (by simp; omega) (by omega) ?_; intro v3 w3 ho3; have HO3 : Hid (Wr w1 w.heap.size _ v3 w3) := HO2.out.step ho3; have hz3 := HO3.out.low.size; have B3 := HK1.out.k8 HO3.out.k8 (by decide); have HK3 : Hid (Blk _ _ _ _) := B3; clear p0 p1 p2 p3 p4; obtain ⟨p0, p1, p2, p3, p4⟩ := five B3; clear ho3 B3)
    | (at_builtin; refine app8 rfl _ _ rfl w.heap.size v3 (T ++ [(nm.size : Int)] ++ bl nm) rfl (HO3.out.own.later (below1 _ _)) w3.heap.size [(m.length : Int)] rfl (heap_alloc_new w3 _) (by simp) (by simp only [List.length_append, List.length_cons, List.length_nil, bl_len]; omega) (by simp; omega) ?_; intro v4 w4 ho4; have HO4 : Hid (Wr w1 w.heap.size _ v4 w4) := HO3.out.step (Wr.ahead (below1 _ _) (by omega) ho4); have hz4 := HO4.out.low.size; have B4 := HK1.out.k8 HO4.out.k8 (by decide); have HK4 : Hid (Blk _ _ _ _) := B4; clear p0 p1 p2 p3 p4; clear ho4 B4))
  go_wp2
  go_loopg [3, 4] m.length (fun g u i wr => ∃ j : Nat, j + g = m.length ∧ i = .int .i64 j ∧ Wr w1 w.heap.size (T ++ [(nm.size : Int)] ++ bl nm ++ [(m.length : Int)] ++ tBs m j) u wr)
  case atStart => exact ⟨0, by omega, rfl, by rw [show tBs m 0 = [] from rfl, List.append_nil]; exact HO4.out⟩
  case round =>
    obtain ⟨j, hj, rfl, hw⟩ := hrel
    have HWr : Hid (Wr w1 w.heap.size (T ++ [(nm.size : Int)] ++ bl nm ++ [(m.length : Int)] ++ tBs m j) u3 wr) := hw
    have hsz := hw.low.size
    have hbw : Below w.heap.size w wr := HB1.out.trans hw.low
    have HBw : Hid (Below w.heap.size w wr) := hbw
    obtain ⟨p0, p1, p2, p3, p4⟩ := five (HK1.out.k8 hw.k8 (by decide))
    have HKr : Hid (Blk wr _ _ _) := HK1.out.k8 hw.k8 (by decide)
    clear hw
    cases gk with
    | succ g =>
      have hlt : j < m.length := by omega
      obtain ⟨t, ht⟩ : ∃ t, m[j]? = some t := ⟨_, List.getElem?_eq_getElem hlt⟩
      obtain ⟨ad', cap', hx, -, hxx⟩ := HY.out _ hbw
      clear hbw
      simp only [Value.slice.injEq] at hx
      obtain ⟨rfl, -, rfl⟩ := hx
      rcases hxx with hxx | ⟨b, o, rfl, hbs, hxx⟩
      · subst hxx; simp at hlt
      · obtain ⟨c0, c1, c2⟩ := hxx j _ ht
        have hlen : (T ++ [(nm.size : Int)] ++ bl nm ++ [(m.length : Int)] ++ tBs m j).length ≤ 60100000 := by
          have := tBs_len HF.out j
          simp only [List.length_append, List.length_cons, List.length_nil, bl_len]; omega
        have hlt8 : 0 < (tB t).length ∧ (tB t).length ≤ 100 := by have := tB_len t; have := (HF.out t (List.mem_of_getElem? ht)).2; omega
        have HS : Hid (tBs m (j + 1) = tBs m j ++ tB t) := tBs_succ ht
        have HPT : Hid (∀ X : World, Calls Tryz.prog 45 #[t.v] X fun e w' => ∃ v', e = .returned v' ∧ OwnB w' X.heap.size v' (tB t) ∧ Below X.heap.size X w') := fun X => rterm_any t (HF.out t (List.mem_of_getElem? ht)) X
        obtain ⟨U, hU⟩ : ∃ U, tB t = U := ⟨_, rfl⟩
        rw [hU] at HPT hlt8 HS
        clear hU
        obtain ⟨tk, tn, ts⟩ := t
        simp only at c0 c1 c2
        clear hxx ht
        have i1 : (0 : Int) ≤ (j : Int) := by omega
        have i2 : (j : Int) < (m.length : Int) := by omega
        go_wp2_with (first
          | (go_at_call 45; refine (HPT.out _).mono ?_; rintro e w5 ⟨v5, rfl, ho5, hb5⟩; have HO5 : Hid (OwnB w5 _ v5 U) := ho5; have HB5 : Hid (Below wr.heap.size wr w5) := hb5; have hz5 := hb5.size; clear ho5 hb5)
          | (at_builtin; refine app8w rfl _ _ rfl w.heap.size u3 _ rfl (HWr.out.own.later HB5.out) v5 _ U rfl HO5.out hlt8.1 (by omega) (by omega) ?_; intro v6 w6 ho6))
        go_roundg g
        case measure => omega
        case rel =>
          refine ⟨j + 1, by omega, by go_num, ?_⟩
          rw [HS.out, ← List.append_assoc]
          exact HWr.out.step (Wr.ahead HB5.out (by omega) ho6)
    | zero =>
      obtain rfl : j = m.length := by omega
      have hz : ¬ ((m.length : Int) < (m.length : Int)) := by omega
      clear hbw
      go_wp2
      go_ret
      exact ⟨_, rfl, by rw [HE.out]; exact HWr.out.own, HBw.out⟩
end Go.Proofs.YtjnipcakjoiplaaGreatDoor
