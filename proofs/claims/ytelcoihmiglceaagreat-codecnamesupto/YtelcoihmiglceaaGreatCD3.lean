/-
  The codec writes: terms, lists of terms, atoms; Atom.
-/
import Derived.Test.YtelcoihmiglceaaGreatCD2
import Derived.Test.YtelcoihmiglceaaGreatW3
namespace Go.Proofs.YtelcoihmiglceaaGreat
open Go.RowKit

set_option maxRecDepth 20000 in
set_option maxHeartbeats 2000000 in
theorem putTerm_any (t : Tm) (ht : knd t) (v : Value) (l : List Int) (base : Nat) (w : World) (h : OwnB w base v l) (hl : l.length ≤ 700000000000) (hB : base ≤ w.heap.size) :
    Calls Tryz.prog 78 #[v, t.v] w fun e w' => ∃ v', e = .returned v' ∧ Wr w base (l ++ tB t) v' w' := by
  obtain ⟨k, n, s⟩ := t
  obtain ⟨hk, hs⟩ := ht
  simp only at hk hs
  have HO : Hid (OwnB w base v l) := h
  have HB : Hid (base ≤ w.heap.size) := hB
  clear h
  have HPI : Hid (∀ (v1 : Value) (m : List Int) (X : World), OwnB X base v1 m → m.length ≤ 900000000000 → base ≤ X.heap.size → Calls Tryz.prog 84 #[v1, .int .i64 n] X fun e w' => ∃ v', e = .returned v' ∧ Wr X base (m ++ be 8 (n % 18446744073709551616)) v' w') := fun v1 m X h1 h2 h3 => putInt_any n v1 m base X h1 h2 h3
  have HPT : Hid (∀ (v1 : Value) (m : List Int) (X : World), OwnB X base v1 m → m.length ≤ 800000000000 → base ≤ X.heap.size → Calls Tryz.prog 79 #[v1, .string s] X fun e w' => ∃ v', e = .returned v' ∧ Wr X base (m ++ sB s) v' w') := fun v1 m X h1 h2 h3 => putText_any s (by omega) v1 m base X h1 h2 h3
  have hl1 : ∀ x : Int, (l ++ [x]).length ≤ 700000010000 := fun x => by simp; omega
  rcases hk with rfl | rfl | rfl | rfl
  · have HE : Hid (l ++ tB ⟨0, n, s⟩ = l ++ [0]) := by show _ = _; simp [tB]
    go_enter Tryz.func78, Tryz.ntmps78
    go_wp2_with (at_builtin; refine app8 rfl _ _ rfl base v l rfl (HO.out.later (below2 _ _ _)) (w.heap.size + 1) [0] rfl (Blk.new2 _ _ _ _) (by simp) (by simp only [List.length_cons, List.length_nil]; omega) (by simp; omega) ?_; intro v1 w1 ho1; have HW1 : Hid (Wr _ base (l ++ [0]) v1 w1) := ho1; obtain ⟨c0, c1, c2, -, -, -⟩ := three ((Blk.old w #[.int .i64 0, .int .i64 n, .string s] 23 _).k8 ho1.k8 (by decide)); clear ho1)
    go_ret
    exact ⟨_, rfl, by rw [HE.out]; exact Wr.ahead (below2 _ _ _) HB.out HW1.out⟩
  · have HE : Hid (l ++ tB ⟨1, n, s⟩ = l ++ [1] ++ be 8 (n % 18446744073709551616)) := by show _ = _; simp [tB]
    go_enter Tryz.func78, Tryz.ntmps78
    go_wp2_with (first
      | (at_builtin; refine app8 rfl _ _ rfl base v l rfl (HO.out.later (below2 _ _ _)) (w.heap.size + 1) [1] rfl (Blk.new2 _ _ _ _) (by simp) (by simp only [List.length_cons, List.length_nil]; omega) (by simp; omega) ?_; intro v1 w1 ho1; have HW1 : Hid (Wr _ base (l ++ [1]) v1 w1) := ho1; have hz1 : w.heap.size + 2 ≤ w1.heap.size := (by have := ho1.low.size; simpa using this); obtain ⟨c0, c1, c2, -, -, -⟩ := three ((Blk.old w #[.int .i64 1, .int .i64 n, .string s] 23 _).k8 ho1.k8 (by decide)); clear ho1)
      | (go_at_call 84; refine (HPI.out v1 _ _ HW1.out.own (by have := hl1 1; omega) (by omega)).mono ?_; rintro e w2 ⟨v2, rfl, hw2⟩))
    go_ret
    exact ⟨_, rfl, by rw [HE.out]; exact Wr.ahead (below2 _ _ _) HB.out (HW1.out.step hw2)⟩
  · have HE : Hid (l ++ tB ⟨2, n, s⟩ = l ++ [2] ++ sB s) := by show _ = _; simp [tB]
    go_enter Tryz.func78, Tryz.ntmps78
    go_wp2_with (first
      | (at_builtin; refine app8 rfl _ _ rfl base v l rfl (HO.out.later (below2 _ _ _)) (w.heap.size + 1) [2] rfl (Blk.new2 _ _ _ _) (by simp) (by simp only [List.length_cons, List.length_nil]; omega) (by simp; omega) ?_; intro v1 w1 ho1; have HW1 : Hid (Wr _ base (l ++ [2]) v1 w1) := ho1; have hz1 : w.heap.size + 2 ≤ w1.heap.size := (by have := ho1.low.size; simpa using this); obtain ⟨c0, c1, c2, -, -, -⟩ := three ((Blk.old w #[.int .i64 2, .int .i64 n, .string s] 23 _).k8 ho1.k8 (by decide)); clear ho1)
      | (go_at_call 79; refine (HPT.out v1 _ _ HW1.out.own (by have := hl1 2; omega) (by omega)).mono ?_; rintro e w2 ⟨v2, rfl, hw2⟩))
    go_ret
    exact ⟨_, rfl, by rw [HE.out]; exact Wr.ahead (below2 _ _ _) HB.out (HW1.out.step hw2)⟩
  · have HE : Hid (l ++ tB ⟨3, n, s⟩ = l ++ [3] ++ be 8 (n % 18446744073709551616)) := by show _ = _; simp [tB]
    go_enter Tryz.func78, Tryz.ntmps78
    go_wp2_with (first
      | (at_builtin; refine app8 rfl _ _ rfl base v l rfl (HO.out.later (below2 _ _ _)) (w.heap.size + 1) [3] rfl (Blk.new2 _ _ _ _) (by simp) (by simp only [List.length_cons, List.length_nil]; omega) (by simp; omega) ?_; intro v1 w1 ho1; have HW1 : Hid (Wr _ base (l ++ [3]) v1 w1) := ho1; have hz1 : w.heap.size + 2 ≤ w1.heap.size := (by have := ho1.low.size; simpa using this); obtain ⟨c0, c1, c2, -, -, -⟩ := three ((Blk.old w #[.int .i64 3, .int .i64 n, .string s] 23 _).k8 ho1.k8 (by decide)); clear ho1)
      | (go_at_call 84; refine (HPI.out v1 _ _ HW1.out.own (by have := hl1 3; omega) (by omega)).mono ?_; rintro e w2 ⟨v2, rfl, hw2⟩))
    go_ret
    exact ⟨_, rfl, by rw [HE.out]; exact Wr.ahead (below2 _ _ _) HB.out (HW1.out.step hw2)⟩
/-- What is written of the first so many. -/
def tBs (l : List Tm) (j : Nat) : List Int := (l.take j).flatMap tB
theorem tBs_succ {l : List Tm} {j : Nat} {t : Tm} (h : l[j]? = some t) : tBs l (j + 1) = tBs l j ++ tB t := by
  unfold tBs; rw [List.take_add_one, h]; simp
theorem tBs_len {l : List Tm} (hl : ∀ t ∈ l, knd t) (j : Nat) : (tBs l j).length ≤ j * 73 := by
  induction j with
  | zero => simp [tBs]
  | succ j ih =>
    cases h : l[j]? with
    | none => unfold tBs at ih ⊢; rw [List.take_add_one, h]; simp at ih ⊢; omega
    | some t =>
      rw [tBs_succ h, List.length_append]
      have := (tB_len t).2
      have := (hl t (List.mem_of_getElem? h)).2
      omega
set_option maxRecDepth 20000 in
set_option maxHeartbeats 2000000 in
theorem putTerms_any (m : List Tm) (hm : ∀ t ∈ m, knd t) (hn : m.length ≤ 255) (y : Value) (v : Value) (l : List Int) (base : Nat) (w : World) (h : OwnB w base v l) (hl : l.length ≤ 600000000000) (hB : base ≤ w.heap.size) (hy : Ts w y m) (hyB : ∀ X, Below base w X → Ts X y m) :
    Calls Tryz.prog 80 #[v, .int .i64 1, y, .func (.func 78) #[] #[]] w fun e w' => ∃ v', e = .returned v' ∧ Wr w base (l ++ ((m.length : Int) :: m.flatMap tB)) v' w' := by
  have HN : Hid (Calls Tryz.prog 73 #[v, .int .i64 1, .int .u64 (m.length : Int)] w fun e w' => ∃ v', e = .returned v' ∧ Wr w base (l ++ [(m.length : Int)]) v' w') := by
    have := putNumber_any 1 (by omega) (m.length : Int) v l base w h (by omega) hB
    rw [be_one _ (by omega) (by omega)] at this
    exact this
  have HY : Hid (∀ X, Below base w X → Ts X y m) := hyB
  have HM : Hid (∀ t ∈ m, knd t) := hm
  have HB : Hid (base ≤ w.heap.size) := hB
  obtain ⟨ad, cap, rfl, -, -⟩ := hy
  clear h hyB hm
  go_enter Tryz.func80, Tryz.ntmps80
  go_wp2_with (go_at_call 73; refine HN.out.mono ?_; rintro e w1 ⟨v1, rfl, hw⟩; have HW : Hid (Wr w base (l ++ [(m.length : Int)]) v1 w1) := hw; clear hw)
  go_loopg [0, 19] m.length (fun g u i wr => ∃ j : Nat, j + g = m.length ∧ i = .int .i64 j ∧ Wr w base (l ++ [(m.length : Int)] ++ tBs m j) u wr)
  case atStart => exact ⟨0, by omega, rfl, by rw [show tBs m 0 = [] from rfl, List.append_nil]; exact HW.out⟩
  case round =>
    obtain ⟨j, hj, rfl, hw⟩ := hrel
    have HWr : Hid (Wr w base (l ++ [(m.length : Int)] ++ tBs m j) u0 wr) := hw
    have hsz := hw.low.size
    clear hw
    cases gk with
    | succ g =>
      have hlt : j < m.length := by omega
      obtain ⟨t, ht⟩ : ∃ t, m[j]? = some t := ⟨_, List.getElem?_eq_getElem hlt⟩
      obtain ⟨ad', cap', hx, -, hxx⟩ := HY.out _ HWr.out.low
      simp only [Value.slice.injEq] at hx
      obtain ⟨rfl, -, rfl⟩ := hx
      rcases hxx with hxx | ⟨b, o, rfl, hbs, hxx⟩
      · subst hxx; simp at hlt
      · obtain ⟨c0, c1, c2⟩ := hxx j _ ht
        have hlen : (l ++ [(m.length : Int)] ++ tBs m j).length ≤ 601000000000 := by
          have := tBs_len HM.out j
          simp only [List.length_append, List.length_cons, List.length_nil]; omega
        have HT : Hid (m[j]? = some t) := ht
        have HPT : Hid (∀ (v1 : Value) (X : World), OwnB X base v1 (l ++ [(m.length : Int)] ++ tBs m j) → base ≤ X.heap.size → Calls Tryz.prog 78 #[v1, t.v] X fun e w' => ∃ v', e = .returned v' ∧ Wr X base (l ++ [(m.length : Int)] ++ tBs m j ++ tB t) v' w') := fun v1 X h1 h3 => putTerm_any t (HM.out t (List.mem_of_getElem? ht)) v1 _ base X h1 (by omega) h3
        obtain ⟨tk, tn, ts⟩ := t
        simp only at c0 c1 c2
        clear hxx ht
        have i1 : (0 : Int) ≤ (j : Int) := by omega
        have i2 : (j : Int) < (m.length : Int) := by omega
        go_wp2_with (go_at_call 78; refine (HPT.out _ _ (HWr.out.own.later (below1 _ _)) (by simp; omega)).mono ?_; rintro e w2 ⟨v2, rfl, hw2⟩)
        go_roundg g
        case measure => omega
        case rel =>
          refine ⟨j + 1, by omega, by go_num, ?_⟩
          rw [tBs_succ HT.out, ← List.append_assoc]
          exact HWr.out.step (Wr.ahead (below1 _ _) (by omega) hw2)
    | zero =>
      obtain rfl : j = m.length := by omega
      have hz : ¬ ((m.length : Int) < (m.length : Int)) := by omega
      go_wp2
      go_ret
      refine ⟨_, rfl, ?_⟩
      have := HWr.out
      unfold tBs at this
      rwa [List.take_length, List.append_assoc] at this
set_option maxRecDepth 20000 in
set_option maxHeartbeats 2000000 in
theorem wAtom_any (a : At) (ha : Fit a) (y : Value) (v : Value) (l : List Int) (base : Nat) (w : World) (h : OwnB w base v l) (hl : l.length ≤ 500000000000) (hB : base ≤ w.heap.size) (hy : Ts w y a.args) (hyB : ∀ X, Below base w X → Ts X y a.args) :
    Calls Tryz.prog 42 #[v, a.v y] w fun e w' => ∃ v', e = .returned v' ∧ Wr w base (l ++ aB a) v' w' := by
  obtain ⟨t, nm, m⟩ := a
  obtain ⟨f1, f2, f3, f4⟩ := ha
  simp only at f1 f2 f3 f4 hy hyB
  have HP1 : Hid (∀ (v1 : Value) (X : World), OwnB X base v1 l → base ≤ X.heap.size → Calls Tryz.prog 78 #[v1, t.v] X fun e w' => ∃ v', e = .returned v' ∧ Wr X base (l ++ tB t) v' w') := fun v1 X h1 h3 => putTerm_any t f1 v1 _ base X h1 (by omega) h3
  have hl1 : (l ++ tB t).length ≤ 500001000000 := by have := (tB_len t).2; have := f1.2; rw [List.length_append]; omega
  have hl2 : (l ++ tB t ++ sB nm).length ≤ 500002000000 := by rw [List.length_append]; simp only [sB, List.length_cons, bl_len]; omega
  have HP2 : Hid (∀ (v1 : Value) (X : World), OwnB X base v1 (l ++ tB t) → base ≤ X.heap.size → Calls Tryz.prog 79 #[v1, .string nm] X fun e w' => ∃ v', e = .returned v' ∧ Wr X base (l ++ tB t ++ sB nm) v' w') := fun v1 X h1 h3 => putText_any nm (by omega) v1 _ base X h1 (by omega) h3
  have HP3 : Hid (∀ (v1 : Value) (X : World), OwnB X base v1 (l ++ tB t ++ sB nm) → base ≤ X.heap.size → Below base w X → Calls Tryz.prog 80 #[v1, .int .i64 1, y, .func (.func 78) #[] #[]] X fun e w' => ∃ v', e = .returned v' ∧ Wr X base (l ++ tB t ++ sB nm ++ ((m.length : Int) :: m.flatMap tB)) v' w') := fun v1 X h1 h3 h4 => putTerms_any m f4 (by omega) y v1 _ base X h1 (by omega) h3 (hyB X h4) (fun Y hY => hyB Y (h4.trans hY))
  have HE : Hid (l ++ aB ⟨t, nm, m⟩ = l ++ tB t ++ sB nm ++ ((m.length : Int) :: m.flatMap tB)) := by show _ = _; simp [aB, List.append_assoc]
  have HO : Hid (OwnB w base v l) := h
  have HB : Hid (base ≤ w.heap.size) := hB
  obtain ⟨ad, cap, rfl, -, -⟩ := hy
  clear h hyB f1 f2 f3 f4
  obtain ⟨k, n, s⟩ := t
  go_enter Tryz.func42, Tryz.ntmps42
  go_wp2_with (first
    | (go_at_call 78; refine (HP1.out _ _ (HO.out.later (below1 _ _)) (by simp; omega)).mono ?_; rintro e w1 ⟨v1, rfl, hw1⟩; have HW1 : Hid (Wr w base _ v1 w1) := Wr.ahead (below1 _ _) HB.out hw1; have B1 := (Blk.new w #[.int .i64 k, .int .i64 n, .string s, .string nm, .slice ad m.length cap] 26).k8 hw1.k8 (by decide); have HB1 : Hid (Blk _ _ _ _) := B1; obtain ⟨p0, p1, p2, p3, p4⟩ := five B1; have hz1 := HW1.out.low.size; clear hw1 B1)
    | (go_at_call 79; refine (HP2.out _ _ HW1.out.own (by omega)).mono ?_; rintro e w2 ⟨v2, rfl, hw2⟩; have HW2 : Hid (Wr w base _ v2 w2) := HW1.out.step hw2; have B2 := HB1.out.k8 hw2.k8 (by decide); clear p0 p1 p2 p3 p4; obtain ⟨p0, p1, p2, p3, p4⟩ := five B2; have hz2 := HW2.out.low.size; clear hw2 B2)
    | (go_at_call 80; refine (HP3.out _ _ HW2.out.own (by omega) HW2.out.low).mono ?_; rintro e w3 ⟨v3, rfl, hw3⟩))
  go_ret
  exact ⟨_, rfl, by rw [HE.out]; exact HW2.out.step hw3⟩
theorem name_size {s : ByteArray} (h : nameOk s = true) : s.size ≤ 64 := by
  unfold nameOk nameHead at h
  simp only [Bool.and_eq_true, decide_eq_true_eq] at h
  omega
theorem fit_of {a : At} (h : a.err = 0) : Fit a := by
  unfold At.err at h
  split at h
  · cases h
  · rename_i h1
    split at h
    · cases h
    · rename_i h2
      split at h
      · cases h
      · rename_i h3
        split at h
        · rename_i h4
          exact ⟨knd_qual (by simpa using h3), name_size (by simpa using h1), by omega, fun t ht => knd_cov (List.all_eq_true.1 h4 t ht)⟩
        · cases h
end Go.Proofs.YtelcoihmiglceaaGreat
