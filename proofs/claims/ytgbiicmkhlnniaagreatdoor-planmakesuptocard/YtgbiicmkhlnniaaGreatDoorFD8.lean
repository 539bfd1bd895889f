/-
  law 9: ints, plans; what hangs on a clause's key alone.
-/
import Derived.Test.YtgbiicmkhlnniaaGreatDoorFD6
import Derived.Laws.Cover1
import Derived.Deep.QuietTactic
import Derived.BigQuiet
namespace Go.Proofs.YtgbiicmkhlnniaaGreatDoor
open Go.RowKit
attribute [local go_sem ↓] Go.wp_at_zero Go.wp_at_succ

theorem row9_len {w : World} {base n m : Nat} {e : TypeId} {v : Value} {xs : List Value} (h : w.ownsRow base e n v m xs) : m ≤ 9223372036854775807 := by
  rcases h.2 with ⟨-, hn⟩ | ⟨g, cap', cur, hv, hb, hg, hn, hc, hs, ht⟩
  · omega
  · unfold maxLen at hc; omega
set_option maxRecDepth 20000 in
set_option maxHeartbeats 1000000 in
theorem ints9_any (B B' : Nat) (u v : Value) (a : List Int) (w : World) (h : OwI w B u a) (h' : OwI w B' v a) :
    Calls Tryz.prog 22 #[u, v] w fun e w' => e = .returned (.bool true) ∧ Below w.heap.size w w' := by
  obtain ⟨ad, cap, rfl, -⟩ := row7_form h
  obtain ⟨ad', cap', rfl, -⟩ := row7_form h'
  obtain ⟨n, hn⟩ : ∃ n, a.length = n := ⟨_, rfl⟩
  have H : Hid (w.ownsRow B 3 1 (.slice ad n cap) n (ibs7 a)) := by have := h; unfold OwI at this; rw [hn] at this; exact this
  have H' : Hid (w.ownsRow B' 3 1 (.slice ad' n cap') n (ibs7 a)) := by have := h'; unfold OwI at this; rw [hn] at this; exact this
  rw [hn]
  have hl : n ≤ 9223372036854775807 := row9_len H.out
  have HN := hm7 hn
  clear h h' hn
  go_enter Tryz.func22, Tryz.ntmps22
  go_wp2
  go_loopg [5] n (fun g i wr => ∃ j m : Nat, j + g = n ∧ i = .int .i64 j ∧ wr = w.drewN m)
  case atStart => exact ⟨0, 0, by omega, rfl, rfl⟩
  case round =>
    obtain ⟨j, m, hj, rfl, rfl⟩ := hrel
    cases gk with
    | succ g =>
      have hlt : (j : Int) < (n : Int) := by omega
      have j0 : (0 : Int) ≤ (j : Int) := by omega
      obtain ⟨x, hx⟩ : ∃ x, a[j]? = some x := ⟨a[j]'(by have := HN.out; omega), List.getElem?_eq_getElem _⟩
      obtain ⟨b1, rfl, -, hb1, p0, -⟩ := row7_at (i := j) (u := .int .i64 x) H.out (by unfold ibs7; rw [List.getElem?_map, hx]; rfl)
      obtain ⟨b2, rfl, -, hb2, q0, -⟩ := row7_at (i := j) (u := .int .i64 x) H'.out (by unfold ibs7; rw [List.getElem?_map, hx]; rfl)
      clear hx
      go_wp2
      go_quiet (fail)
      go_wp2
      go_roundg g
      case measure => omega
      case rel => exact ⟨j + 1, _, by omega, by go_num, rfl⟩
    | zero =>
      have hlt : ¬ (j : Int) < (n : Int) := by omega
      go_wp2
      go_ret
      exact ⟨rfl, below_drewN (Below.refl _ _) _⟩
theorem Js9_at {l l' : List (Js9 × Value × Value)} (h : l.map Prod.fst = l'.map Prod.fst) {i : Nat} {y : Js9 × Value × Value} (hy : l[i]? = some y) : ∃ z, l'[i]? = some z ∧ z.1 = y.1 := by
  have h1 : (l.map Prod.fst)[i]? = some y.1 := by rw [List.getElem?_map, hy]; rfl
  rw [h, List.getElem?_map] at h1
  cases hz : l'[i]? with
  | none => rw [hz] at h1; cases h1
  | some z => rw [hz] at h1; exact ⟨z, rfl, Option.some.inj h1⟩
theorem jc9_at {l : List (Js9 × Value × Value)} {i : Nat} {y : Js9 × Value × Value} (h : l[i]? = some y) : (jc9 l)[i * 3]? = some (.int .i64 y.1.n) ∧ (jc9 l)[i * 3 + 1]? = some y.2.1 ∧ (jc9 l)[i * 3 + 2]? = some y.2.2 := by
  induction l generalizing i with
  | nil => simp at h
  | cons x l ih =>
    have e : jc9 (x :: l) = .int .i64 x.1.n :: x.2.1 :: x.2.2 :: jc9 l := rfl
    cases i with
    | zero =>
      simp only [List.getElem?_cons_zero, Option.some.injEq] at h
      subst h
      rw [e]; exact ⟨rfl, rfl, rfl⟩
    | succ i =>
      rw [List.getElem?_cons_succ] at h
      obtain ⟨h0, h1, h2⟩ := ih h
      rw [e, show (i + 1) * 3 = i * 3 + 3 by omega]
      exact ⟨h0, h1, h2⟩
set_option maxRecDepth 40000 in
set_option maxHeartbeats 4000000 in
theorem plans9_any (B B' : Nat) (av jv av' jv' : Value) (AH : List Int) (l l' : List (Js9 × Value × Value)) (w : World) (ha : OwI w B av AH) (ha' : OwI w B' av' AH) (hj : PJ9 w B jv l) (hj' : PJ9 w B' jv' l') (he : l.map Prod.fst = l'.map Prod.fst) :
    Calls Tryz.prog 7 #[.agg #[av, jv], .agg #[av', jv']] w fun e w' => e = .returned (.bool true) ∧ Below w.heap.size w w' := by
  have HI : Hid (∀ X : World, Below w.heap.size w X → Calls Tryz.prog 22 #[av, av'] X fun e w' => e = .returned (.bool true) ∧ Below X.heap.size X w') := fun X hX => ints9_any B B' av av' AH X (row7_below ha hX) (row7_below ha' hX)
  have hll : l'.length = l.length := by have := congrArg List.length he; simpa using this.symm
  have HJ0 := hm7 hj
  have HJ0' := hm7 hj'
  have HE := hm7 he
  obtain ⟨aa, ac, hav, -⟩ := row7_form ha
  obtain ⟨aa', ac', hav', -⟩ := row7_form ha'
  obtain ⟨ja, jc, hjv, -⟩ := row7_form hj.o
  obtain ⟨ja', jc', hjv', -⟩ := row7_form hj'.o
  rw [hll] at hjv'
  obtain ⟨an, han⟩ : ∃ n, AH.length = n := ⟨_, rfl⟩
  obtain ⟨jn, hjn⟩ : ∃ n, l.length = n := ⟨_, rfl⟩
  rw [han] at hav hav'
  rw [hjn] at hjv hjv' hll
  have HO : Hid (w.ownsRow B 57 3 jv jn (jc9 l)) := by have := hj.o; rw [hjn] at this; exact this
  have HO' : Hid (w.ownsRow B' 57 3 jv' jn (jc9 l')) := by have := hj'.o; rw [hll] at this; exact this
  have hJ : jn ≤ 9223372036854775807 := row9_len HO.out
  have HJN := hm7 hjn
  subst hav hav' hjv hjv'
  clear ha ha' hj hj' he han hjn hll
  obtain ⟨p1, p0, hb0⟩ := two8 w #[.slice aa an ac, .slice ja jn jc] #[.slice aa' an ac', .slice ja' jn jc'] 35 35
  obtain ⟨Y0, hY0⟩ : ∃ Y0, (w.alloc (.cells #[.slice aa an ac, .slice ja jn jc] 35)).alloc (.cells #[.slice aa' an ac', .slice ja' jn jc'] 35) = Y0 := ⟨_, rfl⟩
  rw [hY0] at p1 p0 hb0
  have HY0 := hm7 hY0
  have HB0 := hm7 hb0
  obtain ⟨q, hq⟩ : ∃ q, w.heap.size = q := ⟨_, rfl⟩
  have HQ := hm7 hq
  rw [hq] at p1 p0
  have HP0 := hm7 p0
  have HP1 := hm7 p1
  clear hY0 hb0 p0 p1 hq
  go_enter Tryz.func7, Tryz.ntmps7
  go_upto_region 1 with fail
  rw [HY0.out, HQ.out]
  clear HY0
  have d0 := HP0.out.cell (i := 0) rfl
  have d1 := HP1.out.cell (i := 0) rfl
  go_upto_region 3 with (go_at_call 22; refine (HI.out _ HB0.out).mono ?_; rintro e W1 ⟨rfl, hb⟩; have HW1 := hm7 (HB0.out.trans (hb.mono HB0.out.size)); have HC1 := hm7 (HP0.out.below hb); have HR1 := hm7 (HP1.out.below hb); have f1 := HC1.out.cell (i := 1) rfl; have g1 := HR1.out.cell (i := 1) rfl; clear hb d0 d1 HI HP0 HP1)
  clear f1 g1
  go_wp2_with fail
  go_loopg [5, 6, 7] jn (fun gg i _ _ wr => ∃ j : Nat, j + gg = jn ∧ i = .int .i64 j ∧ Below W1.heap.size W1 wr)
  case atStart => exact ⟨0, by omega, rfl, Below.refl _ _⟩
  case round =>
    obtain ⟨j, hj, rfl, hb⟩ := hrel
    have HB := hm7 hb
    have HC := hm7 (HC1.out.below hb)
    have HR := hm7 (HR1.out.below hb)
    have HWr := hm7 (HW1.out.trans (hb.mono HW1.out.size))
    clear hb
    have d1 := HC.out.cell (i := 1) rfl
    have e1 := HR.out.cell (i := 1) rfl
    cases gk with
    | succ gg =>
      have hlt : (j : Int) < (jn : Int) := by omega
      obtain ⟨y, hy⟩ : ∃ y, l[j]? = some y := ⟨l[j]'(by have := HJN.out; omega), List.getElem?_eq_getElem _⟩
      obtain ⟨z, hz, hzy⟩ := Js9_at HE.out hy
      obtain ⟨c0, c1, c2⟩ := jc9_at hy
      obtain ⟨k0, k1, k2⟩ := jc9_at hz
      obtain ⟨jb, rfl, -, hjb, cj0, -⟩ := row7_at (i := j * 3) HO.out c0
      obtain ⟨jb1, hjb1, -, -, cj1, -⟩ := row7_at (i := j * 3 + 1) HO.out c1
      obtain ⟨jb2, hjb2, -, -, cj2, -⟩ := row7_at (i := j * 3 + 2) HO.out c2
      obtain ⟨kb, rfl, -, hkb, ck0, -⟩ := row7_at (i := j * 3) HO'.out k0
      obtain ⟨kb1, hkb1, -, -, ck1, -⟩ := row7_at (i := j * 3 + 1) HO'.out k1
      obtain ⟨kb2, hkb2, -, -, ck2, -⟩ := row7_at (i := j * 3 + 2) HO'.out k2
      simp only [Option.some.injEq, Addr.mk.injEq, and_true] at hjb1 hjb2 hkb1 hkb2
      subst hjb1 hjb2 hkb1 hkb2
      replace cj0 := cell_stepB HWr.out hjb cj0
      replace cj1 := cell_stepB HWr.out hjb cj1
      replace cj2 := cell_stepB HWr.out hjb cj2
      replace ck0 := cell_stepB HWr.out hkb ck0
      replace ck1 := cell_stepB HWr.out hkb ck1
      replace ck2 := cell_stepB HWr.out hkb ck2
      have hjw : jb < wr.heap.size := Nat.lt_of_lt_of_le hjb HWr.out.size
      have hkw : kb < wr.heap.size := Nat.lt_of_lt_of_le hkb HWr.out.size
      have HI1 : Hid (∀ X : World, Below w.heap.size w X → Calls Tryz.prog 22 #[y.2.1, z.2.1] X fun e w' => e = .returned (.bool true) ∧ Below X.heap.size X w') := fun X hX => ints9_any B B' _ _ y.1.k X (row7_below (HJ0.out.k y (List.mem_of_getElem? hy)) hX) (by rw [← hzy]; exact row7_below (HJ0'.out.k z (List.mem_of_getElem? hz)) hX)
      have HI2 : Hid (∀ X : World, Below w.heap.size w X → Calls Tryz.prog 22 #[y.2.2, z.2.2] X fun e w' => e = .returned (.bool true) ∧ Below X.heap.size X w') := fun X hX => ints9_any B B' _ _ y.1.t X (row7_below (HJ0.out.t y (List.mem_of_getElem? hy)) hX) (by rw [← hzy]; exact row7_below (HJ0'.out.t z (List.mem_of_getElem? hz)) hX)
      obtain ⟨ya, yc, hyk, -⟩ := row7_form (HJ0.out.k y (List.mem_of_getElem? hy))
      obtain ⟨ya2, yc2, hyt, -⟩ := row7_form (HJ0.out.t y (List.mem_of_getElem? hy))
      obtain ⟨za, zc, hzk, -⟩ := row7_form (HJ0'.out.k z (List.mem_of_getElem? hz))
      obtain ⟨za2, zc2, hzt, -⟩ := row7_form (HJ0'.out.t z (List.mem_of_getElem? hz))
      rw [hzy] at hzk hzt ck0
      rw [hyk, hzk] at HI1
      rw [hyt, hzt] at HI2
      rw [hyk] at cj1
      rw [hyt] at cj2
      rw [hzk] at ck1
      rw [hzt] at ck2
      clear hy hz c0 c1 c2 k0 k1 k2 hyk hyt hzk hzt hzy
      generalize y.1.k.length = kn at *
      generalize y.1.t.length = tn at *
      generalize y.1.n = n at *
      clear HE
      obtain ⟨r1, r0, hbr⟩ := two8 wr #[.int .i64 n, .slice ya kn yc, .slice ya2 tn yc2] #[.int .i64 n, .slice za kn zc, .slice za2 tn zc2] 57 57
      obtain ⟨W2, hW2⟩ : ∃ W2, (wr.alloc (.cells #[.int .i64 n, .slice ya kn yc, .slice ya2 tn yc2] 57)).alloc (.cells #[.int .i64 n, .slice za kn zc, .slice za2 tn zc2] 57) = W2 := ⟨_, rfl⟩
      rw [hW2] at r1 r0 hbr
      have H2 := hm7 hW2
      have HBR := hm7 hbr
      have HRA := hm7 r0
      have HRB := hm7 r1
      clear r1 r0 hbr hW2
      have hqw := HC.out.lt
      have hqw1 := HR.out.lt
      go_upto_region 8 with fail
      clear hqw hqw1
      rw [H2.out]
      clear H2 cj0 cj1 cj2 ck0 ck1 ck2 d1 e1
      obtain ⟨g, hg⟩ : ∃ g, wr.heap.size = g := ⟨_, rfl⟩
      rw [hg] at HRA HRB ⊢
      have HL2 := hm7 (HWr.out.trans (HBR.out.mono HWr.out.size))
      have a0 := HRA.out.cell (i := 0) rfl
      have a1 := HRA.out.cell (i := 1) rfl
      have b0 := HRB.out.cell (i := 0) rfl
      have b1 := HRB.out.cell (i := 1) rfl
      have HG := hm7 hg
      clear hg
      go_wp2_with (first
        | (go_at_call 22; refine (HI1.out _ HL2.out).mono ?_; rintro e W3 ⟨rfl, hb3⟩; have HL3 := hm7 (HL2.out.trans (hb3.mono HL2.out.size)); have a2 := (HRA.out.below hb3).cell (i := 2) rfl; have b2 := (HRB.out.below hb3).cell (i := 2) rfl; have HB3 := hm7 (HBR.out.trans (hb3.mono HBR.out.size)); clear hb3 a0 a1 b0 b1 HI1)
        | (go_at_call 22; refine (HI2.out _ HL3.out).mono ?_; rintro e W4 ⟨rfl, hb4⟩; have HB4 := hm7 (HB3.out.trans (hb4.mono HB3.out.size)); clear hb4 a2 b2 HI2))
      go_roundg gg
      case measure => omega
      case rel => exact ⟨j + 1, by omega, by go_num, HB.out.trans (HB4.out.mono HB.out.size)⟩
    | zero =>
      have hlt : ¬ (j : Int) < (jn : Int) := by omega
      go_wp2
      go_ret
      exact ⟨rfl, HWr.out⟩
end Go.Proofs.YtgbiicmkhlnniaaGreatDoor
