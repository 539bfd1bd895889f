/-
  The reference's Check and Vars. (Written by RC2.py.)
-/
import Derived.Test.YtgbiicmkhlnniaaGreatDoorT4
import Derived.Test.YtgbiicmkhlnniaaGreatDoorMD8
import Derived.Deep.RegionHeld3
import Derived.Deep.CutRange
namespace Go.Proofs.YtgbiicmkhlnniaaGreatDoor
open Go.RowKit
attribute [local go_sem ↓] Go.wp_at_zero Go.wp_at_succ

theorem As.ts_ {w : World} {v : Value} {l : List (At × Value)} (h : As w v l) : ∀ x ∈ l, Ts w x.2 x.1.args := by
  obtain ⟨_, _, _, _, _, h⟩ := h
  exact h
set_option maxRecDepth 20000 in
set_option maxHeartbeats 2000000 in
theorem rcheckC_any (c : Cm) (w : World) (h : c.ok w) (hh : TsP w c.head.2 c.head.1.args) (hp : ∀ x ∈ c.body, TsP w x.2 x.1.args) (hbp : AsP w c.bv c.body) :
    Calls Tryz.prog 36 #[c.v] w fun e w' => e = .returned (.int .i64 c.chk) ∧ Below w.heap.size w w' := by
  obtain ⟨⟨a, hn, cap, h1⟩, ⟨a', cap', h2⟩, ⟨a'', cap'', h3⟩, -, -⟩ := h.shape
  have C1 : Hid (long c = true → c.chk = 31) := fun e => chk_1 e
  have C2 : Hid (long c = false → aErr c.atoms ≠ 0 → c.chk = aErr c.atoms) := fun e e2 => chk_2 e e2
  have C3 : Hid (long c = false → aErr c.atoms = 0 → badT c = true → c.chk = 32) := fun e e2 e3 => chk_3 e e2 e3
  have C4 : Hid (long c = false → aErr c.atoms = 0 → badT c = false → c.head.1.by_.k = 3 → c.chk = 33) := fun e e2 e3 e4 => chk_4 e e2 e3 ((head_kind (aErr_all e2 c.head (by simp [Cm.atoms]))).2 e4)
  have C5 : Hid (long c = false → aErr c.atoms = 0 → badT c = false → ¬ c.head.1.by_.k = 3 → (∃ t ∈ disT (c.head.1.pl ++ tls c.tests), ¬ t ∈ flt c.body) → c.chk = 34) := fun e e2 e3 e4 e5 => chk_5 e e2 e3 (by
    cases hv : c.head.1.by_.var
    · rfl
    · exact absurd ((head_kind (aErr_all e2 c.head (by simp [Cm.atoms]))).1 hv) e4) (unb_ref.2 e5)
  have C6 : Hid (long c = false → aErr c.atoms = 0 → badT c = false → ¬ c.head.1.by_.k = 3 → (∀ t ∈ disT (c.head.1.pl ++ tls c.tests), t ∈ flt c.body) → (∃ (i : Nat) (t : Tm), (disT c.terms)[i]? = some t ∧ t.n ≠ i) → c.chk = 35) := fun e e2 e3 e4 e5 e6 => chk_6 e e2 e3 (by
    cases hv : c.head.1.by_.var
    · rfl
    · exact absurd ((head_kind (aErr_all e2 c.head (by simp [Cm.atoms]))).1 hv) e4) (by
    cases hu : unb c
    · rfl
    · obtain ⟨t, ht, hn⟩ := unb_ref.1 hu
      exact absurd (e5 t ht) hn) (by
    cases hu : mis 0 c.vars
    · obtain ⟨i, t, ht, hn⟩ := e6
      exact absurd (mis_ref.1 hu i t ht) hn
    · rfl)
  have C7 : Hid (long c = false → aErr c.atoms = 0 → badT c = false → ¬ c.head.1.by_.k = 3 → (∀ t ∈ disT (c.head.1.pl ++ tls c.tests), t ∈ flt c.body) → (∀ (i : Nat) (t : Tm), (disT c.terms)[i]? = some t → t.n = i) → c.chk = 0) := fun e e2 e3 e4 e5 e6 => chk_7 e e2 e3 (by
    cases hv : c.head.1.by_.var
    · rfl
    · exact absurd ((head_kind (aErr_all e2 c.head (by simp [Cm.atoms]))).1 hv) e4) (by
    cases hu : unb c
    · rfl
    · obtain ⟨t, ht, hn⟩ := unb_ref.1 hu
      exact absurd (e5 t ht) hn) (mis_ref.2 e6)
  have HLE : Hid (long c = false → aErr c.atoms = 0 → c.head.1.pl.length ≤ 9 ∧ (flt c.body).length ≤ 72 ∧ (tls c.tests).length ≤ 16) := fun e e2 => by
    unfold long at e
    simp only [Bool.or_eq_false_iff, decide_eq_false_iff_not] at e
    have hall := aErr_all e2
    refine ⟨?_, ?_, by rw [tls_len]; omega⟩
    · have := (err_zero' (hall c.head (by simp [Cm.atoms]))).2.1
      simp [At.pl]; omega
    · have e3 : (flt c.body).length ≤ 9 * c.body.length := by
        have hx : ∀ x ∈ c.body, x.1.pl.length ≤ 9 := fun x hx => by
          have := (err_zero' (hall x (by simp [Cm.atoms, hx]))).2.1
          simp [At.pl]; omega
        generalize c.body = l at hx
        induction l with
        | nil => simp [flt]
        | cons x l ih =>
          have h1 := hx x (by simp)
          have h2 := ih fun y hy => hx y (by simp [hy])
          unfold flt at h2 ⊢
          rw [List.flatMap_cons, List.length_append, List.length_cons]; omega
      omega
  have HTQ : Hid (c.terms = c.head.1.pl ++ flt c.body ++ tls c.tests) := c.terms_eq
  have hAT : Cm.atoms c = c.head :: c.body := rfl
  have HBX0 : Hid (Bx (w.alloc (.cells c.cs 30)) w.heap.size c) := Bx.new h
  have HOK : Hid (c.ok w ∧ TsP w c.head.2 c.head.1.args ∧ (∀ x ∈ c.body, TsP w x.2 x.1.args) ∧ AsP w c.bv c.body) := ⟨h, hh, hp, hbp⟩
  have HLG : Hid (long c = (decide (8 < c.body.length) || decide (8 < c.tests.length))) := rfl
  obtain ⟨R, hR⟩ : ∃ R, c.chk = R := ⟨_, rfl⟩
  rw [hR] at C1 C2 C3 C4 C5 C6 C7
  rw [hR]
  obtain ⟨LG, hLG⟩ : ∃ b, long c = b := ⟨_, rfl⟩
  rw [hLG] at C1 C2 C3 C4 C5 C6 C7 HLG HLE
  rw [hAT] at C2 C3 C4 C5 C6 C7 HLE
  have HB3 : Hid (badT c = c.tests.any fun t => !t.ok) := rfl
  obtain ⟨BT_, hBT⟩ : ∃ b, badT c = b := ⟨_, rfl⟩
  rw [hBT] at C3 C4 C5 C6 C7 HB3
  clear h hh hp hbp hR hLG hAT hBT
  have HTE2 : Hid (∀ X : World, Below w.heap.size w X → c.terms.length ≤ 97 → Calls Tryz.prog 72 #[c.v] X fun e w' => ∃ v', e = .returned v' ∧ OwnT w' X.heap.size v' c.terms ∧ Below X.heap.size X w') := fun X hX hl => terms3_any c X (HOK.out.1.later hX) (HOK.out.2.1.later hX) (fun x hx => (HOK.out.2.2.1 x hx).later hX) (by omega)
  have HHD0 : Hid (∀ X : World, Below w.heap.size w X → c.head.1.pl.length ≤ 9 → Calls Tryz.prog 68 #[c.head.1.v c.head.2] X fun e w' => ∃ v', e = .returned v' ∧ OwnT w' X.heap.size v' c.head.1.pl ∧ Below X.heap.size X w') := fun X hX hl => atomTerms_any _ _ X (HOK.out.2.1.later hX) (by simp [At.pl] at hl; omega)
  have HBO0 : Hid (∀ X : World, Below w.heap.size w X → (flt c.body).length ≤ 72 → Calls Tryz.prog 67 #[c.v] X fun e w' => ∃ v', e = .returned v' ∧ OwnT w' X.heap.size v' (flt c.body) ∧ Below X.heap.size X w') := fun X hX hl => bodyTerms_any c X (HOK.out.1.later hX) (fun x hx => (HOK.out.2.2.1 x hx).later hX) (by omega)
  have HTT0 : Hid (∀ X : World, Below w.heap.size w X → (tls c.tests).length ≤ 16 → Calls Tryz.prog 69 #[c.v] X fun e w' => ∃ v', e = .returned v' ∧ OwnT w' X.heap.size v' (tls c.tests) ∧ Below X.heap.size X w') := fun X hX hl => testTerms_any c X (HOK.out.1.later hX) (by rw [tls_len] at hl; omega)
  generalize c.terms = TT at C6 C7 HTQ HTE2
  obtain ⟨⟨⟨⟨k, m, s⟩, nm, ls⟩, hx⟩, body, bv, tests, tv⟩ := c
  simp only at h1 h2 h3 C2 C3 C4 C5 C6 C7 HLE HTQ HLG HB3 HHD0 HBO0 HTT0
  subst h1 h2 h3
  generalize hPH : At.pl ⟨⟨k, m, s⟩, nm, ls⟩ = PH at C5 C6 C7 HLE HTQ HHD0
  generalize hPB : flt body = PB at C5 C6 C7 HLE HTQ HBO0
  generalize hPT : tls tests = PT at C5 C6 C7 HLE HTQ HTT0
  clear hPH hPB hPT
  by_cases z1 : 8 < body.length
  · have hz : (8 : Int) < (body.length : Int) := by omega
    have HR : Hid (R = 31) := C1.out (by rw [HLG.out, decide_eq_true z1]; rfl)
    clear C1 C2 C3 C4 C5 C6 C7 z1
    go_enter Tryz.func36, Tryz.ntmps36
    go_wp2
    go_ret
    exact ⟨by rw [HR.out]; rfl, below1 _ _⟩
  by_cases z2 : 8 < tests.length
  · have hz : ¬ (8 : Int) < (body.length : Int) := by omega
    have hz2 : (8 : Int) < (tests.length : Int) := by omega
    have HR : Hid (R = 31) := C1.out (by rw [HLG.out, decide_eq_true z2]; simp)
    clear C1 C2 C3 C4 C5 C6 C7 z1 z2
    go_enter Tryz.func36, Tryz.ntmps36
    go_wp2
    go_ret
    exact ⟨by rw [HR.out]; rfl, below1 _ _⟩
  have hlg : LG = false := by rw [HLG.out, decide_eq_false z1, decide_eq_false z2]; rfl
  have C2 : Hid _ := C2.out hlg
  have C3 : Hid _ := C3.out hlg
  have C4 : Hid _ := C4.out hlg
  have C5 : Hid _ := C5.out hlg
  have C6 : Hid _ := C6.out hlg
  have C7 : Hid _ := C7.out hlg
  have HLE : Hid _ := HLE.out hlg
  have hz : ¬ (8 : Int) < (body.length : Int) := by omega
  have hz2 : ¬ (8 : Int) < (tests.length : Int) := by omega
  have hb8 : body.length ≤ 8 := by omega
  have ht8 : tests.length ≤ 8 := by omega
  clear hlg C1 HLG z1 z2
  have HAC : Hid (CBlk ((w.alloc (.cells #[.int .i64 k, .int .i64 m, .string s, .string nm, .slice a hn cap, .slice a' body.length cap', .slice a'' tests.length cap''] 30)).alloc (.cells #[.int .i64 k, .int .i64 m, .string s, .string nm, .slice a hn cap] 26)) (w.heap.size + 1) #[.int .i64 k, .int .i64 m, .string s, .string nm, .slice a hn cap] 26) := by
    have := CBlk.new (w.alloc (.cells #[.int .i64 k, .int .i64 m, .string s, .string nm, .slice a hn cap, .slice a' body.length cap', .slice a'' tests.length cap''] 30)) #[.int .i64 k, .int .i64 m, .string s, .string nm, .slice a hn cap] 26
    rw [show (w.alloc (.cells #[.int .i64 k, .int .i64 m, .string s, .string nm, .slice a hn cap, .slice a' body.length cap', .slice a'' tests.length cap''] 30)).heap.size = w.heap.size + 1 by simp] at this
    exact this
  have HBX1 : Hid (Bx ((w.alloc (.cells #[.int .i64 k, .int .i64 m, .string s, .string nm, .slice a hn cap, .slice a' body.length cap', .slice a'' tests.length cap''] 30)).alloc (.cells #[.int .i64 k, .int .i64 m, .string s, .string nm, .slice a hn cap] 26)) w.heap.size ⟨(⟨⟨k, m, s⟩, nm, ls⟩, .slice a hn cap), body, .slice a' body.length cap', tests, .slice a'' tests.length cap''⟩) := HBX0.out.later (below1 _ _)
  have HW1 : Hid (Below w.heap.size w ((w.alloc (.cells #[.int .i64 k, .int .i64 m, .string s, .string nm, .slice a hn cap, .slice a' body.length cap', .slice a'' tests.length cap''] 30)).alloc (.cells #[.int .i64 k, .int .i64 m, .string s, .string nm, .slice a hn cap] 26)) ∧ ((w.alloc (.cells #[.int .i64 k, .int .i64 m, .string s, .string nm, .slice a hn cap, .slice a' body.length cap', .slice a'' tests.length cap''] 30)).alloc (.cells #[.int .i64 k, .int .i64 m, .string s, .string nm, .slice a hn cap] 26)).heap.size = w.heap.size + 2) := ⟨below2 _ _ _, by simp⟩
  go_enter Tryz.func36, Tryz.ntmps36
  go_upto_region 4 with fail
  revert HAC HBX1 HW1
  generalize (w.alloc (.cells #[.int .i64 k, .int .i64 m, .string s, .string nm, .slice a hn cap, .slice a' body.length cap', .slice a'' tests.length cap''] 30)).alloc (.cells #[.int .i64 k, .int .i64 m, .string s, .string nm, .slice a hn cap] 26) = W1
  intro HAC HBX1 HW1
  obtain ⟨c0, c1, c2, c3, c4, c5, c6⟩ := cseven HBX1.out.b
  go_upto_region 5 with (at_builtin; go_loud (refine aapp_list rfl _ _ rfl (w.heap.size + 1) _ [(⟨⟨k, m, s⟩, nm, ls⟩, .slice a hn cap)] (by rfl) (ownA_one (y := (⟨⟨k, m, s⟩, nm, ls⟩, .slice a hn cap)) HAC.out (Nat.le_refl _)) _ body (by rfl) (HOK.out.2.2.2.later HW1.out.1) (fun z hz u hu => by obtain ⟨za, zc, ze⟩ := (HOK.out.2.2.1 z hz).form; obtain ⟨z1, z2⟩ := z; simp only at ze; subst ze; exact acell_one _ _ _ _ u hu) (by simp; omega) (by have := HW1.out.2; omega) ?_; intro v' w2 hown hb; obtain ⟨sa, sc, hsf⟩ := hown.form; rw [List.singleton_append, List.length_cons] at hsf; subst hsf; have hb2 : Below w.heap.size w w2 := HW1.out.1.trans (hb.mono (by omega)); have HAS : Hid (As w2 (.slice sa (body.length + 1) sc) ((⟨⟨k, m, s⟩, nm, ls⟩, .slice a hn cap) :: body)) := OwnA.as hown (by simp; omega) (fun x hx => by rcases List.mem_cons.1 hx with hx | hx; (subst hx; exact HOK.out.1.h.later hb2); (exact (HOK.out.1.b.ts_ x hx).later hb2)); have HX2 : Hid (Bx w2 w.heap.size ⟨(⟨⟨k, m, s⟩, nm, ls⟩, .slice a hn cap), body, .slice a' body.length cap', tests, .slice a'' tests.length cap''⟩) := ⟨(hb.block _ (by omega)).trans HBX1.out.b, HOK.out.1.later hb2⟩; have HW2 : Hid (Below w.heap.size w w2) := hb2; clear hown hb hb2 c0 c1 c2 c3 c4 c5 c6))
  clear HAC HBX1 HW1 HBX0
  go_wp2
  go_loopg [4] (body.length + 1) (fun g i wr => ∃ j : Nat, j + g = body.length + 1 ∧ i = .int .i64 j ∧ aErr ((⟨⟨k, m, s⟩, nm, ls⟩, .slice a hn cap) :: body) = aErr (((⟨⟨k, m, s⟩, nm, ls⟩, .slice a hn cap) :: body).drop j) ∧ Below w2.heap.size w2 wr)
  case atStart => exact ⟨0, by omega, rfl, rfl, Below.refl _ _⟩
  case round =>
  obtain ⟨j, hj, rfl, hae, hb⟩ := hrel
  have HAE : Hid (aErr ((⟨⟨k, m, s⟩, nm, ls⟩, .slice a hn cap) :: body) = aErr (((⟨⟨k, m, s⟩, nm, ls⟩, .slice a hn cap) :: body).drop j)) := hae
  have HBr : Hid (Below w2.heap.size w2 wr) := hb
  clear hae
  cases gk with
  | succ g =>
    have hlt : (j : Int) < (body.length : Int) + 1 := by omega
    have j0 : (0 : Int) ≤ (j : Int) := by omega
    obtain ⟨b1, o1, t1, ex, ht1, hz1, ⟨p0, p1, p2, p3, p4⟩, hs1⟩ := (HAS.out.later hb).get_ (j := j) (by omega)
    have HC : Hid (∀ X : World, X = wr → Calls Tryz.prog 65 #[t1.1.v t1.2] X fun e w' => e = .returned (.int .i64 t1.1.err) ∧ Below X.heap.size X w') := fun X hX => by rw [hX]; exact rchk_any t1.1 t1.2 wr hs1
    have HD1 : Hid (t1.1.err = 0 → aErr (((⟨⟨k, m, s⟩, nm, ls⟩, .slice a hn cap) :: body).drop j) = aErr (((⟨⟨k, m, s⟩, nm, ls⟩, .slice a hn cap) :: body).drop (j + 1))) := fun e => aErr_drop ht1 e
    have HD2 : Hid (t1.1.err ≠ 0 → aErr (((⟨⟨k, m, s⟩, nm, ls⟩, .slice a hn cap) :: body).drop j) = t1.1.err) := fun e => aErr_hit2 ht1 e
    obtain ⟨ax, cx, hax, -⟩ := hs1
    clear ht1 hz1 hb
    obtain ⟨t, vt⟩ := t1
    simp only at hax p0 p1 p2 p3 p4 HC HD1 HD2
    generalize hER : t.err = ER at HC HD1 HD2
    clear hER
    obtain ⟨⟨tk, tn, ts⟩, tm, ta⟩ := t
    simp only at hax p0 p1 p2 p3 p4
    subst hax ex
    go_upto_region 9 with (go_at_call 65; refine (HC.out _ rfl).mono ?_; rintro e w3 ⟨rfl, hb3⟩; have HB3' : Hid (Below w2.heap.size w2 w3) := below_step HBr.out hb3; clear hb3 p0 p1 p2 p3 p4)
    by_cases he : ER = 0
    · have hq : (ER != 0) = false := by rw [he]; rfl
      have HN : Hid (aErr ((⟨⟨k, m, s⟩, nm, ls⟩, .slice a hn cap) :: body) = aErr (((⟨⟨k, m, s⟩, nm, ls⟩, .slice a hn cap) :: body).drop (j + 1))) := HAE.out.trans (HD1.out he)
      clear he
      go_wp2
      go_roundg g
      case measure => omega
      case rel => exact ⟨j + 1, by omega, by go_num, HN.out, HB3'.out⟩
    · have hq : (ER != 0) = true := by simp [he]
      have HR : Hid (R = ER) := by
        have e := HAE.out.trans (HD2.out he)
        have := C2.out (by rw [e]; exact he)
        rw [e] at this; exact this
      clear he
      go_wp2
      go_ret
      exact ⟨by rw [HR.out]; rfl, below_step HW2.out HB3'.out⟩
  | zero =>
  have hz3 : ¬ (j : Int) < (body.length : Int) + 1 := by omega
  have hAE0 : aErr ((⟨⟨k, m, s⟩, nm, ls⟩, .slice a hn cap) :: body) = 0 := by
    rw [HAE.out, List.drop_eq_nil_of_le (by simp; omega)]; rfl
  have C3 : Hid _ := C3.out hAE0
  have C4 : Hid _ := C4.out hAE0
  have C5 : Hid _ := C5.out hAE0
  have C6 : Hid _ := C6.out hAE0
  have C7 : Hid _ := C7.out hAE0
  have HLE : Hid _ := HLE.out hAE0
  have HX3 : Hid (Bx wr w.heap.size ⟨(⟨⟨k, m, s⟩, nm, ls⟩, .slice a hn cap), body, .slice a' body.length cap', tests, .slice a'' tests.length cap''⟩) := HX2.out.later hb
  have HW3 : Hid (Below w.heap.size w wr) := below_step HW2.out hb
  clear C2 hAE0 hb HAE HBr
  obtain ⟨c0, c1, c2, c3, c4, c5, c6⟩ := cseven HX3.out.b
  go_wp2
  clear hz3 c0 c1 c2 c3 c4 c5 c6
  revert HX3 HW3
  generalize wr = w3
  intro HX3 HW3
  go_loopg [6] tests.length (fun g i wr => ∃ i' : Nat, i' + g = tests.length ∧ i = .int .i64 i' ∧ (tests.any fun t => !t.ok) = ((tests.drop i').any fun t => !t.ok) ∧ Below w3.heap.size w3 wr)
  case atStart => exact ⟨0, by omega, rfl, rfl, Below.refl _ _⟩
  case round =>
  obtain ⟨i', hi', rfl, hae, hb⟩ := hrel
  have HAE : Hid ((tests.any fun t => !t.ok) = ((tests.drop i').any fun t => !t.ok)) := hae
  have HBr : Hid (Below w3.heap.size w3 wr) := hb
  have HXr : Hid (Bx wr w.heap.size ⟨(⟨⟨k, m, s⟩, nm, ls⟩, .slice a hn cap), body, .slice a' body.length cap', tests, .slice a'' tests.length cap''⟩) := HX3.out.later hb
  clear hae
  obtain ⟨c0, c1, c2, c3, c4, c5, c6⟩ := cseven HXr.out.b
  cases gk with
  | succ g =>
    have hlt : (i' : Int) < (tests.length : Int) := by omega
    have j0 : (0 : Int) ≤ (i' : Int) := by omega
    obtain ⟨b1, o1, t1, ex, ht1, hz1, p0, p1, p2, p3, p4, p5, p6⟩ := HXr.out.o.t.get_ (j := i') (by omega)
    simp only at ht1
    have HC : Hid (∀ X : World, Calls Tryz.prog 66 #[t1.v] X fun e w' => e = .returned (.int .i64 (if t1.ok then 0 else 32)) ∧ Below X.heap.size X w') := fun X => rcheck_any t1 X
    have HD1 : Hid (t1.ok = true → (tests.any fun t => !t.ok) = ((tests.drop (i' + 1)).any fun t => !t.ok)) := fun e => HAE.out.trans (any_drop ht1 e)
    have HD2 : Hid (t1.ok = false → (tests.any fun t => !t.ok) = true) := fun e => any_hit ht1 e
    clear ht1 hz1 hb
    generalize hOK : t1.ok = TO at HC HD1 HD2
    clear hOK
    obtain ⟨op, ⟨kl, ml, sl⟩, ⟨kr, mr, sr⟩⟩ := t1
    simp only at p0 p1 p2 p3 p4 p5 p6
    subst ex
    cases TO with
    | true =>
      have HC2 : Hid (∀ X : World, Calls Tryz.prog 66 #[Te.v ⟨op, ⟨kl, ml, sl⟩, ⟨kr, mr, sr⟩⟩] X fun e w' => e = .returned (.int .i64 0) ∧ Below X.heap.size X w') := HC.out
      go_wp2_with (go_at_call 66; refine (HC2.out _).mono ?_; rintro e w4 ⟨rfl, hb3⟩; have HB3' : Hid (Below w3.heap.size w3 w4) := below_step HBr.out hb3; clear hb3 p0 p1 p2 p3 p4 p5 p6 c0 c1 c2 c3 c4 c5 c6)
      go_roundg g
      case measure => omega
      case rel => exact ⟨i' + 1, by omega, by go_num, HD1.out (by simp), HB3'.out⟩
    | false =>
      have HC2 : Hid (∀ X : World, Calls Tryz.prog 66 #[Te.v ⟨op, ⟨kl, ml, sl⟩, ⟨kr, mr, sr⟩⟩] X fun e w' => e = .returned (.int .i64 32) ∧ Below X.heap.size X w') := HC.out
      have HR : Hid (R = 32) := C3.out (by rw [HB3.out]; exact HD2.out rfl)
      go_wp2_with (go_at_call 66; refine (HC2.out _).mono ?_; rintro e w4 ⟨rfl, hb3⟩; have HB3' : Hid (Below w3.heap.size w3 w4) := below_step HBr.out hb3; clear hb3 p0 p1 p2 p3 p4 p5 p6 c0 c1 c2 c3 c4 c5 c6)
      go_ret
      exact ⟨by rw [HR.out]; rfl, below_step HW3.out HB3'.out⟩
  | zero =>
  have hz3 : ¬ (i' : Int) < (tests.length : Int) := by omega
  have hBT0 : BT_ = false := by
    rw [HB3.out, HAE.out, List.drop_eq_nil_of_le (by omega)]; rfl
  have C4 : Hid _ := C4.out hBT0
  have C5 : Hid _ := C5.out hBT0
  have C6 : Hid _ := C6.out hBT0
  have C7 : Hid _ := C7.out hBT0
  have HW4 : Hid (Below w.heap.size w wr) := below_step HW3.out hb
  clear C3 hBT0 hb HAE HBr HX3 HW3 HX2 HW2 HAS
  by_cases hk3 : k = 3
  · have hq : (k == 3) = true := by rw [hk3]; rfl
    have HR : Hid (R = 33) := C4.out hk3
    clear hk3 C4 C5 C6 C7
    go_wp2
    go_ret
    exact ⟨by rw [HR.out]; rfl, HW4.out⟩
  have hq : (k == 3) = false := beq_eq_false_iff_ne.2 hk3
  have C5 : Hid _ := C5.out hk3
  have C6 : Hid _ := C6.out hk3
  have C7 : Hid _ := C7.out hk3
  have hl9 := HLE.out.1
  have hl72 := HLE.out.2.1
  have hl16 := HLE.out.2.2
  have HLN : Hid (PH.length + PT.length ≤ 100) := by show _ ≤ _; omega
  have HHD : Hid (∀ X : World, Below w.heap.size w X → Calls Tryz.prog 68 #[.agg #[.int .i64 k, .int .i64 m, .string s, .string nm, .slice a hn cap]] X fun e w' => ∃ v', e = .returned v' ∧ OwnT w' X.heap.size v' PH ∧ Below X.heap.size X w') := fun X hX => HHD0.out X hX hl9
  have HTE : Hid (∀ X : World, Below w.heap.size w X → Calls Tryz.prog 69 #[Cm.v ⟨(⟨⟨k, m, s⟩, nm, ls⟩, .slice a hn cap), body, .slice a' body.length cap', tests, .slice a'' tests.length cap''⟩] X fun e w' => ∃ v', e = .returned v' ∧ OwnT w' X.heap.size v' PT ∧ Below X.heap.size X w') := fun X hX => HTT0.out X hX hl16
  have HBO : Hid (∀ X : World, Below w.heap.size w X → Calls Tryz.prog 67 #[Cm.v ⟨(⟨⟨k, m, s⟩, nm, ls⟩, .slice a hn cap), body, .slice a' body.length cap', tests, .slice a'' tests.length cap''⟩] X fun e w' => ∃ v', e = .returned v' ∧ OwnT w' X.heap.size v' PB ∧ Below X.heap.size X w') := fun X hX => HBO0.out X hX hl72
  have HTM : Hid (∀ X : World, Below w.heap.size w X → Calls Tryz.prog 72 #[Cm.v ⟨(⟨⟨k, m, s⟩, nm, ls⟩, .slice a hn cap), body, .slice a' body.length cap', tests, .slice a'' tests.length cap''⟩] X fun e w' => ∃ v', e = .returned v' ∧ OwnT w' X.heap.size v' TT ∧ Below X.heap.size X w') := fun X hX => HTE2.out X hX (by rw [HTQ.out, List.length_append, List.length_append]; omega)
  have HTL : Hid (TT.length ≤ 97) := by show _ ≤ _; rw [HTQ.out, List.length_append, List.length_append]; omega
  clear C4 hk3 hl9 hl72 hl16 HHD0 HTT0 HBO0 HTE2
  go_upto_region 20 with (go_at_call 67; refine (HBO.out _ HW4.out).mono ?_; rintro e w5 ⟨bt, rfl, hbt, hb5⟩; have HBT : Hid (Ts w5 bt PB) := hbt.tsP.ts (by have := HLE.out.2.1; omega); have HX5 : Hid (Bx w5 w.heap.size ⟨(⟨⟨k, m, s⟩, nm, ls⟩, .slice a hn cap), body, .slice a' body.length cap', tests, .slice a'' tests.length cap''⟩) := HXr.out.later hb5; have HW5 : Hid (Below w.heap.size w w5) := below_step HW4.out hb5; clear hbt hb5 c0 c1 c2 c3 c4 c5 c6)
  clear HBO HXr HW4 hz3 hq
  go_cut [9] from 68 (fun s9 wx => ∃ (xa : Option Addr) (xn xc : Nat), s9 = .slice xa xn xc ∧ OwnT wx w5.heap.size (.slice xa xn xc) (PH ++ PT) ∧ Below w5.heap.size w5 wx)
  case first =>
    refine wp_region_held_drew (S := fun w' => Below w5.heap.size w5 w') (by kernel_rfl) (Below.refl _ _).drew (fun hH => ?_)
    revert hH
    generalize w5.drew = V0
    intro hH
    refine wpAnyH_take (i := 0) (oi := ⟨_, _, _, _, _, _⟩) (v := .pointer (some ⟨w.heap.size, 0, none⟩)) rfl (by kernel_rfl) (by kernel_rfl) (by kernel_rfl) (fun _ _ _ h => h) (Or.inl ⟨by rfl, fun w' h => by clear h; go_simp⟩) hH ?_
    simp only [Act.put, List.setIfInBounds_toArray, List.set_cons_zero, List.set_cons_succ]
    refine wpAnyH_take (i := 1) (oi := ⟨_, _, _, _, _, _⟩) (v := .agg #[.int .i64 k, .int .i64 m, .string s, .string nm, .slice a hn cap]) rfl (by kernel_rfl) (by kernel_rfl) (by kernel_rfl) (fun _ _ _ h => h) (Or.inl ⟨by rfl, fun w' h => by obtain ⟨c0, c1, c2, c3, c4, c5, c6⟩ := cseven (CBlk.later (Hid.out HX5).b h); clear h; go_simp⟩) hH ?_
    simp only [Act.put, List.setIfInBounds_toArray, List.set_cons_zero, List.set_cons_succ]
    refine wpAnyH_take (i := 3) (oi := ⟨_, _, _, _, _, _⟩) (v := .agg #[.int .i64 k, .int .i64 m, .string s, .string nm, .slice a hn cap, .slice a' body.length cap', .slice a'' tests.length cap'']) rfl (by kernel_rfl) (by kernel_rfl) (by kernel_rfl) (fun _ _ _ h => h) (Or.inl ⟨by rfl, fun w' h => by obtain ⟨c0, c1, c2, c3, c4, c5, c6⟩ := cseven (CBlk.later (Hid.out HX5).b h); clear h; go_simp⟩) hH ?_
    simp only [Act.put, List.setIfInBounds_toArray, List.set_cons_zero, List.set_cons_succ]
    refine wpAnyH_ready (rs := [2]) (by kernel_rfl) (by simp) ?_
    refine (AllReadyH.cons (o := ⟨_, _, _, _, _, _⟩) rfl (fun K hK => ?_) AllReadyH.nil)
    go_simp
    refine (HHD.out _ (below_step HW5.out hH)).mono ?_
    rintro e V1 ⟨y, rfl, hy, hb⟩
    have HY : Hid (OwnT V1 w5.heap.size y PH) := hy.mono hH.size
    refine hK.out _ _ (below_step hH hb) (fun hH => ?_)
    clear hK K hb hy
    try simp only [Act.put, List.setIfInBounds_toArray, List.set_cons_zero, List.set_cons_succ]
    refine wpAnyH_ready (rs := [4]) (by kernel_rfl) (by simp) ?_
    refine (AllReadyH.cons (o := ⟨_, _, _, _, _, _⟩) rfl (fun K hK => ?_) AllReadyH.nil)
    go_simp
    refine (HTE.out _ (below_step HW5.out hH)).mono ?_
    rintro e V2 ⟨z, rfl, hz, hb⟩
    have HZ : Hid (TsP V2 z PT) := hz.tsP
    have HY2 : Hid (OwnT V2 w5.heap.size y PH) := HY.out.later hb
    refine hK.out _ _ (below_step hH hb) (fun hH => ?_)
    clear hK K hb hz HY
    try simp only [Act.put, List.setIfInBounds_toArray, List.set_cons_zero, List.set_cons_succ]
    refine wpAnyH_ready (rs := [5]) (by kernel_rfl) (by simp) ?_
    refine (AllReadyH.cons (o := ⟨_, _, _, _, _, _⟩) rfl (fun K hK => ?_) AllReadyH.nil)
    refine stepT_list rfl _ _ rfl w5.heap.size y PH (by rfl) HY2.out z PT (by rfl) HZ.out (by have := HLN.out; omega) hH.size ?_
    intro v3 V3 hown hb3
    obtain ⟨xa, xc, rfl⟩ := hown.tsP.form
    obtain ⟨xn, hxn⟩ : ∃ n, (PH ++ PT).length = n := ⟨_, rfl⟩
    rw [hxn] at hown ⊢
    have HO3 : Hid (OwnT V3 w5.heap.size (.slice xa xn xc) (PH ++ PT)) := hown
    refine hK.out _ _ (hH.trans hb3) (fun hH => ?_)
    clear hK K hown hb3 HY2 HZ
    try simp only [Act.put, List.setIfInBounds_toArray, List.set_cons_zero, List.set_cons_succ]
    refine wpAnyH_take (i := 6) (oi := ⟨_, _, _, _, _, _⟩) (v := .slice xa xn xc) rfl (by kernel_rfl) (by kernel_rfl) (by kernel_rfl) (fun _ _ _ h => h) (Or.inl ⟨by rfl, fun w' h => by clear h; go_simp⟩) hH ?_
    simp only [Act.put, List.setIfInBounds_toArray, List.set_cons_zero, List.set_cons_succ]
    refine wpAnyH_done (by kernel_rfl) ?_ _
    go_wp2_with fail
    go_meet
    case rel => exact ⟨xa, xn, xc, rfl, HO3.out, hH⟩
  case rest =>
  obtain ⟨xa, xn, xc, rfl, hrs, hb6⟩ := hcut
  rename World => w6
  have HRS : Hid (Ts w6 (.slice xa xn xc) (PH ++ PT)) := hrs.tsP.ts (by rw [List.length_append]; have := HLN.out; omega)
  have HBT6 : Hid (Ts w6 bt PB) := HBT.out.later hb6
  have HX6 : Hid (Bx w6 w.heap.size ⟨(⟨⟨k, m, s⟩, nm, ls⟩, .slice a hn cap), body, .slice a' body.length cap', tests, .slice a'' tests.length cap''⟩) := HX5.out.later hb6
  have HW6 : Hid (Below w.heap.size w w6) := below_step HW5.out hb6
  clear hrs hb6 HBT HX5 HW5 HHD HTE
  go_upto_region 22 with (go_at_call 70; refine (variables3_any (PH ++ PT) _ _ HRS.out (by rw [List.length_append]; have := HLN.out; omega)).mono ?_; rintro e w7 ⟨nv, rfl, hnv, hb7⟩; have hdl := disT_len (PH ++ PT); have hnt : Ts w7 nv (disT (PH ++ PT)) := hnv.tsP.ts (by rw [List.length_append] at hdl; have := HLN.out; omega); have HNV : Hid (Ts w7 nv (disT (PH ++ PT))) := hnt; have HBT7 : Hid (Ts w7 bt PB) := HBT6.out.later hb7; have HX7 : Hid (Bx w7 w.heap.size ⟨(⟨⟨k, m, s⟩, nm, ls⟩, .slice a hn cap), body, .slice a' body.length cap', tests, .slice a'' tests.length cap''⟩) := HX6.out.later hb7; have HW7 : Hid (Below w.heap.size w w7) := below_step HW6.out hb7; obtain ⟨na, nc, hnf, hnl, hnr⟩ := hnt; subst hnf; clear hnv hb7 hdl)
  clear HRS HBT6 HX6 HW6
  generalize disT (PH ++ PT) = ND at HNV C5 C6 C7 hnl hnr ⊢
  go_wp2
  go_loopg [11] ND.length (fun g i wr => ∃ j' : Nat, j' + g = ND.length ∧ i = .int .i64 j' ∧ (∀ t ∈ ND.take j', t ∈ PB) ∧ Below w7.heap.size w7 wr)
  case atStart => exact ⟨0, by omega, rfl, fun t ht => by simp at ht, Below.refl _ _⟩
  case round =>
  obtain ⟨j', hj', rfl, hae, hb⟩ := hrel
  have HAE : Hid (∀ t ∈ ND.take j', t ∈ PB) := hae
  have HBr : Hid (Below w7.heap.size w7 wr) := hb
  clear hae
  cases gk with
  | succ g =>
    have hlt : (j' : Int) < (ND.length : Int) := by omega
    have j0 : (0 : Int) ≤ (j' : Int) := by omega
    obtain ⟨t1, ht1⟩ : ∃ t, ND[j']? = some t := ⟨_, List.getElem?_eq_getElem (by omega)⟩
    rcases hnr with hnr | ⟨b1, o1, rfl, hnr⟩
    · rw [hnr] at ht1; simp at ht1
    obtain ⟨p0, p1, p2⟩ := (hnr.later hb).2 j' t1 ht1
    have HC0 := within_any PB bt t1 wr (HBT7.out.later hb)
    obtain ⟨IN, hIN⟩ : ∃ b, decide (t1 ∈ PB) = b := ⟨_, rfl⟩
    rw [hIN] at HC0
    have HC : Hid (Calls Tryz.prog 71 #[bt, t1.v] wr fun e w' => e = .returned (.bool IN) ∧ Below wr.heap.size wr w') := HC0
    have HD1 : Hid (IN = true → ∀ t ∈ ND.take (j' + 1), t ∈ PB) := fun e t ht => by
      rw [List.take_add_one, ht1] at ht
      rcases List.mem_append.1 ht with ht | ht
      · exact HAE.out t ht
      · simp at ht; subst ht; rw [e] at hIN; exact of_decide_eq_true hIN
    have HD2 : Hid (IN = false → ∃ t ∈ ND, ¬ t ∈ PB) := fun e => ⟨t1, List.mem_of_getElem? ht1, by rw [e] at hIN; exact of_decide_eq_false hIN⟩
    clear ht1 hb HC0 hIN hnr
    obtain ⟨tk, tn, ts⟩ := t1
    simp only at p0 p1 p2
    cases IN with
    | true =>
      go_wp2_with (go_at_call 71; refine HC.out.mono ?_; rintro e w8 ⟨rfl, hb3⟩; have HB3' : Hid (Below w7.heap.size w7 w8) := below_step HBr.out hb3; clear hb3 p0 p1 p2)
      go_roundg g
      case measure => omega
      case rel => exact ⟨j' + 1, by omega, by go_num, HD1.out (by simp), HB3'.out⟩
    | false =>
      have HR : Hid (R = 34) := C5.out (HD2.out rfl)
      go_wp2_with (go_at_call 71; refine HC.out.mono ?_; rintro e w8 ⟨rfl, hb3⟩; have HB3' : Hid (Below w7.heap.size w7 w8) := below_step HBr.out hb3; clear hb3 p0 p1 p2)
      go_ret
      exact ⟨by rw [HR.out]; rfl, below_step HW7.out HB3'.out⟩
  | zero =>
  have hz3 : ¬ (j' : Int) < (ND.length : Int) := by omega
  have hall : ∀ t ∈ ND, t ∈ PB := by
    have := HAE.out
    rwa [List.take_of_length_le (by omega)] at this
  have C6 : Hid _ := C6.out hall
  have C7 : Hid _ := C7.out hall
  have HX8 : Hid (Bx wr w.heap.size ⟨(⟨⟨k, m, s⟩, nm, ls⟩, .slice a hn cap), body, .slice a' body.length cap', tests, .slice a'' tests.length cap''⟩) := HX7.out.later hb
  have HW8 : Hid (Below w.heap.size w wr) := below_step HW7.out hb
  clear C5 hall hb HAE HBr HX7 HW7 HBT7 HNV hnr
  obtain ⟨c0, c1, c2, c3, c4, c5, c6⟩ := cseven HX8.out.b
  go_upto_region 28 with (first
    | (go_at_call 72; refine (HTM.out _ HW8.out).mono ?_; rintro e w9 ⟨y, rfl, hy, hb9⟩; have HY : Hid (Ts w9 y TT) := hy.tsP.ts (by have := HTL.out; omega); have HW9 : Hid (Below w.heap.size w w9) := below_step HW8.out hb9; clear hy hb9 c0 c1 c2 c3 c4 c5 c6)
    | (go_at_call 70; refine (variables3_any TT y _ HY.out (by have := HTL.out; omega)).mono ?_; rintro e w10 ⟨nv2, rfl, hnv, hb7⟩; have hdl := disT_len TT; have hnt : Ts w10 nv2 (disT TT) := hnv.tsP.ts (by have := HTL.out; omega); have HW10 : Hid (Below w.heap.size w w10) := below_step HW9.out hb7; obtain ⟨ma, mc, hnf, hml, hmr⟩ := hnt; subst hnf; clear hnv hb7))
  clear HTM HX8 HW8 HY HW9 hz3
  generalize disT TT = AL at C6 C7 hdl hml hmr ⊢
  have HAL : Hid (AL.length ≤ 97) := by show _ ≤ _; have := HTL.out; omega
  go_wp2
  go_loopg [13] AL.length (fun g i wr => ∃ q : Nat, q + g = AL.length ∧ i = .int .i64 q ∧ (∀ (i : Nat) (t : Tm), i < q → AL[i]? = some t → t.n = i) ∧ Below w10.heap.size w10 wr)
  case atStart => exact ⟨0, by omega, rfl, fun i t hi => by omega, Below.refl _ _⟩
  case round =>
  obtain ⟨q, hqg, rfl, hae, hb⟩ := hrel
  have HAE : Hid (∀ (i : Nat) (t : Tm), i < q → AL[i]? = some t → t.n = i) := hae
  have HBr : Hid (Below w10.heap.size w10 wr) := hb
  clear hae
  cases gk with
  | succ g =>
    have hlt : (q : Int) < (AL.length : Int) := by omega
    have j0 : (0 : Int) ≤ (q : Int) := by omega
    have hq97 : (q : Int) ≤ 97 := by have := HAL.out; omega
    obtain ⟨t1, ht1⟩ : ∃ t, AL[q]? = some t := ⟨_, List.getElem?_eq_getElem (by omega)⟩
    rcases hmr with hmr | ⟨b1, o1, rfl, hmr⟩
    · rw [hmr] at ht1; simp at ht1
    obtain ⟨-, p1, -⟩ := (hmr.later hb).2 q t1 ht1
    have HD1 : Hid (t1.n = q → ∀ (i : Nat) (t : Tm), i < q + 1 → AL[i]? = some t → t.n = i) := fun e i t hi ht => by
      by_cases hiq : i = q
      · subst hiq; rw [ht1] at ht; rw [← Option.some.inj ht]; exact e
      · exact HAE.out i t (by omega) ht
    have HD2 : Hid (t1.n ≠ q → ∃ (i : Nat) (t : Tm), AL[i]? = some t ∧ t.n ≠ i) := fun e => ⟨q, t1, ht1, e⟩
    clear ht1 hb hmr
    obtain ⟨tk, tn, ts⟩ := t1
    simp only at p1 HD1 HD2
    by_cases he : tn = (q : Int)
    · have hq2 : (tn != (q : Int)) = false := by rw [he]; simp
      have HD1 : Hid _ := HD1.out he
      clear he
      go_wp2
      go_roundg g
      case measure => omega
      case rel => exact ⟨q + 1, by omega, by go_num, HD1.out, HBr.out⟩
    · have hq2 : (tn != (q : Int)) = true := by simp [he]
      have HR : Hid (R = 35) := C6.out (HD2.out he)
      clear he
      go_wp2
      go_ret
      exact ⟨by rw [HR.out]; rfl, below_step HW10.out HBr.out⟩
  | zero =>
    have hz3 : ¬ (q : Int) < (AL.length : Int) := by omega
    have HR : Hid (R = 0) := C7.out fun i t ht => HAE.out i t (by have := (List.getElem?_eq_some_iff.1 ht).1; omega) ht
    clear C6 C7 hb hmr
    go_wp2
    go_ret
    exact ⟨by rw [HR.out]; rfl, below_step HW10.out HBr.out⟩
end Go.Proofs.YtgbiicmkhlnniaaGreatDoor
