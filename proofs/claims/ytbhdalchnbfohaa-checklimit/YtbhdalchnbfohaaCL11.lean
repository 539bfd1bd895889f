/-
  wrongTest, checks, Check. (Written by CL11.py.)
-/
import Derived.Test.YtbhdalchnbfohaaCL10
namespace Go.Proofs.Ytbhdalchnbfohaa
open Go.RowKit Go.Shelf

def badT (c : Cm) : Bool := c.tests.any fun t => !t.ok
theorem badT_no {l : List Te} (h : ∀ t ∈ l, t.ok = true) : (l.any fun t => !t.ok) = false := by
  rw [List.any_eq_false]; intro t ht; simp [h t ht]
theorem badT_yes {l : List Te} {j : Nat} {t : Te} (ht : l[j]? = some t) (h : t.ok = false) : (l.any fun t => !t.ok) = true := by
  rw [List.any_eq_true]; exact ⟨t, List.mem_of_getElem? ht, by simp [h]⟩
set_option maxRecDepth 20000 in
set_option maxHeartbeats 1000000 in
theorem wrongTest_any (c : Cm) (w : World) (h : c.ok w) : Calls Try.prog 41 #[c.v] w fun e w' => e = .returned (.bool (badT c)) ∧ Below w.heap.size w w' := by
  obtain ⟨⟨a, hn, cap, h1⟩, ⟨a', cap', h2⟩, ⟨a'', cap'', h3⟩, hbl, htl⟩ := h.shape
  have HT : Hid (Es w c.tv c.tests) := h.t
  clear h
  unfold badT
  obtain ⟨⟨⟨⟨k, m, s⟩, nm, ls⟩, hx⟩, body, bv, tests, tv⟩ := c
  simp only at h1 h2 h3 hbl htl HT
  subst h1 h2 h3
  obtain ⟨r, hr⟩ : ∃ r, (tests.any fun t => !t.ok) = r := ⟨_, rfl⟩
  have HR : Hid ((tests.any fun t => !t.ok) = r) := hr
  simp only [hr]
  clear hr
  go_enter Try.func41, Try.ntmps41
  go_wp2
  go_loopg [8] tests.length (fun g i wr => ∃ j : Nat, j + g = tests.length ∧ i = .int .i64 (j : Int) ∧ (∀ t ∈ tests.take j, t.ok = true) ∧ Below w.heap.size w wr)
  case atStart => exact ⟨0, by omega, rfl, by simp, below1 _ _⟩
  case round =>
    obtain ⟨j, hj, rfl, hall, hbr⟩ := hrel
    have HA : Hid (∀ t ∈ tests.take j, t.ok = true) := hall
    have HBr : Hid (Below w.heap.size w wr) := hbr
    cases gk with
    | succ g =>
      have hlt : j < tests.length := by omega
      have i0 : (0 : Int) ≤ (j : Int) := by omega
      have i1 : (j : Int) < (tests.length : Int) := by omega
      obtain ⟨t, ht⟩ : ∃ t, tests[j]? = some t := ⟨_, List.getElem?_eq_getElem hlt⟩
      obtain ⟨a1, cap1, hv, -, hm⟩ := HT.out.later hbr
      simp only [Value.slice.injEq, true_and] at hv
      obtain ⟨rfl, rfl⟩ := hv
      rcases hm with hm | ⟨b, o, rfl, hm⟩
      · rw [hm] at hlt; simp at hlt
      obtain ⟨e0, e1, e2, e3, e4, e5, e6⟩ := hm.2 j t ht
      have hck := fun X => check_any t X
      have HTj : Hid (tests[j]? = some t) := ht
      obtain ⟨ok, hok⟩ : ∃ ok, t.ok = ok := ⟨_, rfl⟩
      have HOk : Hid (t.ok = ok) := hok
      simp only [hok] at hck
      clear hm ht hall hbr hok
      obtain ⟨op, ⟨kl, ml, sl⟩, ⟨kr, mr, sr⟩⟩ := t
      simp only at e0 e1 e2 e3 e4 e5 e6 hck
      cases ok with
      | true =>
        simp only [if_true] at hck
        go_wp2_with (go_at_call 34; refine (hck _).mono ?_; clear hck; rintro e w1 ⟨rfl, hb1⟩; have HB1 : Hid (Below _ _ _) := hb1; clear hb1)
        go_roundg g
        case measure => omega
        case rel =>
          refine ⟨j + 1, by omega, by go_num, fun t ht => ?_, below_step (below_step HBr.out (below1 _ _)) HB1.out⟩
          rw [take_next HTj.out] at ht
          rcases List.mem_append.1 ht with ht | ht
          · exact HA.out t ht
          · rw [List.mem_singleton] at ht; rw [ht]; exact HOk.out
      | false =>
        simp only [Bool.false_eq_true, if_false] at hck
        go_wp2_with (go_at_call 34; refine (hck _).mono ?_; clear hck; rintro e w1 ⟨rfl, hb1⟩; have HB1 : Hid (Below _ _ _) := hb1; clear hb1)
        go_ret
        refine ⟨ret_b ?_, below_step (below_step HBr.out (below1 _ _)) HB1.out⟩
        rw [← HR.out, badT_yes HTj.out HOk.out]
    | zero =>
      obtain rfl : j = tests.length := by omega
      have hz : ¬ ((tests.length : Int) < (tests.length : Int)) := by omega
      clear hall hbr
      go_wp2
      go_ret
      refine ⟨ret_b ?_, HBr.out⟩
      have := HA.out
      rw [List.take_length] at this
      rw [← HR.out, badT_no this]
abbrev tbl (n : Nat) : Array Value := #[.func (.func 39) #[] #[], .int .i64 31, .func (.func 50) #[] #[.pointer (some ⟨n, 0, none⟩)], .int .i64 21, .func (.func 50) #[] #[.pointer (some ⟨n + 1, 0, none⟩)], .int .i64 22, .func (.func 50) #[] #[.pointer (some ⟨n + 1 + 1, 0, none⟩)], .int .i64 23, .func (.func 50) #[] #[.pointer (some ⟨n + 1 + 1 + 1, 0, none⟩)], .int .i64 24, .func (.func 41) #[] #[], .int .i64 32, .func (.func 42) #[] #[], .int .i64 33, .func (.func 43) #[] #[], .int .i64 34, .func (.func 44) #[] #[], .int .i64 35]
abbrev chW (w : World) : World := ((((w.alloc (.cells #[.int .i64 21] 36)).alloc (.cells #[.int .i64 22] 36)).alloc (.cells #[.int .i64 23] 36)).alloc (.cells #[.int .i64 24] 36)).alloc (.cells (tbl w.heap.size) 71)
set_option maxHeartbeats 1000000 in
theorem checks_any (w : World) : Calls Try.prog 29 #[] w fun e w' => e = .returned (.slice (some ⟨w.heap.size + 1 + 1 + 1 + 1, 0, none⟩) 9 9) ∧ w' = chW w := by
  go_enter Try.func29, Try.ntmps29
  go_wp2_with (go_at_call 40; refine (wrongAtom_any _ _).mono ?_; rintro e w1 ⟨rfl, rfl⟩)
  go_ret
  exact ⟨rfl, rfl⟩
end Go.Proofs.Ytbhdalchnbfohaa
