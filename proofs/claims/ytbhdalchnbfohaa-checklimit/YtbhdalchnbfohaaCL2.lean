/-
  atoms: a clause's atoms, one by one.
-/
import Derived.Test.YtbhdalchnbfohaaCL1
import Derived.Test.YtbhdalchnbfohaaSQ1
import Derived.RangeFuncCalls
import Derived.Shelf.Abstract
import Derived.Shelf.RegionOpen
import Derived.WalkKit
import Derived.OwnWalkIn
import Derived.TacticsInMore
import Derived.LoopNIn
import Derived.LoopIn
namespace Go.Proofs.Ytbhdalchnbfohaa
open Go.RowKit Go.Shelf
attribute [local go_sem] Oper.semAt_some

theorem atoms_any (c : Cm) (w : World) (h : c.ok w) :
    Calls Try.prog 56 #[c.v] w fun e w' => e = .returned (.func (.func 59) #[] #[.pointer (some ⟨w.heap.size, 0, none⟩)]) ∧ w' = w.alloc (.cells c.cs 50) := by
  obtain ⟨⟨a, n, cap, h1⟩, ⟨a', cap', h2⟩, ⟨a'', cap'', h3⟩, -, -⟩ := h.shape
  obtain ⟨⟨⟨⟨k, m, s⟩, nm, l⟩, hx⟩, body, bv, tests, tv⟩ := c
  simp only at h1 h2 h3
  subst h1 h2 h3
  go_enter Try.func56, Try.ntmps56
  go_wp2
  go_ret
  exact ⟨rfl, rfl⟩
/-- The clause lies in block B. -/
def CMem (c : Cm) (B : Nat) (W : World) : Prop := CBlk W B c.cs 50 ∧ c.ok W
theorem pre_one {α : Type} {x : α} {l : List α} : [] ++ [x] <+: x :: l := ⟨l, rfl⟩
theorem pre_take {α : Type} {x y : α} {l : List α} {k : Nat} (h : l[k]? = some y) : (x :: l.take k) ++ [y] <+: x :: l := by
  refine ⟨l.drop (k + 1), ?_⟩
  obtain ⟨hk, rfl⟩ := List.getElem?_eq_some_iff.1 h
  rw [List.cons_append, List.cons_append, List.append_assoc, List.singleton_append, List.getElem_cons_drop, List.take_append_drop]
theorem take_next {α : Type} {y : α} {l : List α} {k : Nat} (h : l[k]? = some y) : l.take (k + 1) = l.take k ++ [y] := by
  obtain ⟨hk, rfl⟩ := List.getElem?_eq_some_iff.1 h
  rw [List.take_succ_eq_append_getElem hk]
set_option maxRecDepth 100000 in
set_option maxHeartbeats 1000000 in
theorem atoms_seq (c : Cm) (B0 : Nat) :
    SeqO Try.prog 59 #[.pointer (some ⟨B0, 0, none⟩)] (fun x : At × Value => #[x.1.v x.2]) c.atoms (CMem c B0) := by
  intro n l J Jx W hJB hJ hJx hY h0
  have hWB := hJB [] W h0
  obtain ⟨⟨a, hn, cap, h1⟩, ⟨a', cap', h2⟩, ⟨a'', cap'', h3⟩, hbl, -⟩ := hWB.2.shape
  obtain ⟨c0, c1, c2, c3, c4, c5, c6⟩ := cseven hWB.1
  obtain ⟨⟨⟨⟨k, m, s⟩, nm, ls⟩, hx⟩, body, bv, tests, tv⟩ := c
  simp only at h1 h2 h3 c0 c1 c2 c3 c4 c5 c6 hbl
  subst h1 h2 h3
  clear hWB
  obtain ⟨fn, tmps, assign, bd, hy, hR⟩ := hY (n - 1) [] (⟨⟨k, m, s⟩, nm, ls⟩, .slice a hn cap) W h0 pre_one
  dsimp only at hy
  refine callsIn_of_wp Try.func59 rfl trivial ?_ rfl
  simp only [Try.ntmps59, List.size_toArray, List.length_cons, List.length_nil, Nat.reduceAdd, Nat.reduceSub, Array.replicate_succ, Array.replicate_zero, List.push_toArray, List.append_toArray, List.nil_append, List.cons_append]
  gi_wp2
  refine ⟨fun h => (by cases h), hR.mono ?_⟩
  clear hR hy
  rintro e W1 (⟨rfl, hJ1, hu1⟩ | ⟨rfl, hx1, -⟩)
  · have hWB := hJB _ W1 hJ1
    obtain ⟨d0, d1, d2, d3, d4, d5, d6⟩ := cseven hWB.1
    simp only at d0 d1 d2 d3 d4 d5 d6
    clear c0 c1 c2 c3 c4 c5 c6 hWB
    have HJ1 : Hid (J [(⟨⟨k, m, s⟩, nm, ls⟩, .slice a hn cap)] W1) := hJ1
    clear hJ1 hu1
    gi_wp2
    gi_loopw [13] (fun p wr => ∃ (q : Nat), p = .int .i64 (q : Int) ∧ q ≤ body.length ∧ J ((⟨⟨k, m, s⟩, nm, ls⟩, .slice a hn cap) :: body.take q) wr)
      (fun p _ => body.length - (intOf p).toNat)
    case atStart => exact ⟨0, rfl, Nat.zero_le _, HJ1.out⟩
    case round =>
      obtain ⟨q, rfl, hq, hJr⟩ := hrel
      have HJr : Hid (J ((⟨⟨k, m, s⟩, nm, ls⟩, .slice a hn cap) :: body.take q) wr) := hJr
      have hWB := hJB _ wr hJr
      clear hJr HJ1
      by_cases hlt : q < body.length
      · have i0 : (0 : Int) ≤ (q : Int) := by omega
        have i1 : (q : Int) < (body.length : Int) := by omega
        obtain ⟨x, hx⟩ : ∃ x, body[q]? = some x := ⟨_, List.getElem?_eq_getElem hlt⟩
        obtain ⟨a1, cap1, hv, -, hm, hts⟩ := hWB.2.b
        simp only [Value.slice.injEq, true_and] at hv
        obtain ⟨rfl, rfl⟩ := hv
        rcases hm with hm | ⟨b, o, rfl, hm⟩
        · simp only at hm; rw [hm] at hlt; simp at hlt
        obtain ⟨e0, e1, e2, e3, e4⟩ := hm.2 q x hx
        obtain ⟨ax, capx, hax, -⟩ := hts x (List.mem_of_getElem? hx)
        have HX : Hid (body[q]? = some x) := hx
        have hY1 := hY (n - 1) _ x _ (hJ.alloc (.cells #[.int .i64 x.1.by_.k, .int .i64 x.1.by_.n, .string x.1.by_.s, .string x.1.name, x.2] 30) HJr.out) (pre_take hx)
        clear hm hts hx hWB
        obtain ⟨⟨⟨kx, mx, sx⟩, nx, lx⟩, vx⟩ := x
        simp only at e0 e1 e2 e3 e4 hax hY1
        subst hax
        obtain ⟨fn, tmps, assign, bd, hy, hR⟩ := hY1
        gi_wp2
        refine ⟨fun h => (by cases h), hR.mono ?_⟩
        clear hR hy
        rintro e W3 (⟨rfl, hJ3, hu3⟩ | ⟨rfl, hx3, -⟩)
        · have HJ3 : Hid (J ((⟨⟨k, m, s⟩, nm, ls⟩, .slice a hn cap) :: body.take (q + 1)) W3) := by
            show J _ W3; rw [take_next HX.out]; exact hJ3
          clear hJ3 hu3
          gi_wp2
          go_roundw
          case rel => exact ⟨q + 1, by go_num, by omega, HJ3.out⟩
          case measure => simp [intOf]; omega
        · have HX3 : Hid _ := hx3
          clear hx3
          gi_wp2
          refine bodyPost_ret (results_none rfl _ _ _) rfl ?_
          exact ⟨⟨_, rfl⟩, .inr ⟨_, pre_take HX.out, HX3.out⟩⟩
      · obtain rfl : q = body.length := by omega
        have i1 : ¬ ((body.length : Int) < (body.length : Int)) := by omega
        clear hWB
        gi_wp2
        go_end0
        have := HJr.out
        rw [List.take_length] at this
        exact ⟨⟨_, rfl⟩, .inl this⟩
  · have HX1 : Hid _ := hx1
    clear hx1
    gi_wp2
    refine bodyPost_ret (results_none rfl _ _ _) rfl ?_
    exact ⟨⟨_, rfl⟩, .inr ⟨_, pre_one, HX1.out⟩⟩
end Go.Proofs.Ytbhdalchnbfohaa
