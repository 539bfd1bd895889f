import Derived.Test.YtechceagghcipaaGreatDoorRA17
import Derived.Test.YtechceagghcipaaGreatDoorRA20
import Derived.RangeFuncCalls
import Derived.Shelf.Abstract
import Derived.Shelf.RegionOpen
import Derived.WalkKit
import Derived.OwnWalkIn
import Derived.TacticsInMore
import Derived.LoopNIn
import Derived.LoopIn
import Derived.Test.YtechceagghcipaaGreatDoorRA16
import Derived.Test.YtechceagghcipaaGreatDoorShelf
namespace Go.Proofs.YtechceagghcipaaGreatDoor
open Go.RowKit Go.Shelf

structure FB (w : World) (g : Nat) (parts : Int) (sv nv : Value) (b1 b2 b3 b4 b5 : Nat) : Prop where
 p : Bk w b1 #[.bool true] 4
 r : Bk w b2 #[.pointer (some ⟨g, 0, none⟩)] 73
 q : Bk w b3 #[.int .i64 parts] 3
 s : Bk w b4 #[sv] 71
 n : Bk w b5 #[nv] 71
theorem FB.below {w w' : World} {g : Nat} {parts : Int} {sv nv : Value} {b1 b2 b3 b4 b5 : Nat} (h : FB w g parts sv nv b1 b2 b3 b4 b5) (hb : Below w.heap.size w w') : FB w' g parts sv nv b1 b2 b3 b4 b5 := ⟨h.p.below hb, h.r.below hb, h.q.below hb, h.s.below hb, h.n.below hb⟩
def fnd7 (b1 b2 b3 b4 b5 : Nat) : Value := .func (.func 91) #[] #[.pointer (some ⟨b1, 0, none⟩), .pointer (some ⟨b2, 0, none⟩), .pointer (some ⟨b3, 0, none⟩), .pointer (some ⟨b4, 0, none⟩), .pointer (some ⟨b5, 0, none⟩)]
section
attribute [local go_sem ↓] Go.wp_at_zero Go.wp_at_succ
end
attribute [local go_sem] Oper.semAt_some
theorem pre_take0 {α : Type} {y : α} {l : List α} {k : Nat} (h : l[k]? = some y) : l.take k ++ [y] <+: l := by
 refine ⟨l.drop (k + 1), ?_⟩
 obtain ⟨hk, rfl⟩ := List.getElem?_eq_some_iff.1 h
 rw [List.append_assoc, List.singleton_append, List.getElem_cons_drop, List.take_append_drop]
theorem take_next0 {α : Type} {y : α} {l : List α} {k : Nat} (h : l[k]? = some y) : l.take (k + 1) = l.take k ++ [y] := by
 obtain ⟨hk, rfl⟩ := List.getElem?_eq_some_iff.1 h
 rw [List.take_succ_eq_append_getElem hk]
theorem srtR_uniq {a b : List (List Int)} (ha : srtR a) (hb : srtR b) (h : a.Perm b) : a = b :=
 List.Perm.eq_of_pairwise (fun x y _ _ h1 h2 => cmpR_eq (by have := cmpR_neg x y; omega)) ha hb h
structure FD0 (g : Nat) (F S G N : Nat -> Prop) (m : Nat) (s : St7) (parts : Int) (cols : List Nat) (nums : List Int) (sv nv : Value) (b1 b2 b3 b4 b5 : Nat) (W : World) : Prop where
 b : FB W g parts sv nv b1 b2 b3 b4 b5
 r : RM W g F S m s
 s : Li G W sv (nat7 cols)
 g : ∀ b, G b -> ¬ F b /\ b < W.heap.size
 n : Li N W nv nums
 f : ∀ b, N b -> ¬ F b
def FEff (g : Nat) (F S G : Nat -> Prop) (m : Nat) (s : St7) (W W1 : World) : Prop :=
 ∃ F' : Nat -> Prop, RM W1 g F' (fun b => S b ∨ G b) (m + 1) s /\ Fr F W W1 /\ (∀ b, F b -> F' b) /\ ∀ b, F' b -> (F b ∨ W.heap.size <= b) /\ b < W1.heap.size
def FK (S G : Nat -> Prop) (W W1 : World) : Prop := ∀ b, S b ∨ G b -> W1.heap[b]? = W.heap[b]?
theorem RM.q2 {w : World} {g : Nat} {F S : Nat -> Prop} {m : Nat} {s : St7} (h : RM w g F S m s) : ∀ b, S b -> b < w.heap.size := by obtain ⟨rv, rvs, mp, mx, nx, t, f, hn, h⟩ := h; exact h.q2
theorem RM.q {w : World} {g : Nat} {F S : Nat -> Prop} {m : Nat} {s : St7} (h : RM w g F S m s) : ∀ b, F b -> ¬ S b /\ b < w.heap.size := by obtain ⟨rv, rvs, mp, mx, nx, t, f, hn, h⟩ := h; exact h.q
set_option maxRecDepth 100000 in
set_option maxHeartbeats 1000000 in
theorem find_seq (g : Nat) (F S G N : Nat -> Prop) (m : Nat) (s : St7) (parts : Int) (cols : List Nat) (nums : List Int) (sv nv : Value) (b1 b2 b3 b4 b5 : Nat) (xs : List (List Int)) (hx : srtR xs) (hxp : xs.Perm (sel7 s parts cols nums)) (hxl : ∀ x ∈ xs, x.length <= 100000000000) (hxn : xs.length <= 100000000000)
  (hcl : cols.length <= 10000000000) (hcw : ∀ c ∈ cols, c < s.wd) (hnl : nums.length <= 10000000000) (hm : m <= 100000000000000) :
  SeqX Tryz.prog 91 #[.pointer (some ⟨b1, 0, none⟩), .pointer (some ⟨b2, 0, none⟩), .pointer (some ⟨b3, 0, none⟩), .pointer (some ⟨b4, 0, none⟩), .pointer (some ⟨b5, 0, none⟩)] xs (FD0 g F S G N m s parts cols nums sv nv b1 b2 b3 b4 b5) (FEff g F S G m s) (FK S G) := by
 intro n l J Jx W hd hEff hK hY
 have HFO := hm7 (callsIn_wide (n := n - 1).2 (found7_any sort_ok7 g F S G N m s parts cols nums sv nv W hd.r hd.s hd.g hcl hcw hd.n hd.f hnl hm))
 have c1 := hd.b.p.cell (i := 0) rfl
 have c2 := hd.b.r.cell (i := 0) rfl
 have c3 := hd.b.q.cell (i := 0) rfl
 have c4 := hd.b.s.cell (i := 0) rfl
 have c5 := hd.b.n.cell (i := 0) rfl
 obtain ⟨na, nn, nc, rfl⟩ : ∃ a n c, nv = .slice a n c := by obtain ⟨a, c, e, -⟩ := hd.n; exact ⟨_, _, _, e⟩
 obtain ⟨sa, sn, sc, rfl⟩ : ∃ a n c, sv = .slice a n c := by obtain ⟨a, c, e, -⟩ := hd.s; exact ⟨_, _, _, e⟩
 have HD := hm7 hd
 have HEff := hm7 hEff
 have HK := hm7 hK
 have HY := hm7 hY
 have HXL := hm7 hxl
 have HX := hm7 (And.intro hx hxp)
 clear hd hEff hK hY hcw hxl hx hxp
 refine callsIn_of_wp Tryz.func91 rfl trivial ?_ rfl
 simp only [Tryz.ntmps91, List.size_toArray, List.length_cons, List.length_nil, Nat.reduceAdd, Nat.reduceSub, Array.replicate_succ, Array.replicate_zero, List.push_toArray, List.append_toArray, List.nil_append, List.cons_append]
 gi_wp2
 refine ⟨trivial, fun h => (by cases h), HFO.out.mono ?_⟩
 rintro e w2 ⟨v, F', P, B, rfl, hrm, hfr, ha, hd, hB1, hB2, ho, hp, hpp, hps⟩
 obtain ⟨a, cap, hv, -⟩ := row7_form ho
 obtain ⟨k, hk⟩ : ∃ k, P.length = k := ⟨_, rfl⟩
 rw [hk] at hv ho
 subst hv
 have HRM := hm7 (And.intro hrm (And.intro hfr (And.intro ha hd)))
 have HO := hm7 ho
 have HP := hm7 hp
 have HPX := hm7 (srtR_uniq hps HX.out.1 (hpp.trans HX.out.2.symm))
 have HPK := hm7 hk
 clear hrm hfr ha hd ho hp hpp hps hk
 gi_wp2
 have HJ0 : Hid (J w2.heap.size [] w2) := HEff.out w2 ⟨F', HRM.out.1, HRM.out.2.1, HRM.out.2.2.1, fun b hb => ⟨(HRM.out.2.2.2 b hb).1, Nat.lt_of_lt_of_le (HRM.out.2.2.2 b hb).2 hB2⟩⟩
 have hkx : xs.length = k := by rw [<- HPX.out, List.length_map, HPK.out]
 clear HEff HFO c1 c2 c3 c4 c5
 gi_loopw [17] (fun p wr => ∃ (q : Nat), p = .int .i64 (q : Int) /\ q <= k /\ J w2.heap.size (xs.take q) wr /\ Uq W.heap.size w2.heap.size w2 wr) (fun p _ => k - (intOf p).toNat)
 case atStart => exact ⟨0, rfl, Nat.zero_le _, HJ0.out, Uq.refl _ _ _⟩
 case round =>
  obtain ⟨q, rfl, hq, hJr, huq⟩ := hrel
  have HJr := hm7 hJr
  have HUQ := hm7 huq
  clear hJr HJ0 huq
  by_cases hlt : q < k
  ·have i0 : (0 : Int) <= (q : Int) := by omega
   have i1 : (q : Int) < (k : Int) := by omega
   obtain ⟨x, hxq⟩ : ∃ x, P[q]? = some x := ⟨_, List.getElem?_eq_getElem (by rw [HPK.out]; exact hlt)⟩
   have hxx : xs[q]? = some x.1 := by rw [<- HPX.out, List.getElem?_map, hxq]; rfl
   obtain ⟨bg, rfl, hbg, hbl, hc, -⟩ := row7_at HO.out (i := q) (u := x.2) (by rw [List.getElem?_map, hxq]; rfl)
   rw [<- World.cell?_of_block (w := w2) (w' := wr) (a := ⟨bg, q, none⟩) (HUQ.out.same bg (by omega) hbl hbl)] at hc
   have hli : Li (fun b => S b ∨ G b) wr x.2 x.1 := (HP.out x (List.mem_of_getElem? hxq)).same HUQ.out.size fun b hb hl => by
    have hbW : b < W.heap.size := hb.elim (HD.out.r.q2 b) fun hg => (HD.out.g b hg).2
    rw [HK.out _ _ _ HJr.out b hb, HRM.out.2.1.block b hbW fun hF => hb.elim (HD.out.r.q b hF).1 fun hg => (HD.out.g b hg).1 hF]
   have HCL := hm7 (callsIn_wide (n := n - 1).2 (clone7_any _ x.2 x.1 wr hli (HXL.out _ (List.mem_of_getElem? hxx))))
   obtain ⟨xa, xc, hxv, -⟩ := hli
   obtain ⟨x, xv⟩ := x
   simp only at hxv hxx hc HCL
   subst hxv
   clear hxq
   have HXX := hm7 hxx
   clear hxx
   gi_wp2
   refine ⟨trivial, fun h => (by cases h), HCL.out.mono ?_⟩
   rintro e w3 ⟨v3, rfl, ho3, hb3⟩
   obtain ⟨a3, c3, hv3, -⟩ := row7_form ho3
   subst hv3
   obtain ⟨fn, tmps, assign, bd, hy, hR⟩ := HY.out (n - 1) _ _ x _ wr w3 HJr.out (pre_take0 HXX.out) hb3 ho3
   have HB3 := hm7 hb3
   clear hb3 ho3
   gi_wp2
   refine ⟨fun h => (by cases h), hR.mono ?_⟩
   clear hR hy
   rintro e W3 (⟨rfl, hJ3, hu3⟩ | ⟨rfl, hx3, -⟩)
   ·have HJ3 : Hid (J w2.heap.size (xs.take (q + 1)) W3) := by
     show J _ _ W3; rw [take_next0 HXX.out]; exact hJ3
    have HU3 : Hid (Uq W.heap.size w2.heap.size w2 W3) := HUQ.out.trans ((Uq.below HB3.out).trans hu3)
    clear hJ3 hu3
    gi_wp2
    go_roundw
    case rel => exact ⟨q + 1, by go_num, by omega, HJ3.out, HU3.out⟩
    case measure => simp [intOf]; omega
   ·have HX3 := hm7 hx3
    clear hx3
    gi_wp2
    refine bodyPost_ret (results_none rfl _ _ _) rfl ?_
    exact ⟨⟨_, rfl⟩, _, .inr ⟨_, pre_take0 HXX.out, HX3.out⟩⟩
  ·obtain rfl : q = k := by omega
   have i1 : ¬ ((q : Int) < (q : Int)) := by omega
   gi_wp2
   go_end0
   have := HJr.out
   rw [<- hkx, List.take_length] at this
   exact ⟨⟨_, rfl⟩, _, .inl this⟩
end Go.Proofs.YtechceagghcipaaGreatDoor
