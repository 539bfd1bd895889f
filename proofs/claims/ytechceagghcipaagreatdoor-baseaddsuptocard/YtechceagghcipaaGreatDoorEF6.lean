import Derived.Test.YtechceagghcipaaGreatDoorEF5
namespace Go.Proofs.YtechceagghcipaaGreatDoor
open Go.RowKit Go.Shelf
attribute [local go_sem] Oper.semAt_some

structure FD8 (w0 : World) (g : Nat) (tv : Value) (mn mr : Nat) (ga : Pd -> Nat) (B : Pd -> Nat -> Prop) (m : Nat) (T : List Tm) (K : List Pd) (s : Pd -> St7) (parts : Int) (a : At) (x : Value) (bb : Nat) (W : World) : Prop where
 b0 : Bk W bb #[.pointer (some ⟨g, 0, none⟩)] 29
 b1 : Bk W (bb + 1) #[.int .i64 parts] 3
 b2 : Bk W (bb + 2) #[.int .i64 a.by_.k, .int .i64 a.by_.n, .string a.by_.s, .string a.name, x] 27
 bs : BS w0 g tv mn mr ga B m T K s W
 x : ∀ X : World, Fr (PA8 g tv mn mr B K) W X -> TsP X x a.args
def FE8 (w0 : World) (g : Nat) (tv : Value) (mn mr : Nat) (ga : Pd -> Nat) (B : Pd -> Nat -> Prop) (m : Nat) (T : List Tm) (K : List Pd) (s : Pd -> St7) (L : List At) (W : World) (Q : List (At × Nat)) (W1 : World) : Prop :=
 ∃ fv B', AL8 W1 W.heap.size fv Q /\ srtC8 Q /\ (Q.map Prod.fst).Perm L /\ BS w0 g tv mn mr ga B' m T K s W1 /\ Fr (PA8 g tv mn mr B K) W W1 /\ (∀ b, PA8 g tv mn mr B' K b -> PA8 g tv mn mr B K b ∨ W.heap.size <= b) /\ ∀ b, (fv.ownBlock = some b ∨ ∃ x ∈ Q, x.2 = b) -> ¬ PA8 g tv mn mr B' K b
set_option maxRecDepth 100000 in
set_option maxHeartbeats 1000000 in
theorem find8_seq (w0 : World) (g : Nat) (tv : Value) (mn mr : Nat) (ga : Pd -> Nat) (B : Pd -> Nat -> Prop) (m : Nat) (T : List Tm) (K : List Pd) (s : Pd -> St7) (parts : Int) (a : At) (x : Value) (bb : Nat) (hk : ∀ t ∈ a.pl, t.var = false -> KeyT t) (hkp : KeyP a.pd8) (hl : a.pl.length <= 1000000000) (hm : m <= 100000000000000)
  (hrow : a.pd8 ∈ K -> ∀ r ∈ (s a.pd8).rows, RowOf T a.name a.args.length r) (hfl : (fo8 T K s parts a).length <= 1000000000000) :
  SeqF Tryz.prog 28 #[.pointer (some ⟨bb, 0, none⟩), .pointer (some ⟨bb + 1, 0, none⟩), .pointer (some ⟨bb + 2, 0, none⟩)] (FD8 w0 g tv mn mr ga B m T K s parts a x bb) (FE8 w0 g tv mn mr ga B (m + 1) T K s (fo8 T K s parts a)) (fun _ _ => True) := by
 intro nn l J Jx W hd hEff hK hY
 have HFO := hm7 (callsIn_wide (n := nn - 1).2 (found8_any w0 g tv mn mr ga B m T K s parts a x W hd.bs hd.x hk hkp hl hm hrow))
 have c0 := hd.b0.cell (i := 0) rfl
 have c1 := hd.b1.cell (i := 0) rfl
 obtain ⟨⟨q0, q1⟩, q2, q3, q4⟩ := five8 hd.b2
 obtain ⟨ax, cx, rfl⟩ := (hd.x W (Fr.refl _ _)).shape
 obtain ⟨n, hn⟩ : ∃ n, a.args.length = n := ⟨_, rfl⟩
 rw [hn] at q4 HFO
 have HEff := hm7 hEff
 have HY := hm7 hY
 have HFL := hm7 hfl
 obtain ⟨L, hL⟩ : ∃ L, fo8 T K s parts a = L := ⟨_, rfl⟩
 rw [hL] at HFO HEff HFL
 clear hd hEff hK hY hk hkp hl hm hrow hfl hL hn
 obtain ⟨⟨k, i, z⟩, nm, al⟩ := a
 simp only at q0 q1 q2 q3 HFO
 refine callsIn_of_wp Tryz.func28 rfl trivial ?_ rfl
 simp only [Tryz.ntmps28, List.size_toArray, List.length_cons, List.length_nil, Nat.reduceAdd, Nat.reduceSub, Array.replicate_succ, Array.replicate_zero, List.push_toArray, List.append_toArray, List.nil_append, List.cons_append]
 gi_wp2
 refine ⟨trivial, fun h => (by cases h), HFO.out.mono ?_⟩
 rintro e W1 ⟨fv, Q, B', rfl, h1, h2, h3, h4, h5, h6, h7⟩
 obtain ⟨fa, fc, efv, -⟩ := row7_form h1.o
 subst efv
 have hqn : Q.length <= 1000000000000 := by
  have := h3.length_eq
  rw [List.length_map] at this
  have := HFL.out
  omega
 have HJ0 := hm7 (HEff.out Q W1 ⟨_, B', h1, h2, h3, h4, h5, h6, h7⟩)
 have HA := hm7 h1
 have hsW := h5.size
 clear c0 c1 q0 q1 q2 q3 q4 HFO h1 h2 h3 h4 h5 h6 h7 HEff
 obtain ⟨N, hN⟩ : ∃ N, Q.length = N := ⟨_, rfl⟩
 rw [hN]
 have HN := hm7 hN
 rw [hN] at hqn
 clear hN
 gi_wp2
 gi_loopw [12] (fun p wr => ∃ (q : Nat), p = .int .i64 (q : Int) /\ q <= N /\ J Q W1.heap.size (Q.take q) wr /\ Uq W.heap.size W1.heap.size W1 wr) (fun p _ => N - (intOf p).toNat)
 case atStart => exact ⟨0, rfl, Nat.zero_le _, HJ0.out, Uq.refl _ _ _⟩
 case round =>
  obtain ⟨q, rfl, hq, hJr, huq⟩ := hrel
  have HJr := hm7 hJr
  have HUQ := hm7 huq
  clear hJr HJ0 huq
  by_cases hlt : q < N
  ·have i0 : (0 : Int) <= (q : Int) := by omega
   have i1 : (q : Int) < (N : Int) := by omega
   obtain ⟨y, hyq⟩ : ∃ y, Q[q]? = some y := ⟨_, List.getElem?_eq_getElem (by rw [HN.out]; exact hlt)⟩
   have hAw := HA.out.same (V' := wr) fun b hb => HUQ.out.same b (HA.out.lt hb).1 (HA.out.lt hb).2 (HA.out.lt hb).2
   obtain ⟨gb, rfl, hgw⟩ : ∃ gb, fa = some ⟨gb, 0, none⟩ /\ gb < wr.heap.size := by
    rcases hAw.o.2 with ⟨e, hn0⟩ | ⟨gb, cap, cur, e, hb, hg, -⟩
    ·rw [HN.out] at hn0; omega
    ·simp only [Value.slice.injEq] at e
     exact ⟨gb, e.1, (Array.getElem?_eq_some_iff.1 hg).1⟩
   have hcell := OwnA.cells hAw.o.a q (enc8 y) (by rw [List.getElem?_map, hyq]; rfl)
   have k0 := hcell 0 (by omega)
   have k1 := hcell 1 (by omega)
   have k2 := hcell 2 (by omega)
   have k3 := hcell 3 (by omega)
   have k4 := hcell 4 (by omega)
   have HQQ := hm7 hyq
   obtain ⟨⟨⟨yk, yi, yz⟩, ynm, yl⟩, A⟩ := y
   simp only [acell, enc8, sl8, List.getElem?_cons_zero, List.getElem?_cons_succ, Nat.add_zero] at k0 k1 k2 k3 k4
   obtain ⟨yn, hyn⟩ : ∃ yn, yl.length = yn := ⟨_, rfl⟩
   rw [hyn] at k4
   obtain ⟨W2, hW2⟩ : ∃ W2, wr.alloc (.cells #[.int .i64 yk, .int .i64 yi, .string yz, .string ynm, .slice (some ⟨A, 0, none⟩) yn yn] 27) = W2 := ⟨_, rfl⟩
   have hb2 : Below wr.heap.size wr W2 := by rw [<- hW2]; exact below1 _ _
   have HB2 := hm7 hb2
   have HFB : Hid (Bk W2 wr.heap.size #[.int .i64 yk, .int .i64 yi, .string yz, .string ynm, .slice (some ⟨A, 0, none⟩) yn yn] 27) := by show Bk _ _ _ _; rw [<- hW2]; exact Bk.new _ _ _
   obtain ⟨⟨d0, d1⟩, d2, d3, d4⟩ := five8 HFB.out
   obtain ⟨fn, tmps, assign, bd, hy, hR⟩ := HY.out (nn - 1) _ _ _ (⟨⟨yk, yi, yz⟩, ynm, yl⟩, A) wr W2 HJr.out (pre_take0 HQQ.out) hb2
   simp only [sl8] at hy
   rw [hyn] at hy
   clear hcell hAw hyq hb2 hyn
   gi_wp2
   try rw [hW2]
   refine ⟨fun h => (by cases h), hR.mono ?_⟩
   clear hR hy hW2 k0 k1 k2 k3 k4 d0 d1 d2 d3 d4
   rintro e W3 (⟨rfl, hJ3, hu3⟩ | ⟨rfl, hx3, -⟩)
   ·have HJ3 : Hid (J Q W1.heap.size (Q.take (q + 1)) W3) := by
     show J _ _ _ W3; rw [take_next0 HQQ.out]; exact hJ3
    have HU3 : Hid (Uq W.heap.size W1.heap.size W1 W3) := HUQ.out.trans ((Uq.below HB2.out).trans hu3)
    clear hJ3 hu3
    gi_wp2
    go_roundw
    case rel => exact ⟨q + 1, by go_num, by omega, HJ3.out, HU3.out⟩
    case measure => simp [intOf]; omega
   ·have HX3 := hm7 hx3
    clear hx3
    gi_wp2
    refine bodyPost_ret (results_none rfl _ _ _) rfl ?_
    exact ⟨⟨_, rfl⟩, _, _, .inr ⟨_, pre_take0 HQQ.out, HX3.out⟩⟩
  ·obtain rfl : N = q := by omega
   have i1 : ¬ ((N : Int) < (N : Int)) := by omega
   gi_wp2
   go_end0
   have := HJr.out
   rw [<- HN.out, List.take_length] at this
   exact ⟨⟨_, rfl⟩, _, _, .inl this⟩
end Go.Proofs.YtechceagghcipaaGreatDoor
