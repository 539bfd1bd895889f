import Derived.Test.YtechceagghcipaaGreatDoorEF1
import Derived.Test.YtechceagghcipaaGreatDoorEF2
namespace Go.Proofs.YtechceagghcipaaGreatDoor
open Go.RowKit Go.Shelf Go.Maps
attribute [local go_sem] Oper.semAt_some

def OwK8 (_ : World) (_ : Nat) (v : Value) (x : Pd) : Prop := v = x.v
def KD8 (w0 : World) (g : Nat) (tv : Value) (mn mr : Nat) (ga : Pd -> Nat) (B : Pd -> Nat -> Prop) (m : Nat) (T : List Tm) (K : List Pd) (s : Pd -> St7) (bx : Nat) (W : World) : Prop := BS w0 g tv mn mr ga B m T K s W /\ Bk W bx #[.map (some mr)] 80
def KE8 (W : World) (D : Nat) (W1 : World) : Prop := Below W.heap.size W W1 /\ D = W.heap.size /\ W1.heap.size = W.heap.size + 1
set_option maxRecDepth 100000 in
set_option maxHeartbeats 1000000 in
theorem keys_seq (w0 : World) (g : Nat) (tv : Value) (mn mr : Nat) (ga : Pd -> Nat) (B : Pd -> Nat -> Prop) (m : Nat) (T : List Tm) (K : List Pd) (s : Pd -> St7) (bx : Nat) :
  SeqN Tryz.prog 68 #[.pointer (some ⟨bx, 0, none⟩)] OwK8 (fun pre x => x ∈ K /\ x ∉ pre) (fun ss => ss.Perm K) (KD8 w0 g tv mn mr ga B m T K s bx) KE8 (fun W W1 => W1.heap[mr]? = W.heap[mr]?) := by
 intro nn l J Jx W hd hEff hK hJ hJx hY
 obtain ⟨D, hD, hsz, hc0, hin⟩ := hd.1.rng
 obtain ⟨W1, hrun1, hrg0, hg1, hs1⟩ := hD.range Tryz.lawPred Tryz.underlying80
 have c1 := hd.2.cell (i := 0) rfl
 have HJ0 := hm7 (hEff W.heap.size W1 ⟨(Fr.grown (P := fun _ => False) hg1 fun b e => by cases e).below (fun _ _ h => h), rfl, hs1⟩)
 have HIN := hm7 hin
 have HC0 := hm7 hc0
 have HRG0 := hm7 hrg0
 have HS := hm7 hd.1
 have HK := hm7 hK
 have HJ := hm7 hJ
 have HJx := hm7 hJx
 have HY := hm7 hY
 have HS1 := hm7 hs1
 have hml := hd.1.r.lt
 have HM1 : Hid (W1.heap[mr]? = W.heap[mr]?) := hg1.block mr hml (by simp)
 clear hd hEff hK hJ hJx hY hD hin hc0 hrg0 hg1 hs1
 refine callsIn_of_wp Tryz.func68 rfl trivial ?_ rfl
 simp only [Tryz.ntmps68, List.size_toArray, List.length_cons, List.length_nil, Nat.reduceAdd, Nat.reduceSub, Array.replicate_succ, Array.replicate_zero, List.push_toArray, List.append_toArray, List.nil_append, List.cons_append]
 gi_wp2
 clear c1 hrun1
 rw [HS1.out] at HJ0
 gi_loopw [13] (fun _ wr => ∃ (left : Lit -> Bool) (cnt : Nat) (ss : List Pd), wr.ranges Tryz.prog 60 rawE mr W.heap.size K.length D left cnt /\ CollQ K left ss /\ J W.heap.size (W.heap.size + 1) ss wr) (fun _ wr => wr.rangeLeft mr W.heap.size)
 case atStart => exact ⟨_, _, [], HRG0.out, HC0.out, HJ0.out⟩
 case round =>
  obtain ⟨left, cnt, ss, hrg, hC, hj⟩ := hrel
  rcases hrg.next Tryz.lawPred 0 with ⟨-, hl0, hrun⟩ | ⟨key, v, kl, y, w1, cnt1, hkey, hlk, hv, hat, hrun, hrg1, hlt, hg1, hs1, hen⟩
  ·have HPM := hm7 (hC.done HS.out.nd hl0)
   have HJJ := hm7 hj
   clear hrg hC hj hl0 HJ0
   gi_wp2
   go_end0
   exact ⟨⟨_, rfl⟩, _, _, .inl ⟨ss, HPM.out, HJJ.out⟩⟩
  ·obtain ⟨x, rfl, -⟩ := keyOf_pd_inv hkey
   obtain ⟨hx, rfl, rfl⟩ := HIN.out x v kl y hkey hv hat
   have hnx : x ∉ ss := fun hq => by have := (hC.mem x hx).1 hq; rw [hlk] at this; cases this
   have HC1 := hm7 (hC.step HS.out.kp hx hlk)
   have hfi : Fr (fun b => b = W.heap.size) wr w1 := Fr.grown hg1 fun b e => by cases e; rfl
   have hj1 := HJ.out _ _ _ _ _ hfi hj
   have HR1 := hm7 hrg1
   have HRG := hm7 hrg
   have HLT := hm7 hlt
   have hDl : W.heap.size < w1.heap.size := by
    have := hrg1
    obtain ⟨es, clock, since, seen, c0, hb, -, -, -, hr, -⟩ := this
    exact (Array.getElem?_eq_some_iff.1 hr).1
   obtain ⟨xn, xa⟩ := x
   obtain ⟨W2, hW2⟩ : ∃ W2, w1.alloc (.cells #[.string xn, .int .i64 xa] 60) = W2 := ⟨_, rfl⟩
   have hb2 : Below w1.heap.size w1 W2 := by rw [<- hW2]; exact below1 _ _
   have HB2 := hm7 hb2
   have HPB : Hid (Bk W2 w1.heap.size #[.string xn, .int .i64 xa] 60) := by show Bk _ _ _ _; rw [<- hW2]; exact Bk.new _ _ _
   have p0 := HPB.out.cell (i := 0) rfl
   have p1 := HPB.out.cell (i := 1) rfl
   obtain ⟨fn, tmps, assign, bd, hy, hR⟩ := HY.out (nn - 1) _ _ _ ⟨xn, xa⟩ (⟨xn, xa⟩ : Pd).v w1 W2 hj1 ⟨hx, hnx⟩ hb2 rfl
   have HJ1 := hm7 (HK.out _ _ _ _ (Or.inl hj1))
   clear hx hat hlk hkey hrg1 hg1 hs1 hv hC hlt hrg hfi hnx hb2 hj hj1
   gi_wp2
   try rw [hW2]
   refine ⟨fun h => (by cases h), hR.mono ?_⟩
   clear hR hy hW2
   rintro e W3 (⟨rfl, hJ3, hu3⟩ | ⟨rfl, hx3, -⟩)
   ·have hmr3 : W3.heap[mr]? = w1.heap[mr]? := (HK.out _ _ _ _ (Or.inl hJ3)).trans HJ1.out.symm
    have hD3 : W3.heap[W.heap.size]? = w1.heap[W.heap.size]? := (hu3.same _ (Nat.le_refl _) (by omega) (by have := HB2.out.size; omega)).trans (HB2.out.block _ hDl)
    have HR3 := hm7 (ranges_same8 HR1.out hmr3 hD3)
    have HJ3 := hm7 hJ3
    clear hJ3 hu3 hmr3 hD3
    gi_wp2
    go_roundw
    case rel => exact ⟨_, cnt1, _, HR3.out, HC1.out, HJ3.out⟩
    case measure => rw [HR3.out.left_eq, HRG.out.left_eq]; exact HLT.out
   ·have HX3 := hm7 hx3
    clear hx3
    gi_wp2
    refine bodyPost_ret (results_none rfl _ _ _) rfl ?_
    exact ⟨⟨_, rfl⟩, _, _, .inr ⟨_, HX3.out⟩⟩
end Go.Proofs.YtechceagghcipaaGreatDoor
