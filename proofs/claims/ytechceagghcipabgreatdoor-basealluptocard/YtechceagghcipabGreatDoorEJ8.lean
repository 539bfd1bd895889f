import Derived.Test.YtechceagghcipabGreatDoorRA2
import Derived.Test.YtechceagghcipabGreatDoorEJ5
import Derived.Test.YtechceagghcipabGreatDoorT2
import Derived.BigQuiet
import Derived.Maps.AppendAt
import Derived.Laws.OwnMore
namespace Go.Proofs.YtechceagghcipabGreatDoor
open Go.RowKit
attribute [local go_sem ↓] Go.wp_at_zero Go.wp_at_succ
theorem tsO_of {w : World} {v : Value} {l : List Tm} (h : TsP w v l) (hl : l.length <= 1000000000) : TsO w v l := by
 rcases h with ⟨rfl, rfl⟩ | ⟨ad, cap, rfl, h⟩
 ·exact Or.inl ⟨rfl, rfl⟩
 ·exact Or.inr ⟨ad, cap, rfl, by omega, h⟩
theorem rlmatch8_any (p f : At) (x y : Value) (X : World) (hx : TsP X x p.args) (hy : TsP X y f.args) (hl : p.args.length <= 1000000000) (hl' : f.args.length <= 1000000000) (sp : Sz8 p) (sf : Sz8 f) : Calls Tryz.prog 56 #[p.v x, f.v y, .slice none 0 0] X fun e X' => ∃ m, e = .returned (.tuple #[m, .bool (mt8 p f)]) /\ Below X.heap.size X X' := by
 refine (rmatch_any p f [] x y (.slice none 0 0) X (tsO_of hx hl) (tsO_of hy hl') (Or.inl ⟨rfl, rfl⟩) (by simp; omega) sp.t sf.t (by simp) sp.n sf.n).mono ?_
 rintro e X' ⟨hb, h⟩
 unfold mt8
 rcases match_same p f [] with ⟨e1, e2⟩ | ⟨out, e1, e2, e3, -⟩
 ·rw [e1]
  rcases h with ⟨-, rfl⟩ | ⟨k1, k2, -⟩
  ·exact ⟨_, rfl, hb⟩
  ·rcases e2 with e2 | e2
   ·rw [e2] at k1; cases k1
   ·exact absurd k2 e2
 ·rw [e1]
  rcases h with ⟨k1, -⟩ | ⟨-, -, v', l, rfl, -⟩
  ·rcases k1 with k1 | k1
   ·rw [e2] at k1; cases k1
   ·exact absurd e3 k1
  ·exact ⟨_, rfl, hb⟩
set_option maxRecDepth 20000 in
set_option maxHeartbeats 2000000 in
theorem rbfind8_any (w0 : World) (A : Nat -> Prop) (r : Nat) (lv : Value) (R : List It8) (parts : Int) (a : At) (x : Value) (Y : World) (h : RB8 w0 A r lv R Y) (hx : TsP Y x a.args) (hal : a.args.length <= 1000000000) (hz : Sz8 a) (hk : Kd8 R) (hl : R.length <= 1000000000) :
  Calls Tryz.prog 27 #[.pointer (some ⟨r, 0, none⟩), .int .i64 parts, a.v x] Y (RF8 (((Ei R).filter fun x => hp7 parts x.2 && mt8 a x.1).map Prod.fst) Y) := by
 obtain ⟨xa, xc, rfl⟩ := hx.shape
 obtain ⟨a0, ha0⟩ : ∃ a0 : At, a0 = a := ⟨_, rfl⟩
 have HTX := hm7 (show TsP Y (.slice xa a.args.length xc) a0.args by rw [ha0]; exact hx)
 have HZ := hm7 (show Sz8 a0 /\ a0.args.length <= 1000000000 by rw [ha0]; exact ⟨hz, hal⟩)
 have HK := hm7 hk
 have H := hm7 h
 have HGO : Hid (∀ (Z : List At), Z = ((((Ei R).filter fun x => hp7 parts x.2).map Prod.fst).filter (mt8 a0)) -> Z = ((Ei R).filter fun x => hp7 parts x.2 && mt8 a0 x.1).map Prod.fst) := fun Z hZ => by
  rw [hZ, List.filter_map, List.filter_filter]
  congr 1
  congr 1
  funext y
  simp [Bool.and_comm, Function.comp]
 rw [show (fun x : At × Int => hp7 parts x.2 && mt8 a x.1) = fun x => hp7 parts x.2 && mt8 a0 x.1 by rw [ha0]]
 clear hx hal hz hk h
 have HA0 := hm7 ha0
 clear ha0
 obtain ⟨⟨ak, an, as_⟩, nm, al⟩ := a
 have HTX2 : Hid (TsP Y (.slice xa al.length xc) a0.args) := HTX.out
 obtain ⟨Y0, hY0⟩ : ∃ Y0, Y.alloc (.cells #[.int .i64 ak, .int .i64 an, .string as_, .string nm, .slice xa al.length xc] 33) = Y0 := ⟨_, rfl⟩
 have hb0 : Below Y.heap.size Y Y0 := by rw [<- hY0]; exact below1 _ _
 have HBX : Hid (Bk Y0 Y.heap.size #[.int .i64 ak, .int .i64 an, .string as_, .string nm, .slice xa al.length xc] 33) := by show Bk _ _ _ _; rw [<- hY0]; exact Bk.new _ _ _
 have HB0 := hm7 hb0
 have HFC := hm7 (rbfacts8_any w0 A r lv R parts Y0 (H.out.below hb0) hl)
 clear hb0 HTX
 go_enter Tryz.func27, Tryz.ntmps27
 go_upto_region 2 with fail
 first | rw [hY0] | skip
 go_upto_region 3 with (go_at_call 22; refine HFC.out.mono ?_; rintro e W1 ⟨v8, Q, rfl, hf, hq, hb⟩; have HF := hm7 hf; have HQ := hm7 hq; have HB1 := hm7 hb; clear hf hq hb HFC)
 have HQL : Hid (Q.length <= 1000000000) := by
  have h1 := congrArg List.length HQ.out
  rw [List.length_map, List.length_map] at h1
  have h2 := List.length_filter_le (fun x : At × Int => hp7 parts x.2) (Ei R)
  rw [Ei_len] at h2
  show _ <= _
  omega
 have HAS := hm7 (HF.out.as HQL.out)
 obtain ⟨qa, qc, hqv⟩ := HF.out.o.form
 subst hqv
 have HQZ : Hid (∀ x ∈ Q, Sz8 x.1) := fun x hx => by
  have hm : x.1 ∈ Q.map Prod.fst := List.mem_map.2 ⟨x, hx, rfl⟩
  rw [HQ.out] at hm
  obtain ⟨y, hy, e⟩ := List.mem_map.1 hm
  obtain ⟨z, hz, rfl⟩ := List.mem_map.1 (List.mem_filter.1 hy).1
  rw [<- e]
  exact Sz8.of (HK.out z hz).1 (HK.out z hz).2
 have hzz := (HB0.out.trans (HB1.out.mono HB0.out.size)).size
 go_wp2
 go_loopg [9, 7, 10, 11] Q.length (fun g1 i v _ _ wr => ∃ (k : Nat) (Q' : List (At × Value)), k + g1 = Q.length /\ i = .int .i64 k /\ OwnA wr W1.heap.size v Q' /\ (∀ x ∈ Q', x ∈ Q) /\ Q'.length <= k /\ Q'.map Prod.fst = ((Q.take k).map Prod.fst).filter (mt8 a0) /\ Below W1.heap.size W1 wr)
 case atStart => exact ⟨0, [], by omega, rfl, World.ownsRow_nil _ _ _ _, nofun, by simp, by simp, Below.refl _ _⟩
 case round =>
  obtain ⟨k, Q', hk, rfl, ho, hin, hln, hm, hb⟩ := hrel
  have HB := hm7 hb
  have HO := hm7 ho
  have HIN := hm7 hin
  have HM := hm7 hm
  cases gk with
  | succ g1 =>
   have hlt : (k : Int) < (Q.length : Int) := by omega
   have k0 : (0 : Int) <= (k : Int) := by omega
   obtain ⟨y, hy⟩ : ∃ y, Q[k]? = some y := ⟨_, List.getElem?_eq_getElem (by omega)⟩
   obtain ⟨qb, qo, fa, fc, rfl, hsh, hc⟩ := As.get8 HAS.out hy
   have hmy := List.mem_of_getElem? hy
   have hts := (HF.out.t y hmy).1.tsP
   have hfl := (HF.out.t y hmy).2
   have HMY := hm7 hmy
   have HTK := hm7 (show (Q.take (k + 1)).map Prod.fst = (Q.take k).map Prod.fst ++ [y.1] by rw [List.take_add_one, hy]; simp)
   have HM0 := fun (X : World) (hX : Below wr.heap.size wr X) => rlmatch8_any a0 y.1 (.slice xa al.length xc) y.2 X (HTX2.out.later ((HB0.out.trans (HB1.out.mono HB0.out.size)).trans ((hb.trans (hX.mono hb.size)).mono hzz))) ((hts.later hb).later hX) HZ.out.2 hfl HZ.out.1 (HQZ.out y hmy)
   have HXP : Hid (∀ X : World, Below wr.heap.size wr X -> X.cell? ⟨Y.heap.size, 0, none⟩ = some (.int .i64 ak) /\ X.cell? ⟨Y.heap.size, 1, none⟩ = some (.int .i64 an) /\ X.cell? ⟨Y.heap.size, 2, none⟩ = some (.string as_) /\ X.cell? ⟨Y.heap.size, 3, none⟩ = some (.string nm) /\ X.cell? ⟨Y.heap.size, 4, none⟩ = some (.slice xa al.length xc)) := fun X hX => by
    obtain ⟨⟨q0, q1⟩, q2, q3, q4⟩ := five8 (((HBX.out.below HB1.out).below HB.out).below hX)
    exact ⟨q0, q1, q2, q3, q4⟩
   obtain ⟨va, vc, rfl⟩ := ho.form
   obtain ⟨⟨⟨fk, fn, fs⟩, fnm, fl⟩, fv7⟩ := y
   simp only at hsh hc HM0 HTK
   subst hsh
   have HXF := hm7 (fun (X : World) (hX : Below wr.heap.size wr X) => hc X (hb.trans (hX.mono hb.size)))
   obtain ⟨b, hbm⟩ : ∃ b, mt8 a0 ⟨⟨fk, fn, fs⟩, fnm, fl⟩ = b := ⟨_, rfl⟩
   have HMT : Hid (∀ X : World, Below wr.heap.size wr X -> Calls Tryz.prog 56 #[.agg #[.int .i64 ak, .int .i64 an, .string as_, .string nm, .slice xa al.length xc], .agg #[.int .i64 fk, .int .i64 fn, .string fs, .string fnm, .slice fa fl.length fc], .slice none 0 0] X fun e X' => ∃ m, e = .returned (.tuple #[m, .bool b]) /\ Below X.heap.size X X') := fun X hX => by
    have := HM0 X hX
    rw [hbm, HA0.out] at this
    exact this
   have HBM := hm7 hbm
   have HHK := hm7 hk
   have hq9 := HQL.out
   have hw1 := hb.size
   clear hy hc hts hfl HM0 hbm ho hin hm hk hb hmy
   go_upto_region 6 with fail
   refine wp_region_held_drew (S := fun w' => Below wr.heap.size wr w') (by kernel_rfl) (by exact (Below.refl _ _).drew) (fun hH => ?_)
   revert hH
   generalize wr.drew = V
   intro hH
   refine wTl 0 (.agg #[.int .i64 ak, .int .i64 an, .string as_, .string nm, .slice xa al.length xc]) rfl (by kernel_rfl) (fun _ _ _ h => h) rfl (fun w' h => by obtain ⟨p0, p1, p2, p3, p4⟩ := HXP.out w' h; clear h; go_simp) hH ?_
   simp only [wA, wB, wC, wD]
   refine wTl 1 (.slice (some ⟨qb, qo, none⟩) Q.length qc) rfl (by kernel_rfl) (fun _ _ _ h => h) rfl (fun w' h => by clear h; go_simp) hH ?_
   simp only [wA, wB, wC, wD]
   refine wTl 2 (.int .i64 (k : Int)) rfl (by kernel_rfl) (fun _ _ _ h => h) rfl (fun w' h => by clear h; go_simp) hH ?_
   simp only [wA, wB, wC, wD]
   refine wTl 3 (.pointer (some ⟨qb, qo + k * 5, none⟩)) rfl (by kernel_rfl) (fun _ _ _ h => h) rfl (fun w' h => by clear h; go_simp) hH ?_
   simp only [wA, wB, wC, wD]
   refine wTl 4 (.agg #[.int .i64 fk, .int .i64 fn, .string fs, .string fnm, .slice fa fl.length fc]) rfl (by kernel_rfl) (fun _ _ _ h => h) rfl (fun w' h => by obtain ⟨p0, p1, p2, p3, p4⟩ := HXF.out w' h; clear h; go_simp) hH ?_
   simp only [wA, wB, wC, wD]
   refine wRd 5 (by kernel_rfl) rfl (fun K hK => ?_)
   go_simp
   refine (HMT.out _ hH).mono ?_
   rintro e V1 ⟨mv, rfl, hb⟩
   refine hK.out _ _ (hH.trans (hb.mono hH.size)) (fun hH => ?_)
   clear hK hb
   try simp only [wA, wB, wC, wD]
   refine wTl 6 (.tuple #[mv, .bool b]) rfl (by kernel_rfl) (fun _ _ _ h => h) rfl (fun w' h => by clear h; go_simp) hH ?_
   simp only [wA, wB, wC, wD]
   refine wTl 7 (mv) rfl (by kernel_rfl) (fun _ _ _ h => h) rfl (fun w' h => by clear h; go_simp) hH ?_
   simp only [wA, wB, wC, wD]
   refine wTl 8 (.bool b) rfl (by kernel_rfl) (fun _ _ _ h => h) rfl (fun w' h => by clear h; go_simp) hH ?_
   simp only [wA, wB, wC, wD]
   refine wTl 9 (mv) rfl (by kernel_rfl) (fun _ _ _ h => h) rfl (fun w' h => by clear h; go_simp) hH ?_
   simp only [wA, wB, wC, wD]
   refine wTl 10 (.bool b) rfl (by kernel_rfl) (fun _ _ _ h => h) rfl (fun w' h => by clear h; go_simp) hH ?_
   simp only [wA, wB, wC, wD]
   refine wpAnyH_done (by kernel_rfl) ?_ _
   have HV := hm7 hH
   clear hH
   have HBV := hm7 (HB.out.trans (HV.out.mono HB.out.size))
   obtain ⟨p0, p1, p2, p3, p4⟩ := HXF.out _ HV.out
   have hwv := HV.out.size
   cases b with
   | false =>
    clear p0 p1 p2 p3 p4
    go_wp2
    go_roundg g1
    case measure => omega
    case rel => exact ⟨k + 1, Q', by have := HHK.out; omega, by go_num, HO.out.later HV.out, HIN.out, by omega, by rw [HTK.out, List.filter_append, <- HM.out]; simp [HBM.out], HBV.out⟩
   | true =>
    go_wp2_with (at_builtin; refine aapp_one rfl _ _ rfl W1.heap.size (.slice va Q'.length vc) Q' rfl ((HO.out.later HV.out).later (below1 _ _)) _ (⟨⟨fk, fn, fs⟩, fnm, fl⟩, .slice fa fl.length fc) rfl (CBlk.new _ _ _) (acell_one _ _ _ _) (by omega) (by simp; omega) ?_; intro v2 w2 ho2 hb2 hg2 hk2; have HO2 := hm7 ho2; have HB2 := hm7 (HBV.out.trans (((below1 _ _).mono (by omega)).trans hb2)); clear ho2 hb2 hg2 hk2)
    go_roundg g1
    case measure => omega
    case rel =>
     refine ⟨k + 1, _, by have := HHK.out; omega, by go_num, HO2.out, fun x hx => ?_, by simp; omega, by rw [HTK.out, List.filter_append, <- HM.out, List.map_append]; simp [HBM.out], HB2.out⟩
     rcases List.mem_append.1 hx with hx | hx
     ·exact HIN.out x hx
     ·rw [List.mem_singleton.1 hx]; exact HMY.out
  | zero =>
   have hlt : ¬ (k : Int) < (Q.length : Int) := by omega
   obtain rfl : k = Q.length := by omega
   clear ho hin hm hk hb
   go_wp2
   go_ret
   refine ⟨_, Q', rfl, ⟨HO.out.mono (by omega), fun x hx => ⟨(((HF.out.t x (HIN.out x hx)).1.later HB.out).mono (by have := HB0.out.size; omega)), (HF.out.t x (HIN.out x hx)).2⟩⟩, ?_, (HB0.out.trans (HB1.out.mono HB0.out.size)).trans (HB.out.mono hzz)⟩
   have := HM.out
   rw [List.take_length, HQ.out] at this
   exact HGO.out _ this
end Go.Proofs.YtechceagghcipabGreatDoor
namespace Go.Proofs.YtechceagghcipabGreatDoor
open Go.RowKit
attribute [local go_sem ↓] Go.wp_at_zero Go.wp_at_succ
theorem pd_eq8 {s t : ByteArray} {n m : Int} : (Pd.mk s n = Pd.mk t m) ↔ (s = t /\ n = m) := ⟨fun h => by cases h; exact ⟨rfl, rfl⟩, fun h => by obtain ⟨rfl, rfl⟩ := h; rfl⟩
theorem run_neq_pd8 (t u : Pd) (w : World) : (binOp .neq 72 t.v u.v).run Tryz.prog w = .ok (.bool (!decide (t = u))) w := by
 obtain ⟨s, n⟩ := t
 obtain ⟨s', n'⟩ := u
 simp only [pd_eq8]
 by_cases h3 : s = s'
 ·by_cases h2 : n = n'
  ·subst h3 h2
   go_simp
  ·subst h3
   go_simp
 ·have h4 : ¬ s.toList = s'.toList := fun e => h3 (toList_inj e)
  go_simp
theorem cmp_pd {a b : At} (h : a.cmp b <= 0) : cmpP a.pd8 b.pd8 <= 0 := by
 unfold At.cmp at h
 unfold cmpP At.pd8
 simp only
 by_cases hn : a.name.toList = b.name.toList
 ·have e : M.sgL a.name.toList b.name.toList = 0 := (M.sgL_zero _ _).2 hn
  rw [if_neg (by simpa using e)]
  rw [if_neg (by simpa using hn)] at h
  by_cases hl : a.args.length = b.args.length
  ·rw [hl]; unfold M.sgI; simp
  ·rw [if_pos hl] at h; exact h
 ·have e : M.sgL a.name.toList b.name.toList ≠ 0 := fun e => hn ((M.sgL_zero _ _).1 e)
  rw [if_pos e]
  rw [if_pos hn] at h
  exact h
def so9 (R : List It8) : Prop := R.Pairwise fun x y => x.1.1.cmp y.1.1 < 0
structure PI8 (R : List It8) (j : Nat) (P : List Pd) : Prop where
 s : P.Pairwise fun a b => cmpP a b < 0
 m : ∀ p, p ∈ P ↔ ∃ x ∈ R.take j, x.1.1.pd8 = p
 l : ∀ i x, j = i + 1 -> R[i]? = some x -> P.getLast? = some x.1.1.pd8
 n : P.length <= j
theorem PI8.nil (R : List It8) : PI8 R 0 [] := ⟨List.Pairwise.nil, by simp, fun i x h => by omega, by simp⟩
theorem PI8.same {R : List It8} {j : Nat} {P : List Pd} {x : It8} (h : PI8 R j P) (hx : R[j]? = some x) (hl : P.getLast? = some x.1.1.pd8) : PI8 R (j + 1) P := by
 refine ⟨h.s, fun p => ?_, fun i y e hy => ?_, Nat.le_succ_of_le h.n⟩
 ·rw [h.m p, List.take_add_one, hx]
  constructor
  ·rintro ⟨y, hy, e⟩; exact ⟨y, List.mem_append.2 (Or.inl hy), e⟩
  ·rintro ⟨y, hy, e⟩
   rcases List.mem_append.1 hy with hy | hy
   ·exact ⟨y, hy, e⟩
   ·have : y = x := by simpa using hy
    subst this
    exact (h.m p).1 (by rw [<- e]; exact List.mem_of_getLast? hl)
 ·obtain rfl : i = j := by omega
  rw [hx] at hy; cases hy; exact hl
theorem PI8.more {R : List It8} {j : Nat} {P : List Pd} {x : It8} (h : PI8 R j P) (hs : so9 R) (hx : R[j]? = some x) (hl : P.getLast? ≠ some x.1.1.pd8) : PI8 R (j + 1) (P ++ [x.1.1.pd8]) := by
 refine ⟨?_, fun p => ?_, fun i y e hy => ?_, by rw [List.length_append]; have := h.n; simp; omega⟩
 ·refine List.pairwise_append.2 ⟨h.s, by simp, fun a ha b hb => ?_⟩
  rw [List.mem_singleton] at hb
  subst hb
  obtain ⟨z, hz, -⟩ := (h.m a).1 ha
  have hj0 : 0 < j := by
   rcases Nat.eq_zero_or_pos j with h0 | h0
   ·subst h0; simp at hz
   ·exact h0
  obtain ⟨i, rfl⟩ : ∃ i, j = i + 1 := ⟨j - 1, by omega⟩
  have hjl := (List.getElem?_eq_some_iff.1 hx).1
  obtain ⟨y, hy⟩ : ∃ y, R[i]? = some y := ⟨_, List.getElem?_eq_getElem (by omega)⟩
  have hq := h.l i y rfl hy
  have h1 : cmpP y.1.1.pd8 x.1.1.pd8 < 0 := by
   have h2 : y.1.1.cmp x.1.1 < 0 := by
    have := List.pairwise_iff_getElem.1 hs i (i + 1) (by omega) hjl (by omega)
    rw [(List.getElem?_eq_some_iff.1 hy).2, (List.getElem?_eq_some_iff.1 hx).2] at this
    exact this
   have h3 := cmp_pd (a := y.1.1) (b := x.1.1) (by omega)
   have h4 : cmpP y.1.1.pd8 x.1.1.pd8 ≠ 0 := fun e => hl (by rw [hq, ord_pd.zero _ _ e])
   omega
  obtain ⟨P', rfl⟩ : ∃ P', P = P' ++ [y.1.1.pd8] := by
   obtain ⟨ys, e⟩ := List.getLast?_eq_some_iff.1 hq
   exact ⟨ys, e⟩
  rcases List.mem_append.1 ha with ha | ha
  ·have h5 := (List.pairwise_append.1 h.s).2.2 a ha _ (List.mem_singleton.2 rfl)
   exact (ord_pd.tr _ _ _ (by omega) (by omega)).2 (Or.inl h5)
  ·rw [List.mem_singleton.1 ha]; exact h1
 ·rw [List.mem_append, h.m p, List.take_add_one, hx]
  constructor
  ·rintro (⟨y, hy, e⟩ | e)
   ·exact ⟨y, List.mem_append.2 (Or.inl hy), e⟩
   ·exact ⟨x, List.mem_append.2 (Or.inr (by simp)), (List.mem_singleton.1 e).symm⟩
  ·rintro ⟨y, hy, e⟩
   rcases List.mem_append.1 hy with hy | hy
   ·exact Or.inl ⟨y, hy, e⟩
   ·have : y = x := by simpa using hy
    subst this
    exact Or.inr (List.mem_singleton.2 e.symm)
 ·obtain rfl : i = j := by omega
  rw [hx] at hy; cases hy; simp
theorem PI8.done {R : List It8} {P : List Pd} (h : PI8 R R.length P) : P.Nodup /\ srt8P P /\ ∀ p, p ∈ P ↔ ∃ x ∈ Ei R, x.1.pd8 = p := by
 refine ⟨?_, h.s.imp fun h => by omega, fun p => ?_⟩
 ·refine List.nodup_iff_pairwise_ne.2 (h.s.imp fun {a b} hab e => ?_)
  rw [e, ord_pd.refl] at hab
  omega
 ·rw [h.m p, List.take_length]
  constructor
  ·rintro ⟨x, hx, e⟩; exact ⟨_, List.mem_map.2 ⟨x, hx, rfl⟩, e⟩
  ·rintro ⟨y, hy, e⟩; obtain ⟨x, hx, rfl⟩ := List.mem_map.1 hy; exact ⟨x, hx, e⟩
set_option maxRecDepth 20000 in
set_option maxHeartbeats 2000000 in
theorem rbpreds8_any (w0 : World) (A : Nat -> Prop) (r : Nat) (lv : Value) (R : List It8) (Y : World) (h : RB8 w0 A r lv R Y) (hso : so9 R) (hl : R.length <= 1000000000) :
  Calls Tryz.prog 25 #[.pointer (some ⟨r, 0, none⟩)] Y (PW8 (Ei R) Y) := by
 have H := hm7 h
 have HA := hm7 h.l.is
 have HSO := hm7 hso
 obtain ⟨la, cap, rfl⟩ := h.l.o.form
 clear h hso
 go_enter Tryz.func25, Tryz.ntmps25
 go_wp2
 go_loopg [4, 3, 5] R.length (fun g i v _ wr => ∃ (j : Nat) (P : List Pd), j + g = R.length /\ i = .int .i64 j /\ OwnP wr Y.heap.size v P /\ PI8 R j P /\ Below Y.heap.size Y wr)
 case atStart => exact ⟨0, [], by omega, rfl, ownP_nil _ _, PI8.nil R, Below.refl _ _⟩
 case round =>
  obtain ⟨j, P, hj, rfl, ho, hpi, hw⟩ := hrel
  have HB := hm7 hw
  have HO := hm7 ho
  have HPI := hm7 hpi
  have HCR : Hid (∀ (X : World), Below wr.heap.size wr X -> X.cell? ⟨r, 0, none⟩ = some (.slice la R.length cap)) := fun X hX => ((H.out.below HB.out).below hX).cell
  have q0 := HCR.out wr (Below.refl _ _)
  cases gk with
  | succ g =>
   have hlt : (j : Int) < (R.length : Int) := by omega
   have j0 : (0 : Int) <= (j : Int) := by omega
   obtain ⟨x, hx⟩ : ∃ x, R[j]? = some x := ⟨_, List.getElem?_eq_getElem (by omega)⟩
   have hb := HB.out
   obtain ⟨lb, lo, ax, cx, rfl, hax, c1⟩ := HA.out.get hx
   have HNX := hm7 hx
   have hpl := hpi.n
   obtain ⟨⟨⟨⟨kx, mx, sx⟩, nx, lx⟩, vx⟩, px⟩ := x
   simp only at hax c1
   subst hax
   have HX1 := hm7 (fun (X : World) (hX : Below wr.heap.size wr X) => (c1 X (hb.trans (hX.mono hb.size))).1)
   have hz := hb.size
   obtain ⟨va, vc, rfl⟩ := ho.tsP.form
   clear hx c1 hb hw ho hpi
   go_upto_region 5 with fail
   clear q0
   refine wp_region_held_drew (S := fun w' => Below wr.heap.size wr w') (by kernel_rfl) (by exact (Below.refl _ _).drew) (fun hH => ?_)
   revert hH
   generalize wr.drew = V
   intro hH
   refine wTl 0 (.pointer (some ⟨r, 0, none⟩)) rfl (by kernel_rfl) (fun _ _ _ h => h) rfl (fun w' h => by clear h; go_simp) hH ?_
   simp only [wA, wB, wC, wD]
   refine wTl 1 (.pointer (some ⟨r, 0, none⟩)) rfl (by kernel_rfl) (fun _ _ _ h => h) rfl (fun w' h => by clear h; go_simp) hH ?_
   simp only [wA, wB, wC, wD]
   refine wTl 2 (.pointer (some ⟨r, 0, none⟩)) rfl (by kernel_rfl) (fun _ _ _ h => h) rfl (fun w' h => by clear h; go_simp) hH ?_
   simp only [wA, wB, wC, wD]
   refine wTl 3 (.slice (some ⟨lb, lo, none⟩) R.length cap) rfl (by kernel_rfl) (fun _ _ _ h => h) rfl (fun w' h => by have q0 := HCR.out w' h; clear h; go_simp) hH ?_
   simp only [wA, wB, wC, wD]
   refine wTl 4 (.int .i64 (j : Int)) rfl (by kernel_rfl) (fun _ _ _ h => h) rfl (fun w' h => by clear h; go_simp) hH ?_
   simp only [wA, wB, wC, wD]
   refine wTl 5 (.pointer (some ⟨lb, lo + j * 6, none⟩)) rfl (by kernel_rfl) (fun _ _ _ h => h) rfl (fun w' h => by clear h; go_simp) hH ?_
   simp only [wA, wB, wC, wD]
   refine wTl 6 (.pointer (some ⟨lb, lo + j * 6, none⟩)) rfl (by kernel_rfl) (fun _ _ _ h => h) rfl (fun w' h => by clear h; go_simp) hH ?_
   simp only [wA, wB, wC, wD]
   refine wTl 7 (.pointer (some ⟨lb, lo + j * 6 + 3, none⟩)) rfl (by kernel_rfl) (fun _ _ _ h => h) rfl (fun w' h => by clear h; go_simp) hH ?_
   simp only [wA, wB, wC, wD]
   refine wTl 8 (.string nx) rfl (by kernel_rfl) (fun _ _ _ h => h) rfl (fun w' h => by obtain ⟨p0, p1, p2, p3, p4⟩ := HX1.out w' h; clear h; go_simp) hH ?_
   simp only [wA, wB, wC, wD]
   refine wTl 9 (.pointer (some ⟨r, 0, none⟩)) rfl (by kernel_rfl) (fun _ _ _ h => h) rfl (fun w' h => by clear h; go_simp) hH ?_
   simp only [wA, wB, wC, wD]
   refine wTl 10 (.pointer (some ⟨r, 0, none⟩)) rfl (by kernel_rfl) (fun _ _ _ h => h) rfl (fun w' h => by clear h; go_simp) hH ?_
   simp only [wA, wB, wC, wD]
   refine wTl 11 (.pointer (some ⟨r, 0, none⟩)) rfl (by kernel_rfl) (fun _ _ _ h => h) rfl (fun w' h => by clear h; go_simp) hH ?_
   simp only [wA, wB, wC, wD]
   refine wTl 12 (.slice (some ⟨lb, lo, none⟩) R.length cap) rfl (by kernel_rfl) (fun _ _ _ h => h) rfl (fun w' h => by have q0 := HCR.out w' h; clear h; go_simp) hH ?_
   simp only [wA, wB, wC, wD]
   refine wTl 13 (.int .i64 (j : Int)) rfl (by kernel_rfl) (fun _ _ _ h => h) rfl (fun w' h => by clear h; go_simp) hH ?_
   simp only [wA, wB, wC, wD]
   refine wTl 14 (.pointer (some ⟨lb, lo + j * 6, none⟩)) rfl (by kernel_rfl) (fun _ _ _ h => h) rfl (fun w' h => by clear h; go_simp) hH ?_
   simp only [wA, wB, wC, wD]
   refine wTl 15 (.pointer (some ⟨lb, lo + j * 6, none⟩)) rfl (by kernel_rfl) (fun _ _ _ h => h) rfl (fun w' h => by clear h; go_simp) hH ?_
   simp only [wA, wB, wC, wD]
   refine wTl 16 (.pointer (some ⟨lb, lo + j * 6 + 4, none⟩)) rfl (by kernel_rfl) (fun _ _ _ h => h) rfl (fun w' h => by clear h; go_simp) hH ?_
   simp only [wA, wB, wC, wD]
   refine wTl 17 (.slice ax lx.length cx) rfl (by kernel_rfl) (fun _ _ _ h => h) rfl (fun w' h => by obtain ⟨p0, p1, p2, p3, p4⟩ := HX1.out w' h; clear h; go_simp) hH ?_
   simp only [wA, wB, wC, wD]
   refine wTl 18 (.int .i64 (lx.length : Int)) rfl (by kernel_rfl) (fun _ _ _ h => h) rfl (fun w' h => by clear h; go_simp) hH ?_
   simp only [wA, wB, wC, wD]
   refine wTl 19 (.agg #[.string nx, .int .i64 (lx.length : Int)]) rfl (by kernel_rfl) (fun _ _ _ h => h) rfl (fun w' h => by clear h; go_simp) hH ?_
   simp only [wA, wB, wC, wD]
   refine wRd 20 (by kernel_rfl) rfl (fun K hK => ?_)
   go_simp
   have gG := hH.size
   refine hK.out _ _ (balloc hH) (fun hH => ?_)
   clear hK K
   have fG := Bk.new V #[.string ⟨#[]⟩, .int .i64 0] 72
   revert hH fG
   generalize V.alloc (.cells #[.string ⟨#[]⟩, .int .i64 0] 72) = Vg
   intro hH fG
   refine wRd 21 (by kernel_rfl) rfl (fun K hK => ?_)
   have c0 := fG.cell (i := 0) rfl
   have c1 := fG.cell (i := 1) rfl
   have z0 := fG.froz 0
   have z1 := fG.froz 1
   go_simp
   clear c0 c1 z0 z1
   refine hK.out _ _ (bset (bset hH gG) gG) (fun hH => ?_)
   clear hK K
   have fG := (fG.set 0 (.string nx)).set 1 (.int .i64 (lx.length : Int))
   simp only [List.setIfInBounds_toArray, List.set_cons_zero, List.set_cons_succ] at fG
   revert hH fG
   generalize (Vg.setCell ⟨V.heap.size, 0, none⟩ (.string nx)).setCell ⟨V.heap.size, 1, none⟩ (.int .i64 (lx.length : Int)) = V2
   intro hH fG
   refine wpAnyH_done (by kernel_rfl) ?_ _
   have HV := hm7 hH
   have HG := hm7 fG
   obtain ⟨G, hG⟩ : ∃ G, G = V.heap.size := ⟨_, rfl⟩
   rw [<- hG] at HG gG ⊢
   clear hH fG hG
   have HO2 := hm7 (HO.out.later HV.out)
   have HB2 := hm7 (HB.out.trans (HV.out.mono HB.out.size))
   have hz2 := HV.out.size
   have g0 := HG.out.cell (i := 0) rfl
   have g1 := HG.out.cell (i := 1) rfl
   by_cases hP : P = []
   ·subst hP
    have HN := hm7 (HPI.out.more HSO.out HNX.out (by simp))
    have e0 : (([] : List Pd).length : Int) = 0 := rfl
    simp only [List.length_nil] at *
    go_upto_region 6 with fail
    go_quiet (fail)
    go_wp2_with (at_builtin; refine app_preds rfl _ _ rfl Y.heap.size (.slice va 0 vc) [] rfl (OwnP.later (OwnP.later HO2.out (below_drewN (Below.refl _ _) _)) (below1 _ _)) _ [⟨nx, (lx.length : Int)⟩] rfl (PsP.one (CBlk.new _ _ _)) (by simp) (by simp; omega) ?_; intro v2 w2 ho2 hb2 hg2; have HO3 := hm7 ho2; have HB3 := hm7 ((below_drewN HB2.out _).trans (((below1 _ _).mono (by simp; omega)).trans hb2)); clear ho2 hb2 hg2)
    go_roundg g
    case measure => omega
    case rel => exact ⟨j + 1, _, by omega, by go_num, HO3.out, HN.out, HB3.out⟩
   ·have hpos : 0 < P.length := List.length_pos_iff.2 hP
    obtain ⟨p, hp⟩ : ∃ p, P[P.length - 1]? = some p := ⟨_, List.getElem?_eq_getElem (by omega)⟩
    have hgl : P.getLast? = some p := by rw [List.getLast?_eq_getElem?]; exact hp
    have HGL := hm7 hgl
    obtain ⟨pb, po, hpa, hrow⟩ := HO2.out.tsP.get hp
    subst hpa
    obtain ⟨b0, b1⟩ := hrow.2 (P.length - 1) p hp
    have j1 : (0 : Int) <= (P.length : Int) - 1 := by omega
    have j2 : (P.length : Int) - 1 < (P.length : Int) := by omega
    have j3 : ((P.length : Int) - 1).toNat = P.length - 1 := by omega
    have j5 : IntKind.i64.wrap ((P.length : Int) - 1) = (P.length : Int) - 1 := by rw [IntKind.wrap_i64]; omega
    have j6 : ¬ (P.length : Int) < 1 := by omega
    have j7 : ((P.length : Int) == 0) = false := by simp; omega
    have j8 : decide ((P.length : Int) = 0) = false := decide_eq_false (by omega)
    have j9 : ¬ P.length = 0 := by omega
    obtain ⟨pn, pr⟩ := p
    simp only at b0 b1
    have hrn := run_neq_pd8 ⟨pn, pr⟩ ⟨nx, (lx.length : Int)⟩
    simp only [Pd.v] at hrn
    clear hp hgl hrow hpos
    by_cases he : Pd.mk pn pr = ⟨nx, (lx.length : Int)⟩
    ·have HN := hm7 (HPI.out.same HNX.out (by rw [HGL.out, he]; rfl))
     rw [decide_eq_true he] at hrn
     clear he
     go_upto_region 6 with fail
     go_quiet (fail)
     go_wp2
     go_roundg g
     case measure => omega
     case rel => exact ⟨j + 1, _, by omega, by go_num, OwnP.later HO2.out (below_drewN (Below.refl _ _) _), HN.out, below_drewN HB2.out _⟩
    ·have HN := hm7 (HPI.out.more HSO.out HNX.out (by rw [HGL.out]; intro e; exact he (Option.some.inj e)))
     rw [decide_eq_false he] at hrn
     clear he
     go_upto_region 6 with fail
     go_quiet (fail)
     go_wp2_with (at_builtin; refine app_preds rfl _ _ rfl Y.heap.size (.slice (some ⟨pb, po, none⟩) P.length vc) P rfl (OwnP.later (OwnP.later HO2.out (below_drewN (Below.refl _ _) _)) (below1 _ _)) _ [⟨nx, (lx.length : Int)⟩] rfl (PsP.one (CBlk.new _ _ _)) (by simp; omega) (by simp; omega) ?_; intro v2 w2 ho2 hb2 hg2; have HO3 := hm7 ho2; have HB3 := hm7 ((below_drewN HB2.out _).trans (((below1 _ _).mono (by simp; omega)).trans hb2)); clear ho2 hb2 hg2)
     go_roundg g
     case measure => omega
     case rel => exact ⟨j + 1, _, by omega, by go_num, HO3.out, HN.out, HB3.out⟩
  | zero =>
   have hlt : ¬ (j : Int) < (R.length : Int) := by omega
   obtain rfl : j = R.length := by omega
   have HD := hm7 hpi.done
   clear hw ho hpi
   go_wp2
   go_ret
   exact ⟨_, P, rfl, HO.out, HD.out.1, HD.out.2.1, HD.out.2.2, HB.out⟩
end Go.Proofs.YtechceagghcipabGreatDoor
namespace Go.Proofs.YtechceagghcipabGreatDoor
open Go.RowKit
theorem ic6_take (R : List It8) (k : Nat) : (ic6 R).take (k * 6) = ic6 (R.take k) := by
 induction R generalizing k with
 | nil => simp [ic6]
 | cons x R ih =>
  cases k with
  | zero => simp [ic6]
  | succ k =>
   have e : ∀ m : List It8, ic6 (x :: m) = icell x ++ ic6 m := fun m => by simp [ic6]
   have hc : (icell x).length = 6 := rfl
   rw [List.take_succ_cons, e, e, List.take_append, List.take_of_length_le (by omega), hc, show (k + 1) * 6 - 6 = k * 6 by omega, ih]
theorem ic6_drop (R : List It8) (k : Nat) : (ic6 R).drop (k * 6) = ic6 (R.drop k) := by
 induction R generalizing k with
 | nil => simp [ic6]
 | cons x R ih =>
  cases k with
  | zero => simp
  | succ k =>
   have e : ∀ m : List It8, ic6 (x :: m) = icell x ++ ic6 m := fun m => by simp [ic6]
   have hc : (icell x).length = 6 := rfl
   rw [List.drop_succ_cons, e, List.drop_append, List.drop_eq_nil_of_le (by omega), hc, show (k + 1) * 6 - 6 = k * 6 by omega, ih, List.nil_append]
theorem row6_at {w : World} {n g : Nat} {e : TypeId} {cur : Array Value} {xs : List Value} (hg : w.heap[g]? = some (.cells cur e (0, 0))) (ht : cur.toList.take (n * 6) = xs) {j : Nat} {u : Value} (hj : xs[j]? = some u) : w.cell? ⟨g, j, none⟩ = some u := by
 have hl := (List.getElem?_eq_some_iff.1 hj).1
 rw [<- ht, List.length_take] at hl
 rw [<- ht, List.getElem?_take_of_lt (by omega)] at hj
 rw [cell_of_row _ _ _ _ _ _ hg]
 simpa using hj
theorem src_take6 {w : World} {base n cap k : Nat} {e : TypeId} {a : Option Addr} {xs : List Value} (h : w.ownsRow base e 6 (.slice a n cap) n xs) (hk : k <= n) : (Value.slice a k cap = .slice none 0 0 /\ k = 0 /\ xs.take (k * 6) = []) ∨ ∃ (ad : Addr) (c : Nat), Value.slice a k cap = .slice (some ad) k c /\ (xs.take (k * 6)).length = k * 6 /\ ∀ (j : Nat) u, (xs.take (k * 6))[j]? = some u -> w.cell? (ad.add j) = some u := by
 have hl := h.1
 rcases h.2 with ⟨hv, hn⟩ | ⟨g, cap', cur, hv, hb, hg, hn, hc, hs, ht⟩
 ·simp only [Value.slice.injEq] at hv
  obtain ⟨rfl, -, rfl⟩ := hv
  have hk0 : k = 0 := by omega
  subst hk0
  exact Or.inl ⟨rfl, rfl, by simp⟩
 ·simp only [Value.slice.injEq, true_and] at hv
  obtain ⟨rfl, rfl⟩ := hv
  refine Or.inr ⟨⟨g, 0, none⟩, cap, rfl, by rw [List.length_take]; omega, fun j u hj => ?_⟩
  rw [List.getElem?_take] at hj
  split at hj
  ·rw [Go.WideShapes.add_plain, Nat.zero_add]
   exact row6_at hg ht hj
  ·cases hj
theorem src_drop6 {w : World} {base n cap k : Nat} {e : TypeId} {a : Option Addr} {xs : List Value} (h : w.ownsRow base e 6 (.slice a n cap) n xs) (hk : k <= n) : (Value.slice (if cap = k then a else a.map (·.add (k * 6))) (n - k) (cap - k) = .slice none 0 0 /\ n - k = 0 /\ xs.drop (k * 6) = []) ∨ ∃ (ad : Addr) (c : Nat), Value.slice (if cap = k then a else a.map (·.add (k * 6))) (n - k) (cap - k) = .slice (some ad) (n - k) c /\ (xs.drop (k * 6)).length = (n - k) * 6 /\ ∀ (j : Nat) u, (xs.drop (k * 6))[j]? = some u -> w.cell? (ad.add j) = some u := by
 have hl := h.1
 rcases h.2 with ⟨hv, hn⟩ | ⟨g, cap', cur, hv, hb, hg, hn, hc, hs, ht⟩
 ·simp only [Value.slice.injEq] at hv
  obtain ⟨rfl, -, rfl⟩ := hv
  have hk0 : k = 0 := by omega
  subst hk0 hn
  exact Or.inl ⟨by simp, rfl, List.eq_nil_of_length_eq_zero (by rw [List.length_drop]; omega)⟩
 ·simp only [Value.slice.injEq, true_and] at hv
  obtain ⟨rfl, rfl⟩ := hv
  by_cases hck : cap = k
  ·refine Or.inr ⟨⟨g, 0, none⟩, cap - k, by rw [if_pos hck], by rw [List.length_drop]; omega, fun j u hj => ?_⟩
   have := (List.getElem?_eq_some_iff.1 hj).1
   rw [List.length_drop] at this
   omega
  ·refine Or.inr ⟨⟨g, k * 6, none⟩, cap - k, by rw [if_neg hck]; simp [Go.WideShapes.add_plain], by rw [List.length_drop]; omega, fun j u hj => ?_⟩
   rw [List.getElem?_drop] at hj
   rw [Go.WideShapes.add_plain]
   exact row6_at hg ht hj
theorem cut6 (a : Option Addr) {n cap k : Nat} (hk : k <= n) (W : World) : (Instr.sliceAt 45 (.slice a n cap) (some (.int .i64 (k : Int))) none none).run Tryz.prog W = .ok (.slice (if cap = k then a else a.map (·.add (k * 6))) (n - k) (cap - k)) W := by
 have hT : Tryz.prog.underlying 45 = some (.slice (Tryz.prog.elem 45)) := by kernel_rfl
 rw [run_sliceAt_slice _ _ _ _ _ _ hT, run_slice_l _ _ _ _ _ hT _ _ (by omega) (by omega), show (sizeOf (Tryz.prog.elem 45)).run Tryz.prog W = .ok 6 W by kernel_rfl]
 simp [Result.andThen, sliced]
theorem enappM {ops : Array Oper} {rest : List Oper} {o : Oper} {a : Act} {Q : Exit -> Act -> World -> Prop} {w : World} (hgd : o.guard = none) (s x : Operand)
  (ho : o.op = .call { callee := .builtin .append, args := #[s, x], argTypes := #[45, 45] }) (base : Nat) (v : Value) (l : List It8) (hs : a.eval s = v) (hown : OwnEn w base v l)
  (xv : Value) (news : List It8) (hx : a.eval x = xv) (hsrc : (xv = .slice none 0 0 /\ news.length = 0 /\ ic6 news = []) ∨ ∃ (ad : Addr) (c : Nat), xv = .slice (some ad) news.length c /\ (ic6 news).length = news.length * 6 /\ ∀ (j : Nat) u, (ic6 news)[j]? = some u -> w.cell? (ad.add j) = some u) (h1c : ∀ u ∈ ic6 news, u.oneCell' = true) (hlen : l.length + news.length <= 1000000000000) (hbase : base <= w.heap.size)
  (h : ∀ v' w', OwnEn w' base v' (l ++ news) -> w.grownBy w' v.ownBlock -> (v'.ownBlock = v.ownBlock ∨ v'.ownBlock = some w.heap.size) -> wpList Tryz.prog ops Q rest (a.put o.dst v') w') : wpList Tryz.prog ops Q (o :: rest) a w := by
 obtain ⟨i, hi, h0, h1, h2⟩ := info_parts Tryz.infoEntry8
 have key : ∃ v' w', (Builtin.append_ #[45, 45] o.type #[v, xv]).run Tryz.prog w = .ok v' w' /\ OwnEn w' base v' (l ++ news) /\ w.grownBy w' v.ownBlock /\ (v'.ownBlock = v.ownBlock ∨ v'.ownBlock = some w.heap.size) := by
  rcases hsrc with ⟨rfl, hn0, -⟩ | ⟨ad, c, rfl, hnl, hc⟩
  ·obtain rfl := List.length_eq_zero_iff.1 hn0
   exact ⟨v, w, run_append_owned_none (P := Tryz.prog) w base 45 o.type 77 i 6 Tryz.underlying45 hi v l.length (ic6 l) hown, by rw [List.append_nil]; exact hown, ⟨rfl, rfl, rfl, Nat.le_refl _, fun _ _ _ => rfl⟩, Or.inl rfl⟩
  ·obtain ⟨v', w', k1, k2, k3, -, k5⟩ := run_append_own_at (P := Tryz.prog) w base 45 o.type 77 i _ 6 80 Tryz.underlying45 hi h0 h1 h2 rfl (by omega) v l.length (ic6 l) hown ad news.length c (ic6 news) hnl hc h1c (by unfold maxLen; omega) (Nat.le_trans (Nat.mul_le_mul hlen (Nat.le_refl 80)) (by decide)) hbase
   refine ⟨v', w', k1, ?_, k3, k5⟩
   unfold OwnEn
   rw [List.length_append, ic6_app]
   exact k2
 obtain ⟨v', w', hrun, r1, r2, r3⟩ := key
 refine wpList_plain hgd fun K hK => ?_
 simp [Oper.wp, execOp, ho, resolve, invoke, builtin, hs, hx, hrun, Result.andThen]
 exact hK _ _ (h v' w' r1 r2 r3)
theorem icell_one {x : It8} {a : Option Addr} {n c : Nat} (h : x.1.2 = .slice a n c) : ∀ u ∈ icell x, u.oneCell' = true := by
 obtain ⟨⟨⟨⟨k, m, s⟩, nm, l⟩, v⟩, p⟩ := x
 simp only at h
 subst h
 intro u hu
 simp [icell, acell] at hu
 rcases hu with rfl | rfl | rfl | rfl | rfl | rfl <;> rfl
theorem ic6_one {R : List It8} (h : ∀ x ∈ R, ∃ a n c, x.1.2 = .slice a n c) : ∀ u ∈ ic6 R, u.oneCell' = true := fun u hu => by
 obtain ⟨x, hx, hu⟩ := List.mem_flatMap.1 hu
 obtain ⟨a, n, c, e⟩ := h x hx
 exact icell_one e u hu
structure Bl8 (R : List It8) (f : At) (j : Nat) : Prop where
 le : j <= R.length
 lo : ∀ i x, i < j -> R[i]? = some x -> x.1.1.cmp f < 0
 hi : ∀ x, R[j]? = some x -> f.cmp x.1.1 < 0
theorem Bl8.above {R : List It8} {f : At} {j : Nat} (h : Bl8 R f j) (hs : so9 R) {x : It8} (hx : x ∈ R.drop j) : f.cmp x.1.1 < 0 := by
 obtain ⟨i, hi⟩ := List.getElem?_of_mem hx
 rw [List.getElem?_drop] at hi
 obtain ⟨hil, hie⟩ := List.getElem?_eq_some_iff.1 hi
 have hj : j < R.length := by omega
 have h1 := h.hi _ (List.getElem?_eq_getElem hj)
 rcases Nat.eq_zero_or_pos i with h0 | h0
 ·subst h0
  rw [<- hie]
  simpa using h1
 ·have h2 := List.pairwise_iff_getElem.1 hs j (j + i) hj hil (by omega)
  rw [hie] at h2
  exact (ord_at.tr _ _ _ (by omega) (by omega)).2 (Or.inl h1)
theorem Bl8.under {R : List It8} {f : At} {j : Nat} (h : Bl8 R f j) {x : It8} (hx : x ∈ R.take j) : x.1.1.cmp f < 0 := by
 obtain ⟨i, hi⟩ := List.getElem?_of_mem hx
 have hl := (List.getElem?_eq_some_iff.1 hi).1
 rw [List.length_take] at hl
 rw [List.getElem?_take_of_lt (by omega)] at hi
 exact h.lo i x (by omega) hi
theorem Bl8.so {R : List It8} {f : At} {j : Nat} (h : Bl8 R f j) (hs : so9 R) (y : It8) (hy : y.1.1 = f) : so9 (R.take j ++ y :: R.drop j) := by
 have hs' : so9 (R.take j ++ R.drop j) := by rw [List.take_append_drop]; exact hs
 have h1 := List.pairwise_append.1 hs'
 refine List.pairwise_append.2 ⟨h1.1, List.pairwise_cons.2 ⟨fun b hb => by rw [hy]; exact h.above hs hb, h1.2.1⟩, fun a ha b hb => ?_⟩
 rcases List.mem_cons.1 hb with rfl | hb
 ·rw [hy]; exact h.under ha
 ·exact h1.2.2 a ha b hb
theorem Bl8.new {R : List It8} {f : At} {j : Nat} (h : Bl8 R f j) (hs : so9 R) : f ∉ (Ei R).map Prod.fst := fun hc => by
 obtain ⟨y, hy, e⟩ := List.mem_map.1 hc
 obtain ⟨x, hx, rfl⟩ := List.mem_map.1 hy
 simp only at e
 have hx' : x ∈ R.take j ++ R.drop j := by rw [List.take_append_drop]; exact hx
 rcases List.mem_append.1 hx' with h1 | h1
 ·have := h.under h1; rw [e, ord_at.refl] at this; omega
 ·have := h.above hs h1; rw [e, ord_at.refl] at this; omega
theorem Bl8.perm {R : List It8} {f : At} {j : Nat} (h : Bl8 R f j) (hs : so9 R) (v : Value) : (Ei (R.take j ++ ((f, v), 4) :: R.drop j)).Perm (aE8 (Ei R) f) := by
 unfold aE8
 rw [if_neg (h.new hs)]
 have e1 : Ei (R.take j ++ ((f, v), 4) :: R.drop j) = Ei (R.take j) ++ (f, 4) :: Ei (R.drop j) := by simp [Ei]
 have e2 : Ei R = Ei (R.take j) ++ Ei (R.drop j) := by rw [<- Ei_app, List.take_append_drop]
 rw [e1, e2]
 exact List.perm_middle.trans (List.perm_append_singleton _ _).symm
theorem OwnEn.srcT {w : World} {base n cap k : Nat} {a : Option Addr} {R : List It8} (h : OwnEn w base (.slice a n cap) R) (hn : n = R.length) (hk : k <= n) : (Value.slice a k cap = .slice none 0 0 /\ (R.take k).length = 0 /\ ic6 (R.take k) = []) ∨ ∃ (ad : Addr) (c : Nat), Value.slice a k cap = .slice (some ad) (R.take k).length c /\ (ic6 (R.take k)).length = (R.take k).length * 6 /\ ∀ (j : Nat) u, (ic6 (R.take k))[j]? = some u -> w.cell? (ad.add j) = some u := by
 subst hn
 have e : (R.take k).length = k := by rw [List.length_take]; omega
 rw [e, <- ic6_take]
 exact src_take6 h hk
theorem OwnEn.srcD {w : World} {base n cap k : Nat} {a : Option Addr} {R : List It8} (h : OwnEn w base (.slice a n cap) R) (hn : n = R.length) (hk : k <= n) : (Value.slice (if cap = k then a else a.map (·.add (k * 6))) (n - k) (cap - k) = .slice none 0 0 /\ (R.drop k).length = 0 /\ ic6 (R.drop k) = []) ∨ ∃ (ad : Addr) (c : Nat), Value.slice (if cap = k then a else a.map (·.add (k * 6))) (n - k) (cap - k) = .slice (some ad) (R.drop k).length c /\ (ic6 (R.drop k)).length = (R.drop k).length * 6 /\ ∀ (j : Nat) u, (ic6 (R.drop k))[j]? = some u -> w.cell? (ad.add j) = some u := by
 subst hn
 rw [List.length_drop, <- ic6_drop]
 exact src_drop6 h hk
theorem EnL.one {V : World} {base : Nat} {v : Value} {R : List It8} (h : EnL V base v R) : ∀ x ∈ R, ∃ a n c, x.1.2 = .slice a n c := fun x hx => ownT_form3 (h.t x hx).1
theorem RB8.put {w0 : World} {A : Nat -> Prop} {r : Nat} {lv lv' : Value} {R R' : List It8} {Y W W' : World} (h : RB8 w0 A r lv R Y) (hb : Below Y.heap.size Y W) (hw : W' = W.setCell ⟨r, 0, none⟩ lv') (ho : OwnEn W Y.heap.size lv' R') (ht : ∀ x ∈ R', (OwnT Y w0.heap.size x.1.2 x.1.1.args ∨ OwnT W Y.heap.size x.1.2 x.1.1.args) /\ x.1.1.args.length <= 1000000000) (hr : ∀ x ∈ R', x.1.2.ownBlock ≠ some r) (ha : ∀ x ∈ R', ∀ b, x.1.2.ownBlock = some b -> A b ∨ Y.heap.size <= b) : RW8 w0 A r R' Y W' := by
 have hr0 := h.b.lt
 have hz := h.be.size
 have hf : Fr (fun b => b = r) Y W' := by rw [hw]; exact (Fr.of hb).set (Or.inl rfl)
 have hf2 : Fr (fun b => b = r) W W' := by rw [hw]; exact (Fr.refl _ _).set (Or.inl rfl)
 have h1 : OwnEn W' w0.heap.size lv' R' := row7_mono (row7_fr ho hf2 fun b hb e => by have := (ho.lt b hb).1; omega) hz
 have h2 : ∀ x ∈ R', OwnT W' w0.heap.size x.1.2 x.1.1.args /\ x.1.1.args.length <= 1000000000 := fun x hx => by
  refine ⟨?_, (ht x hx).2⟩
  rcases (ht x hx).1 with k | k
  ·exact row7_fr k hf fun b hb e => hr x hx (by rw [hb, e])
  ·exact row7_mono (row7_fr k hf2 fun b hb e => hr x hx (by rw [hb, e])) hz
 refine ⟨fun b => b = r ∨ Ib lv' R' b, lv', ⟨?_, ⟨h1, h2, fun x hx b hb => row7_ne (h2 x hx).1 h1 (by decide) b hb⟩, fun b => Iff.rfl, h.lo, ?_⟩, hf.mono fun b _ e => by rw [e]; exact (h.a r).2 (Or.inl rfl), fun b hb => ?_⟩
 ·rw [hw]; exact (h.b.below hb).set 0 lv'
 ·exact h.be.trans (Fr.low (hf.mono (Q := fun b => w0.heap.size <= b) fun b _ e => by rw [e]; exact h.lo) hz)
 ·rcases hb with rfl | hb | ⟨x, hx, hb⟩
  ·exact Or.inl ((h.a b).2 (Or.inl rfl))
  ·exact Or.inr (ho.lt b hb).1
  ·exact ha x hx b hb
end Go.Proofs.YtechceagghcipabGreatDoor
