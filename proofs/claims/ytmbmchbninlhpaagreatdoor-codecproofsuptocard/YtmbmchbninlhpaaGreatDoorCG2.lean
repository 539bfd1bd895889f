import Derived.Test.YtmbmchbninlhpaaGreatDoorCL1
import Derived.Test.YtmbmchbninlhpaaGreatDoorCD10
import Derived.Test.YtmbmchbninlhpaaGreatDoorMD8
import Derived.Deep.RegionHeld3
namespace Go.Proofs.YtmbmchbninlhpaaGreatDoor
open Go.RowKit

def rTest (l : List Int) : Rd Te := (rOne [1, 2, 3, 4] l).and fun op r => (rArg r).and fun x r => (rArg r).and fun y r => .ok (⟨op, x, y⟩, r)
theorem OwnA.blM {g base : Nat} {w w' : World} {v : Value} {l : List (At × Value)} (h : OwnA w base v l) (hb : Bv g w.heap.size w w') (hg : g < base) : OwnA w' base v l := by
 refine ⟨h.1, ?_⟩
 rcases h.2 with hn | ⟨k, cap, cur, hv, hbb, hk, rest⟩
 ·exact Or.inl hn
 ·exact Or.inr ⟨k, cap, cur, hv, hbb, (hb.block k (Array.getElem?_eq_some_iff.1 hk).1 (by omega)).trans hk, rest⟩
theorem OwnE.blM {g base : Nat} {w w' : World} {v : Value} {l : List Te} (h : OwnE w base v l) (hb : Bv g w.heap.size w w') (hg : g < base) : OwnE w' base v l := by
 refine ⟨h.1, ?_⟩
 rcases h.2 with hn | ⟨k, cap, cur, hv, hbb, hk, rest⟩
 ·exact Or.inl hn
 ·exact Or.inr ⟨k, cap, cur, hv, hbb, (hb.block k (Array.getElem?_eq_some_iff.1 hk).1 (by omega)).trans hk, rest⟩
theorem apart_ta {w : World} {b b' : Nat} {v y : Value} {L : List (At × Value)} {l : List Tm} (h : OwnA w b v L) (h' : OwnT w b' y l) : ∀ k, y.ownBlock = some k -> v.ownBlock ≠ some k := by
 intro k hk e
 rcases h.2 with ⟨rfl, -⟩ | ⟨g1, cap, cur, rfl, -, hg1, -⟩
 ·cases e
 ·rcases h'.2 with ⟨rfl, -⟩ | ⟨g2, cap2, cur2, rfl, -, hg2, -⟩
  ·cases hk
  ·cases e; cases hk
   rw [hg1] at hg2
   cases hg2
def OAL (X : World) (base : Nat) (v : Value) (L : List (At × Value)) : Prop := OwnA X base v L /\ ∀ x ∈ L, OwnT X base x.2 x.1.args
theorem OAL.later {X X' : World} {base : Nat} {v : Value} {L : List (At × Value)} (h : OAL X base v L) (hb : Below X.heap.size X X') : OAL X' base v L := ⟨h.1.later hb, fun x hx => (h.2 x hx).later hb⟩
theorem OAL.mono {X : World} {base B : Nat} {v : Value} {L : List (At × Value)} (h : OAL X base v L) (hb : B <= base) : OAL X B v L := ⟨h.1.mono hb, fun x hx => (h.2 x hx).mono hb⟩
theorem OAL.blM {g base : Nat} {X X' : World} {v : Value} {L : List (At × Value)} (h : OAL X base v L) (hb : Bv g X.heap.size X X') (hg : g < base) : OAL X' base v L := ⟨h.1.blM hb hg, fun x hx => (h.2 x hx).blM hb hg⟩
theorem OAL.set {X : World} {base G i : Nat} {a v : Value} {L : List (At × Value)} (h : OAL X base v L) (hG : G < base) : OAL (X.setCell ⟨G, i, none⟩ a) base v L := ⟨h.1.set hG, fun x hx => (h.2 x hx).set hG⟩
theorem OAL.app {X X' : World} {base : Nat} {v v' : Value} {L : List (At × Value)} {x : At × Value} (h : OAL X base v L) (hx : OwnT X base x.2 x.1.args) (ho : OwnA X' base v' (L ++ [x])) (hg : X.grownBy X' v.ownBlock) : OAL X' base v' (L ++ [x]) := by
 refine ⟨ho, fun y hy => ?_⟩
 rcases List.mem_append.1 hy with hy | hy
 ·exact OwnT.grown (h.2 y hy) hg (apart_ta h.1 (h.2 y hy))
 ·simp only [List.mem_singleton] at hy
  subst hy
  exact OwnT.grown hx hg (apart_ta h.1 hx)
set_option maxRecDepth 20000 in
set_option maxHeartbeats 2000000 in
theorem listA_any (n : Nat) (hn : n <= 255) (g : Nat) (l : List Int) (w : World) (h : RdS w g l) :
  Calls Tryz.prog 114 #[.int .i64 n, .func (.func 113) #[.pointer (some ⟨g, 0, none⟩)] #[]] w (RdP g w (fun bs v w' => ∃ L : List (At × Value), L.map (·.1) = bs /\ OAL w' w.heap.size v L) (rMany rAtom n l)) := by
 have hlt := h.lt
 have HS0 : Hid (RdS w g l) := h
 clear h
 go_enter Tryz.func114, Tryz.ntmps114
 go_wp2
 go_loopg [5, 7] n (fun k u i wr => ∃ (j : Nat) (L : List (At × Value)) (l' : List Int), j + k = n /\ i = .int .i64 j /\ L.length = j /\ OAL wr w.heap.size u L /\ RdS wr g l' /\ Bv g w.heap.size w wr /\ Mny rAtom n l k (L.map (·.1)) l')
 case atStart => exact ⟨0, [], l, by omega, rfl, rfl, ⟨OwnA.nil _ _, fun x hx => by simp at hx⟩, HS0.out, Bv.refl _ _ _, Mny.start _ _ _⟩
 case round =>
  obtain ⟨j, L, l', hj, rfl, hts, ho, hs, hb, hm⟩ := hrel
  have HO : Hid (OAL wr w.heap.size u5 L) := ho
  have HB : Hid (Bv g w.heap.size w wr) := hb
  have HS : Hid (RdS wr g l') := hs
  have hsz := hb.size
  cases gk with
  | succ k =>
   have HM : Hid (Mny rAtom n l (k + 1) (L.map (·.1)) l') := hm
   have i1 : (j : Int) < (n : Int) := by omega
   have hN := atom8_any g l' wr hs
   clear ho hs hb hm
   rcases hr : rAtom l' with c | ⟨t, r⟩
   ·have HN : Hid (Calls Tryz.prog 113 #[.pointer (some ⟨g, 0, none⟩)] wr fun e w' => e = .panicked [pE c] /\ Bv g wr.heap.size wr w') := RdP.err hN hr
    have HE : Hid (rMany rAtom n l = .error c) := HM.out.no hr
    clear hN hr
    go_wp2_with (go_at_call 113; refine HN.out.mono ?_; rintro e w1 ⟨rfl, hb⟩)
    refine ⟨rfl, ?_⟩
    rw [HE.out]
    exact ⟨HB.out.step hb, rfl⟩
   ·have HN : Hid (Calls Tryz.prog 113 #[.pointer (some ⟨g, 0, none⟩)] wr fun e w' => ∃ v, e = .returned v /\ (∃ y, v = t.v y /\ OwnT w' wr.heap.size y t.args) /\ RdS w' g r /\ Bv g wr.heap.size wr w') := RdP.ok hN hr
    have HM2 : Hid (Mny rAtom n l k (L.map (·.1) ++ [t]) r) := HM.out.next hr
    clear hN hr
    obtain ⟨⟨tk, tn, tt⟩, nm, ls⟩ := t
    go_wp2_with (first
     | (go_at_call 113; refine HN.out.mono ?_; rintro e w1 ⟨v1, rfl, ⟨y, rfl, hoy⟩, hs1, hb1⟩; obtain ⟨ya, yn, yc, rfl⟩ := ownT_form8 hoy; have HB1 : Hid (Bv g w.heap.size w w1) := HB.out.step hb1; have HS1 : Hid (RdS w1 g r) := hs1; have HO1 : Hid (OAL w1 w.heap.size u5 L) := HO.out.blM hb1 hlt; have HY1 : Hid (OwnT (w1.alloc (.cells #[.int .i64 tk, .int .i64 tn, .string tt, .string nm, .slice ya yn yc] 58)) w.heap.size (.slice ya yn yc) ls) := (hoy.mono hsz).later (below1 _ _); have hz1 := HB1.out.size; clear hs1 hb1 hoy)
     | (at_builtin; refine aapp_one rfl _ _ rfl w.heap.size u5 L rfl (HO1.out.1.later (below1 _ _)) w1.heap.size (⟨⟨tk, tn, tt⟩, nm, ls⟩, .slice ya yn yc) rfl (CBlk.new _ _ _) (acell_one _ _ _ _) (by omega) (by simp; omega) ?_; intro v2 w2 ho2 hb2 hg2 hk2; have HO2 : Hid (OAL w2 w.heap.size v2 (L ++ [(⟨⟨tk, tn, tt⟩, nm, ls⟩, .slice ya yn yc)])) := (HO1.out.later (below1 _ _)).app HY1.out ho2 hg2; have HB2 : Hid (Below w.heap.size w1 w2) := ((below1 _ _).mono hz1).trans hb2; clear ho2 hb2 hg2 hk2))
    go_roundg k
    case measure => omega
    case rel => exact ⟨j + 1, _, r, by omega, by go_num, by simp; omega, HO2.out, HS1.out.low HB2.out hlt, HB1.out.trans (Bv.of HB2.out), by rw [List.map_append]; exact HM2.out⟩
  | zero =>
   obtain rfl : j = n := by omega
   have hz : ¬ ((j : Int) < (j : Int)) := by omega
   have HE : Hid (rMany rAtom j l = .ok (L.map (·.1), l')) := hm.done
   clear ho hs hb hm
   go_wp2
   go_ret
   rw [HE.out]
   exact ⟨HB.out, _, rfl, ⟨L, rfl, HO.out⟩, HS.out⟩
theorem bset7V {m B : Nat} {W V : World} {G : Nat} {a b c d e f i : Value} (h : Bv m B W V) (hg : B <= G) : Bv m B W (((((((V.setCell ⟨G, 0, none⟩ a).setCell ⟨G, 1, none⟩ b).setCell ⟨G, 2, none⟩ c).setCell ⟨G, 3, none⟩ d).setCell ⟨G, 4, none⟩ e).setCell ⟨G, 5, none⟩ f).setCell ⟨G, 6, none⟩ i) :=
 h.trans (Bv.of ((((((((Below.refl _ _).setCell (p := ⟨G, 0, none⟩) hg _).setCell (p := ⟨G, 1, none⟩) hg _).setCell (p := ⟨G, 2, none⟩) hg _).setCell (p := ⟨G, 3, none⟩) hg _).setCell (p := ⟨G, 4, none⟩) hg _).setCell (p := ⟨G, 5, none⟩) hg _).setCell (p := ⟨G, 6, none⟩) hg _))
abbrev Te.v8 (t : Te) : Value := .agg #[.int .i64 t.op, .int .i64 t.l.k, .int .i64 t.l.n, .string t.l.s, .int .i64 t.r.k, .int .i64 t.r.n, .string t.r.s]
set_option maxRecDepth 20000 in
set_option maxHeartbeats 4000000 in
theorem test8_any (g : Nat) (l : List Int) (w : World) (h : RdS w g l) :
  Calls Tryz.prog 117 #[.pointer (some ⟨g, 0, none⟩)] w (RdP g w (fun t v _ => v = t.v8) (rTest l)) := by
 have hlt := h.lt
 have HA : RdS ((w.alloc (.cells #[.int .i64 0, .int .i64 0, .int .i64 0, .string ⟨#[]⟩, .int .i64 0, .int .i64 0, .string ⟨#[]⟩] 97)).alloc (.cells #[.int .i64 1, .int .i64 2, .int .i64 3, .int .i64 4] 3)) g l := h.below (below2 _ _ _)
 have HB : Hid (Blk ((w.alloc (.cells #[.int .i64 0, .int .i64 0, .int .i64 0, .string ⟨#[]⟩, .int .i64 0, .int .i64 0, .string ⟨#[]⟩] 97)).alloc (.cells #[.int .i64 1, .int .i64 2, .int .i64 3, .int .i64 4] 3)) w.heap.size #[.int .i64 0, .int .i64 0, .int .i64 0, .string ⟨#[]⟩, .int .i64 0, .int .i64 0, .string ⟨#[]⟩] 97) := Blk.old _ _ _ _
 have HL : Hid (Bv g w.heap.size w ((w.alloc (.cells #[.int .i64 0, .int .i64 0, .int .i64 0, .string ⟨#[]⟩, .int .i64 0, .int .i64 0, .string ⟨#[]⟩] 97)).alloc (.cells #[.int .i64 1, .int .i64 2, .int .i64 3, .int .i64 4] 3))) := Bv.of (below2 _ _ _)
 have HC : Blk ((w.alloc (.cells #[.int .i64 0, .int .i64 0, .int .i64 0, .string ⟨#[]⟩, .int .i64 0, .int .i64 0, .string ⟨#[]⟩] 97)).alloc (.cells #[.int .i64 1, .int .i64 2, .int .i64 3, .int .i64 4] 3)) (w.heap.size + 1) #[.int .i64 1, .int .i64 2, .int .i64 3, .int .i64 4] 3 := Blk.new2 _ _ _ _
 have HO := oneOf_any [1, 2, 3, 4] (.slice (some ⟨w.heap.size + 1, 0, none⟩) 4 4) g l _ HA (fun X hX => ⟨w.heap.size + 1, 4, rfl, by simp, fun i x hx => by
  have hB := HC.bl hX (by omega)
  have hi := (List.getElem?_eq_some_iff.1 hx).1
  rcases (show i = 0 ∨ i = 1 ∨ i = 2 ∨ i = 3 by simp at hi; omega) with rfl | rfl | rfl | rfl
  all_goals (simp only [List.getElem?_cons_zero, List.getElem?_cons_succ, Option.some.injEq] at hx; subst hx; exact cell_of_row _ _ _ _ _ _ hB)⟩)
 clear h HC HA
 unfold rTest
 rcases hr1 : rOne [1, 2, 3, 4] l with c | ⟨op, r1⟩
 ·have HN1 : Hid (Calls Tryz.prog 149 #[.pointer (some ⟨g, 0, none⟩), .slice (some ⟨w.heap.size + 1, 0, none⟩) 4 4] _ fun e w' => e = .panicked [pE c] /\ Bv g _ _ w') := RdP.err HO hr1
  simp only [Rd.and]
  clear HO hr1
  go_enter Tryz.func117, Tryz.ntmps117
  go_wp2_with (go_at_call 149; refine HN1.out.mono ?_; rintro e w1 ⟨rfl, hb⟩)
  exact ⟨rfl, HL.out.step hb, rfl⟩
 ·have HN1 : Hid (Calls Tryz.prog 149 #[.pointer (some ⟨g, 0, none⟩), .slice (some ⟨w.heap.size + 1, 0, none⟩) 4 4] _ fun e w' => ∃ v, e = .returned v /\ (v = .int .i64 op /\ op ∈ [1, 2, 3, 4]) /\ RdS w' g r1 /\ Bv g _ _ w') := RdP.ok HO hr1
  simp only [Rd.and]
  clear HO hr1
  have hN2 := fun X hX => arg8_any g r1 X hX
  rcases hr2 : rArg r1 with c | ⟨x, r2⟩
  ·have HN2 : Hid (∀ X, RdS X g r1 -> Calls Tryz.prog 148 #[.pointer (some ⟨g, 0, none⟩)] X fun e w' => e = .panicked [pE c] /\ Bv g X.heap.size X w') := fun X hX => RdP.err (hN2 X hX) hr2
   clear hN2 hr2
   go_enter Tryz.func117, Tryz.ntmps117
   go_wp2_with (first
    | (go_at_call 149; refine HN1.out.mono ?_; rintro e w1 ⟨v1, rfl, ⟨rfl, hm⟩, hs, hb⟩; have HB1 : Hid (Bv g w.heap.size w w1) := HL.out.step hb; have HS1 : Hid (RdS w1 g r1) := hs; have HK1 : Hid (Blk w1 _ _ _) := HB.out.bl hb (by omega); clear hm hs hb)
    | (go_at_call 148; refine (HN2.out _ HS1.out).mono ?_; rintro e w2 ⟨rfl, hb⟩))
   exact ⟨rfl, HB1.out.step hb, rfl⟩
  ·have HN2 : Hid (∀ X, RdS X g r1 -> Calls Tryz.prog 148 #[.pointer (some ⟨g, 0, none⟩)] X fun e w' => ∃ v, e = .returned v /\ (v = x.v) /\ RdS w' g r2 /\ Bv g X.heap.size X w') := fun X hX => RdP.ok (hN2 X hX) hr2
   clear hN2 hr2
   obtain ⟨xk, xn, xs⟩ := x
   have hN3 := fun X hX => arg8_any g r2 X hX
   simp only
   rcases hr3 : rArg r2 with c | ⟨y, r3⟩
   ·have HN3 : Hid (∀ X, RdS X g r2 -> Calls Tryz.prog 148 #[.pointer (some ⟨g, 0, none⟩)] X fun e w' => e = .panicked [pE c] /\ Bv g X.heap.size X w') := fun X hX => RdP.err (hN3 X hX) hr3
    clear hN3 hr3
    go_enter Tryz.func117, Tryz.ntmps117
    go_upto_region 3 with (first
     | (go_at_call 149; refine HN1.out.mono ?_; rintro e w1 ⟨v1, rfl, ⟨rfl, hm⟩, hs, hb⟩; have HB1 : Hid (Bv g w.heap.size w w1) := HL.out.step hb; have HS1 : Hid (RdS w1 g r1) := hs; have HK1 : Hid (Blk w1 _ _ _) := HB.out.bl hb (by omega); clear hm hs hb)
     | (go_at_call 148; refine (HN2.out _ HS1.out).mono ?_; rintro e w2 ⟨v2, rfl, rfl, hs, hb⟩; have HB2 : Hid (Bv g w.heap.size w (w2.alloc (.cells #[.int .i64 xk, .int .i64 xn, .string xs] 56))) := (HB1.out.step hb).step (Bv.of (below1 _ _)); have HS2 : Hid (RdS (w2.alloc (.cells #[.int .i64 xk, .int .i64 xn, .string xs] 56)) g r2) := hs.below (below1 _ _); have HK2 : Hid (Blk (w2.alloc (.cells #[.int .i64 xk, .int .i64 xn, .string xs] 56)) w.heap.size _ _) := (HK1.out.bl hb (by omega)).later (below1 _ _); have HT2 : Hid (Blk (w2.alloc (.cells #[.int .i64 xk, .int .i64 xn, .string xs] 56)) w2.heap.size #[.int .i64 xk, .int .i64 xn, .string xs] 56) := Blk.new _ _ _; have hz2 : w.heap.size < w2.heap.size := (HK1.out.bl hb (by omega)).lt; clear hs hb))
    revert HB2 HS2 HK2 HT2 hz2
    generalize w2.alloc (.cells #[.int .i64 xk, .int .i64 xn, .string xs] 56) = W2
    generalize w2.heap.size = H2
    intro HB2 HS2 HK2 HT2 hz2
    have HV0 : Hid (Bv g w.heap.size w W2.drew /\ RdS W2.drew g r2 /\ Blk W2.drew w.heap.size #[.int .i64 0, .int .i64 0, .int .i64 0, .string ⟨#[]⟩, .int .i64 0, .int .i64 0, .string ⟨#[]⟩] 97 /\ Blk W2.drew H2 #[.int .i64 xk, .int .i64 xn, .string xs] 56) := ⟨HB2.out.trans (Bv.of (Below.refl _ _).drew), HS2.out.below (Below.refl _ _).drew, HK2.out.later (Below.refl _ _).drew, HT2.out.later (Below.refl _ _).drew⟩
    refine wp_region_held_drew (S := fun _ => True) (by kernel_rfl) trivial (fun hH => ?_)
    revert hH HV0
    generalize W2.drew = V0
    intro HV0 hH
    clear HB2 HS2 HK2 HT2
    refine wTk 0 (.int .i64 op) rfl (by kernel_rfl) (fun _ _ _ h => h) (Or.inl ⟨by rfl, fun w' h => by clear h; go_simp⟩) hH ?_
    simp only [wA8, wB8, wC8, wD8]
    refine wTk 2 (.pointer (some ⟨g, 0, none⟩)) rfl (by kernel_rfl) (fun _ _ _ h => h) (Or.inl ⟨by rfl, fun w' h => by clear h; go_simp⟩) hH ?_
    simp only [wA8, wB8, wC8, wD8]
    refine wpAnyH_ready (rs := [1, 3]) (by kernel_rfl) (by simp) ?_
    refine (AllReadyH.cons (o := ⟨_, _, _, _, _, _⟩) rfl (fun K hK => ?_) (AllReadyH.cons (o := ⟨_, _, _, _, _, _⟩) rfl (fun K hK => ?_) AllReadyH.nil))
    ·have t0 := (three HV0.out.2.2.2).1
     have t1 := (three HV0.out.2.2.2).2.1
     have t2 := (three HV0.out.2.2.2).2.2.1
     go_simp
     clear t0 t1 t2
     refine hK.out _ _ trivial (fun hH => ?_)
     clear hK K
     try simp only [wA8, wB8, wC8, wD8]
     refine wRd 3 (by kernel_rfl) rfl (fun K hK => ?_)
     go_simp
     refine (HN3.out _ HV0.out.2.1).mono ?_
     rintro e V1 ⟨rfl, hb⟩
     exact ⟨rfl, HV0.out.1.step hb, rfl⟩
    ·go_simp
     refine (HN3.out _ HV0.out.2.1).mono ?_
     rintro e V1 ⟨rfl, hb⟩
     exact ⟨rfl, HV0.out.1.step hb, rfl⟩
   ·have HN3 : Hid (∀ X, RdS X g r2 -> Calls Tryz.prog 148 #[.pointer (some ⟨g, 0, none⟩)] X fun e w' => ∃ v, e = .returned v /\ (v = y.v) /\ RdS w' g r3 /\ Bv g X.heap.size X w') := fun X hX => RdP.ok (hN3 X hX) hr3
    clear hN3 hr3
    obtain ⟨yk, yn, ys⟩ := y
    go_enter Tryz.func117, Tryz.ntmps117
    go_upto_region 3 with (first
     | (go_at_call 149; refine HN1.out.mono ?_; rintro e w1 ⟨v1, rfl, ⟨rfl, hm⟩, hs, hb⟩; have HB1 : Hid (Bv g w.heap.size w w1) := HL.out.step hb; have HS1 : Hid (RdS w1 g r1) := hs; have HK1 : Hid (Blk w1 _ _ _) := HB.out.bl hb (by omega); clear hm hs hb)
     | (go_at_call 148; refine (HN2.out _ HS1.out).mono ?_; rintro e w2 ⟨v2, rfl, rfl, hs, hb⟩; have HB2 : Hid (Bv g w.heap.size w (w2.alloc (.cells #[.int .i64 xk, .int .i64 xn, .string xs] 56))) := (HB1.out.step hb).step (Bv.of (below1 _ _)); have HS2 : Hid (RdS (w2.alloc (.cells #[.int .i64 xk, .int .i64 xn, .string xs] 56)) g r2) := hs.below (below1 _ _); have HK2 : Hid (Blk (w2.alloc (.cells #[.int .i64 xk, .int .i64 xn, .string xs] 56)) w.heap.size _ _) := (HK1.out.bl hb (by omega)).later (below1 _ _); have HT2 : Hid (Blk (w2.alloc (.cells #[.int .i64 xk, .int .i64 xn, .string xs] 56)) w2.heap.size #[.int .i64 xk, .int .i64 xn, .string xs] 56) := Blk.new _ _ _; have hz2 : w.heap.size < w2.heap.size := (HK1.out.bl hb (by omega)).lt; clear hs hb))
    revert HB2 HS2 HK2 HT2 hz2
    generalize w2.alloc (.cells #[.int .i64 xk, .int .i64 xn, .string xs] 56) = W2
    generalize w2.heap.size = H2
    intro HB2 HS2 HK2 HT2 hz2
    have HV0 : Hid (Bv g w.heap.size w W2.drew /\ RdS W2.drew g r2 /\ Blk W2.drew w.heap.size #[.int .i64 0, .int .i64 0, .int .i64 0, .string ⟨#[]⟩, .int .i64 0, .int .i64 0, .string ⟨#[]⟩] 97 /\ Blk W2.drew H2 #[.int .i64 xk, .int .i64 xn, .string xs] 56) := ⟨HB2.out.trans (Bv.of (Below.refl _ _).drew), HS2.out.below (Below.refl _ _).drew, HK2.out.later (Below.refl _ _).drew, HT2.out.later (Below.refl _ _).drew⟩
    refine wp_region_held_drew (S := fun _ => True) (by kernel_rfl) trivial (fun hH => ?_)
    revert hH HV0
    generalize W2.drew = V0
    intro HV0 hH
    clear HB2 HS2 HK2 HT2
    refine wTk 0 (.int .i64 op) rfl (by kernel_rfl) (fun _ _ _ h => h) (Or.inl ⟨by rfl, fun w' h => by clear h; go_simp⟩) hH ?_
    simp only [wA8, wB8, wC8, wD8]
    refine wTk 2 (.pointer (some ⟨g, 0, none⟩)) rfl (by kernel_rfl) (fun _ _ _ h => h) (Or.inl ⟨by rfl, fun w' h => by clear h; go_simp⟩) hH ?_
    simp only [wA8, wB8, wC8, wD8]
    refine wpAnyH_ready (rs := [1, 3]) (by kernel_rfl) (by simp) ?_
    refine (AllReadyH.cons (o := ⟨_, _, _, _, _, _⟩) rfl (fun K hK => ?_) (AllReadyH.cons (o := ⟨_, _, _, _, _, _⟩) rfl (fun K hK => ?_) AllReadyH.nil))
    ·have t0 := (three HV0.out.2.2.2).1
     have t1 := (three HV0.out.2.2.2).2.1
     have t2 := (three HV0.out.2.2.2).2.2.1
     go_simp
     clear t0 t1 t2
     refine hK.out _ _ trivial (fun hH => ?_)
     clear hK K
     try simp only [wA8, wB8, wC8, wD8]
     refine wRd 3 (by kernel_rfl) rfl (fun K hK => ?_)
     go_simp
     refine (HN3.out _ HV0.out.2.1).mono ?_
     rintro e V1 ⟨v3, rfl, rfl, hs, hb⟩
     have HV1 : Hid (Bv g w.heap.size w V1 /\ RdS V1 g r3 /\ Blk V1 w.heap.size #[.int .i64 0, .int .i64 0, .int .i64 0, .string ⟨#[]⟩, .int .i64 0, .int .i64 0, .string ⟨#[]⟩] 97 /\ Blk V1 H2 #[.int .i64 xk, .int .i64 xn, .string xs] 56) := ⟨HV0.out.1.step hb, hs, HV0.out.2.2.1.bl hb (by omega), HV0.out.2.2.2.bl hb (by omega)⟩
     clear hs hb HV0 hH
     refine hK.out _ _ trivial (fun hH => ?_)
     clear hK K
     try simp only [wA8, wB8, wC8, wD8]
     refine wTk 4 (.agg #[.int .i64 op, .int .i64 xk, .int .i64 xn, .string xs, .int .i64 yk, .int .i64 yn, .string ys]) rfl (by kernel_rfl) (fun _ _ _ h => h) (Or.inl ⟨by rfl, fun w' h => by clear h; go_simp⟩) hH ?_
     simp only [wA8, wB8, wC8, wD8]
     refine wRd 5 (by kernel_rfl) rfl (fun K hK => ?_)
     have c0 := (cseven HV1.out.2.2.1).1
     have c1 := (cseven HV1.out.2.2.1).2.1
     have c2 := (cseven HV1.out.2.2.1).2.2.1
     have c3 := (cseven HV1.out.2.2.1).2.2.2.1
     have c4 := (cseven HV1.out.2.2.1).2.2.2.2.1
     have c5 := (cseven HV1.out.2.2.1).2.2.2.2.2.1
     have c6 := (cseven HV1.out.2.2.1).2.2.2.2.2.2
     have f0 : V1.frozen? ⟨w.heap.size, 0, none⟩ = false := frozen_of_row _ _ _ _ _ HV1.out.2.2.1
     have f1 : V1.frozen? ⟨w.heap.size, 1, none⟩ = false := frozen_of_row _ _ _ _ _ HV1.out.2.2.1
     have f2 : V1.frozen? ⟨w.heap.size, 2, none⟩ = false := frozen_of_row _ _ _ _ _ HV1.out.2.2.1
     have f3 : V1.frozen? ⟨w.heap.size, 3, none⟩ = false := frozen_of_row _ _ _ _ _ HV1.out.2.2.1
     have f4 : V1.frozen? ⟨w.heap.size, 4, none⟩ = false := frozen_of_row _ _ _ _ _ HV1.out.2.2.1
     have f5 : V1.frozen? ⟨w.heap.size, 5, none⟩ = false := frozen_of_row _ _ _ _ _ HV1.out.2.2.1
     have f6 : V1.frozen? ⟨w.heap.size, 6, none⟩ = false := frozen_of_row _ _ _ _ _ HV1.out.2.2.1
     go_simp
     refine hK.out _ _ trivial (fun hH => ?_)
     clear hK K hH
     refine wpAnyH_done (by kernel_rfl) ?_ _
     go_wp2_with fail
     exact bodyPost_ret (v := .agg #[.int .i64 op, .int .i64 xk, .int .i64 xn, .string xs, .int .i64 yk, .int .i64 yn, .string ys]) (by simp [results, Tryz.results117, go_sem, c0, c1, c2, c3, c4, c5, c6]) rfl ⟨bset7V HV1.out.1 (Nat.le_refl _), _, rfl, rfl, ((((((HV1.out.2.1.off hlt).off hlt).off hlt).off hlt).off hlt).off hlt).off hlt⟩
    ·go_simp
     refine (HN3.out _ HV0.out.2.1).mono ?_
     rintro e V1 ⟨v3, rfl, rfl, hs, hb⟩
     have HV1 : Hid (Bv g w.heap.size w V1 /\ RdS V1 g r3 /\ Blk V1 w.heap.size #[.int .i64 0, .int .i64 0, .int .i64 0, .string ⟨#[]⟩, .int .i64 0, .int .i64 0, .string ⟨#[]⟩] 97 /\ Blk V1 H2 #[.int .i64 xk, .int .i64 xn, .string xs] 56) := ⟨HV0.out.1.step hb, hs, HV0.out.2.2.1.bl hb (by omega), HV0.out.2.2.2.bl hb (by omega)⟩
     clear hs hb HV0 hH
     refine hK.out _ _ trivial (fun hH => ?_)
     clear hK K
     try simp only [wA8, wB8, wC8, wD8]
     refine wRd 1 (by kernel_rfl) rfl (fun K hK => ?_)
     have t0 := (three HV1.out.2.2.2).1
     have t1 := (three HV1.out.2.2.2).2.1
     have t2 := (three HV1.out.2.2.2).2.2.1
     go_simp
     clear t0 t1 t2
     refine hK.out _ _ trivial (fun hH => ?_)
     clear hK K
     try simp only [wA8, wB8, wC8, wD8]
     refine wTk 4 (.agg #[.int .i64 op, .int .i64 xk, .int .i64 xn, .string xs, .int .i64 yk, .int .i64 yn, .string ys]) rfl (by kernel_rfl) (fun _ _ _ h => h) (Or.inl ⟨by rfl, fun w' h => by clear h; go_simp⟩) hH ?_
     simp only [wA8, wB8, wC8, wD8]
     refine wRd 5 (by kernel_rfl) rfl (fun K hK => ?_)
     have c0 := (cseven HV1.out.2.2.1).1
     have c1 := (cseven HV1.out.2.2.1).2.1
     have c2 := (cseven HV1.out.2.2.1).2.2.1
     have c3 := (cseven HV1.out.2.2.1).2.2.2.1
     have c4 := (cseven HV1.out.2.2.1).2.2.2.2.1
     have c5 := (cseven HV1.out.2.2.1).2.2.2.2.2.1
     have c6 := (cseven HV1.out.2.2.1).2.2.2.2.2.2
     have f0 : V1.frozen? ⟨w.heap.size, 0, none⟩ = false := frozen_of_row _ _ _ _ _ HV1.out.2.2.1
     have f1 : V1.frozen? ⟨w.heap.size, 1, none⟩ = false := frozen_of_row _ _ _ _ _ HV1.out.2.2.1
     have f2 : V1.frozen? ⟨w.heap.size, 2, none⟩ = false := frozen_of_row _ _ _ _ _ HV1.out.2.2.1
     have f3 : V1.frozen? ⟨w.heap.size, 3, none⟩ = false := frozen_of_row _ _ _ _ _ HV1.out.2.2.1
     have f4 : V1.frozen? ⟨w.heap.size, 4, none⟩ = false := frozen_of_row _ _ _ _ _ HV1.out.2.2.1
     have f5 : V1.frozen? ⟨w.heap.size, 5, none⟩ = false := frozen_of_row _ _ _ _ _ HV1.out.2.2.1
     have f6 : V1.frozen? ⟨w.heap.size, 6, none⟩ = false := frozen_of_row _ _ _ _ _ HV1.out.2.2.1
     go_simp
     refine hK.out _ _ trivial (fun hH => ?_)
     clear hK K hH
     refine wpAnyH_done (by kernel_rfl) ?_ _
     go_wp2_with fail
     exact bodyPost_ret (v := .agg #[.int .i64 op, .int .i64 xk, .int .i64 xn, .string xs, .int .i64 yk, .int .i64 yn, .string ys]) (by simp [results, Tryz.results117, go_sem, c0, c1, c2, c3, c4, c5, c6]) rfl ⟨bset7V HV1.out.1 (Nat.le_refl _), _, rfl, rfl, ((((((HV1.out.2.1.off hlt).off hlt).off hlt).off hlt).off hlt).off hlt).off hlt⟩
end Go.Proofs.YtmbmchbninlhpaaGreatDoor
