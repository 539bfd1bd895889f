import Derived.Test.YtmbmchbninlhpaaGreatDoorCD10
import Derived.Test.YtmbmchbninlhpaaGreatDoorCP1
import Derived.Test.YtmbmchbninlhpaaGreatDoorCG3
namespace Go.Proofs.YtmbmchbninlhpaaGreatDoor
open Go.RowKit

def rVal (l : List Int) : Rd Tm := (rOne [1, 2] l).and fun k r => rTermOf k 0 r
theorem row_blM {e : TypeId} {g base n m : Nat} {w w' : World} {v : Value} {xs : List Value} (h : w.ownsRow base e n v m xs) (hb : Bv g w.heap.size w w') (hg : g < base) : w'.ownsRow base e n v m xs := by
 refine ⟨h.1, ?_⟩
 rcases h.2 with hn | ⟨k, cap, cur, hv, hbb, hk, rest⟩
 ·exact Or.inl hn
 ·exact Or.inr ⟨k, cap, cur, hv, hbb, (hb.block k (Array.getElem?_eq_some_iff.1 hk).1 (by omega)).trans hk, rest⟩
set_option maxRecDepth 20000 in
set_option maxHeartbeats 2000000 in
theorem value8_any (g : Nat) (l : List Int) (w : World) (h : RdS w g l) :
  Calls Tryz.prog 120 #[.pointer (some ⟨g, 0, none⟩)] w (RdP g w (fun t v _ => v = t.v) (rVal l)) := by
 have hlt := h.lt
 have HA : Hid (RdS ((w.alloc (.cells #[.int .i64 0, .int .i64 0, .string ⟨#[]⟩] 56)).alloc (.cells #[.int .i64 1, .int .i64 2] 3)) g l) := h.below (below2 _ _ _)
 have HB : Hid (Blk ((w.alloc (.cells #[.int .i64 0, .int .i64 0, .string ⟨#[]⟩] 56)).alloc (.cells #[.int .i64 1, .int .i64 2] 3)) w.heap.size #[.int .i64 0, .int .i64 0, .string ⟨#[]⟩] 56) := Blk.old _ _ _ _
 have HL : Hid (Bv g w.heap.size w ((w.alloc (.cells #[.int .i64 0, .int .i64 0, .string ⟨#[]⟩] 56)).alloc (.cells #[.int .i64 1, .int .i64 2] 3))) := Bv.of (below2 _ _ _)
 have HC : Blk ((w.alloc (.cells #[.int .i64 0, .int .i64 0, .string ⟨#[]⟩] 56)).alloc (.cells #[.int .i64 1, .int .i64 2] 3)) (w.heap.size + 1) #[.int .i64 1, .int .i64 2] 3 := Blk.new2 _ _ _ _
 have HO := oneOf_any [1, 2] (.slice (some ⟨w.heap.size + 1, 0, none⟩) 2 2) g l _ HA.out (fun X hX => ⟨w.heap.size + 1, 2, rfl, by simp, fun i x hx => by
  have hB := HC.bl hX (by omega)
  have hi := (List.getElem?_eq_some_iff.1 hx).1
  have : w.heap.size + 1 < X.heap.size := hB.lt
  rcases (show i = 0 ∨ i = 1 by simp at hi; omega) with rfl | rfl
  all_goals (simp only [List.getElem?_cons_zero, List.getElem?_cons_succ, Option.some.injEq] at hx; subst hx; exact cell_of_row _ _ _ _ _ _ hB)⟩)
 clear h HC
 unfold rVal
 rcases hr : rOne [1, 2] l with c | ⟨n, r⟩
 ·have HN : Hid (Calls Tryz.prog 149 #[.pointer (some ⟨g, 0, none⟩), .slice (some ⟨w.heap.size + 1, 0, none⟩) 2 2] _ fun e w' => e = .panicked [pE c] /\ Bv g _ _ w') := RdP.err HO hr
  simp only [Rd.and]
  clear HO
  go_enter Tryz.func120, Tryz.ntmps120
  go_wp2_with (go_at_call 149; refine HN.out.mono ?_; rintro e w1 ⟨rfl, hb⟩)
  exact ⟨rfl, HL.out.step hb, rfl⟩
 ·have HN : Hid (Calls Tryz.prog 149 #[.pointer (some ⟨g, 0, none⟩), .slice (some ⟨w.heap.size + 1, 0, none⟩) 2 2] _ fun e w' => ∃ v, e = .returned v /\ (v = .int .i64 n /\ n ∈ [1, 2]) /\ RdS w' g r /\ Bv g _ _ w') := RdP.ok HO hr
  simp only [Rd.and]
  clear HO
  have hN := fun X hX hk => termOf_any n 0 hk g r X hX
  rcases hr2 : rTermOf n 0 r with c | ⟨t, r2⟩
  ·have HT : Hid (∀ X, RdS X g r -> (n = 0 ∨ n = 1 ∨ n = 2 ∨ n = 3) -> Calls Tryz.prog 150 #[.pointer (some ⟨g, 0, none⟩), .int .i64 n, .int .i64 0] X fun e w' => e = .panicked [pE c] /\ Bv g X.heap.size X w') := fun X hX hk => RdP.err (hN X hX hk) hr2
   clear hN
   go_enter Tryz.func120, Tryz.ntmps120
   go_wp2_with (first
    | (go_at_call 149; refine HN.out.mono ?_; rintro e w1 ⟨v1, rfl, ⟨rfl, hm⟩, hs, hb⟩; have HM : Hid (n ∈ [1, 2]) := hm; have HB1 : Hid (Bv g w.heap.size w w1) := HL.out.step hb; have HS : Hid (RdS w1 g r) := hs; clear hm hs hb)
    | (go_at_call 150; refine (HT.out _ HS.out (by have := HM.out; simp at this; omega)).mono ?_; rintro e w2 ⟨rfl, hb⟩))
   exact ⟨rfl, HB1.out.step hb, rfl⟩
  ·have HT : Hid (∀ X, RdS X g r -> (n = 0 ∨ n = 1 ∨ n = 2 ∨ n = 3) -> Calls Tryz.prog 150 #[.pointer (some ⟨g, 0, none⟩), .int .i64 n, .int .i64 0] X fun e w' => ∃ v, e = .returned v /\ (v = t.v) /\ RdS w' g r2 /\ Bv g X.heap.size X w') := fun X hX hk => RdP.ok (hN X hX hk) hr2
   clear hN
   obtain ⟨tk, tn, ts⟩ := t
   go_enter Tryz.func120, Tryz.ntmps120
   go_wp2_with (first
    | (go_at_call 149; refine HN.out.mono ?_; rintro e w1 ⟨v1, rfl, ⟨rfl, hm⟩, hs, hb⟩; have HM : Hid (n ∈ [1, 2]) := hm; have HB1 : Hid (Bv g w.heap.size w w1) := HL.out.step hb; have HS : Hid (RdS w1 g r) := hs; have HK1 : Hid (Blk w1 _ _ _) := HB.out.bl hb (by omega); clear hm hs hb)
    | (go_at_call 150; refine (HT.out _ HS.out (by have := HM.out; simp at this; omega)).mono ?_; rintro e w2 ⟨v2, rfl, rfl, hs, hb⟩; obtain ⟨r0, r1, r2, f0, f1, f2⟩ := three (HK1.out.bl hb (by omega)); have HB2 : Hid (Bv g w.heap.size w w2) := HB1.out.step hb; have HS2 : Hid (RdS w2 g _) := hs; clear hs hb))
   exact bodyPost_ret (v := Tm.v ⟨tk, tn, ts⟩) (by simp [results, Tryz.results120, go_sem, r0, r1, r2]) rfl ⟨bset3V HB2.out (Nat.le_refl _), _, rfl, rfl, ((HS2.out.off hlt).off hlt).off hlt⟩
set_option maxRecDepth 20000 in
set_option maxHeartbeats 2000000 in
theorem listV_any (n : Nat) (hn : n <= 4294967295) (g : Nat) (l : List Int) (w : World) (h : RdS w g l) :
  Calls Tryz.prog 119 #[.int .i64 n, .func (.func 120) #[.pointer (some ⟨g, 0, none⟩)] #[]] w (RdP g w (fun ts v w' => OwnT w' w.heap.size v ts) (rMany rVal n l)) := by
 have hlt := h.lt
 have HS0 : Hid (RdS w g l) := h
 clear h
 go_enter Tryz.func119, Tryz.ntmps119
 go_wp2
 go_loopg [5, 7] n (fun k u i wr => ∃ (j : Nat) (ts : List Tm) (l' : List Int), j + k = n /\ i = .int .i64 j /\ ts.length = j /\ OwnT wr w.heap.size u ts /\ RdS wr g l' /\ Bv g w.heap.size w wr /\ Mny rVal n l k ts l')
 case atStart => exact ⟨0, [], l, by omega, rfl, rfl, ownT_nil _ _, HS0.out, Bv.refl _ _ _, Mny.start _ _ _⟩
 case round =>
  obtain ⟨j, ts, l', hj, rfl, hts, ho, hs, hb, hm⟩ := hrel
  have HO : Hid (OwnT wr w.heap.size u5 ts) := ho
  have HB : Hid (Bv g w.heap.size w wr) := hb
  have HS : Hid (RdS wr g l') := hs
  have hsz := hb.size
  cases gk with
  | succ k =>
   have HM : Hid (Mny rVal n l (k + 1) ts l') := hm
   have i1 : (j : Int) < (n : Int) := by omega
   have hN := value8_any g l' wr hs
   clear ho hs hb hm
   rcases hr : rVal l' with c | ⟨t, r⟩
   ·have HN : Hid (Calls Tryz.prog 120 #[.pointer (some ⟨g, 0, none⟩)] wr fun e w' => e = .panicked [pE c] /\ Bv g wr.heap.size wr w') := RdP.err hN hr
    have HE : Hid (rMany rVal n l = .error c) := HM.out.no hr
    clear hN hr
    go_wp2_with (go_at_call 120; refine HN.out.mono ?_; rintro e w1 ⟨rfl, hb⟩)
    refine ⟨rfl, ?_⟩
    rw [HE.out]
    exact ⟨HB.out.step hb, rfl⟩
   ·have HN : Hid (Calls Tryz.prog 120 #[.pointer (some ⟨g, 0, none⟩)] wr fun e w' => ∃ v, e = .returned v /\ (v = t.v) /\ RdS w' g r /\ Bv g wr.heap.size wr w') := RdP.ok hN hr
    have HM2 : Hid (Mny rVal n l k (ts ++ [t]) r) := HM.out.next hr
    clear hN hr
    obtain ⟨tk, tn, tt⟩ := t
    go_wp2_with (first
     | (go_at_call 120; refine HN.out.mono ?_; rintro e w1 ⟨v1, rfl, rfl, hs1, hb1⟩; have HB1 : Hid (Bv g w.heap.size w w1) := HB.out.step hb1; have HS1 : Hid (RdS w1 g r) := hs1; have HO1 : Hid (OwnT w1 w.heap.size u5 ts) := HO.out.blM hb1 hlt; have hz1 := HB1.out.size; clear hs1 hb1)
     | (at_builtin; refine app_terms rfl _ _ rfl w.heap.size u5 ts rfl (HO1.out.later (below1 _ _)) (.slice (some ⟨w1.heap.size, 0, none⟩) 1 1) [⟨tk, tn, tt⟩] rfl (TsP.one (t := ⟨tk, tn, tt⟩) (CBlk.new _ _ _)) (by simp only [List.length_cons, List.length_nil]; omega) (by simp; omega) ?_; intro v2 w2 ho2 hb2 hg2; have HO2 : Hid (OwnT w2 w.heap.size v2 (ts ++ [⟨tk, tn, tt⟩])) := ho2; have HB2 : Hid (Below w.heap.size w1 w2) := ((below1 _ _).mono hz1).trans hb2; clear ho2 hb2 hg2))
    go_roundg k
    case measure => omega
    case rel => exact ⟨j + 1, ts ++ [⟨tk, tn, tt⟩], r, by omega, by go_num, by simp; omega, HO2.out, HS1.out.low HB2.out hlt, HB1.out.trans (Bv.of HB2.out), HM2.out⟩
  | zero =>
   obtain rfl : j = n := by omega
   have hz : ¬ ((j : Int) < (j : Int)) := by omega
   have HE : Hid (rMany rVal j l = .ok (ts, l')) := hm.done
   clear ho hs hb hm
   go_wp2
   go_ret
   rw [HE.out]
   exact ⟨HB.out, _, rfl, HO.out, HS.out⟩
set_option maxRecDepth 20000 in
set_option maxHeartbeats 2000000 in
theorem listN_any (n : Nat) (hn : n <= 4294967295) (g : Nat) (l : List Int) (w : World) (h : RdS w g l) :
  Calls Tryz.prog 121 #[.int .i64 n, .func (.func 118) #[.pointer (some ⟨g, 0, none⟩)] #[]] w (RdP g w (fun ts v w' => OwnN w' w.heap.size v ts) (rMany rNat n l)) := by
 have hlt := h.lt
 have HS0 : Hid (RdS w g l) := h
 clear h
 go_enter Tryz.func121, Tryz.ntmps121
 go_wp2
 go_loopg [5, 7] n (fun k u i wr => ∃ (j : Nat) (ts : List Int) (l' : List Int), j + k = n /\ i = .int .i64 j /\ ts.length = j /\ OwnN wr w.heap.size u ts /\ RdS wr g l' /\ Bv g w.heap.size w wr /\ Mny rNat n l k ts l')
 case atStart => exact ⟨0, [], l, by omega, rfl, rfl, ownN_nil _ _, HS0.out, Bv.refl _ _ _, Mny.start _ _ _⟩
 case round =>
  obtain ⟨j, ts, l', hj, rfl, hts, ho, hs, hb, hm⟩ := hrel
  have HO : Hid (OwnN wr w.heap.size u5 ts) := ho
  have HB : Hid (Bv g w.heap.size w wr) := hb
  have HS : Hid (RdS wr g l') := hs
  have hsz := hb.size
  cases gk with
  | succ k =>
   have HM : Hid (Mny rNat n l (k + 1) ts l') := hm
   have i1 : (j : Int) < (n : Int) := by omega
   have hN := natural_any g l' wr hs
   clear ho hs hb hm
   rcases hr : rNat l' with c | ⟨t, r⟩
   ·have HN : Hid (Calls Tryz.prog 118 #[.pointer (some ⟨g, 0, none⟩)] wr fun e w' => e = .panicked [pE c] /\ Bv g wr.heap.size wr w') := RdP.err hN hr
    have HE : Hid (rMany rNat n l = .error c) := HM.out.no hr
    clear hN hr
    go_wp2_with (go_at_call 118; refine HN.out.mono ?_; rintro e w1 ⟨rfl, hb⟩)
    refine ⟨rfl, ?_⟩
    rw [HE.out]
    exact ⟨HB.out.step hb, rfl⟩
   ·have HN : Hid (Calls Tryz.prog 118 #[.pointer (some ⟨g, 0, none⟩)] wr fun e w' => ∃ v, e = .returned v /\ (v = .int .i64 t) /\ RdS w' g r /\ Bv g wr.heap.size wr w') := RdP.ok hN hr
    have HM2 : Hid (Mny rNat n l k (ts ++ [t]) r) := HM.out.next hr
    clear hN hr
    go_wp2_with (first
     | (go_at_call 118; refine HN.out.mono ?_; rintro e w1 ⟨v1, rfl, rfl, hs1, hb1⟩; have HB1 : Hid (Bv g w.heap.size w w1) := HB.out.step hb1; have HS1 : Hid (RdS w1 g r) := hs1; have HO1 : Hid (OwnN w1 w.heap.size u5 ts) := row_blM HO.out hb1 hlt; have hz1 := HB1.out.size; clear hs1 hb1)
     | (at_builtin; refine napp_one rfl _ _ rfl w.heap.size u5 ts rfl (HO1.out.later (below1 _ _)) w1.heap.size t rfl (CBlk.new _ _ _) (by omega) (by simp; omega) ?_; intro v2 w2 ho2 hb2 hg2 hg3; have HO2 : Hid (OwnN w2 w.heap.size v2 (ts ++ [t])) := ho2; have HB2 : Hid (Below w.heap.size w1 w2) := ((below1 _ _).mono hz1).trans hb2; clear ho2 hb2 hg2 hg3))
    go_roundg k
    case measure => omega
    case rel => exact ⟨j + 1, ts ++ [t], r, by omega, by go_num, by simp; omega, HO2.out, HS1.out.low HB2.out hlt, HB1.out.trans (Bv.of HB2.out), HM2.out⟩
  | zero =>
   obtain rfl : j = n := by omega
   have hz : ¬ ((j : Int) < (j : Int)) := by omega
   have HE : Hid (rMany rNat j l = .ok (ts, l')) := hm.done
   clear ho hs hb hm
   go_wp2
   go_ret
   rw [HE.out]
   exact ⟨HB.out, _, rfl, HO.out, HS.out⟩
set_option maxRecDepth 20000 in
set_option maxHeartbeats 1000000 in
theorem count8_any (g : Nat) (l : List Int) (w : World) (h : RdS w g l) :
  Calls Tryz.prog 81 #[.pointer (some ⟨g, 0, none⟩)] w (RdP g w (fun n u _ => u = .int .i64 n /\ 0 <= n /\ n <= 4294967295) (rNum 4 l)) := by
 have hN := number_any 4 (by omega) g l w h
 rcases hr : rNum 4 l with c | ⟨n, r⟩
 ·have HN : Hid (Calls Tryz.prog 112 #[.pointer (some ⟨g, 0, none⟩), .int .i64 4] w fun e w' => e = .panicked [pE c] /\ Bv g w.heap.size w w') := RdP.err hN hr
  clear hN h
  go_enter Tryz.func81, Tryz.ntmps81
  go_wp2_with (go_at_call 112; refine HN.out.mono ?_; rintro e w1 ⟨rfl, hb⟩)
  exact ⟨rfl, hb, rfl⟩
 ·have HN : Hid (Calls Tryz.prog 112 #[.pointer (some ⟨g, 0, none⟩), .int .i64 4] w fun e w' => ∃ v, e = .returned v /\ (v = .int .u64 n /\ 0 <= n /\ n < (256 : Int) ^ 4) /\ RdS w' g r /\ Bv g w.heap.size w w') := RdP.ok hN hr
  clear hN h
  go_enter Tryz.func81, Tryz.ntmps81
  go_wp2_with (go_at_call 112; refine HN.out.mono ?_; rintro e w1 ⟨v1, rfl, ⟨rfl, h0, h1⟩, hs, hb⟩; rw [show ((256 : Int) ^ 4) = 4294967296 by decide] at h1; have e1 : wrap64 n = n := (by unfold wrap64; omega))
  go_ret
  refine ⟨hb, _, rfl, ⟨?_, h0, by omega⟩, hs⟩
  first
   | rfl
   | rw [e1]
end Go.Proofs.YtmbmchbninlhpaaGreatDoor
namespace Go.Proofs.YtmbmchbninlhpaaGreatDoor
open Go.RowKit

def rStep (l : List Int) : Rd Sk := (rNat l).and fun n r => (rNum 4 r).and fun k r => (rMany rVal k.toNat r).and fun ts r => (rNum 4 r).and fun m r => (rMany rNat m.toNat r).and fun us r => .ok ((n, ts, us), r)
theorem ownN_form8 {w : World} {base : Nat} {v : Value} {l : List Int} (h : OwnN w base v l) : ∃ a n cap, v = .slice a n cap := by
 obtain ⟨a, cap, rfl⟩ := h.form
 exact ⟨_, _, _, rfl⟩
theorem row_mono9 {e : TypeId} {w : World} {b b' n m : Nat} {v : Value} {xs : List Value} (h : w.ownsRow b e n v m xs) (hb : b' <= b) : w.ownsRow b' e n v m xs := by
 refine ⟨h.1, ?_⟩
 rcases h.2 with hn | ⟨g, cap, cur, hv, hbb, hg, rest⟩
 ·exact Or.inl hn
 ·exact Or.inr ⟨g, cap, cur, hv, Nat.le_trans hb hbb, hg, rest⟩
structure MS8 (B : Nat) (X : World) (s : St) : Prop where
 t : OwnT X B s.vv s.vals
 u : OwnN X B s.uv s.uses
 l : s.vals.length <= 4294967295 /\ s.uses.length <= 4294967295
theorem rMany_len9 {α : Type} {one : List Int -> Rd α} : ∀ {n : Nat} {l r : List Int} {ts : List α}, rMany one n l = .ok (ts, r) -> ts.length = n
 | 0, l, r, ts, h => by simp only [rMany, Except.ok.injEq, Prod.mk.injEq] at h; rw [<- h.1]; rfl
 | n + 1, l, r, ts, h => by
  unfold rMany at h
  rcases hr : one l with c | ⟨a, r1⟩
  ·rw [hr] at h; cases h
  ·rw [hr] at h
   simp only [Rd.and] at h
   rcases hr2 : rMany one n r1 with c | ⟨ts2, r2⟩
   ·rw [hr2] at h; cases h
   ·rw [hr2] at h
    have := rMany_len9 hr2
    cases h
    simp [this]
set_option maxRecDepth 20000 in
set_option maxHeartbeats 2000000 in
theorem step8_any (g : Nat) (l : List Int) (w : World) (h : RdS w g l) :
  Calls Tryz.prog 84 #[.pointer (some ⟨g, 0, none⟩)] w (RdP g w (fun x v w' => ∃ s : St, v = s.v /\ s.key = x /\ MS8 (w.heap.size + 1) w' s) (rStep l)) := by
 have hlt := h.lt
 have hmf : ∀ (fn : Fn) (first cap : Array Value) (w : World), (Instr.makeFunc fn first cap).run Tryz.prog w = .ok (.func fn first cap) w := fun _ _ _ _ => rfl
 have HB : Hid (Blk (w.alloc (.cells #[.int .i64 0, .slice none 0 0, .slice none 0 0] 50)) w.heap.size #[.int .i64 0, .slice none 0 0, .slice none 0 0] 50) := Blk.new _ _ _
 have HL : Hid (Bv g w.heap.size w (w.alloc (.cells #[.int .i64 0, .slice none 0 0, .slice none 0 0] 50))) := Bv.of (below1 _ _)
 have hN1 := natural_any g l (w.alloc (.cells #[.int .i64 0, .slice none 0 0, .slice none 0 0] 50)) (h.below (below1 _ _))
 clear h
 unfold rStep
 rcases hr1 : rNat l with c | ⟨n, r1⟩
 ·have HN1 : Hid (Calls Tryz.prog 118 #[.pointer (some ⟨g, 0, none⟩)] (w.alloc (.cells #[.int .i64 0, .slice none 0 0, .slice none 0 0] 50)) fun e w' => e = .panicked [pE c] /\ Bv g _ _ w') := RdP.err hN1 hr1
  clear hN1 hr1
  simp only [Rd.and]
  go_enter Tryz.func84, Tryz.ntmps84
  go_wp2_with (go_at_call 118; refine (HN1.out).mono ?_; rintro e wz ⟨rfl, hb⟩)
  exact ⟨rfl, HL.out.step hb, rfl⟩
 ·have HN1 : Hid (Calls Tryz.prog 118 #[.pointer (some ⟨g, 0, none⟩)] (w.alloc (.cells #[.int .i64 0, .slice none 0 0, .slice none 0 0] 50)) fun e w' => ∃ v, e = .returned v /\ (v = .int .i64 n) /\ RdS w' g r1 /\ Bv g _ _ w') := RdP.ok hN1 hr1
  clear hN1 hr1
  have hN2 := fun X hX => count8_any g r1 X hX
  simp only [Rd.and]
  rcases hr2 : rNum 4 r1 with c | ⟨k1, r2⟩
  ·have HN2 : Hid (∀ X, RdS X g r1 -> Calls Tryz.prog 81 #[.pointer (some ⟨g, 0, none⟩)] X fun e w' => e = .panicked [pE c] /\ Bv g X.heap.size X w') := fun X hX => RdP.err (hN2 X hX) hr2
   clear hN2 hr2
   go_enter Tryz.func84, Tryz.ntmps84
   go_wp2_with (first
    | (go_at_call 118; refine HN1.out.mono ?_; clear HN1; rintro e w1 ⟨v1, rfl, rfl, hs, hb⟩; have HB1 : Hid (Bv g w.heap.size w w1) := HL.out.step hb; have HS1 : Hid (RdS w1 g r1) := hs; have HK1 : Hid (Blk w1 w.heap.size _ _) := HB.out.bl hb (by omega); have hz1 := HB1.out.size; clear hs hb)
    | (go_at_call 81; refine (HN2.out _ HS1.out).mono ?_; rintro e wz ⟨rfl, hb⟩))
   exact ⟨rfl, HB1.out.step hb, rfl⟩
  ·have HN2 : Hid (∀ X, RdS X g r1 -> Calls Tryz.prog 81 #[.pointer (some ⟨g, 0, none⟩)] X fun e w' => ∃ v, e = .returned v /\ (v = .int .i64 k1 /\ 0 <= k1 /\ k1 <= 4294967295) /\ RdS w' g r2 /\ Bv g X.heap.size X w') := fun X hX => RdP.ok (hN2 X hX) hr2
   clear hN2 hr2
   have hN3 : ∀ X, RdS X g r2 -> 0 <= k1 -> k1 <= 4294967295 -> Calls Tryz.prog 119 #[.int .i64 k1, .func (.func 120) #[.pointer (some ⟨g, 0, none⟩)] #[]] X (RdP g X (fun ts v w' => OwnT w' X.heap.size v ts) (rMany rVal k1.toNat r2)) := fun X hX h0 h8 => by
    have := listV_any k1.toNat (by omega) g r2 X hX
    rwa [Int.toNat_of_nonneg h0] at this
   simp only
   rcases hr3 : rMany rVal k1.toNat r2 with c | ⟨ts, r3⟩
   ·have HN3 : Hid (∀ X, RdS X g r2 -> 0 <= k1 -> k1 <= 4294967295 -> Calls Tryz.prog 119 #[.int .i64 k1, .func (.func 120) #[.pointer (some ⟨g, 0, none⟩)] #[]] X fun e w' => e = .panicked [pE c] /\ Bv g X.heap.size X w') := fun X hX h0 h8 => RdP.err (hN3 X hX h0 h8) hr3
    clear hN3 hr3
    go_enter Tryz.func84, Tryz.ntmps84
    go_wp2_with (first
     | (go_at_call 118; refine HN1.out.mono ?_; clear HN1; rintro e w1 ⟨v1, rfl, rfl, hs, hb⟩; have HB1 : Hid (Bv g w.heap.size w w1) := HL.out.step hb; have HS1 : Hid (RdS w1 g r1) := hs; have HK1 : Hid (Blk w1 w.heap.size _ _) := HB.out.bl hb (by omega); have hz1 := HB1.out.size; clear hs hb)
     | (go_at_call 81; refine (HN2.out _ HS1.out).mono ?_; clear HN2; rintro e w2 ⟨v2, rfl, ⟨rfl, hq0, hq1⟩, hs, hb⟩; have HB2 : Hid (Bv g w.heap.size w w2) := HB1.out.step hb; have HS2 : Hid (RdS w2 g r2) := hs; have HK2 : Hid (Blk w2 w.heap.size _ _) := HK1.out.bl hb (by omega); have hz2 := HK2.out.lt; have HQ : Hid (0 <= k1 /\ k1 <= 4294967295) := ⟨hq0, hq1⟩; clear hs hb hq0 hq1)
     | (go_at_call 119; refine (HN3.out _ HS2.out HQ.out.1 HQ.out.2).mono ?_; rintro e wz ⟨rfl, hb⟩))
    exact ⟨rfl, HB2.out.step hb, rfl⟩
   ·have HN3 : Hid (∀ X, RdS X g r2 -> 0 <= k1 -> k1 <= 4294967295 -> Calls Tryz.prog 119 #[.int .i64 k1, .func (.func 120) #[.pointer (some ⟨g, 0, none⟩)] #[]] X fun e w' => ∃ v, e = .returned v /\ (OwnT w' X.heap.size v ts) /\ RdS w' g r3 /\ Bv g X.heap.size X w') := fun X hX h0 h8 => RdP.ok (hN3 X hX h0 h8) hr3
    have HT3 : Hid (ts.length = k1.toNat) := rMany_len9 hr3
    clear hN3 hr3
    have hN4 := fun X hX => count8_any g r3 X hX
    simp only
    rcases hr4 : rNum 4 r3 with c | ⟨k2, r4⟩
    ·have HN4 : Hid (∀ X, RdS X g r3 -> Calls Tryz.prog 81 #[.pointer (some ⟨g, 0, none⟩)] X fun e w' => e = .panicked [pE c] /\ Bv g X.heap.size X w') := fun X hX => RdP.err (hN4 X hX) hr4
     clear hN4 hr4
     go_enter Tryz.func84, Tryz.ntmps84
     go_wp2_with (first
      | (go_at_call 118; refine HN1.out.mono ?_; clear HN1; rintro e w1 ⟨v1, rfl, rfl, hs, hb⟩; have HB1 : Hid (Bv g w.heap.size w w1) := HL.out.step hb; have HS1 : Hid (RdS w1 g r1) := hs; have HK1 : Hid (Blk w1 w.heap.size _ _) := HB.out.bl hb (by omega); have hz1 := HB1.out.size; clear hs hb)
      | (go_at_call 81; refine (HN2.out _ HS1.out).mono ?_; clear HN2; rintro e w2 ⟨v2, rfl, ⟨rfl, hq0, hq1⟩, hs, hb⟩; have HB2 : Hid (Bv g w.heap.size w w2) := HB1.out.step hb; have HS2 : Hid (RdS w2 g r2) := hs; have HK2 : Hid (Blk w2 w.heap.size _ _) := HK1.out.bl hb (by omega); have hz2 := HK2.out.lt; have HQ : Hid (0 <= k1 /\ k1 <= 4294967295) := ⟨hq0, hq1⟩; clear hs hb hq0 hq1)
      | (go_at_call 119; refine (HN3.out _ HS2.out HQ.out.1 HQ.out.2).mono ?_; clear HN3; rintro e w3 ⟨v3, rfl, ho, hs, hb⟩; have HB3 : Hid (Bv g w.heap.size w w3) := HB2.out.step hb; have HS3 : Hid (RdS w3 g r3) := hs; have HK3 : Hid (Blk w3 w.heap.size _ _) := HK2.out.bl hb (by omega); have HO3 : Hid (OwnT w3 w2.heap.size v3 ts) := ho; obtain ⟨a1, a2, a3, rfl⟩ := ownT_form8 ho; have hz3 := HK3.out.lt; clear hs hb ho)
      | (go_at_call 81; refine (HN4.out _ HS3.out).mono ?_; rintro e wz ⟨rfl, hb⟩))
     exact ⟨rfl, HB3.out.step hb, rfl⟩
    ·have HN4 : Hid (∀ X, RdS X g r3 -> Calls Tryz.prog 81 #[.pointer (some ⟨g, 0, none⟩)] X fun e w' => ∃ v, e = .returned v /\ (v = .int .i64 k2 /\ 0 <= k2 /\ k2 <= 4294967295) /\ RdS w' g r4 /\ Bv g X.heap.size X w') := fun X hX => RdP.ok (hN4 X hX) hr4
     clear hN4 hr4
     have hN5 : ∀ X, RdS X g r4 -> 0 <= k2 -> k2 <= 4294967295 -> Calls Tryz.prog 121 #[.int .i64 k2, .func (.func 118) #[.pointer (some ⟨g, 0, none⟩)] #[]] X (RdP g X (fun ts v w' => OwnN w' X.heap.size v ts) (rMany rNat k2.toNat r4)) := fun X hX h0 h8 => by
      have := listN_any k2.toNat (by omega) g r4 X hX
      rwa [Int.toNat_of_nonneg h0] at this
     simp only
     rcases hr5 : rMany rNat k2.toNat r4 with c | ⟨us, r5⟩
     ·have HN5 : Hid (∀ X, RdS X g r4 -> 0 <= k2 -> k2 <= 4294967295 -> Calls Tryz.prog 121 #[.int .i64 k2, .func (.func 118) #[.pointer (some ⟨g, 0, none⟩)] #[]] X fun e w' => e = .panicked [pE c] /\ Bv g X.heap.size X w') := fun X hX h0 h8 => RdP.err (hN5 X hX h0 h8) hr5
      clear hN5 hr5
      go_enter Tryz.func84, Tryz.ntmps84
      go_wp2_with (first
       | (go_at_call 118; refine HN1.out.mono ?_; clear HN1; rintro e w1 ⟨v1, rfl, rfl, hs, hb⟩; have HB1 : Hid (Bv g w.heap.size w w1) := HL.out.step hb; have HS1 : Hid (RdS w1 g r1) := hs; have HK1 : Hid (Blk w1 w.heap.size _ _) := HB.out.bl hb (by omega); have hz1 := HB1.out.size; clear hs hb)
       | (go_at_call 81; refine (HN2.out _ HS1.out).mono ?_; clear HN2; rintro e w2 ⟨v2, rfl, ⟨rfl, hq0, hq1⟩, hs, hb⟩; have HB2 : Hid (Bv g w.heap.size w w2) := HB1.out.step hb; have HS2 : Hid (RdS w2 g r2) := hs; have HK2 : Hid (Blk w2 w.heap.size _ _) := HK1.out.bl hb (by omega); have hz2 := HK2.out.lt; have HQ : Hid (0 <= k1 /\ k1 <= 4294967295) := ⟨hq0, hq1⟩; clear hs hb hq0 hq1)
       | (go_at_call 119; refine (HN3.out _ HS2.out HQ.out.1 HQ.out.2).mono ?_; clear HN3; rintro e w3 ⟨v3, rfl, ho, hs, hb⟩; have HB3 : Hid (Bv g w.heap.size w w3) := HB2.out.step hb; have HS3 : Hid (RdS w3 g r3) := hs; have HK3 : Hid (Blk w3 w.heap.size _ _) := HK2.out.bl hb (by omega); have HO3 : Hid (OwnT w3 w2.heap.size v3 ts) := ho; obtain ⟨a1, a2, a3, rfl⟩ := ownT_form8 ho; have hz3 := HK3.out.lt; clear hs hb ho)
       | (go_at_call 81; refine (HN4.out _ HS3.out).mono ?_; clear HN4; rintro e w4 ⟨v4, rfl, ⟨rfl, hq0, hq1⟩, hs, hb⟩; have HB4 : Hid (Bv g w.heap.size w w4) := HB3.out.step hb; have HS4 : Hid (RdS w4 g r4) := hs; have HK4 : Hid (Blk w4 w.heap.size _ _) := HK3.out.bl hb (by omega); have HO4 : Hid (OwnT w4 w2.heap.size (.slice a1 a2 a3) ts) := row_blM HO3.out hb (by omega); have hz4 := HK4.out.lt; have HQ2 : Hid (0 <= k2 /\ k2 <= 4294967295) := ⟨hq0, hq1⟩; clear hs hb hq0 hq1)
       | (go_at_call 121; refine (HN5.out _ HS4.out HQ2.out.1 HQ2.out.2).mono ?_; rintro e wz ⟨rfl, hb⟩))
      exact ⟨rfl, HB4.out.step hb, rfl⟩
     ·have HN5 : Hid (∀ X, RdS X g r4 -> 0 <= k2 -> k2 <= 4294967295 -> Calls Tryz.prog 121 #[.int .i64 k2, .func (.func 118) #[.pointer (some ⟨g, 0, none⟩)] #[]] X fun e w' => ∃ v, e = .returned v /\ (OwnN w' X.heap.size v us) /\ RdS w' g r5 /\ Bv g X.heap.size X w') := fun X hX h0 h8 => RdP.ok (hN5 X hX h0 h8) hr5
      have HT5 : Hid (us.length = k2.toNat) := rMany_len9 hr5
      clear hN5 hr5
      go_enter Tryz.func84, Tryz.ntmps84
      go_wp2_with (first
       | (go_at_call 118; refine HN1.out.mono ?_; clear HN1; rintro e w1 ⟨v1, rfl, rfl, hs, hb⟩; have HB1 : Hid (Bv g w.heap.size w w1) := HL.out.step hb; have HS1 : Hid (RdS w1 g r1) := hs; have HK1 : Hid (Blk w1 w.heap.size _ _) := HB.out.bl hb (by omega); have hz1 := HB1.out.size; clear hs hb)
       | (go_at_call 81; refine (HN2.out _ HS1.out).mono ?_; clear HN2; rintro e w2 ⟨v2, rfl, ⟨rfl, hq0, hq1⟩, hs, hb⟩; have HB2 : Hid (Bv g w.heap.size w w2) := HB1.out.step hb; have HS2 : Hid (RdS w2 g r2) := hs; have HK2 : Hid (Blk w2 w.heap.size _ _) := HK1.out.bl hb (by omega); have hz2 := HK2.out.lt; have HQ : Hid (0 <= k1 /\ k1 <= 4294967295) := ⟨hq0, hq1⟩; clear hs hb hq0 hq1)
       | (go_at_call 119; refine (HN3.out _ HS2.out HQ.out.1 HQ.out.2).mono ?_; clear HN3; rintro e w3 ⟨v3, rfl, ho, hs, hb⟩; have HB3 : Hid (Bv g w.heap.size w w3) := HB2.out.step hb; have HS3 : Hid (RdS w3 g r3) := hs; have HK3 : Hid (Blk w3 w.heap.size _ _) := HK2.out.bl hb (by omega); have HO3 : Hid (OwnT w3 w2.heap.size v3 ts) := ho; obtain ⟨a1, a2, a3, rfl⟩ := ownT_form8 ho; have hz3 := HK3.out.lt; clear hs hb ho)
       | (go_at_call 81; refine (HN4.out _ HS3.out).mono ?_; clear HN4; rintro e w4 ⟨v4, rfl, ⟨rfl, hq0, hq1⟩, hs, hb⟩; have HB4 : Hid (Bv g w.heap.size w w4) := HB3.out.step hb; have HS4 : Hid (RdS w4 g r4) := hs; have HK4 : Hid (Blk w4 w.heap.size _ _) := HK3.out.bl hb (by omega); have HO4 : Hid (OwnT w4 w2.heap.size (.slice a1 a2 a3) ts) := row_blM HO3.out hb (by omega); have hz4 := HK4.out.lt; have HQ2 : Hid (0 <= k2 /\ k2 <= 4294967295) := ⟨hq0, hq1⟩; clear hs hb hq0 hq1)
       | (go_at_call 121; refine (HN5.out _ HS4.out HQ2.out.1 HQ2.out.2).mono ?_; clear HN5; rintro e w5 ⟨v5, rfl, ho, hs, hb⟩; have HB5 : Hid (Bv g w.heap.size w w5) := HB4.out.step hb; have HS5 : Hid (RdS w5 g r5) := hs; have HK5 : Hid (Blk w5 w.heap.size _ _) := HK4.out.bl hb (by omega); have HO5 : Hid (OwnT w5 w2.heap.size (.slice a1 a2 a3) ts) := row_blM HO4.out hb (by omega); have HU5 : Hid (OwnN w5 w4.heap.size v5 us) := ho; obtain ⟨b1, b2, b3, rfl⟩ := ownN_form8 ho; obtain ⟨q0, q1, q2, f0, f1, f2⟩ := three HK5.out; clear hs hb ho))
      have hk : Kt 50 w5 (((w5.setCell ⟨w.heap.size, 0, none⟩ (.int .i64 n)).setCell ⟨w.heap.size, 1, none⟩ (.slice a1 a2 a3)).setCell ⟨w.heap.size, 2, none⟩ (.slice b1 b2 b3)) := by
       have k1 := CBlk.set HK5.out 0 (.int .i64 n)
       have k2 := k1.set 1 (.slice a1 a2 a3)
       exact ((Kt.set HK5.out).trans (Kt.set k1)).trans (Kt.set k2)
      exact bodyPost_ret (v := .agg #[.int .i64 n, .slice a1 a2 a3, .slice b1 b2 b3]) (by simp [results, Tryz.results84, go_sem, q0, q1, q2]) rfl ⟨bset3V HB5.out (Nat.le_refl _), _, rfl, ⟨⟨n, ts, .slice a1 a2 a3, us, .slice b1 b2 b3⟩, rfl, rfl, row_mono9 (row_kt HO5.out hk (by decide)) (by omega), row_mono9 (row_kt HU5.out hk (by decide)) (by omega), by have h1 := HT3.out; have h2 := HT5.out; have h3 := HQ.out; have h4 := HQ2.out; simp only; omega⟩, ((HS5.out.off hlt).off hlt).off hlt⟩
end Go.Proofs.YtmbmchbninlhpaaGreatDoor
