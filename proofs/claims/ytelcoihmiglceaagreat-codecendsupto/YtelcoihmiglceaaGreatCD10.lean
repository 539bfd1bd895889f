import Derived.Test.YtelcoihmiglceaaGreatCD9
import Derived.Test.YtelcoihmiglceaaGreatCP1
namespace Go.Proofs.YtelcoihmiglceaaGreat
open Go.RowKit

def rVal (l : List Int) : Rd Tm := (rOne [1, 2] l).and fun k r => rTermOf k 0 r
theorem row_blM {e : TypeId} {g base n m : Nat} {w w' : World} {v : Value} {xs : List Value} (h : w.ownsRow base e n v m xs) (hb : Bv g w.heap.size w w') (hg : g < base) : w'.ownsRow base e n v m xs := by
 refine ⟨h.1, ?_⟩
 rcases h.2 with hn | ⟨k, cap, cur, hv, hbb, hk, rest⟩
 ·exact Or.inl hn
 ·exact Or.inr ⟨k, cap, cur, hv, hbb, (hb.block k (Array.getElem?_eq_some_iff.1 hk).1 (by omega)).trans hk, rest⟩
set_option maxRecDepth 20000 in
set_option maxHeartbeats 2000000 in
theorem value8_any (g : Nat) (l : List Int) (w : World) (h : RdS w g l) :
  Calls Tryz.prog 134 #[.pointer (some ⟨g, 0, none⟩)] w (RdP g w (fun t v _ => v = t.v) (rVal l)) := by
 have hlt := h.lt
 have HA : Hid (RdS ((w.alloc (.cells #[.int .i64 0, .int .i64 0, .string ⟨#[]⟩] 23)).alloc (.cells #[.int .i64 1, .int .i64 2] 3)) g l) := h.below (below2 _ _ _)
 have HB : Hid (Blk ((w.alloc (.cells #[.int .i64 0, .int .i64 0, .string ⟨#[]⟩] 23)).alloc (.cells #[.int .i64 1, .int .i64 2] 3)) w.heap.size #[.int .i64 0, .int .i64 0, .string ⟨#[]⟩] 23) := Blk.old _ _ _ _
 have HL : Hid (Bv g w.heap.size w ((w.alloc (.cells #[.int .i64 0, .int .i64 0, .string ⟨#[]⟩] 23)).alloc (.cells #[.int .i64 1, .int .i64 2] 3))) := Bv.of (below2 _ _ _)
 have HC : Blk ((w.alloc (.cells #[.int .i64 0, .int .i64 0, .string ⟨#[]⟩] 23)).alloc (.cells #[.int .i64 1, .int .i64 2] 3)) (w.heap.size + 1) #[.int .i64 1, .int .i64 2] 3 := Blk.new2 _ _ _ _
 have HO := oneOf_any [1, 2] (.slice (some ⟨w.heap.size + 1, 0, none⟩) 2 2) g l _ HA.out (fun X hX => ⟨w.heap.size + 1, 2, rfl, by simp, fun i x hx => by
  have hB := HC.bl hX (by omega)
  have hi := (List.getElem?_eq_some_iff.1 hx).1
  have : w.heap.size + 1 < X.heap.size := hB.lt
  rcases (show i = 0 ∨ i = 1 by simp at hi; omega) with rfl | rfl
  all_goals (simp only [List.getElem?_cons_zero, List.getElem?_cons_succ, Option.some.injEq] at hx; subst hx; exact cell_of_row _ _ _ _ _ _ hB)⟩)
 clear h HC
 unfold rVal
 rcases hr : rOne [1, 2] l with c | ⟨n, r⟩
 ·have HN : Hid (Calls Tryz.prog 162 #[.pointer (some ⟨g, 0, none⟩), .slice (some ⟨w.heap.size + 1, 0, none⟩) 2 2] _ fun e w' => e = .panicked [pE c] /\ Bv g _ _ w') := RdP.err HO hr
  simp only [Rd.and]
  clear HO
  go_enter Tryz.func134, Tryz.ntmps134
  go_wp2_with (go_at_call 162; refine HN.out.mono ?_; rintro e w1 ⟨rfl, hb⟩)
  exact ⟨rfl, HL.out.step hb, rfl⟩
 ·have HN : Hid (Calls Tryz.prog 162 #[.pointer (some ⟨g, 0, none⟩), .slice (some ⟨w.heap.size + 1, 0, none⟩) 2 2] _ fun e w' => ∃ v, e = .returned v /\ (v = .int .i64 n /\ n ∈ [1, 2]) /\ RdS w' g r /\ Bv g _ _ w') := RdP.ok HO hr
  simp only [Rd.and]
  clear HO
  have hN := fun X hX hk => termOf_any n 0 hk g r X hX
  rcases hr2 : rTermOf n 0 r with c | ⟨t, r2⟩
  ·have HT : Hid (∀ X, RdS X g r -> (n = 0 ∨ n = 1 ∨ n = 2 ∨ n = 3) -> Calls Tryz.prog 163 #[.pointer (some ⟨g, 0, none⟩), .int .i64 n, .int .i64 0] X fun e w' => e = .panicked [pE c] /\ Bv g X.heap.size X w') := fun X hX hk => RdP.err (hN X hX hk) hr2
   clear hN
   go_enter Tryz.func134, Tryz.ntmps134
   go_wp2_with (first
    | (go_at_call 162; refine HN.out.mono ?_; rintro e w1 ⟨v1, rfl, ⟨rfl, hm⟩, hs, hb⟩; have HM : Hid (n ∈ [1, 2]) := hm; have HB1 : Hid (Bv g w.heap.size w w1) := HL.out.step hb; have HS : Hid (RdS w1 g r) := hs; clear hm hs hb)
    | (go_at_call 163; refine (HT.out _ HS.out (by have := HM.out; simp at this; omega)).mono ?_; rintro e w2 ⟨rfl, hb⟩))
   exact ⟨rfl, HB1.out.step hb, rfl⟩
  ·have HT : Hid (∀ X, RdS X g r -> (n = 0 ∨ n = 1 ∨ n = 2 ∨ n = 3) -> Calls Tryz.prog 163 #[.pointer (some ⟨g, 0, none⟩), .int .i64 n, .int .i64 0] X fun e w' => ∃ v, e = .returned v /\ (v = t.v) /\ RdS w' g r2 /\ Bv g X.heap.size X w') := fun X hX hk => RdP.ok (hN X hX hk) hr2
   clear hN
   obtain ⟨tk, tn, ts⟩ := t
   go_enter Tryz.func134, Tryz.ntmps134
   go_wp2_with (first
    | (go_at_call 162; refine HN.out.mono ?_; rintro e w1 ⟨v1, rfl, ⟨rfl, hm⟩, hs, hb⟩; have HM : Hid (n ∈ [1, 2]) := hm; have HB1 : Hid (Bv g w.heap.size w w1) := HL.out.step hb; have HS : Hid (RdS w1 g r) := hs; have HK1 : Hid (Blk w1 _ _ _) := HB.out.bl hb (by omega); clear hm hs hb)
    | (go_at_call 163; refine (HT.out _ HS.out (by have := HM.out; simp at this; omega)).mono ?_; rintro e w2 ⟨v2, rfl, rfl, hs, hb⟩; obtain ⟨r0, r1, r2, f0, f1, f2⟩ := three (HK1.out.bl hb (by omega)); have HB2 : Hid (Bv g w.heap.size w w2) := HB1.out.step hb; have HS2 : Hid (RdS w2 g _) := hs; clear hs hb))
   exact bodyPost_ret (v := Tm.v ⟨tk, tn, ts⟩) (by simp [results, Tryz.results134, go_sem, r0, r1, r2]) rfl ⟨bset3V HB2.out (Nat.le_refl _), _, rfl, rfl, ((HS2.out.off hlt).off hlt).off hlt⟩
set_option maxRecDepth 20000 in
set_option maxHeartbeats 2000000 in
theorem listV_any (n : Nat) (hn : n <= 4294967295) (g : Nat) (l : List Int) (w : World) (h : RdS w g l) :
  Calls Tryz.prog 125 #[.int .i64 n, .func (.func 134) #[.pointer (some ⟨g, 0, none⟩)] #[]] w (RdP g w (fun ts v w' => OwnT w' w.heap.size v ts) (rMany rVal n l)) := by
 have hlt := h.lt
 have HS0 : Hid (RdS w g l) := h
 clear h
 go_enter Tryz.func125, Tryz.ntmps125
 go_wp2
 go_loopg [5, 7] n (fun k u i wr => ∃ (j : Nat) (ts : List Tm) (l' : List Int), j + k = n /\ i = .int .i64 j /\ ts.length = j /\ OwnT wr w.heap.size u ts /\ RdS wr g l' /\ Bv g w.heap.size w wr /\ Mny rVal n l k ts l')
 case atStart => exact ⟨0, [], l, by omega, rfl, rfl, ownT_nil _ _, HS0.out, Bv.refl _ _ _, Mny.start _ _ _⟩
 case round =>
  obtain ⟨j, ts, l', hj, rfl, hts, ho, hs, hb, hm⟩ := hrel
  have HO : Hid (OwnT wr w.heap.size u5 ts) := ho
  have HB : Hid (Bv g w.heap.size w wr) := hb
  have HS : Hid (RdS wr g l') := hs
  have hsz := hb.size
  cases gk with
  | succ k =>
   have HM : Hid (Mny rVal n l (k + 1) ts l') := hm
   have i1 : (j : Int) < (n : Int) := by omega
   have hN := value8_any g l' wr hs
   clear ho hs hb hm
   rcases hr : rVal l' with c | ⟨t, r⟩
   ·have HN : Hid (Calls Tryz.prog 134 #[.pointer (some ⟨g, 0, none⟩)] wr fun e w' => e = .panicked [pE c] /\ Bv g wr.heap.size wr w') := RdP.err hN hr
    have HE : Hid (rMany rVal n l = .error c) := HM.out.no hr
    clear hN hr
    go_wp2_with (go_at_call 134; refine HN.out.mono ?_; rintro e w1 ⟨rfl, hb⟩)
    refine ⟨rfl, ?_⟩
    rw [HE.out]
    exact ⟨HB.out.step hb, rfl⟩
   ·have HN : Hid (Calls Tryz.prog 134 #[.pointer (some ⟨g, 0, none⟩)] wr fun e w' => ∃ v, e = .returned v /\ (v = t.v) /\ RdS w' g r /\ Bv g wr.heap.size wr w') := RdP.ok hN hr
    have HM2 : Hid (Mny rVal n l k (ts ++ [t]) r) := HM.out.next hr
    clear hN hr
    obtain ⟨tk, tn, tt⟩ := t
    go_wp2_with (first
     | (go_at_call 134; refine HN.out.mono ?_; rintro e w1 ⟨v1, rfl, rfl, hs1, hb1⟩; have HB1 : Hid (Bv g w.heap.size w w1) := HB.out.step hb1; have HS1 : Hid (RdS w1 g r) := hs1; have HO1 : Hid (OwnT w1 w.heap.size u5 ts) := HO.out.blM hb1 hlt; have hz1 := HB1.out.size; clear hs1 hb1)
     | (at_builtin; refine app_terms rfl _ _ rfl w.heap.size u5 ts rfl (HO1.out.later (below1 _ _)) (.slice (some ⟨w1.heap.size, 0, none⟩) 1 1) [⟨tk, tn, tt⟩] rfl (TsP.one (t := ⟨tk, tn, tt⟩) (CBlk.new _ _ _)) (by simp only [List.length_cons, List.length_nil]; omega) (by simp; omega) ?_; intro v2 w2 ho2 hb2 hg2; have HO2 : Hid (OwnT w2 w.heap.size v2 (ts ++ [⟨tk, tn, tt⟩])) := ho2; have HB2 : Hid (Below w.heap.size w1 w2) := ((below1 _ _).mono hz1).trans hb2; clear ho2 hb2 hg2))
    go_roundg k
    case measure => omega
    case rel => exact ⟨j + 1, ts ++ [⟨tk, tn, tt⟩], r, by omega, by go_num, by simp; omega, HO2.out, HS1.out.low HB2.out hlt, HB1.out.trans (Bv.of HB2.out), HM2.out⟩
  | zero =>
   obtain rfl : j = n := by omega
   have hz : ¬ ((j : Int) < (j : Int)) := by omega
   have HE : Hid (rMany rVal j l = .ok (ts, l')) := hm.done
   clear ho hs hb hm
   go_wp2
   go_ret
   rw [HE.out]
   exact ⟨HB.out, _, rfl, HO.out, HS.out⟩
set_option maxRecDepth 20000 in
set_option maxHeartbeats 2000000 in
theorem listN_any (n : Nat) (hn : n <= 4294967295) (g : Nat) (l : List Int) (w : World) (h : RdS w g l) :
  Calls Tryz.prog 135 #[.int .i64 n, .func (.func 133) #[.pointer (some ⟨g, 0, none⟩)] #[]] w (RdP g w (fun ts v w' => OwnN w' w.heap.size v ts) (rMany rNat n l)) := by
 have hlt := h.lt
 have HS0 : Hid (RdS w g l) := h
 clear h
 go_enter Tryz.func135, Tryz.ntmps135
 go_wp2
 go_loopg [5, 7] n (fun k u i wr => ∃ (j : Nat) (ts : List Int) (l' : List Int), j + k = n /\ i = .int .i64 j /\ ts.length = j /\ OwnN wr w.heap.size u ts /\ RdS wr g l' /\ Bv g w.heap.size w wr /\ Mny rNat n l k ts l')
 case atStart => exact ⟨0, [], l, by omega, rfl, rfl, ownN_nil _ _, HS0.out, Bv.refl _ _ _, Mny.start _ _ _⟩
 case round =>
  obtain ⟨j, ts, l', hj, rfl, hts, ho, hs, hb, hm⟩ := hrel
  have HO : Hid (OwnN wr w.heap.size u5 ts) := ho
  have HB : Hid (Bv g w.heap.size w wr) := hb
  have HS : Hid (RdS wr g l') := hs
  have hsz := hb.size
  cases gk with
  | succ k =>
   have HM : Hid (Mny rNat n l (k + 1) ts l') := hm
   have i1 : (j : Int) < (n : Int) := by omega
   have hN := natural_any g l' wr hs
   clear ho hs hb hm
   rcases hr : rNat l' with c | ⟨t, r⟩
   ·have HN : Hid (Calls Tryz.prog 133 #[.pointer (some ⟨g, 0, none⟩)] wr fun e w' => e = .panicked [pE c] /\ Bv g wr.heap.size wr w') := RdP.err hN hr
    have HE : Hid (rMany rNat n l = .error c) := HM.out.no hr
    clear hN hr
    go_wp2_with (go_at_call 133; refine HN.out.mono ?_; rintro e w1 ⟨rfl, hb⟩)
    refine ⟨rfl, ?_⟩
    rw [HE.out]
    exact ⟨HB.out.step hb, rfl⟩
   ·have HN : Hid (Calls Tryz.prog 133 #[.pointer (some ⟨g, 0, none⟩)] wr fun e w' => ∃ v, e = .returned v /\ (v = .int .i64 t) /\ RdS w' g r /\ Bv g wr.heap.size wr w') := RdP.ok hN hr
    have HM2 : Hid (Mny rNat n l k (ts ++ [t]) r) := HM.out.next hr
    clear hN hr
    go_wp2_with (first
     | (go_at_call 133; refine HN.out.mono ?_; rintro e w1 ⟨v1, rfl, rfl, hs1, hb1⟩; have HB1 : Hid (Bv g w.heap.size w w1) := HB.out.step hb1; have HS1 : Hid (RdS w1 g r) := hs1; have HO1 : Hid (OwnN w1 w.heap.size u5 ts) := row_blM HO.out hb1 hlt; have hz1 := HB1.out.size; clear hs1 hb1)
     | (at_builtin; refine napp_one rfl _ _ rfl w.heap.size u5 ts rfl (HO1.out.later (below1 _ _)) w1.heap.size t rfl (CBlk.new _ _ _) (by omega) (by simp; omega) ?_; intro v2 w2 ho2 hb2 hg2 hg3; have HO2 : Hid (OwnN w2 w.heap.size v2 (ts ++ [t])) := ho2; have HB2 : Hid (Below w.heap.size w1 w2) := ((below1 _ _).mono hz1).trans hb2; clear ho2 hb2 hg2 hg3))
    go_roundg k
    case measure => omega
    case rel => exact ⟨j + 1, ts ++ [t], r, by omega, by go_num, by simp; omega, HO2.out, HS1.out.low HB2.out hlt, HB1.out.trans (Bv.of HB2.out), HM2.out⟩
  | zero =>
   obtain rfl : j = n := by omega
   have hz : ¬ ((j : Int) < (j : Int)) := by omega
   have HE : Hid (rMany rNat j l = .ok (ts, l')) := hm.done
   clear ho hs hb hm
   go_wp2
   go_ret
   rw [HE.out]
   exact ⟨HB.out, _, rfl, HO.out, HS.out⟩
set_option maxRecDepth 20000 in
set_option maxHeartbeats 1000000 in
theorem count8_any (g : Nat) (l : List Int) (w : World) (h : RdS w g l) :
  Calls Tryz.prog 93 #[.pointer (some ⟨g, 0, none⟩)] w (RdP g w (fun n u _ => u = .int .i64 n /\ 0 <= n /\ n <= 4294967295) (rNum 4 l)) := by
 have hN := number_any 4 (by omega) g l w h
 rcases hr : rNum 4 l with c | ⟨n, r⟩
 ·have HN : Hid (Calls Tryz.prog 132 #[.pointer (some ⟨g, 0, none⟩), .int .i64 4] w fun e w' => e = .panicked [pE c] /\ Bv g w.heap.size w w') := RdP.err hN hr
  clear hN h
  go_enter Tryz.func93, Tryz.ntmps93
  go_wp2_with (go_at_call 132; refine HN.out.mono ?_; rintro e w1 ⟨rfl, hb⟩)
  exact ⟨rfl, hb, rfl⟩
 ·have HN : Hid (Calls Tryz.prog 132 #[.pointer (some ⟨g, 0, none⟩), .int .i64 4] w fun e w' => ∃ v, e = .returned v /\ (v = .int .u64 n /\ 0 <= n /\ n < (256 : Int) ^ 4) /\ RdS w' g r /\ Bv g w.heap.size w w') := RdP.ok hN hr
  clear hN h
  go_enter Tryz.func93, Tryz.ntmps93
  go_wp2_with (go_at_call 132; refine HN.out.mono ?_; rintro e w1 ⟨v1, rfl, ⟨rfl, h0, h1⟩, hs, hb⟩; rw [show ((256 : Int) ^ 4) = 4294967296 by decide] at h1; have e1 : wrap64 n = n := (by unfold wrap64; omega))
  go_ret
  refine ⟨hb, _, rfl, ⟨?_, h0, by omega⟩, hs⟩
  first
   | rfl
   | rw [e1]
end Go.Proofs.YtelcoihmiglceaaGreat
namespace Go.Proofs.YtelcoihmiglceaaGreat
open Go.RowKit

theorem bset5M {m B : Nat} {W V : World} {G : Nat} {a b c d e : Value} (h : Bv m B W V) (hg : B <= G) : Bv m B W (((((V.setCell ⟨G, 0, none⟩ a).setCell ⟨G, 1, none⟩ b).setCell ⟨G, 2, none⟩ c).setCell ⟨G, 3, none⟩ d).setCell ⟨G, 4, none⟩ e) :=
 h.trans (Bv.of ((((((Below.refl _ _).setCell (p := ⟨G, 0, none⟩) hg _).setCell (p := ⟨G, 1, none⟩) hg _).setCell (p := ⟨G, 2, none⟩) hg _).setCell (p := ⟨G, 3, none⟩) hg _).setCell (p := ⟨G, 4, none⟩) hg _))
theorem ff5 {w : World} {g : Nat} {c : Array Value} {t : TypeId} (h : Blk w g c t) : w.frozen? ⟨g, 0, none⟩ = false /\ w.frozen? ⟨g, 1, none⟩ = false /\ w.frozen? ⟨g, 2, none⟩ = false /\ w.frozen? ⟨g, 3, none⟩ = false /\ w.frozen? ⟨g, 4, none⟩ = false :=
 ⟨frozen_of_row _ _ _ _ _ h, frozen_of_row _ _ _ _ _ h, frozen_of_row _ _ _ _ _ h, frozen_of_row _ _ _ _ _ h, frozen_of_row _ _ _ _ _ h⟩
set_option maxRecDepth 20000 in
set_option maxHeartbeats 4000000 in
theorem atom8_any (g : Nat) (l : List Int) (w : World) (h : RdS w g l) :
  Calls Tryz.prog 87 #[.pointer (some ⟨g, 0, none⟩)] w (RdP g w (fun a v w' => ∃ y, v = a.v y /\ OwnT w' w.heap.size y a.args) (rAtom l)) := by
 have hlt := h.lt
 have hmf : ∀ (fn : Fn) (first cap : Array Value) (w : World), (Instr.makeFunc fn first cap).run Tryz.prog w = .ok (.func fn first cap) w := fun _ _ _ _ => rfl
 have HB : Hid (Blk (w.alloc (.cells #[.int .i64 0, .int .i64 0, .string ⟨#[]⟩, .string ⟨#[]⟩, .slice none 0 0] 26)) w.heap.size #[.int .i64 0, .int .i64 0, .string ⟨#[]⟩, .string ⟨#[]⟩, .slice none 0 0] 26) := Blk.new _ _ _
 have HL : Hid (Bv g w.heap.size w (w.alloc (.cells #[.int .i64 0, .int .i64 0, .string ⟨#[]⟩, .string ⟨#[]⟩, .slice none 0 0] 26))) := Bv.of (below1 _ _)
 have hN1 := qual8_any g l (w.alloc (.cells #[.int .i64 0, .int .i64 0, .string ⟨#[]⟩, .string ⟨#[]⟩, .slice none 0 0] 26)) (h.below (below1 _ _))
 clear h
 unfold rAtom
 rcases hr1 : rQual l with c | ⟨t, r1⟩
 ·have HN1 : Hid (Calls Tryz.prog 123 #[.pointer (some ⟨g, 0, none⟩)] (w.alloc (.cells #[.int .i64 0, .int .i64 0, .string ⟨#[]⟩, .string ⟨#[]⟩, .slice none 0 0] 26)) fun e w' => e = .panicked [pE c] /\ Bv g _ _ w') := RdP.err hN1 hr1
  clear hN1 hr1
  simp only [Rd.and]
  go_enter Tryz.func87, Tryz.ntmps87
  go_wp2_with (go_at_call 123; refine HN1.out.mono ?_; rintro e w1 ⟨rfl, hb⟩)
  exact ⟨rfl, HL.out.step hb, rfl⟩
 ·have HN1 : Hid (Calls Tryz.prog 123 #[.pointer (some ⟨g, 0, none⟩)] (w.alloc (.cells #[.int .i64 0, .int .i64 0, .string ⟨#[]⟩, .string ⟨#[]⟩, .slice none 0 0] 26)) fun e w' => ∃ v, e = .returned v /\ (v = t.v) /\ RdS w' g r1 /\ Bv g _ _ w') := RdP.ok hN1 hr1
  clear hN1 hr1
  obtain ⟨tk, tn, tt⟩ := t
  have hN2 := fun X hX => name8_any g r1 X hX
  simp only [Rd.and]
  rcases hr2 : rName r1 with c | ⟨nm, r2⟩
  ·have HN2 : Hid (∀ X, RdS X g r1 -> Calls Tryz.prog 124 #[.pointer (some ⟨g, 0, none⟩)] X fun e w' => e = .panicked [pE c] /\ Bv g X.heap.size X w') := fun X hX => RdP.err (hN2 X hX) hr2
   clear hN2 hr2
   go_enter Tryz.func87, Tryz.ntmps87
   go_wp2_with (first
    | (go_at_call 123; refine HN1.out.mono ?_; rintro e w1 ⟨v1, rfl, rfl, hs, hb⟩; have HB1 : Hid (Bv g w.heap.size w (w1.alloc (.cells #[.int .i64 tk, .int .i64 tn, .string tt] 23))) := (HL.out.step hb).step (Bv.of (below1 _ _)); have HS1 : Hid (RdS (w1.alloc (.cells #[.int .i64 tk, .int .i64 tn, .string tt] 23)) g r1) := hs.below (below1 _ _); have HK1 : Hid (Blk (w1.alloc (.cells #[.int .i64 tk, .int .i64 tn, .string tt] 23)) _ _ _) := (HB.out.bl hb (by omega)).later (below1 _ _); have HT1 : Hid (Blk (w1.alloc (.cells #[.int .i64 tk, .int .i64 tn, .string tt] 23)) w1.heap.size #[.int .i64 tk, .int .i64 tn, .string tt] 23) := Blk.new _ _ _; have hz1 : w.heap.size < w1.heap.size := (by have := (HL.out.step hb).size; have := hb.size; simp at this; omega); clear hs hb)
    | (go_at_call 124; refine (HN2.out _ HS1.out).mono ?_; rintro e w2 ⟨rfl, hb⟩))
   exact ⟨rfl, HB1.out.step hb, rfl⟩
  ·have HN2 : Hid (∀ X, RdS X g r1 -> Calls Tryz.prog 124 #[.pointer (some ⟨g, 0, none⟩)] X fun e w' => ∃ v, e = .returned v /\ (v = .string nm) /\ RdS w' g r2 /\ Bv g X.heap.size X w') := fun X hX => RdP.ok (hN2 X hX) hr2
   clear hN2 hr2
   have hN3 := fun X hX => bounded_any 0 8 g r2 X hX
   simp only
   rcases hr3 : rBnd 0 8 r2 with c | ⟨n, r3⟩
   ·have HN3 : Hid (∀ X, RdS X g r2 -> Calls Tryz.prog 126 #[.pointer (some ⟨g, 0, none⟩), .int .i64 0, .int .i64 8] X fun e w' => e = .panicked [pE c] /\ Bv g X.heap.size X w') := fun X hX => RdP.err (hN3 X hX) hr3
    clear hN3 hr3
    go_enter Tryz.func87, Tryz.ntmps87
    go_wp2_with (first
     | (go_at_call 123; refine HN1.out.mono ?_; rintro e w1 ⟨v1, rfl, rfl, hs, hb⟩; have HB1 : Hid (Bv g w.heap.size w (w1.alloc (.cells #[.int .i64 tk, .int .i64 tn, .string tt] 23))) := (HL.out.step hb).step (Bv.of (below1 _ _)); have HS1 : Hid (RdS (w1.alloc (.cells #[.int .i64 tk, .int .i64 tn, .string tt] 23)) g r1) := hs.below (below1 _ _); have HK1 : Hid (Blk (w1.alloc (.cells #[.int .i64 tk, .int .i64 tn, .string tt] 23)) _ _ _) := (HB.out.bl hb (by omega)).later (below1 _ _); have HT1 : Hid (Blk (w1.alloc (.cells #[.int .i64 tk, .int .i64 tn, .string tt] 23)) w1.heap.size #[.int .i64 tk, .int .i64 tn, .string tt] 23) := Blk.new _ _ _; have hz1 : w.heap.size < w1.heap.size := (by have := (HL.out.step hb).size; have := hb.size; simp at this; omega); clear hs hb)
     | (go_at_call 124; refine (HN2.out _ HS1.out).mono ?_; rintro e w2 ⟨v2, rfl, rfl, hs, hb⟩; have HB2 : Hid (Bv g w.heap.size w w2) := HB1.out.step hb; have HS2 : Hid (RdS w2 g r2) := hs; have HK2 : Hid (Blk w2 _ _ _) := HK1.out.bl hb (by omega); have HT2 : Hid (Blk w2 _ _ _) := HT1.out.bl hb (by omega); clear hs hb)
     | (go_at_call 126; refine (HN3.out _ HS2.out).mono ?_; rintro e w3 ⟨rfl, hb⟩))
    exact ⟨rfl, HB2.out.step hb, rfl⟩
   ·have HN3 : Hid (∀ X, RdS X g r2 -> Calls Tryz.prog 126 #[.pointer (some ⟨g, 0, none⟩), .int .i64 0, .int .i64 8] X fun e w' => ∃ v, e = .returned v /\ (v = .int .i64 n /\ 0 <= n /\ n <= 8 /\ 0 <= n /\ n <= 255) /\ RdS w' g r3 /\ Bv g X.heap.size X w') := fun X hX => RdP.ok (hN3 X hX) hr3
    clear hN3 hr3
    have hN4 : ∀ X, RdS X g r3 -> 0 <= n -> n <= 8 -> Calls Tryz.prog 125 #[.int .i64 n, .func (.func 127) #[.pointer (some ⟨g, 0, none⟩)] #[]] X (RdP g X (fun ts v w' => OwnT w' X.heap.size v ts) (rMany rArg n.toNat r3)) := fun X hX h0 h8 => by
     have := listT_any n.toNat (by omega) g r3 X hX
     rwa [Int.toNat_of_nonneg h0] at this
    simp only
    rcases hr4 : rMany rArg n.toNat r3 with c | ⟨m, r4⟩
    ·have HN4 : Hid (∀ X, RdS X g r3 -> 0 <= n -> n <= 8 -> Calls Tryz.prog 125 #[.int .i64 n, .func (.func 127) #[.pointer (some ⟨g, 0, none⟩)] #[]] X fun e w' => e = .panicked [pE c] /\ Bv g X.heap.size X w') := fun X hX h0 h8 => RdP.err (hN4 X hX h0 h8) hr4
     clear hN4 hr4
     go_enter Tryz.func87, Tryz.ntmps87
     go_wp2_with (first
      | (go_at_call 123; refine HN1.out.mono ?_; rintro e w1 ⟨v1, rfl, rfl, hs, hb⟩; have HB1 : Hid (Bv g w.heap.size w (w1.alloc (.cells #[.int .i64 tk, .int .i64 tn, .string tt] 23))) := (HL.out.step hb).step (Bv.of (below1 _ _)); have HS1 : Hid (RdS (w1.alloc (.cells #[.int .i64 tk, .int .i64 tn, .string tt] 23)) g r1) := hs.below (below1 _ _); have HK1 : Hid (Blk (w1.alloc (.cells #[.int .i64 tk, .int .i64 tn, .string tt] 23)) _ _ _) := (HB.out.bl hb (by omega)).later (below1 _ _); have HT1 : Hid (Blk (w1.alloc (.cells #[.int .i64 tk, .int .i64 tn, .string tt] 23)) w1.heap.size #[.int .i64 tk, .int .i64 tn, .string tt] 23) := Blk.new _ _ _; have hz1 : w.heap.size < w1.heap.size := (by have := (HL.out.step hb).size; have := hb.size; simp at this; omega); clear hs hb)
      | (go_at_call 124; refine (HN2.out _ HS1.out).mono ?_; rintro e w2 ⟨v2, rfl, rfl, hs, hb⟩; have HB2 : Hid (Bv g w.heap.size w w2) := HB1.out.step hb; have HS2 : Hid (RdS w2 g r2) := hs; have HK2 : Hid (Blk w2 _ _ _) := HK1.out.bl hb (by omega); have HT2 : Hid (Blk w2 _ _ _) := HT1.out.bl hb (by omega); clear hs hb)
      | (go_at_call 126; refine (HN3.out _ HS2.out).mono ?_; rintro e w3 ⟨v3, rfl, ⟨rfl, -, h8, h0, -⟩, hs, hb⟩; have HB3 : Hid (Bv g w.heap.size w w3) := HB2.out.step hb; have HS3 : Hid (RdS w3 g r3) := hs; have HK3 : Hid (Blk w3 _ _ _) := HK2.out.bl hb (by omega); have HT3 : Hid (Blk w3 _ _ _) := HT2.out.bl hb (by omega); clear hs hb)
      | (go_at_call 125; refine (HN4.out _ HS3.out h0 h8).mono ?_; rintro e w4 ⟨rfl, hb⟩))
     exact ⟨rfl, HB3.out.step hb, rfl⟩
    ·have HN4 : Hid (∀ X, RdS X g r3 -> 0 <= n -> n <= 8 -> Calls Tryz.prog 125 #[.int .i64 n, .func (.func 127) #[.pointer (some ⟨g, 0, none⟩)] #[]] X fun e w' => ∃ v, e = .returned v /\ (OwnT w' X.heap.size v m) /\ RdS w' g r4 /\ Bv g X.heap.size X w') := fun X hX h0 h8 => RdP.ok (hN4 X hX h0 h8) hr4
     clear hN4 hr4
     go_enter Tryz.func87, Tryz.ntmps87
     go_wp2_with (first
      | (go_at_call 123; refine HN1.out.mono ?_; rintro e w1 ⟨v1, rfl, rfl, hs, hb⟩; have HB1 : Hid (Bv g w.heap.size w (w1.alloc (.cells #[.int .i64 tk, .int .i64 tn, .string tt] 23))) := (HL.out.step hb).step (Bv.of (below1 _ _)); have HS1 : Hid (RdS (w1.alloc (.cells #[.int .i64 tk, .int .i64 tn, .string tt] 23)) g r1) := hs.below (below1 _ _); have HK1 : Hid (Blk (w1.alloc (.cells #[.int .i64 tk, .int .i64 tn, .string tt] 23)) _ _ _) := (HB.out.bl hb (by omega)).later (below1 _ _); have HT1 : Hid (Blk (w1.alloc (.cells #[.int .i64 tk, .int .i64 tn, .string tt] 23)) w1.heap.size #[.int .i64 tk, .int .i64 tn, .string tt] 23) := Blk.new _ _ _; have hz1 : w.heap.size < w1.heap.size := (by have := (HL.out.step hb).size; have := hb.size; simp at this; omega); clear hs hb)
      | (go_at_call 124; refine (HN2.out _ HS1.out).mono ?_; rintro e w2 ⟨v2, rfl, rfl, hs, hb⟩; have HB2 : Hid (Bv g w.heap.size w w2) := HB1.out.step hb; have HS2 : Hid (RdS w2 g r2) := hs; have HK2 : Hid (Blk w2 _ _ _) := HK1.out.bl hb (by omega); have HT2 : Hid (Blk w2 _ _ _) := HT1.out.bl hb (by omega); clear hs hb)
      | (go_at_call 126; refine (HN3.out _ HS2.out).mono ?_; rintro e w3 ⟨v3, rfl, ⟨rfl, -, h8, h0, -⟩, hs, hb⟩; have HB3 : Hid (Bv g w.heap.size w w3) := HB2.out.step hb; have HS3 : Hid (RdS w3 g r3) := hs; have HK3 : Hid (Blk w3 _ _ _) := HK2.out.bl hb (by omega); have HT3 : Hid (Blk w3 _ _ _) := HT2.out.bl hb (by omega); clear hs hb)
      | (go_at_call 125; refine (HN4.out _ HS3.out h0 h8).mono ?_; rintro e w4 ⟨v4, rfl, ho, hs, hb⟩; obtain ⟨a4, n4, c4, rfl⟩ := ownT_form8 ho; have HB4 : Hid (Bv g w.heap.size w w4) := HB3.out.step hb; have HS4 : Hid (RdS w4 g r4) := hs; obtain ⟨p0, p1, p2, p3, p4⟩ := five (HK3.out.bl hb (by omega)); obtain ⟨f0, f1, f2, f3, f4⟩ := ff5 (HK3.out.bl hb (by omega)); obtain ⟨t0, t1, t2, -, -, -⟩ := three (HT3.out.bl hb (by omega)); have HO4 : Hid (OwnT w4 w.heap.size (.slice a4 n4 c4) m /\ ∀ k, (Value.slice a4 n4 c4).ownBlock = some k -> w.heap.size < k) := ⟨ho.mono (by have := HB3.out.size; omega), fun k hk => by have := (ho.lt k hk).1; have := HT3.out.lt; omega⟩; clear ho hs hb))
     have hne : ∀ k, (Value.slice a4 n4 c4).ownBlock = some k -> k ≠ w.heap.size := fun k hk => by have := HO4.out.2 k hk; omega
     exact bodyPost_ret (v := At.v ⟨⟨tk, tn, tt⟩, nm, m⟩ (.slice a4 n4 c4)) (by simp [results, Tryz.results87, go_sem, p0, p1, p2, p3, p4]) rfl ⟨bset5M HB4.out (Nat.le_refl _), _, rfl, ⟨_, rfl, OwnT.off (OwnT.off (OwnT.off (OwnT.off (OwnT.off HO4.out.1 hne) hne) hne) hne) hne⟩, ((((HS4.out.off hlt).off hlt).off hlt).off hlt).off hlt⟩
end Go.Proofs.YtelcoihmiglceaaGreat
