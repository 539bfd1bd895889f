import Derived.Test.YtmbmchbninlhpaaGreatDoorCD8
import Derived.Test.YtmbmchbninlhpaaGreatDoorMD2
namespace Go.Proofs.YtmbmchbninlhpaaGreatDoor
open Go.RowKit

theorem ts_nil (w : World) : Ts w (.slice none 0 0) [] := ⟨none, 0, rfl, by simp, Or.inl rfl⟩
theorem err_name (s : ByteArray) : At.err ⟨zt, s, []⟩ = if nameOk s = true then 0 else 21 := by
 unfold At.err
 cases h : nameOk s
 ·simp
 ·simp [qualOk]
set_option maxRecDepth 20000 in
set_option maxHeartbeats 2000000 in
theorem name8_any (g : Nat) (l : List Int) (w : World) (h : RdS w g l) :
  Calls Tryz.prog 147 #[.pointer (some ⟨g, 0, none⟩)] w (RdP g w (fun s v _ => v = .string s) (rName l)) := by
 have hN := rtext_any 1 32 g l w h
 unfold rName
 rcases hr : rText 1 32 l with c | ⟨s, r⟩
 ·have HN : Hid (Calls Tryz.prog 179 #[.pointer (some ⟨g, 0, none⟩), .int .i64 1, .int .i64 32] w fun e w' => e = .panicked [pE c] /\ Bv g w.heap.size w w') := RdP.err hN hr
  clear hN h
  simp only [Rd.and]
  go_enter Tryz.func147, Tryz.ntmps147
  go_wp2_with (go_at_call 179; refine HN.out.mono ?_; rintro e w1 ⟨rfl, hb⟩)
  exact ⟨rfl, hb, rfl⟩
 ·have HN : Hid (Calls Tryz.prog 179 #[.pointer (some ⟨g, 0, none⟩), .int .i64 1, .int .i64 32] w fun e w' => ∃ v, e = .returned v /\ (v = .string s) /\ RdS w' g r /\ Bv g w.heap.size w w') := RdP.ok hN hr
  have HC : Hid (∀ X, Calls Tryz.prog 90 #[.agg #[.int .i64 0, .int .i64 0, .string ⟨#[]⟩, .string s, .slice none 0 0]] X fun e w' => e = .returned (.int .i64 (if nameOk s = true then 0 else 21)) /\ Below X.heap.size X w') := fun X => by
   have := chk_any ⟨zt, s, []⟩ (.slice none 0 0) X (ts_nil X)
   rw [err_name] at this
   exact this
  clear hN h
  simp only [Rd.and]
  cases hn : nameOk s
  ·rw [hn] at HC
   simp only [Bool.false_eq_true, if_false] at HC ⊢
   go_enter Tryz.func147, Tryz.ntmps147
   go_wp2_with (first
    | (go_at_call 179; refine HN.out.mono ?_; rintro e w1 ⟨v1, rfl, rfl, hs, hb⟩; have HB1 : Hid (Bv g w.heap.size w w1) := hb; clear hs hb)
    | (go_at_call 90; refine (HC.out _).mono ?_; rintro e w2 ⟨rfl, hb2⟩; have HB2 : Hid (Bv g w.heap.size w w2) := HB1.out.step (Bv.of hb2); clear hb2)
    | (go_at_call 79; refine (giveUp_any 63 _).mono ?_; rintro e w3 ⟨rfl, rfl⟩))
   exact ⟨rfl, HB2.out, rfl⟩
  ·rw [hn] at HC
   simp only [if_true] at HC ⊢
   go_enter Tryz.func147, Tryz.ntmps147
   go_wp2_with (first
    | (go_at_call 179; refine HN.out.mono ?_; rintro e w1 ⟨v1, rfl, rfl, hs, hb⟩; have HB1 : Hid (Bv g w.heap.size w w1) := hb; have HS : Hid (RdS w1 g r) := hs; clear hs hb)
    | (go_at_call 90; refine (HC.out _).mono ?_; rintro e w2 ⟨rfl, hb2⟩; have HB2 : Hid (Bv g w.heap.size w w2) := HB1.out.step (Bv.of hb2); have HS2 : Hid (RdS w2 g r) := HS.out.below hb2; clear hb2))
   go_ret
   exact ⟨HB2.out, _, rfl, rfl, HS2.out⟩
theorem OwnT.blM {g base : Nat} {w w' : World} {v : Value} {l : List Tm} (h : OwnT w base v l) (hb : Bv g w.heap.size w w') (hg : g < base) : OwnT w' base v l := by
 refine ⟨h.1, ?_⟩
 rcases h.2 with hn | ⟨k, cap, cur, hv, hbb, hk, rest⟩
 ·exact Or.inl hn
 ·exact Or.inr ⟨k, cap, cur, hv, hbb, (hb.block k (Array.getElem?_eq_some_iff.1 hk).1 (by omega)).trans hk, rest⟩
theorem ownT_form8 {w : World} {base : Nat} {v : Value} {l : List Tm} (h : OwnT w base v l) : ∃ a n cap, v = .slice a n cap := by
 rcases h.2 with ⟨hv, -⟩ | ⟨k, cap, cur, hv, -⟩
 ·exact ⟨_, _, _, hv⟩
 ·exact ⟨_, _, _, hv⟩
theorem RdS.low {w w' : World} {g B : Nat} {l : List Int} (h : RdS w g l) (hb : Below B w w') (hg : g < B) : RdS w' g l := by
 obtain ⟨hy, v, h1, b, o, cap, rfl, h0, h2, h3, h4, h5⟩ := h
 refine ⟨hy, _, (hb.block g hg).trans h1, b, o, cap, rfl, h0, h2, h3, Nat.lt_of_lt_of_le h4 hb.size, fun j x hx => ?_⟩
 rw [hb.cell (p := ⟨b, _, none⟩) (by show b < B; omega)]
 exact h5 j x hx
theorem rMany_no {α : Type} {one : List Int -> Rd α} {k : Nat} {l : List Int} {c : Int} (h : one l = .error c) : rMany one (k + 1) l = .error c := by simp [rMany, h, Rd.and]
theorem rMany_ok {α : Type} {one : List Int -> Rd α} {k : Nat} {l r : List Int} {a : α} (h : one l = .ok (a, r)) : rMany one (k + 1) l = (rMany one k r).and fun ts r => .ok (a :: ts, r) := by simp [rMany, h, Rd.and]
def Mny {α : Type} (one : List Int -> Rd α) (n : Nat) (l : List Int) (k : Nat) (ts : List α) (l' : List Int) : Prop := rMany one n l = (rMany one k l').and fun m r => .ok (ts ++ m, r)
theorem Mny.start {α : Type} (one : List Int -> Rd α) (n : Nat) (l : List Int) : Mny one n l n [] l := by
 unfold Mny
 rcases rMany one n l with c | ⟨m, r⟩ <;> rfl
theorem Mny.no {α : Type} {one : List Int -> Rd α} {n k : Nat} {l l' : List Int} {ts : List α} {c : Int} (h : Mny one n l (k + 1) ts l') (hc : one l' = .error c) : rMany one n l = .error c := by
 unfold Mny at h
 rw [h, rMany_no hc]; rfl
theorem Mny.next {α : Type} {one : List Int -> Rd α} {n k : Nat} {l l' r : List Int} {ts : List α} {a : α} (h : Mny one n l (k + 1) ts l') (hc : one l' = .ok (a, r)) : Mny one n l k (ts ++ [a]) r := by
 unfold Mny at h ⊢
 rw [h, rMany_ok hc]
 rcases rMany one k r with c | ⟨m, r⟩
 ·rfl
 ·simp [Rd.and]
theorem Mny.done {α : Type} {one : List Int -> Rd α} {n : Nat} {l l' : List Int} {ts : List α} (h : Mny one n l 0 ts l') : rMany one n l = .ok (ts, l') := by
 unfold Mny at h
 rw [h]; simp [rMany, Rd.and]
set_option maxRecDepth 20000 in
set_option maxHeartbeats 2000000 in
theorem listT_any (n : Nat) (hn : n <= 255) (g : Nat) (l : List Int) (w : World) (h : RdS w g l) :
  Calls Tryz.prog 119 #[.int .i64 n, .func (.func 148) #[.pointer (some ⟨g, 0, none⟩)] #[]] w (RdP g w (fun ts v w' => OwnT w' w.heap.size v ts) (rMany rArg n l)) := by
 have hlt := h.lt
 have HS0 : Hid (RdS w g l) := h
 clear h
 go_enter Tryz.func119, Tryz.ntmps119
 go_wp2
 go_loopg [5, 7] n (fun k u i wr => ∃ (j : Nat) (ts : List Tm) (l' : List Int), j + k = n /\ i = .int .i64 j /\ ts.length = j /\ OwnT wr w.heap.size u ts /\ RdS wr g l' /\ Bv g w.heap.size w wr /\ Mny rArg n l k ts l')
 case atStart => exact ⟨0, [], l, by omega, rfl, rfl, ownT_nil _ _, HS0.out, Bv.refl _ _ _, Mny.start _ _ _⟩
 case round =>
  obtain ⟨j, ts, l', hj, rfl, hts, ho, hs, hb, hm⟩ := hrel
  have HO : Hid (OwnT wr w.heap.size u5 ts) := ho
  have HB : Hid (Bv g w.heap.size w wr) := hb
  have HS : Hid (RdS wr g l') := hs
  have hsz := hb.size
  cases gk with
  | succ k =>
   have HM : Hid (Mny rArg n l (k + 1) ts l') := hm
   have i1 : (j : Int) < (n : Int) := by omega
   have hN := arg8_any g l' wr hs
   clear ho hs hb hm
   rcases hr : rArg l' with c | ⟨t, r⟩
   ·have HN : Hid (Calls Tryz.prog 148 #[.pointer (some ⟨g, 0, none⟩)] wr fun e w' => e = .panicked [pE c] /\ Bv g wr.heap.size wr w') := RdP.err hN hr
    have HE : Hid (rMany rArg n l = .error c) := HM.out.no hr
    clear hN hr
    go_wp2_with (go_at_call 148; refine HN.out.mono ?_; rintro e w1 ⟨rfl, hb⟩)
    refine ⟨rfl, ?_⟩
    rw [HE.out]
    exact ⟨HB.out.step hb, rfl⟩
   ·have HN : Hid (Calls Tryz.prog 148 #[.pointer (some ⟨g, 0, none⟩)] wr fun e w' => ∃ v, e = .returned v /\ (v = t.v) /\ RdS w' g r /\ Bv g wr.heap.size wr w') := RdP.ok hN hr
    have HM2 : Hid (Mny rArg n l k (ts ++ [t]) r) := HM.out.next hr
    clear hN hr
    obtain ⟨tk, tn, tt⟩ := t
    go_wp2_with (first
     | (go_at_call 148; refine HN.out.mono ?_; rintro e w1 ⟨v1, rfl, rfl, hs1, hb1⟩; have HB1 : Hid (Bv g w.heap.size w w1) := HB.out.step hb1; have HS1 : Hid (RdS w1 g r) := hs1; have HO1 : Hid (OwnT w1 w.heap.size u5 ts) := HO.out.blM hb1 hlt; have hz1 := HB1.out.size; clear hs1 hb1)
     | (at_builtin; refine app_terms rfl _ _ rfl w.heap.size u5 ts rfl (HO1.out.later (below1 _ _)) (.slice (some ⟨w1.heap.size, 0, none⟩) 1 1) [⟨tk, tn, tt⟩] rfl (TsP.one (t := ⟨tk, tn, tt⟩) (CBlk.new _ _ _)) (by simp only [List.length_cons, List.length_nil]; omega) (by simp; omega) ?_; intro v2 w2 ho2 hb2 hg2; have HO2 : Hid (OwnT w2 w.heap.size v2 (ts ++ [⟨tk, tn, tt⟩])) := ho2; have HB2 : Hid (Below w.heap.size w1 w2) := ((below1 _ _).mono hz1).trans hb2; clear ho2 hb2 hg2))
    go_roundg k
    case measure => omega
    case rel => exact ⟨j + 1, ts ++ [⟨tk, tn, tt⟩], r, by omega, by go_num, by simp; omega, HO2.out, HS1.out.low HB2.out hlt, HB1.out.trans (Bv.of HB2.out), HM2.out⟩
  | zero =>
   obtain rfl : j = n := by omega
   have hz : ¬ ((j : Int) < (j : Int)) := by omega
   have HE : Hid (rMany rArg j l = .ok (ts, l')) := hm.done
   clear ho hs hb hm
   go_wp2
   go_ret
   rw [HE.out]
   exact ⟨HB.out, _, rfl, HO.out, HS.out⟩
end Go.Proofs.YtmbmchbninlhpaaGreatDoor
namespace Go.Proofs.YtmbmchbninlhpaaGreatDoor
open Go.RowKit

theorem bset5M {m B : Nat} {W V : World} {G : Nat} {a b c d e : Value} (h : Bv m B W V) (hg : B <= G) : Bv m B W (((((V.setCell ⟨G, 0, none⟩ a).setCell ⟨G, 1, none⟩ b).setCell ⟨G, 2, none⟩ c).setCell ⟨G, 3, none⟩ d).setCell ⟨G, 4, none⟩ e) :=
 h.trans (Bv.of ((((((Below.refl _ _).setCell (p := ⟨G, 0, none⟩) hg _).setCell (p := ⟨G, 1, none⟩) hg _).setCell (p := ⟨G, 2, none⟩) hg _).setCell (p := ⟨G, 3, none⟩) hg _).setCell (p := ⟨G, 4, none⟩) hg _))
theorem ff5 {w : World} {g : Nat} {c : Array Value} {t : TypeId} (h : Blk w g c t) : w.frozen? ⟨g, 0, none⟩ = false /\ w.frozen? ⟨g, 1, none⟩ = false /\ w.frozen? ⟨g, 2, none⟩ = false /\ w.frozen? ⟨g, 3, none⟩ = false /\ w.frozen? ⟨g, 4, none⟩ = false :=
 ⟨frozen_of_row _ _ _ _ _ h, frozen_of_row _ _ _ _ _ h, frozen_of_row _ _ _ _ _ h, frozen_of_row _ _ _ _ _ h, frozen_of_row _ _ _ _ _ h⟩
set_option maxRecDepth 20000 in
set_option maxHeartbeats 4000000 in
theorem atom8_any (g : Nat) (l : List Int) (w : World) (h : RdS w g l) :
  Calls Tryz.prog 113 #[.pointer (some ⟨g, 0, none⟩)] w (RdP g w (fun a v w' => ∃ y, v = a.v y /\ OwnT w' w.heap.size y a.args) (rAtom l)) := by
 have hlt := h.lt
 have hmf : ∀ (fn : Fn) (first cap : Array Value) (w : World), (Instr.makeFunc fn first cap).run Tryz.prog w = .ok (.func fn first cap) w := fun _ _ _ _ => rfl
 have HB : Hid (Blk (w.alloc (.cells #[.int .i64 0, .int .i64 0, .string ⟨#[]⟩, .string ⟨#[]⟩, .slice none 0 0] 58)) w.heap.size #[.int .i64 0, .int .i64 0, .string ⟨#[]⟩, .string ⟨#[]⟩, .slice none 0 0] 58) := Blk.new _ _ _
 have HL : Hid (Bv g w.heap.size w (w.alloc (.cells #[.int .i64 0, .int .i64 0, .string ⟨#[]⟩, .string ⟨#[]⟩, .slice none 0 0] 58))) := Bv.of (below1 _ _)
 have hN1 := qual8_any g l (w.alloc (.cells #[.int .i64 0, .int .i64 0, .string ⟨#[]⟩, .string ⟨#[]⟩, .slice none 0 0] 58)) (h.below (below1 _ _))
 clear h
 unfold rAtom
 rcases hr1 : rQual l with c | ⟨t, r1⟩
 ·have HN1 : Hid (Calls Tryz.prog 146 #[.pointer (some ⟨g, 0, none⟩)] (w.alloc (.cells #[.int .i64 0, .int .i64 0, .string ⟨#[]⟩, .string ⟨#[]⟩, .slice none 0 0] 58)) fun e w' => e = .panicked [pE c] /\ Bv g _ _ w') := RdP.err hN1 hr1
  clear hN1 hr1
  simp only [Rd.and]
  go_enter Tryz.func113, Tryz.ntmps113
  go_wp2_with (go_at_call 146; refine HN1.out.mono ?_; rintro e w1 ⟨rfl, hb⟩)
  exact ⟨rfl, HL.out.step hb, rfl⟩
 ·have HN1 : Hid (Calls Tryz.prog 146 #[.pointer (some ⟨g, 0, none⟩)] (w.alloc (.cells #[.int .i64 0, .int .i64 0, .string ⟨#[]⟩, .string ⟨#[]⟩, .slice none 0 0] 58)) fun e w' => ∃ v, e = .returned v /\ (v = t.v) /\ RdS w' g r1 /\ Bv g _ _ w') := RdP.ok hN1 hr1
  clear hN1 hr1
  obtain ⟨tk, tn, tt⟩ := t
  have hN2 := fun X hX => name8_any g r1 X hX
  simp only [Rd.and]
  rcases hr2 : rName r1 with c | ⟨nm, r2⟩
  ·have HN2 : Hid (∀ X, RdS X g r1 -> Calls Tryz.prog 147 #[.pointer (some ⟨g, 0, none⟩)] X fun e w' => e = .panicked [pE c] /\ Bv g X.heap.size X w') := fun X hX => RdP.err (hN2 X hX) hr2
   clear hN2 hr2
   go_enter Tryz.func113, Tryz.ntmps113
   go_wp2_with (first
    | (go_at_call 146; refine HN1.out.mono ?_; rintro e w1 ⟨v1, rfl, rfl, hs, hb⟩; have HB1 : Hid (Bv g w.heap.size w (w1.alloc (.cells #[.int .i64 tk, .int .i64 tn, .string tt] 56))) := (HL.out.step hb).step (Bv.of (below1 _ _)); have HS1 : Hid (RdS (w1.alloc (.cells #[.int .i64 tk, .int .i64 tn, .string tt] 56)) g r1) := hs.below (below1 _ _); have HK1 : Hid (Blk (w1.alloc (.cells #[.int .i64 tk, .int .i64 tn, .string tt] 56)) _ _ _) := (HB.out.bl hb (by omega)).later (below1 _ _); have HT1 : Hid (Blk (w1.alloc (.cells #[.int .i64 tk, .int .i64 tn, .string tt] 56)) w1.heap.size #[.int .i64 tk, .int .i64 tn, .string tt] 56) := Blk.new _ _ _; have hz1 : w.heap.size < w1.heap.size := (by have := (HL.out.step hb).size; have := hb.size; simp at this; omega); clear hs hb)
    | (go_at_call 147; refine (HN2.out _ HS1.out).mono ?_; rintro e w2 ⟨rfl, hb⟩))
   exact ⟨rfl, HB1.out.step hb, rfl⟩
  ·have HN2 : Hid (∀ X, RdS X g r1 -> Calls Tryz.prog 147 #[.pointer (some ⟨g, 0, none⟩)] X fun e w' => ∃ v, e = .returned v /\ (v = .string nm) /\ RdS w' g r2 /\ Bv g X.heap.size X w') := fun X hX => RdP.ok (hN2 X hX) hr2
   clear hN2 hr2
   have hN3 := fun X hX => bounded_any 0 8 g r2 X hX
   simp only
   rcases hr3 : rBnd 0 8 r2 with c | ⟨n, r3⟩
   ·have HN3 : Hid (∀ X, RdS X g r2 -> Calls Tryz.prog 115 #[.pointer (some ⟨g, 0, none⟩), .int .i64 0, .int .i64 8] X fun e w' => e = .panicked [pE c] /\ Bv g X.heap.size X w') := fun X hX => RdP.err (hN3 X hX) hr3
    clear hN3 hr3
    go_enter Tryz.func113, Tryz.ntmps113
    go_wp2_with (first
     | (go_at_call 146; refine HN1.out.mono ?_; rintro e w1 ⟨v1, rfl, rfl, hs, hb⟩; have HB1 : Hid (Bv g w.heap.size w (w1.alloc (.cells #[.int .i64 tk, .int .i64 tn, .string tt] 56))) := (HL.out.step hb).step (Bv.of (below1 _ _)); have HS1 : Hid (RdS (w1.alloc (.cells #[.int .i64 tk, .int .i64 tn, .string tt] 56)) g r1) := hs.below (below1 _ _); have HK1 : Hid (Blk (w1.alloc (.cells #[.int .i64 tk, .int .i64 tn, .string tt] 56)) _ _ _) := (HB.out.bl hb (by omega)).later (below1 _ _); have HT1 : Hid (Blk (w1.alloc (.cells #[.int .i64 tk, .int .i64 tn, .string tt] 56)) w1.heap.size #[.int .i64 tk, .int .i64 tn, .string tt] 56) := Blk.new _ _ _; have hz1 : w.heap.size < w1.heap.size := (by have := (HL.out.step hb).size; have := hb.size; simp at this; omega); clear hs hb)
     | (go_at_call 147; refine (HN2.out _ HS1.out).mono ?_; rintro e w2 ⟨v2, rfl, rfl, hs, hb⟩; have HB2 : Hid (Bv g w.heap.size w w2) := HB1.out.step hb; have HS2 : Hid (RdS w2 g r2) := hs; have HK2 : Hid (Blk w2 _ _ _) := HK1.out.bl hb (by omega); have HT2 : Hid (Blk w2 _ _ _) := HT1.out.bl hb (by omega); clear hs hb)
     | (go_at_call 115; refine (HN3.out _ HS2.out).mono ?_; rintro e w3 ⟨rfl, hb⟩))
    exact ⟨rfl, HB2.out.step hb, rfl⟩
   ·have HN3 : Hid (∀ X, RdS X g r2 -> Calls Tryz.prog 115 #[.pointer (some ⟨g, 0, none⟩), .int .i64 0, .int .i64 8] X fun e w' => ∃ v, e = .returned v /\ (v = .int .i64 n /\ 0 <= n /\ n <= 8 /\ 0 <= n /\ n <= 255) /\ RdS w' g r3 /\ Bv g X.heap.size X w') := fun X hX => RdP.ok (hN3 X hX) hr3
    clear hN3 hr3
    have hN4 : ∀ X, RdS X g r3 -> 0 <= n -> n <= 8 -> Calls Tryz.prog 119 #[.int .i64 n, .func (.func 148) #[.pointer (some ⟨g, 0, none⟩)] #[]] X (RdP g X (fun ts v w' => OwnT w' X.heap.size v ts) (rMany rArg n.toNat r3)) := fun X hX h0 h8 => by
     have := listT_any n.toNat (by omega) g r3 X hX
     rwa [Int.toNat_of_nonneg h0] at this
    simp only
    rcases hr4 : rMany rArg n.toNat r3 with c | ⟨m, r4⟩
    ·have HN4 : Hid (∀ X, RdS X g r3 -> 0 <= n -> n <= 8 -> Calls Tryz.prog 119 #[.int .i64 n, .func (.func 148) #[.pointer (some ⟨g, 0, none⟩)] #[]] X fun e w' => e = .panicked [pE c] /\ Bv g X.heap.size X w') := fun X hX h0 h8 => RdP.err (hN4 X hX h0 h8) hr4
     clear hN4 hr4
     go_enter Tryz.func113, Tryz.ntmps113
     go_wp2_with (first
      | (go_at_call 146; refine HN1.out.mono ?_; rintro e w1 ⟨v1, rfl, rfl, hs, hb⟩; have HB1 : Hid (Bv g w.heap.size w (w1.alloc (.cells #[.int .i64 tk, .int .i64 tn, .string tt] 56))) := (HL.out.step hb).step (Bv.of (below1 _ _)); have HS1 : Hid (RdS (w1.alloc (.cells #[.int .i64 tk, .int .i64 tn, .string tt] 56)) g r1) := hs.below (below1 _ _); have HK1 : Hid (Blk (w1.alloc (.cells #[.int .i64 tk, .int .i64 tn, .string tt] 56)) _ _ _) := (HB.out.bl hb (by omega)).later (below1 _ _); have HT1 : Hid (Blk (w1.alloc (.cells #[.int .i64 tk, .int .i64 tn, .string tt] 56)) w1.heap.size #[.int .i64 tk, .int .i64 tn, .string tt] 56) := Blk.new _ _ _; have hz1 : w.heap.size < w1.heap.size := (by have := (HL.out.step hb).size; have := hb.size; simp at this; omega); clear hs hb)
      | (go_at_call 147; refine (HN2.out _ HS1.out).mono ?_; rintro e w2 ⟨v2, rfl, rfl, hs, hb⟩; have HB2 : Hid (Bv g w.heap.size w w2) := HB1.out.step hb; have HS2 : Hid (RdS w2 g r2) := hs; have HK2 : Hid (Blk w2 _ _ _) := HK1.out.bl hb (by omega); have HT2 : Hid (Blk w2 _ _ _) := HT1.out.bl hb (by omega); clear hs hb)
      | (go_at_call 115; refine (HN3.out _ HS2.out).mono ?_; rintro e w3 ⟨v3, rfl, ⟨rfl, -, h8, h0, -⟩, hs, hb⟩; have HB3 : Hid (Bv g w.heap.size w w3) := HB2.out.step hb; have HS3 : Hid (RdS w3 g r3) := hs; have HK3 : Hid (Blk w3 _ _ _) := HK2.out.bl hb (by omega); have HT3 : Hid (Blk w3 _ _ _) := HT2.out.bl hb (by omega); clear hs hb)
      | (go_at_call 119; refine (HN4.out _ HS3.out h0 h8).mono ?_; rintro e w4 ⟨rfl, hb⟩))
     exact ⟨rfl, HB3.out.step hb, rfl⟩
    ·have HN4 : Hid (∀ X, RdS X g r3 -> 0 <= n -> n <= 8 -> Calls Tryz.prog 119 #[.int .i64 n, .func (.func 148) #[.pointer (some ⟨g, 0, none⟩)] #[]] X fun e w' => ∃ v, e = .returned v /\ (OwnT w' X.heap.size v m) /\ RdS w' g r4 /\ Bv g X.heap.size X w') := fun X hX h0 h8 => RdP.ok (hN4 X hX h0 h8) hr4
     clear hN4 hr4
     go_enter Tryz.func113, Tryz.ntmps113
     go_wp2_with (first
      | (go_at_call 146; refine HN1.out.mono ?_; rintro e w1 ⟨v1, rfl, rfl, hs, hb⟩; have HB1 : Hid (Bv g w.heap.size w (w1.alloc (.cells #[.int .i64 tk, .int .i64 tn, .string tt] 56))) := (HL.out.step hb).step (Bv.of (below1 _ _)); have HS1 : Hid (RdS (w1.alloc (.cells #[.int .i64 tk, .int .i64 tn, .string tt] 56)) g r1) := hs.below (below1 _ _); have HK1 : Hid (Blk (w1.alloc (.cells #[.int .i64 tk, .int .i64 tn, .string tt] 56)) _ _ _) := (HB.out.bl hb (by omega)).later (below1 _ _); have HT1 : Hid (Blk (w1.alloc (.cells #[.int .i64 tk, .int .i64 tn, .string tt] 56)) w1.heap.size #[.int .i64 tk, .int .i64 tn, .string tt] 56) := Blk.new _ _ _; have hz1 : w.heap.size < w1.heap.size := (by have := (HL.out.step hb).size; have := hb.size; simp at this; omega); clear hs hb)
      | (go_at_call 147; refine (HN2.out _ HS1.out).mono ?_; rintro e w2 ⟨v2, rfl, rfl, hs, hb⟩; have HB2 : Hid (Bv g w.heap.size w w2) := HB1.out.step hb; have HS2 : Hid (RdS w2 g r2) := hs; have HK2 : Hid (Blk w2 _ _ _) := HK1.out.bl hb (by omega); have HT2 : Hid (Blk w2 _ _ _) := HT1.out.bl hb (by omega); clear hs hb)
      | (go_at_call 115; refine (HN3.out _ HS2.out).mono ?_; rintro e w3 ⟨v3, rfl, ⟨rfl, -, h8, h0, -⟩, hs, hb⟩; have HB3 : Hid (Bv g w.heap.size w w3) := HB2.out.step hb; have HS3 : Hid (RdS w3 g r3) := hs; have HK3 : Hid (Blk w3 _ _ _) := HK2.out.bl hb (by omega); have HT3 : Hid (Blk w3 _ _ _) := HT2.out.bl hb (by omega); clear hs hb)
      | (go_at_call 119; refine (HN4.out _ HS3.out h0 h8).mono ?_; rintro e w4 ⟨v4, rfl, ho, hs, hb⟩; obtain ⟨a4, n4, c4, rfl⟩ := ownT_form8 ho; have HB4 : Hid (Bv g w.heap.size w w4) := HB3.out.step hb; have HS4 : Hid (RdS w4 g r4) := hs; obtain ⟨p0, p1, p2, p3, p4⟩ := five (HK3.out.bl hb (by omega)); obtain ⟨f0, f1, f2, f3, f4⟩ := ff5 (HK3.out.bl hb (by omega)); obtain ⟨t0, t1, t2, -, -, -⟩ := three (HT3.out.bl hb (by omega)); have HO4 : Hid (OwnT w4 w.heap.size (.slice a4 n4 c4) m /\ ∀ k, (Value.slice a4 n4 c4).ownBlock = some k -> w.heap.size < k) := ⟨ho.mono (by have := HB3.out.size; omega), fun k hk => by have := (ho.lt k hk).1; have := HT3.out.lt; omega⟩; clear ho hs hb))
     have hne : ∀ k, (Value.slice a4 n4 c4).ownBlock = some k -> k ≠ w.heap.size := fun k hk => by have := HO4.out.2 k hk; omega
     exact bodyPost_ret (v := At.v ⟨⟨tk, tn, tt⟩, nm, m⟩ (.slice a4 n4 c4)) (by simp [results, Tryz.results113, go_sem, p0, p1, p2, p3, p4]) rfl ⟨bset5M HB4.out (Nat.le_refl _), _, rfl, ⟨_, rfl, OwnT.off (OwnT.off (OwnT.off (OwnT.off (OwnT.off HO4.out.1 hne) hne) hne) hne) hne⟩, ((((HS4.out.off hlt).off hlt).off hlt).off hlt).off hlt⟩
end Go.Proofs.YtmbmchbninlhpaaGreatDoor
