import Derived.Test.YtmbmchbninlhpaaGreatDoorCR2
namespace Go.Proofs.YtmbmchbninlhpaaGreatDoor
open Go.RowKit

theorem MC8.kt {t : TypeId} {B : Nat} {X X' : World} {d : Cm} (h : MC8 B X d) (hk : Kt t X X') (h1 : 56 ≠ t) (h2 : 58 ≠ t) (h3 : 97 ≠ t) : MC8 B X' d :=
 ⟨row_kt h.h hk h1, ⟨row_kt h.b.1 hk h2, fun y hy => row_kt (h.b.2 y hy) hk h1⟩, row_kt h.t hk h3⟩
theorem MS8.kt {t : TypeId} {B : Nat} {X X' : World} {d : St} (h : MS8 B X d) (hk : Kt t X X') (h1 : 56 ≠ t) (h2 : 3 ≠ t) : MS8 B X' d := ⟨row_kt h.t hk h1, row_kt h.u hk h2, h.l⟩
theorem MS8.mono {B B' : Nat} {X : World} {d : St} (h : MS8 B X d) (hb : B' <= B) : MS8 B' X d := ⟨row_mono9 h.t hb, row_mono9 h.u hb, h.l⟩
theorem MS8.ok {B : Nat} {X : World} {d : St} (h : MS8 B X d) : d.ok X := ⟨h.t.tsP.ts (by have := h.l.1; omega), h.u.ns (by have := h.l.2; omega)⟩
structure OCL (X : World) (B : Nat) (v : Value) (l : List Cm) : Prop where
 o : OwnC X B v l
 m : ∀ c ∈ l, MC8 B X c /\ GC c.key
theorem OCL.nil (X : World) (B : Nat) : OCL X B (.slice none 0 0) [] := ⟨OwnC.nil _ _, fun c hc => by cases hc⟩
theorem OCL.blM {g B : Nat} {X X' : World} {v : Value} {l : List Cm} (h : OCL X B v l) (hb : Bv g X.heap.size X X') (hg : g < B) : OCL X' B v l := ⟨row_blM h.o hb hg, fun c hc => ⟨(h.m c hc).1.blM hb hg, (h.m c hc).2⟩⟩
theorem OCL.add {B : Nat} {X X' : World} {v v' : Value} {l : List Cm} {c : Cm} (h : OCL X B v l) (ho : OwnC X' B v' (l ++ [c])) (hk : Kt 62 X X') (hc : MC8 B X c /\ GC c.key) : OCL X' B v' (l ++ [c]) :=
 ⟨ho, fun d hd => by
  rcases List.mem_append.1 hd with hd | hd
  ·exact ⟨(h.m d hd).1.kt hk (by decide) (by decide) (by decide), (h.m d hd).2⟩
  ·rw [List.mem_singleton] at hd; subst hd; exact ⟨hc.1.kt hk (by decide) (by decide) (by decide), hc.2⟩⟩
structure OSL (X : World) (B : Nat) (v : Value) (l : List St) : Prop where
 o : OwnS X B v l
 m : ∀ c ∈ l, MS8 B X c
theorem OSL.nil (X : World) (B : Nat) : OSL X B (.slice none 0 0) [] := ⟨OwnS.nil _ _, fun c hc => by cases hc⟩
theorem OSL.blM {g B : Nat} {X X' : World} {v : Value} {l : List St} (h : OSL X B v l) (hb : Bv g X.heap.size X X') (hg : g < B) : OSL X' B v l := ⟨row_blM h.o hb hg, fun c hc => ⟨row_blM (h.m c hc).t hb hg, row_blM (h.m c hc).u hb hg, (h.m c hc).l⟩⟩
theorem OSL.add {B : Nat} {X X' : World} {v v' : Value} {l : List St} {c : St} (h : OSL X B v l) (ho : OwnS X' B v' (l ++ [c])) (hk : Kt 50 X X') (hc : MS8 B X c) : OSL X' B v' (l ++ [c]) :=
 ⟨ho, fun d hd => by
  rcases List.mem_append.1 hd with hd | hd
  ·exact (h.m d hd).kt hk (by decide) (by decide)
  ·rw [List.mem_singleton] at hd; subst hd; exact hc.kt hk (by decide) (by decide)⟩
set_option maxRecDepth 20000 in
set_option maxHeartbeats 2000000 in
theorem listC_any (n : Nat) (hn : n <= 4294967295) (g : Nat) (l : List Int) (w : World) (h : RdS w g l) :
  Calls Tryz.prog 80 #[.int .i64 n, .func (.func 82) #[.pointer (some ⟨g, 0, none⟩)] #[]] w (RdP g w (fun bs v w' => ∃ L : List Cm, L.map Cm.key = bs /\ OCL w' w.heap.size v L) (rMany rClause n l)) := by
 have hlt := h.lt
 have HS0 : Hid (RdS w g l) := h
 clear h
 go_enter Tryz.func80, Tryz.ntmps80
 go_wp2
 go_loopg [5, 7] n (fun k u i wr => ∃ (j : Nat) (L : List Cm) (l' : List Int), j + k = n /\ i = .int .i64 j /\ L.length = j /\ OCL wr w.heap.size u L /\ RdS wr g l' /\ Bv g w.heap.size w wr /\ Mny rClause n l k (L.map Cm.key) l')
 case atStart => exact ⟨0, [], l, by omega, rfl, rfl, OCL.nil _ _, HS0.out, Bv.refl _ _ _, Mny.start _ _ _⟩
 case round =>
  obtain ⟨j, L, l', hj, rfl, hts, ho, hs, hb, hm⟩ := hrel
  have HO : Hid (OCL wr w.heap.size u5 L) := ho
  have HB : Hid (Bv g w.heap.size w wr) := hb
  have HS : Hid (RdS wr g l') := hs
  have hsz := hb.size
  cases gk with
  | succ k =>
   have HM : Hid (Mny rClause n l (k + 1) (L.map Cm.key) l') := hm
   have i1 : (j : Int) < (n : Int) := by omega
   have hN := clause8_any g l' wr hs
   clear ho hs hb hm
   rcases hr : rClause l' with c | ⟨t, r⟩
   ·have HN : Hid (Calls Tryz.prog 82 #[.pointer (some ⟨g, 0, none⟩)] wr fun e w' => e = .panicked [pE c] /\ Bv g wr.heap.size wr w') := RdP.err hN hr
    have HE : Hid (rMany rClause n l = .error c) := HM.out.no hr
    clear hN hr
    go_wp2_with (go_at_call 82; refine HN.out.mono ?_; rintro e w1 ⟨rfl, hb⟩)
    refine ⟨rfl, ?_⟩
    rw [HE.out]
    exact ⟨HB.out.step hb, rfl⟩
   ·have HN : Hid (Calls Tryz.prog 82 #[.pointer (some ⟨g, 0, none⟩)] wr fun e w' => ∃ v, e = .returned v /\ (∃ c : Cm, v = c.v /\ c.key = t /\ GC t /\ MC8 wr.heap.size w' c) /\ RdS w' g r /\ Bv g wr.heap.size wr w') := RdP.ok hN hr
    have HM2 : Hid (Mny rClause n l k (L.map Cm.key ++ [t]) r) := HM.out.next hr
    clear hN hr
    go_wp2_with (first
     | (go_at_call 82; refine HN.out.mono ?_; rintro e w1 ⟨v1, rfl, ⟨c, rfl, hck, hgc, hmc⟩, hs1, hb1⟩; obtain ⟨⟨c1, c2, c3, y1⟩, ⟨c4, c6, y2⟩, ⟨c7, c9, y3⟩, -, -⟩ := (hmc.ok (by rw [hck]; exact hgc)).shape; obtain ⟨⟨⟨⟨ck, cn, cs⟩, cm, cl⟩, cv⟩, cb, cbv, ct, ctv⟩ := c; simp only at y1 y2 y3; subst y1 y2 y3; have HB1 : Hid (Bv g w.heap.size w w1) := HB.out.step hb1; have HS1 : Hid (RdS w1 g r) := hs1; have HO1 : Hid (OCL w1 w.heap.size u5 L) := HO.out.blM hb1 hlt; have hz1 := HB1.out.size; have HT1 : Hid (Cm.key (⟨(⟨⟨ck, cn, cs⟩, cm, cl⟩, .slice c1 c2 c3), cb, .slice c4 cb.length c6, ct, .slice c7 ct.length c9⟩ : Cm) = t /\ MC8 w.heap.size w1 (⟨(⟨⟨ck, cn, cs⟩, cm, cl⟩, .slice c1 c2 c3), cb, .slice c4 cb.length c6, ct, .slice c7 ct.length c9⟩ : Cm) /\ GC (Cm.key (⟨(⟨⟨ck, cn, cs⟩, cm, cl⟩, .slice c1 c2 c3), cb, .slice c4 cb.length c6, ct, .slice c7 ct.length c9⟩ : Cm))) := ⟨hck, hmc.mono hsz, (by rw [hck]; exact hgc)⟩; clear hs1 hb1)
     | (at_builtin; refine capp_one rfl _ _ rfl w.heap.size u5 L rfl (HO1.out.o.later (below1 _ _)) w1.heap.size (⟨(⟨⟨ck, cn, cs⟩, cm, cl⟩, .slice c1 c2 c3), cb, .slice c4 cb.length c6, ct, .slice c7 ct.length c9⟩ : Cm) rfl (show CBlk _ _ (Cm.cs (⟨(⟨⟨ck, cn, cs⟩, cm, cl⟩, .slice c1 c2 c3), cb, .slice c4 cb.length c6, ct, .slice c7 ct.length c9⟩ : Cm)) _ from CBlk.new _ _ _) (W := w1) (HT1.out.2.1.ok HT1.out.2.2) (by omega) (by simp; omega) ?_; intro v2 w2 ho2 hb2 hg2 hk2; have HO2 : Hid (OCL w2 w.heap.size v2 (L ++ [(⟨(⟨⟨ck, cn, cs⟩, cm, cl⟩, .slice c1 c2 c3), cb, .slice c4 cb.length c6, ct, .slice c7 ct.length c9⟩ : Cm)])) := HO1.out.add ho2 ((Kt.of (below1 _ _)).trans (row_grown (HO1.out.o.later (below1 _ _)) hg2)) HT1.out.2; have HB2 : Hid (Below w.heap.size w1 w2) := ((below1 _ _).mono hz1).trans hb2; clear ho2 hb2 hg2 hk2))
    go_roundg k
    case measure => omega
    case rel => exact ⟨j + 1, L ++ [(⟨(⟨⟨ck, cn, cs⟩, cm, cl⟩, .slice c1 c2 c3), cb, .slice c4 cb.length c6, ct, .slice c7 ct.length c9⟩ : Cm)], r, by omega, by go_num, by simp; omega, HO2.out, HS1.out.low HB2.out hlt, HB1.out.trans (Bv.of HB2.out), by rw [List.map_append, List.map_cons, List.map_nil, HT1.out.1]; exact HM2.out⟩
  | zero =>
   obtain rfl : j = n := by omega
   have hz : ¬ ((j : Int) < (j : Int)) := by omega
   have HE : Hid (rMany rClause j l = .ok (L.map Cm.key, l')) := hm.done
   clear ho hs hb hm
   go_wp2
   go_ret
   rw [HE.out]
   exact ⟨HB.out, _, rfl, ⟨L, rfl, HO.out⟩, HS.out⟩
set_option maxRecDepth 20000 in
set_option maxHeartbeats 2000000 in
theorem listS_any (n : Nat) (hn : n <= 4294967295) (g : Nat) (l : List Int) (w : World) (h : RdS w g l) :
  Calls Tryz.prog 83 #[.int .i64 n, .func (.func 84) #[.pointer (some ⟨g, 0, none⟩)] #[]] w (RdP g w (fun bs v w' => ∃ L : List St, L.map St.key = bs /\ OSL w' w.heap.size v L) (rMany rStep n l)) := by
 have hlt := h.lt
 have HS0 : Hid (RdS w g l) := h
 clear h
 go_enter Tryz.func83, Tryz.ntmps83
 go_wp2
 go_loopg [5, 7] n (fun k u i wr => ∃ (j : Nat) (L : List St) (l' : List Int), j + k = n /\ i = .int .i64 j /\ L.length = j /\ OSL wr w.heap.size u L /\ RdS wr g l' /\ Bv g w.heap.size w wr /\ Mny rStep n l k (L.map St.key) l')
 case atStart => exact ⟨0, [], l, by omega, rfl, rfl, OSL.nil _ _, HS0.out, Bv.refl _ _ _, Mny.start _ _ _⟩
 case round =>
  obtain ⟨j, L, l', hj, rfl, hts, ho, hs, hb, hm⟩ := hrel
  have HO : Hid (OSL wr w.heap.size u5 L) := ho
  have HB : Hid (Bv g w.heap.size w wr) := hb
  have HS : Hid (RdS wr g l') := hs
  have hsz := hb.size
  cases gk with
  | succ k =>
   have HM : Hid (Mny rStep n l (k + 1) (L.map St.key) l') := hm
   have i1 : (j : Int) < (n : Int) := by omega
   have hN := step8_any g l' wr hs
   clear ho hs hb hm
   rcases hr : rStep l' with c | ⟨t, r⟩
   ·have HN : Hid (Calls Tryz.prog 84 #[.pointer (some ⟨g, 0, none⟩)] wr fun e w' => e = .panicked [pE c] /\ Bv g wr.heap.size wr w') := RdP.err hN hr
    have HE : Hid (rMany rStep n l = .error c) := HM.out.no hr
    clear hN hr
    go_wp2_with (go_at_call 84; refine HN.out.mono ?_; rintro e w1 ⟨rfl, hb⟩)
    refine ⟨rfl, ?_⟩
    rw [HE.out]
    exact ⟨HB.out.step hb, rfl⟩
   ·have HN : Hid (Calls Tryz.prog 84 #[.pointer (some ⟨g, 0, none⟩)] wr fun e w' => ∃ v, e = .returned v /\ (∃ s : St, v = s.v /\ s.key = t /\ MS8 (wr.heap.size + 1) w' s) /\ RdS w' g r /\ Bv g wr.heap.size wr w') := RdP.ok hN hr
    have HM2 : Hid (Mny rStep n l k (L.map St.key ++ [t]) r) := HM.out.next hr
    clear hN hr
    go_wp2_with (first
     | (go_at_call 84; refine HN.out.mono ?_; rintro e w1 ⟨v1, rfl, ⟨s, rfl, hsk, hms⟩, hs1, hb1⟩; obtain ⟨s1, s2, s3, y1⟩ := ownT_form8 hms.t; obtain ⟨s4, s5, s6, y2⟩ := ownN_form8 hms.u; obtain ⟨sr, sl, svv, su, suv⟩ := s; simp only at y1 y2; subst y1 y2; have HB1 : Hid (Bv g w.heap.size w w1) := HB.out.step hb1; have HS1 : Hid (RdS w1 g r) := hs1; have HO1 : Hid (OSL w1 w.heap.size u5 L) := HO.out.blM hb1 hlt; have hz1 := HB1.out.size; have HT1 : Hid (St.key (⟨sr, sl, .slice s1 s2 s3, su, .slice s4 s5 s6⟩ : St) = t /\ MS8 w.heap.size w1 (⟨sr, sl, .slice s1 s2 s3, su, .slice s4 s5 s6⟩ : St)) := ⟨hsk, hms.mono (by omega)⟩; clear hs1 hb1)
     | (at_builtin; refine sapp_one rfl _ _ rfl w.heap.size u5 L rfl (HO1.out.o.later (below1 _ _)) w1.heap.size (⟨sr, sl, .slice s1 s2 s3, su, .slice s4 s5 s6⟩ : St) rfl (show CBlk _ _ (St.cs (⟨sr, sl, .slice s1 s2 s3, su, .slice s4 s5 s6⟩ : St)) _ from CBlk.new _ _ _) (W := w1) (HT1.out.2.ok) (by omega) (by simp; omega) ?_; intro v2 w2 ho2 hb2 hg2 hk2; have HO2 : Hid (OSL w2 w.heap.size v2 (L ++ [(⟨sr, sl, .slice s1 s2 s3, su, .slice s4 s5 s6⟩ : St)])) := HO1.out.add ho2 ((Kt.of (below1 _ _)).trans (row_grown (HO1.out.o.later (below1 _ _)) hg2)) HT1.out.2; have HB2 : Hid (Below w.heap.size w1 w2) := ((below1 _ _).mono hz1).trans hb2; clear ho2 hb2 hg2 hk2))
    go_roundg k
    case measure => omega
    case rel => exact ⟨j + 1, L ++ [(⟨sr, sl, .slice s1 s2 s3, su, .slice s4 s5 s6⟩ : St)], r, by omega, by go_num, by simp; omega, HO2.out, HS1.out.low HB2.out hlt, HB1.out.trans (Bv.of HB2.out), by rw [List.map_append, List.map_cons, List.map_nil, HT1.out.1]; exact HM2.out⟩
  | zero =>
   obtain rfl : j = n := by omega
   have hz : ¬ ((j : Int) < (j : Int)) := by omega
   have HE : Hid (rMany rStep j l = .ok (L.map St.key, l')) := hm.done
   clear ho hs hb hm
   go_wp2
   go_ret
   rw [HE.out]
   exact ⟨HB.out, _, rfl, ⟨L, rfl, HO.out⟩, HS.out⟩
end Go.Proofs.YtmbmchbninlhpaaGreatDoor
namespace Go.Proofs.YtmbmchbninlhpaaGreatDoor
open Go.RowKit

abbrev Pk := List Ck × List Sk
def rProof (l : List Int) : Rd Pk := (rNum 4 l).and fun n r => (rMany rClause n.toNat r).and fun cs r => (rNum 4 r).and fun m r => (rMany rStep m.toNat r).and fun ss r => .ok ((cs, ss), r)
theorem OCL.kt {t : TypeId} {B : Nat} {X X' : World} {v : Value} {l : List Cm} (h : OCL X B v l) (hk : Kt t X X') (h0 : 62 ≠ t) (h1 : 56 ≠ t) (h2 : 58 ≠ t) (h3 : 97 ≠ t) : OCL X' B v l := ⟨row_kt h.o hk h0, fun c hc => ⟨(h.m c hc).1.kt hk h1 h2 h3, (h.m c hc).2⟩⟩
theorem OSL.kt {t : TypeId} {B : Nat} {X X' : World} {v : Value} {l : List St} (h : OSL X B v l) (hk : Kt t X X') (h0 : 50 ≠ t) (h1 : 56 ≠ t) (h2 : 3 ≠ t) : OSL X' B v l := ⟨row_kt h.o hk h0, fun c hc => (h.m c hc).kt hk h1 h2⟩
theorem OCL.mono {B B' : Nat} {X : World} {v : Value} {l : List Cm} (h : OCL X B v l) (hb : B' <= B) : OCL X B' v l := ⟨row_mono9 h.o hb, fun c hc => ⟨(h.m c hc).1.mono hb, (h.m c hc).2⟩⟩
theorem OSL.mono {B B' : Nat} {X : World} {v : Value} {l : List St} (h : OSL X B v l) (hb : B' <= B) : OSL X B' v l := ⟨row_mono9 h.o hb, fun c hc => (h.m c hc).mono hb⟩
def PR8 (B : Nat) (X : World) (x : Pk) (v : Value) : Prop := ∃ (rv sv : Value) (R : List Cm) (S : List St), v = .agg #[rv, sv] /\ R.map Cm.key = x.1 /\ S.map St.key = x.2 /\ OCL X B rv R /\ OSL X B sv S
set_option maxRecDepth 20000 in
set_option maxHeartbeats 2000000 in
theorem proof8_any (g : Nat) (l : List Int) (w : World) (h : RdS w g l) :
  Calls Tryz.prog 40 #[.pointer (some ⟨g, 0, none⟩)] w (RdP g w (fun x v w' => PR8 (w.heap.size + 1) w' x v) (rProof l)) := by
 have hlt := h.lt
 have hmf : ∀ (fn : Fn) (first cap : Array Value) (w : World), (Instr.makeFunc fn first cap).run Tryz.prog w = .ok (.func fn first cap) w := fun _ _ _ _ => rfl
 have HB : Hid (Blk (w.alloc (.cells #[.slice none 0 0, .slice none 0 0] 25)) w.heap.size #[.slice none 0 0, .slice none 0 0] 25) := Blk.new _ _ _
 have HL : Hid (Bv g w.heap.size w (w.alloc (.cells #[.slice none 0 0, .slice none 0 0] 25))) := Bv.of (below1 _ _)
 have hN1 := count8_any g l (w.alloc (.cells #[.slice none 0 0, .slice none 0 0] 25)) (h.below (below1 _ _))
 clear h
 unfold rProof
 rcases hr1 : rNum 4 l with c | ⟨k1, r1⟩
 ·have HN1 : Hid (Calls Tryz.prog 81 #[.pointer (some ⟨g, 0, none⟩)] (w.alloc (.cells #[.slice none 0 0, .slice none 0 0] 25)) fun e w' => e = .panicked [pE c] /\ Bv g _ _ w') := RdP.err hN1 hr1
  clear hN1 hr1
  simp only [Rd.and]
  go_enter Tryz.func40, Tryz.ntmps40
  go_wp2_with (go_at_call 81; refine (HN1.out).mono ?_; rintro e wz ⟨rfl, hb⟩)
  exact ⟨rfl, HL.out.step hb, rfl⟩
 ·have HN1 : Hid (Calls Tryz.prog 81 #[.pointer (some ⟨g, 0, none⟩)] (w.alloc (.cells #[.slice none 0 0, .slice none 0 0] 25)) fun e w' => ∃ v, e = .returned v /\ (v = .int .i64 k1 /\ 0 <= k1 /\ k1 <= 4294967295) /\ RdS w' g r1 /\ Bv g _ _ w') := RdP.ok hN1 hr1
  clear hN1 hr1
  have hN2 : ∀ X, RdS X g r1 -> 0 <= k1 -> k1 <= 4294967295 -> Calls Tryz.prog 80 #[.int .i64 k1, .func (.func 82) #[.pointer (some ⟨g, 0, none⟩)] #[]] X (RdP g X (fun bs v w' => ∃ L : List Cm, L.map Cm.key = bs /\ OCL w' X.heap.size v L) (rMany rClause k1.toNat r1)) := fun X hX h0 h8 => by
   have := listC_any k1.toNat (by omega) g r1 X hX
   rwa [Int.toNat_of_nonneg h0] at this
  simp only [Rd.and]
  rcases hr2 : rMany rClause k1.toNat r1 with c | ⟨cs, r2⟩
  ·have HN2 : Hid (∀ X, RdS X g r1 -> 0 <= k1 -> k1 <= 4294967295 -> Calls Tryz.prog 80 #[.int .i64 k1, .func (.func 82) #[.pointer (some ⟨g, 0, none⟩)] #[]] X fun e w' => e = .panicked [pE c] /\ Bv g X.heap.size X w') := fun X hX h0 h8 => RdP.err (hN2 X hX h0 h8) hr2
   clear hN2 hr2
   go_enter Tryz.func40, Tryz.ntmps40
   go_wp2_with (first
    | (go_at_call 81; refine HN1.out.mono ?_; clear HN1; rintro e w1 ⟨v1, rfl, ⟨rfl, hq0, hq1⟩, hs, hb⟩; have HB1 : Hid (Bv g w.heap.size w w1) := HL.out.step hb; have HS1 : Hid (RdS w1 g r1) := hs; have HK1 : Hid (Blk w1 w.heap.size _ _) := HB.out.bl hb (by omega); have hz1 := HK1.out.lt; have HQ : Hid (0 <= k1 /\ k1 <= 4294967295) := ⟨hq0, hq1⟩; clear hs hb hq0 hq1)
    | (go_at_call 80; refine (HN2.out _ HS1.out HQ.out.1 HQ.out.2).mono ?_; rintro e wz ⟨rfl, hb⟩))
   exact ⟨rfl, HB1.out.step hb, rfl⟩
  ·have HN2 : Hid (∀ X, RdS X g r1 -> 0 <= k1 -> k1 <= 4294967295 -> Calls Tryz.prog 80 #[.int .i64 k1, .func (.func 82) #[.pointer (some ⟨g, 0, none⟩)] #[]] X fun e w' => ∃ v, e = .returned v /\ (∃ L : List Cm, L.map Cm.key = cs /\ OCL w' X.heap.size v L) /\ RdS w' g r2 /\ Bv g X.heap.size X w') := fun X hX h0 h8 => RdP.ok (hN2 X hX h0 h8) hr2
   clear hN2 hr2
   have hN3 := fun X hX => count8_any g r2 X hX
   simp only
   rcases hr3 : rNum 4 r2 with c | ⟨k2, r3⟩
   ·have HN3 : Hid (∀ X, RdS X g r2 -> Calls Tryz.prog 81 #[.pointer (some ⟨g, 0, none⟩)] X fun e w' => e = .panicked [pE c] /\ Bv g X.heap.size X w') := fun X hX => RdP.err (hN3 X hX) hr3
    clear hN3 hr3
    go_enter Tryz.func40, Tryz.ntmps40
    go_wp2_with (first
     | (go_at_call 81; refine HN1.out.mono ?_; clear HN1; rintro e w1 ⟨v1, rfl, ⟨rfl, hq0, hq1⟩, hs, hb⟩; have HB1 : Hid (Bv g w.heap.size w w1) := HL.out.step hb; have HS1 : Hid (RdS w1 g r1) := hs; have HK1 : Hid (Blk w1 w.heap.size _ _) := HB.out.bl hb (by omega); have hz1 := HK1.out.lt; have HQ : Hid (0 <= k1 /\ k1 <= 4294967295) := ⟨hq0, hq1⟩; clear hs hb hq0 hq1)
     | (go_at_call 80; refine (HN2.out _ HS1.out HQ.out.1 HQ.out.2).mono ?_; clear HN2; rintro e w2 ⟨v2, rfl, ⟨R, hRk, ho⟩, hs, hb⟩; have HB2 : Hid (Bv g w.heap.size w w2) := HB1.out.step hb; have HS2 : Hid (RdS w2 g r2) := hs; have HK2 : Hid (Blk w2 w.heap.size _ _) := HK1.out.bl hb (by omega); have HRK : Hid (R.map Cm.key = cs) := hRk; have HO2 : Hid (OCL w2 w1.heap.size v2 R) := ho; obtain ⟨a1, a3, e2⟩ := ho.o.form; obtain ⟨a2, ha2⟩ : ∃ n, n = R.length := ⟨_, rfl⟩; rw [<- ha2] at e2; subst e2; have hz2 := HK2.out.lt; clear hs hb ho hRk ha2)
     | (go_at_call 81; refine (HN3.out _ HS2.out).mono ?_; rintro e wz ⟨rfl, hb⟩))
    exact ⟨rfl, HB2.out.step hb, rfl⟩
   ·have HN3 : Hid (∀ X, RdS X g r2 -> Calls Tryz.prog 81 #[.pointer (some ⟨g, 0, none⟩)] X fun e w' => ∃ v, e = .returned v /\ (v = .int .i64 k2 /\ 0 <= k2 /\ k2 <= 4294967295) /\ RdS w' g r3 /\ Bv g X.heap.size X w') := fun X hX => RdP.ok (hN3 X hX) hr3
    clear hN3 hr3
    have hN4 : ∀ X, RdS X g r3 -> 0 <= k2 -> k2 <= 4294967295 -> Calls Tryz.prog 83 #[.int .i64 k2, .func (.func 84) #[.pointer (some ⟨g, 0, none⟩)] #[]] X (RdP g X (fun bs v w' => ∃ L : List St, L.map St.key = bs /\ OSL w' X.heap.size v L) (rMany rStep k2.toNat r3)) := fun X hX h0 h8 => by
     have := listS_any k2.toNat (by omega) g r3 X hX
     rwa [Int.toNat_of_nonneg h0] at this
    simp only
    rcases hr4 : rMany rStep k2.toNat r3 with c | ⟨ss, r4⟩
    ·have HN4 : Hid (∀ X, RdS X g r3 -> 0 <= k2 -> k2 <= 4294967295 -> Calls Tryz.prog 83 #[.int .i64 k2, .func (.func 84) #[.pointer (some ⟨g, 0, none⟩)] #[]] X fun e w' => e = .panicked [pE c] /\ Bv g X.heap.size X w') := fun X hX h0 h8 => RdP.err (hN4 X hX h0 h8) hr4
     clear hN4 hr4
     go_enter Tryz.func40, Tryz.ntmps40
     go_wp2_with (first
      | (go_at_call 81; refine HN1.out.mono ?_; clear HN1; rintro e w1 ⟨v1, rfl, ⟨rfl, hq0, hq1⟩, hs, hb⟩; have HB1 : Hid (Bv g w.heap.size w w1) := HL.out.step hb; have HS1 : Hid (RdS w1 g r1) := hs; have HK1 : Hid (Blk w1 w.heap.size _ _) := HB.out.bl hb (by omega); have hz1 := HK1.out.lt; have HQ : Hid (0 <= k1 /\ k1 <= 4294967295) := ⟨hq0, hq1⟩; clear hs hb hq0 hq1)
      | (go_at_call 80; refine (HN2.out _ HS1.out HQ.out.1 HQ.out.2).mono ?_; clear HN2; rintro e w2 ⟨v2, rfl, ⟨R, hRk, ho⟩, hs, hb⟩; have HB2 : Hid (Bv g w.heap.size w w2) := HB1.out.step hb; have HS2 : Hid (RdS w2 g r2) := hs; have HK2 : Hid (Blk w2 w.heap.size _ _) := HK1.out.bl hb (by omega); have HRK : Hid (R.map Cm.key = cs) := hRk; have HO2 : Hid (OCL w2 w1.heap.size v2 R) := ho; obtain ⟨a1, a3, e2⟩ := ho.o.form; obtain ⟨a2, ha2⟩ : ∃ n, n = R.length := ⟨_, rfl⟩; rw [<- ha2] at e2; subst e2; have hz2 := HK2.out.lt; clear hs hb ho hRk ha2)
      | (go_at_call 81; refine (HN3.out _ HS2.out).mono ?_; clear HN3; rintro e w3 ⟨v3, rfl, ⟨rfl, hq0, hq1⟩, hs, hb⟩; have HB3 : Hid (Bv g w.heap.size w w3) := HB2.out.step hb; have HS3 : Hid (RdS w3 g r3) := hs; have HK3 : Hid (Blk w3 w.heap.size _ _) := HK2.out.bl hb (by omega); have HO3 : Hid (OCL w3 w1.heap.size (.slice a1 a2 a3) R) := HO2.out.blM hb (by omega); have hz3 := HK3.out.lt; have HQ2 : Hid (0 <= k2 /\ k2 <= 4294967295) := ⟨hq0, hq1⟩; clear hs hb hq0 hq1)
      | (go_at_call 83; refine (HN4.out _ HS3.out HQ2.out.1 HQ2.out.2).mono ?_; rintro e wz ⟨rfl, hb⟩))
     exact ⟨rfl, HB3.out.step hb, rfl⟩
    ·have HN4 : Hid (∀ X, RdS X g r3 -> 0 <= k2 -> k2 <= 4294967295 -> Calls Tryz.prog 83 #[.int .i64 k2, .func (.func 84) #[.pointer (some ⟨g, 0, none⟩)] #[]] X fun e w' => ∃ v, e = .returned v /\ (∃ L : List St, L.map St.key = ss /\ OSL w' X.heap.size v L) /\ RdS w' g r4 /\ Bv g X.heap.size X w') := fun X hX h0 h8 => RdP.ok (hN4 X hX h0 h8) hr4
     clear hN4 hr4
     go_enter Tryz.func40, Tryz.ntmps40
     go_wp2_with (first
      | (go_at_call 81; refine HN1.out.mono ?_; clear HN1; rintro e w1 ⟨v1, rfl, ⟨rfl, hq0, hq1⟩, hs, hb⟩; have HB1 : Hid (Bv g w.heap.size w w1) := HL.out.step hb; have HS1 : Hid (RdS w1 g r1) := hs; have HK1 : Hid (Blk w1 w.heap.size _ _) := HB.out.bl hb (by omega); have hz1 := HK1.out.lt; have HQ : Hid (0 <= k1 /\ k1 <= 4294967295) := ⟨hq0, hq1⟩; clear hs hb hq0 hq1)
      | (go_at_call 80; refine (HN2.out _ HS1.out HQ.out.1 HQ.out.2).mono ?_; clear HN2; rintro e w2 ⟨v2, rfl, ⟨R, hRk, ho⟩, hs, hb⟩; have HB2 : Hid (Bv g w.heap.size w w2) := HB1.out.step hb; have HS2 : Hid (RdS w2 g r2) := hs; have HK2 : Hid (Blk w2 w.heap.size _ _) := HK1.out.bl hb (by omega); have HRK : Hid (R.map Cm.key = cs) := hRk; have HO2 : Hid (OCL w2 w1.heap.size v2 R) := ho; obtain ⟨a1, a3, e2⟩ := ho.o.form; obtain ⟨a2, ha2⟩ : ∃ n, n = R.length := ⟨_, rfl⟩; rw [<- ha2] at e2; subst e2; have hz2 := HK2.out.lt; clear hs hb ho hRk ha2)
      | (go_at_call 81; refine (HN3.out _ HS2.out).mono ?_; clear HN3; rintro e w3 ⟨v3, rfl, ⟨rfl, hq0, hq1⟩, hs, hb⟩; have HB3 : Hid (Bv g w.heap.size w w3) := HB2.out.step hb; have HS3 : Hid (RdS w3 g r3) := hs; have HK3 : Hid (Blk w3 w.heap.size _ _) := HK2.out.bl hb (by omega); have HO3 : Hid (OCL w3 w1.heap.size (.slice a1 a2 a3) R) := HO2.out.blM hb (by omega); have hz3 := HK3.out.lt; have HQ2 : Hid (0 <= k2 /\ k2 <= 4294967295) := ⟨hq0, hq1⟩; clear hs hb hq0 hq1)
      | (go_at_call 83; refine (HN4.out _ HS3.out HQ2.out.1 HQ2.out.2).mono ?_; clear HN4; rintro e w4 ⟨v4, rfl, ⟨S, hSk, ho⟩, hs, hb⟩; have HB4 : Hid (Bv g w.heap.size w w4) := HB3.out.step hb; have HS4 : Hid (RdS w4 g r4) := hs; have HK4 : Hid (Blk w4 w.heap.size _ _) := HK3.out.bl hb (by omega); have HO4 : Hid (OCL w4 w1.heap.size (.slice a1 a2 a3) R) := HO3.out.blM hb (by omega); have HSK : Hid (S.map St.key = ss) := hSk; have HU4 : Hid (OSL w4 w3.heap.size v4 S) := ho; obtain ⟨b1, b3, e4⟩ := ho.o.form; obtain ⟨b2, hb2⟩ : ∃ n, n = S.length := ⟨_, rfl⟩; rw [<- hb2] at e4; subst e4; obtain ⟨q0, q1⟩ := two_at HK4.out 0 _ _ rfl rfl; have f0 : w4.frozen? ⟨w.heap.size, 0, none⟩ = false := frozen_of_row _ _ _ _ _ HK4.out; have f1 : w4.frozen? ⟨w.heap.size, 1, none⟩ = false := frozen_of_row _ _ _ _ _ HK4.out; clear hs hb ho hSk hb2))
     have hk : Kt 25 w4 ((w4.setCell ⟨w.heap.size, 0, none⟩ (.slice a1 a2 a3)).setCell ⟨w.heap.size, 1, none⟩ (.slice b1 b2 b3)) := (Kt.set HK4.out).trans (Kt.set (CBlk.set HK4.out 0 (.slice a1 a2 a3)))
     exact bodyPost_ret (v := .agg #[.slice a1 a2 a3, .slice b1 b2 b3]) (by simp [results, Tryz.results40, go_sem, q0, q1]) rfl ⟨HB4.out.trans (Bv.of (((Below.refl _ _).setCell (p := ⟨w.heap.size, 0, none⟩) (Nat.le_refl _) _).setCell (p := ⟨w.heap.size, 1, none⟩) (Nat.le_refl _) _)), _, rfl, ⟨_, _, R, S, rfl, HRK.out, HSK.out, (HO4.out.kt hk (by decide) (by decide) (by decide) (by decide)).mono (by omega), (HU4.out.kt hk (by decide) (by decide) (by decide)).mono (by omega)⟩, (HS4.out.off hlt).off hlt⟩
end Go.Proofs.YtmbmchbninlhpaaGreatDoor
