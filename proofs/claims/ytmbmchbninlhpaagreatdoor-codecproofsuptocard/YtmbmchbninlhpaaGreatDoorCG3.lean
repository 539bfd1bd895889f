import Derived.Test.YtmbmchbninlhpaaGreatDoorCG2
import Derived.Test.YtmbmchbninlhpaaGreatDoorCL12
import Derived.Test.YtmbmchbninlhpaaGreatDoorCK1
namespace Go.Proofs.YtmbmchbninlhpaaGreatDoor
open Go.RowKit

set_option maxRecDepth 20000 in
set_option maxHeartbeats 2000000 in
theorem listE_any (n : Nat) (hn : n <= 255) (g : Nat) (l : List Int) (w : World) (h : RdS w g l) :
  Calls Tryz.prog 116 #[.int .i64 n, .func (.func 117) #[.pointer (some ⟨g, 0, none⟩)] #[]] w (RdP g w (fun bs v w' => OwnE w' w.heap.size v bs) (rMany rTest n l)) := by
 have hlt := h.lt
 have HS0 : Hid (RdS w g l) := h
 clear h
 go_enter Tryz.func116, Tryz.ntmps116
 go_wp2
 go_loopg [5, 7] n (fun k u i wr => ∃ (j : Nat) (L : List Te) (l' : List Int), j + k = n /\ i = .int .i64 j /\ L.length = j /\ OwnE wr w.heap.size u L /\ RdS wr g l' /\ Bv g w.heap.size w wr /\ Mny rTest n l k L l')
 case atStart => exact ⟨0, [], l, by omega, rfl, rfl, OwnE.nil _ _, HS0.out, Bv.refl _ _ _, Mny.start _ _ _⟩
 case round =>
  obtain ⟨j, L, l', hj, rfl, hts, ho, hs, hb, hm⟩ := hrel
  have HO : Hid (OwnE wr w.heap.size u5 L) := ho
  have HB : Hid (Bv g w.heap.size w wr) := hb
  have HS : Hid (RdS wr g l') := hs
  have hsz := hb.size
  cases gk with
  | succ k =>
   have HM : Hid (Mny rTest n l (k + 1) L l') := hm
   have i1 : (j : Int) < (n : Int) := by omega
   have hN := test8_any g l' wr hs
   clear ho hs hb hm
   rcases hr : rTest l' with c | ⟨t, r⟩
   ·have HN : Hid (Calls Tryz.prog 117 #[.pointer (some ⟨g, 0, none⟩)] wr fun e w' => e = .panicked [pE c] /\ Bv g wr.heap.size wr w') := RdP.err hN hr
    have HE : Hid (rMany rTest n l = .error c) := HM.out.no hr
    clear hN hr
    go_wp2_with (go_at_call 117; refine HN.out.mono ?_; rintro e w1 ⟨rfl, hb⟩)
    refine ⟨rfl, ?_⟩
    rw [HE.out]
    exact ⟨HB.out.step hb, rfl⟩
   ·have HN : Hid (Calls Tryz.prog 117 #[.pointer (some ⟨g, 0, none⟩)] wr fun e w' => ∃ v, e = .returned v /\ (v = t.v8) /\ RdS w' g r /\ Bv g wr.heap.size wr w') := RdP.ok hN hr
    have HM2 : Hid (Mny rTest n l k (L ++ [t]) r) := HM.out.next hr
    clear hN hr
    obtain ⟨op, ⟨xk, xn, xs⟩, ⟨yk, yn, ys⟩⟩ := t
    go_wp2_with (first
     | (go_at_call 117; refine HN.out.mono ?_; rintro e w1 ⟨v1, rfl, rfl, hs1, hb1⟩; have HB1 : Hid (Bv g w.heap.size w w1) := HB.out.step hb1; have HS1 : Hid (RdS w1 g r) := hs1; have HO1 : Hid (OwnE w1 w.heap.size u5 L) := HO.out.blM hb1 hlt; have hz1 := HB1.out.size; clear hs1 hb1)
     | (at_builtin; refine eapp_one rfl _ _ rfl w.heap.size u5 L rfl (HO1.out.later (below1 _ _)) w1.heap.size ⟨op, ⟨xk, xn, xs⟩, ⟨yk, yn, ys⟩⟩ rfl (CBlk.new _ _ _) (ecell_one _) (by omega) (by simp; omega) ?_; intro v2 w2 ho2 hb2 hg2 hk2; have HO2 : Hid (OwnE w2 w.heap.size v2 (L ++ [⟨op, ⟨xk, xn, xs⟩, ⟨yk, yn, ys⟩⟩])) := ho2; have HB2 : Hid (Below w.heap.size w1 w2) := ((below1 _ _).mono hz1).trans hb2; clear ho2 hb2 hg2 hk2))
    go_roundg k
    case measure => omega
    case rel => exact ⟨j + 1, _, r, by omega, by go_num, by simp; omega, HO2.out, HS1.out.low HB2.out hlt, HB1.out.trans (Bv.of HB2.out), HM2.out⟩
  | zero =>
   obtain rfl : j = n := by omega
   have hz : ¬ ((j : Int) < (j : Int)) := by omega
   have HE : Hid (rMany rTest j l = .ok (L, l')) := hm.done
   clear ho hs hb hm
   go_wp2
   go_ret
   rw [HE.out]
   exact ⟨HB.out, _, rfl, HO.out, HS.out⟩
def Gd {α : Type} (Q : α -> Prop) (f : List Int -> Rd α) : Prop := ∀ l a r, byt l -> f l = .ok (a, r) -> byt r /\ Q a
theorem Gd.bind {α β : Type} {Q : α -> Prop} {R : β -> Prop} {f : List Int -> Rd α} {g : α -> List Int -> Rd β} (hf : Gd Q f) (hg : ∀ a, Q a -> Gd R (g a)) : Gd R (fun l => (f l).and g) := by
 intro l b r hl h
 rcases hr : f l with c | ⟨a, r1⟩
 ·simp only [hr, Rd.and] at h; cases h
 ·simp only [hr, Rd.and] at h
  obtain ⟨h1, h2⟩ := hf l a r1 hl hr
  exact hg a h2 r1 b r h1 h
theorem Gd.pure {α : Type} {Q : α -> Prop} (a : α) (h : Q a) : Gd Q (fun r => .ok (a, r)) := by
 intro l b r hl e
 cases e
 exact ⟨hl, h⟩
theorem gd_num (k : Nat) : Gd (fun v => 0 <= v /\ v < (256 : Int) ^ k) (rNum k) := by
 intro l a r hl h
 unfold rNum rTake at h
 split at h
 ·cases h
 ·rename_i hn
  cases h
  refine ⟨fun x hx => hl x (List.mem_of_mem_drop hx), ?_⟩
  have := val_rng (l := l.take k) (fun x hx => hl x (List.mem_of_mem_take hx))
  rwa [show (l.take k).length = k by rw [List.length_take]; omega] at this
theorem gd_take (n : Nat) : Gd (fun _ => True) (rTake n) := by
 intro l a r hl h
 unfold rTake at h
 split at h
 ·cases h
 ·cases h; exact ⟨fun x hx => hl x (List.mem_of_mem_drop hx), trivial⟩
theorem gd_bnd (lo hi : Int) : Gd (fun n => n <= hi) (rBnd lo hi) :=
 (gd_num 1).bind fun n _ l a r hl h => by
  split at h
  ·cases h
  ·cases h; exact ⟨hl, by omega⟩
theorem gd_one (cs : List Int) : Gd (fun n => n ∈ cs) (rOne cs) :=
 (gd_num 1).bind fun n _ l a r hl h => by
  split at h
  ·cases h; exact ⟨hl, by assumption⟩
  ·cases h
def wfN (t : Tm) : Prop := (Lit.int .i64 t.n).wf = true
theorem wfN_of {t : Tm} (h0 : -9223372036854775808 <= t.n) (h1 : t.n <= 9223372036854775807) : wfN t := by
 unfold wfN
 have e1 : IntKind.i64.min = -9223372036854775808 := by decide
 have e2 : IntKind.i64.max = 9223372036854775807 := by decide
 simp [Lit.wf]
 omega
theorem gd_text (lo hi : Int) : Gd (fun _ => True) (rText lo hi) := (gd_bnd lo hi).bind fun n _ => (gd_take n.toNat).bind fun _ _ => Gd.pure _ trivial
theorem gd_nat : Gd (fun n => 0 <= n /\ n <= 9223372036854775807) rNat :=
 (gd_num 8).bind fun n hn l a r hl h => by
  split at h
  ·cases h
  ·cases h; exact ⟨hl, by omega⟩
theorem w64_rng (n : Int) : -9223372036854775808 <= wrap64 n /\ wrap64 n <= 9223372036854775807 := by
 unfold wrap64
 omega
theorem gd_termOf (k lo : Int) : Gd wfN (rTermOf k lo) := by
 unfold rTermOf
 intro l a r hl h
 split at h
 ·exact ((gd_num 8).bind fun n _ => Gd.pure _ (wfN_of (w64_rng n).1 (w64_rng n).2)) l a r hl h
 ·split at h
  ·exact ((gd_text lo 64).bind fun n _ => Gd.pure _ (wfN_of (by simp only; omega) (by simp only; omega))) l a r hl h
  ·split at h
   ·exact (gd_nat.bind fun n hn => Gd.pure _ (wfN_of (by simp only; omega) (by simp only; omega))) l a r hl h
   ·cases h; exact ⟨hl, wfN_of (by decide) (by decide)⟩
theorem gd_qual : Gd wfN rQual := (gd_one _).bind fun k _ => gd_termOf k 1
theorem gd_arg : Gd wfN rArg := (gd_one _).bind fun k _ => gd_termOf k 0
theorem gd_many {α : Type} {Q : α -> Prop} {one : List Int -> Rd α} (h : Gd Q one) : ∀ n, Gd (fun L => L.length = n /\ ∀ x ∈ L, Q x) (rMany one n)
 | 0 => Gd.pure _ ⟨rfl, fun x hx => by simp at hx⟩
 | n + 1 => h.bind fun a ha => (gd_many h n).bind fun ts hts => Gd.pure _ ⟨by simp [hts.1], fun x hx => by
   rcases List.mem_cons.1 hx with rfl | hx
   ·exact ha
   ·exact hts.2 x hx⟩
theorem gd_name : Gd (fun _ => True) rName :=
 (gd_text 1 32).bind fun s _ l a r hl h => by
  split at h
  ·cases h; exact ⟨hl, trivial⟩
  ·cases h
def GA (a : At) : Prop := a.args.length <= 8 /\ ∀ t ∈ a.pl, wfN t
theorem gd_atom : Gd GA rAtom := gd_qual.bind fun t ht => gd_name.bind fun nm _ => (gd_bnd 0 8).bind fun n hn => (gd_many gd_arg n.toNat).bind fun ts hts => Gd.pure _ ⟨by simp only; omega, fun u hu => by
 rcases List.mem_cons.1 hu with rfl | hu
 ·exact ht
 ·exact hts.2 u hu⟩
def GE (e : Te) : Prop := wfN e.l /\ wfN e.r
theorem gd_test : Gd GE rTest := (gd_one _).bind fun _ _ => gd_arg.bind fun _ hx => gd_arg.bind fun _ hy => Gd.pure _ ⟨hx, hy⟩
def chkK (x : Ck) : Int := Cm.chk ⟨(x.1, .slice none 0 0), x.2.1.map fun a => (a, .slice none 0 0), .slice none 0 0, x.2.2, .slice none 0 0⟩
theorem chk_keyK (c : Cm) : c.chk = chkK c.key := by
 unfold chkK
 refine chk_key ?_
 simp [Cm.key, fsts]
def rClause (l : List Int) : Rd Ck := (rAtom l).and fun h r => (rBnd 0 8 r).and fun n r => (rMany rAtom n.toNat r).and fun b r => (rBnd 0 8 r).and fun k r => (rMany rTest k.toNat r).and fun ts r => if chkK (h, b, ts) = 0 then .ok ((h, b, ts), r) else .error 63
structure MC8 (B : Nat) (X : World) (d : Cm) : Prop where
 h : OwnT X B d.head.2 d.head.1.args
 b : OAL X B d.bv d.body
 t : OwnE X B d.tv d.tests
theorem MC8.later {B : Nat} {X X' : World} {d : Cm} (h : MC8 B X d) (hb : Below X.heap.size X X') : MC8 B X' d := ⟨h.h.later hb, h.b.later hb, h.t.later hb⟩
theorem MC8.mono {B B' : Nat} {X : World} {d : Cm} (h : MC8 B X d) (hb : B' <= B) : MC8 B' X d := ⟨h.h.mono hb, h.b.mono hb, h.t.mono hb⟩
theorem MC8.set {B : Nat} {X : World} {d : Cm} {G i : Nat} {c : Value} (h : MC8 B X d) (hG : G < B) : MC8 B (X.setCell ⟨G, i, none⟩ c) d := ⟨h.h.set hG, h.b.set hG, h.t.set hG⟩
theorem MC8.blM {g B : Nat} {X X' : World} {d : Cm} (h : MC8 B X d) (hb : Bv g X.heap.size X X') (hg : g < B) : MC8 B X' d := ⟨h.h.blM hb hg, h.b.blM hb hg, h.t.blM hb hg⟩
structure GC (x : Ck) : Prop where
 h : GA x.1
 b : x.2.1.length <= 8 /\ ∀ a ∈ x.2.1, GA a
 t : x.2.2.length <= 8 /\ ∀ e ∈ x.2.2, GE e
theorem MC8.ok {B : Nat} {X : World} {d : Cm} (h : MC8 B X d) (hg : GC d.key) : d.ok X := by
 have h1 := hg.h.1
 have h2 := hg.b.1
 have h3 := hg.t.1
 simp only [Cm.key, fsts, List.length_map] at h1 h2 h3
 exact ⟨h.h.tsP.ts (by omega), h.b.1.as (by omega) fun y hy => (h.b.2 y hy).tsP.ts (by have := (hg.b.2 y.1 (List.mem_map_of_mem hy)).1; omega), h.t.es (by omega)⟩
theorem GC.wf {d : Cm} (hg : GC d.key) : d.wf := by
 have key : ∀ t ∈ d.terms, wfN t := fun t ht => by
  unfold Cm.terms at ht
  rcases List.mem_append.1 ht with ht | ht
  ·obtain ⟨x, hx, ht⟩ := List.mem_flatMap.1 ht
   rcases List.mem_cons.1 hx with rfl | hx
   ·exact hg.h.2 t ht
   ·exact (hg.b.2 x.1 (List.mem_map_of_mem hx)).2 t ht
  ·obtain ⟨x, hx, ht⟩ := List.mem_flatMap.1 ht
   have := hg.t.2 x hx
   simp only [List.mem_cons, List.not_mem_nil, or_false] at ht
   rcases ht with rfl | rfl
   ·exact this.1
   ·exact this.2
 refine ⟨fun t ht _ => key t ht, ?_⟩
 have l1 : (d.atoms.flatMap fun x => x.1.pl).length <= d.atoms.length * 9 := by
  have : ∀ L : List (At × Value), (∀ x ∈ L, GA x.1) -> (L.flatMap fun x => x.1.pl).length <= L.length * 9 := by
   intro L
   induction L with
   | nil => intro _; simp
   | cons x L ih =>
    intro hL
    have h1 := (hL x (by simp)).1
    have h2 := ih (fun y hy => hL y (by simp [hy]))
    simp only [List.flatMap_cons, List.length_append, List.length_cons, At.pl] at h2 ⊢
    omega
  exact this _ (fun x hx => by
   rcases List.mem_cons.1 hx with rfl | hx
   ·exact hg.h
   ·exact hg.b.2 x.1 (List.mem_map_of_mem hx))
 have l2 : (d.tests.flatMap fun t => [t.l, t.r]).length <= d.tests.length * 2 := by
  have : ∀ L : List Te, (L.flatMap fun t => [t.l, t.r]).length <= L.length * 2 := by
   intro L
   induction L with
   | nil => simp
   | cons x L ih => simp only [List.flatMap_cons, List.length_append, List.length_cons, List.length_nil]; omega
  exact this _
 have h2 := hg.b.1
 have h3 := hg.t.1
 simp only [Cm.key, fsts, List.length_map] at h2 h3
 unfold Cm.terms
 rw [List.length_append]
 have e : d.atoms.length = d.body.length + 1 := by simp [Cm.atoms]
 omega
theorem ff7 {w : World} {g : Nat} {c : Array Value} {t : TypeId} (h : Blk w g c t) : w.frozen? ⟨g, 0, none⟩ = false /\ w.frozen? ⟨g, 1, none⟩ = false /\ w.frozen? ⟨g, 2, none⟩ = false /\ w.frozen? ⟨g, 3, none⟩ = false /\ w.frozen? ⟨g, 4, none⟩ = false /\ w.frozen? ⟨g, 5, none⟩ = false /\ w.frozen? ⟨g, 6, none⟩ = false :=
 ⟨frozen_of_row _ _ _ _ _ h, frozen_of_row _ _ _ _ _ h, frozen_of_row _ _ _ _ _ h, frozen_of_row _ _ _ _ _ h, frozen_of_row _ _ _ _ _ h, frozen_of_row _ _ _ _ _ h, frozen_of_row _ _ _ _ _ h⟩
set_option maxRecDepth 20000 in
set_option maxHeartbeats 8000000 in
theorem clause8_any (g : Nat) (l : List Int) (w : World) (h : RdS w g l) :
  Calls Tryz.prog 82 #[.pointer (some ⟨g, 0, none⟩)] w (RdP g w (fun x v w' => ∃ c : Cm, v = c.v /\ c.key = x /\ GC x /\ MC8 w.heap.size w' c) (rClause l)) := by
 have hlt := h.lt
 have hy := h.1
 have hmf : ∀ (fn : Fn) (first cap : Array Value) (w : World), (Instr.makeFunc fn first cap).run Tryz.prog w = .ok (.func fn first cap) w := fun _ _ _ _ => rfl
 have HB : Hid (Blk (w.alloc (.cells #[.int .i64 0, .int .i64 0, .string ⟨#[]⟩, .string ⟨#[]⟩, .slice none 0 0, .slice none 0 0, .slice none 0 0] 62)) w.heap.size #[.int .i64 0, .int .i64 0, .string ⟨#[]⟩, .string ⟨#[]⟩, .slice none 0 0, .slice none 0 0, .slice none 0 0] 62) := Blk.new _ _ _
 have HL : Hid (Bv g w.heap.size w (w.alloc (.cells #[.int .i64 0, .int .i64 0, .string ⟨#[]⟩, .string ⟨#[]⟩, .slice none 0 0, .slice none 0 0, .slice none 0 0] 62))) := Bv.of (below1 _ _)
 have hN1 := atom8_any g l (w.alloc (.cells #[.int .i64 0, .int .i64 0, .string ⟨#[]⟩, .string ⟨#[]⟩, .slice none 0 0, .slice none 0 0, .slice none 0 0] 62)) (h.below (below1 _ _))
 clear h
 unfold rClause
 rcases hr1 : rAtom l with c | ⟨t, r1⟩
 ·have HN1 : Hid (Calls Tryz.prog 113 #[.pointer (some ⟨g, 0, none⟩)] (w.alloc (.cells #[.int .i64 0, .int .i64 0, .string ⟨#[]⟩, .string ⟨#[]⟩, .slice none 0 0, .slice none 0 0, .slice none 0 0] 62)) fun e w' => e = .panicked [pE c] /\ Bv g _ _ w') := RdP.err hN1 hr1
  clear hN1 hr1
  simp only [Rd.and]
  go_enter Tryz.func82, Tryz.ntmps82
  go_wp2_with (go_at_call 113; refine HN1.out.mono ?_; rintro e w1 ⟨rfl, hb⟩)
  exact ⟨rfl, HL.out.step hb, rfl⟩
 ·have HN1 : Hid (Calls Tryz.prog 113 #[.pointer (some ⟨g, 0, none⟩)] (w.alloc (.cells #[.int .i64 0, .int .i64 0, .string ⟨#[]⟩, .string ⟨#[]⟩, .slice none 0 0, .slice none 0 0, .slice none 0 0] 62)) fun e w' => ∃ v, e = .returned v /\ (∃ y, v = t.v y /\ OwnT w' (w.alloc (.cells #[.int .i64 0, .int .i64 0, .string ⟨#[]⟩, .string ⟨#[]⟩, .slice none 0 0, .slice none 0 0, .slice none 0 0] 62)).heap.size y t.args) /\ RdS w' g r1 /\ Bv g _ _ w') := RdP.ok hN1 hr1
  obtain ⟨hy1, g1⟩ := gd_atom l t r1 hy hr1
  clear hN1 hr1
  obtain ⟨⟨tk, tn, tt⟩, nm, ls⟩ := t
  have hN2 := fun X hX => bounded_any 0 8 g r1 X hX
  simp only [Rd.and]
  rcases hr2 : rBnd 0 8 r1 with c | ⟨n, r2⟩
  ·have HN2 : Hid (∀ X, RdS X g r1 -> Calls Tryz.prog 115 #[.pointer (some ⟨g, 0, none⟩), .int .i64 0, .int .i64 8] X fun e w' => e = .panicked [pE c] /\ Bv g X.heap.size X w') := fun X hX => RdP.err (hN2 X hX) hr2
   clear hN2 hr2
   go_enter Tryz.func82, Tryz.ntmps82
   go_wp2_with (first
    | (go_at_call 113; refine HN1.out.mono ?_; rintro e w1 ⟨v1, rfl, ⟨y, rfl, hoy⟩, hs, hb⟩; obtain ⟨a1, n1, c1, rfl⟩ := ownT_form8 hoy; have HB1 : Hid (Bv g w.heap.size w (w1.alloc (.cells #[.int .i64 tk, .int .i64 tn, .string tt, .string nm, .slice a1 n1 c1] 58))) := (HL.out.step hb).step (Bv.of (below1 _ _)); have HS1 : Hid (RdS (w1.alloc (.cells #[.int .i64 tk, .int .i64 tn, .string tt, .string nm, .slice a1 n1 c1] 58)) g r1) := hs.below (below1 _ _); have HK1 : Hid (Blk (w1.alloc (.cells #[.int .i64 tk, .int .i64 tn, .string tt, .string nm, .slice a1 n1 c1] 58)) w.heap.size _ _) := (HB.out.bl hb (by omega)).later (below1 _ _); have HT1 : Hid (Blk (w1.alloc (.cells #[.int .i64 tk, .int .i64 tn, .string tt, .string nm, .slice a1 n1 c1] 58)) w1.heap.size #[.int .i64 tk, .int .i64 tn, .string tt, .string nm, .slice a1 n1 c1] 58) := Blk.new _ _ _; have HO1 : Hid (OwnT (w1.alloc (.cells #[.int .i64 tk, .int .i64 tn, .string tt, .string nm, .slice a1 n1 c1] 58)) (w.heap.size + 1) (.slice a1 n1 c1) ls) := (hoy.mono (by simp)).later (below1 _ _); have hz1 : w.heap.size < w1.heap.size := (HB.out.bl hb (by omega)).lt; clear hs hb hoy)
    | (go_at_call 115; refine (HN2.out _ HS1.out).mono ?_; rintro e w2 ⟨rfl, hb⟩))
   exact ⟨rfl, HB1.out.step hb, rfl⟩
  ·have HN2 : Hid (∀ X, RdS X g r1 -> Calls Tryz.prog 115 #[.pointer (some ⟨g, 0, none⟩), .int .i64 0, .int .i64 8] X fun e w' => ∃ v, e = .returned v /\ (v = .int .i64 n /\ 0 <= n /\ n <= 8 /\ 0 <= n /\ n <= 255) /\ RdS w' g r2 /\ Bv g X.heap.size X w') := fun X hX => RdP.ok (hN2 X hX) hr2
   obtain ⟨hy2, hn8⟩ := gd_bnd 0 8 r1 n r2 hy1 hr2
   clear hN2 hr2
   have hN3 : ∀ X, RdS X g r2 -> 0 <= n -> n <= 8 -> Calls Tryz.prog 114 #[.int .i64 n, .func (.func 113) #[.pointer (some ⟨g, 0, none⟩)] #[]] X (RdP g X (fun bs v w' => ∃ L : List (At × Value), L.map (·.1) = bs /\ OAL w' X.heap.size v L) (rMany rAtom n.toNat r2)) := fun X hX h0 h8 => by
    have := listA_any n.toNat (by omega) g r2 X hX
    rwa [Int.toNat_of_nonneg h0] at this
   simp only
   rcases hr3 : rMany rAtom n.toNat r2 with c | ⟨bs, r3⟩
   ·have HN3 : Hid (∀ X, RdS X g r2 -> 0 <= n -> n <= 8 -> Calls Tryz.prog 114 #[.int .i64 n, .func (.func 113) #[.pointer (some ⟨g, 0, none⟩)] #[]] X fun e w' => e = .panicked [pE c] /\ Bv g X.heap.size X w') := fun X hX h0 h8 => RdP.err (hN3 X hX h0 h8) hr3
    clear hN3 hr3
    go_enter Tryz.func82, Tryz.ntmps82
    go_wp2_with (first
     | (go_at_call 113; refine HN1.out.mono ?_; rintro e w1 ⟨v1, rfl, ⟨y, rfl, hoy⟩, hs, hb⟩; obtain ⟨a1, n1, c1, rfl⟩ := ownT_form8 hoy; have HB1 : Hid (Bv g w.heap.size w (w1.alloc (.cells #[.int .i64 tk, .int .i64 tn, .string tt, .string nm, .slice a1 n1 c1] 58))) := (HL.out.step hb).step (Bv.of (below1 _ _)); have HS1 : Hid (RdS (w1.alloc (.cells #[.int .i64 tk, .int .i64 tn, .string tt, .string nm, .slice a1 n1 c1] 58)) g r1) := hs.below (below1 _ _); have HK1 : Hid (Blk (w1.alloc (.cells #[.int .i64 tk, .int .i64 tn, .string tt, .string nm, .slice a1 n1 c1] 58)) w.heap.size _ _) := (HB.out.bl hb (by omega)).later (below1 _ _); have HT1 : Hid (Blk (w1.alloc (.cells #[.int .i64 tk, .int .i64 tn, .string tt, .string nm, .slice a1 n1 c1] 58)) w1.heap.size #[.int .i64 tk, .int .i64 tn, .string tt, .string nm, .slice a1 n1 c1] 58) := Blk.new _ _ _; have HO1 : Hid (OwnT (w1.alloc (.cells #[.int .i64 tk, .int .i64 tn, .string tt, .string nm, .slice a1 n1 c1] 58)) (w.heap.size + 1) (.slice a1 n1 c1) ls) := (hoy.mono (by simp)).later (below1 _ _); have hz1 : w.heap.size < w1.heap.size := (HB.out.bl hb (by omega)).lt; clear hs hb hoy)
     | (go_at_call 115; refine (HN2.out _ HS1.out).mono ?_; rintro e w2 ⟨v2, rfl, ⟨rfl, -, h8, h0, -⟩, hs, hb⟩; have HB2 : Hid (Bv g w.heap.size w w2) := HB1.out.step hb; have HS2 : Hid (RdS w2 g r2) := hs; have HK2 : Hid (Blk w2 w.heap.size _ _) := HK1.out.bl hb (by omega); have HT2 : Hid (Blk w2 w1.heap.size _ _) := HT1.out.bl hb (by omega); have HO2 : Hid (OwnT w2 (w.heap.size + 1) (.slice a1 n1 c1) ls) := HO1.out.blM hb (by omega); clear hs hb)
     | (go_at_call 114; refine (HN3.out _ HS2.out h0 h8).mono ?_; rintro e w3 ⟨rfl, hb⟩))
    exact ⟨rfl, HB2.out.step hb, rfl⟩
   ·have HN3 : Hid (∀ X, RdS X g r2 -> 0 <= n -> n <= 8 -> Calls Tryz.prog 114 #[.int .i64 n, .func (.func 113) #[.pointer (some ⟨g, 0, none⟩)] #[]] X fun e w' => ∃ v, e = .returned v /\ (∃ L : List (At × Value), L.map (·.1) = bs /\ OAL w' X.heap.size v L) /\ RdS w' g r3 /\ Bv g X.heap.size X w') := fun X hX h0 h8 => RdP.ok (hN3 X hX h0 h8) hr3
    obtain ⟨hy3, g3⟩ := gd_many gd_atom n.toNat r2 bs r3 hy2 hr3
    clear hN3 hr3
    have hN4 := fun X hX => bounded_any 0 8 g r3 X hX
    simp only
    rcases hr4 : rBnd 0 8 r3 with c | ⟨k, r4⟩
    ·have HN4 : Hid (∀ X, RdS X g r3 -> Calls Tryz.prog 115 #[.pointer (some ⟨g, 0, none⟩), .int .i64 0, .int .i64 8] X fun e w' => e = .panicked [pE c] /\ Bv g X.heap.size X w') := fun X hX => RdP.err (hN4 X hX) hr4
     clear hN4 hr4
     go_enter Tryz.func82, Tryz.ntmps82
     go_wp2_with (first
      | (go_at_call 113; refine HN1.out.mono ?_; rintro e w1 ⟨v1, rfl, ⟨y, rfl, hoy⟩, hs, hb⟩; obtain ⟨a1, n1, c1, rfl⟩ := ownT_form8 hoy; have HB1 : Hid (Bv g w.heap.size w (w1.alloc (.cells #[.int .i64 tk, .int .i64 tn, .string tt, .string nm, .slice a1 n1 c1] 58))) := (HL.out.step hb).step (Bv.of (below1 _ _)); have HS1 : Hid (RdS (w1.alloc (.cells #[.int .i64 tk, .int .i64 tn, .string tt, .string nm, .slice a1 n1 c1] 58)) g r1) := hs.below (below1 _ _); have HK1 : Hid (Blk (w1.alloc (.cells #[.int .i64 tk, .int .i64 tn, .string tt, .string nm, .slice a1 n1 c1] 58)) w.heap.size _ _) := (HB.out.bl hb (by omega)).later (below1 _ _); have HT1 : Hid (Blk (w1.alloc (.cells #[.int .i64 tk, .int .i64 tn, .string tt, .string nm, .slice a1 n1 c1] 58)) w1.heap.size #[.int .i64 tk, .int .i64 tn, .string tt, .string nm, .slice a1 n1 c1] 58) := Blk.new _ _ _; have HO1 : Hid (OwnT (w1.alloc (.cells #[.int .i64 tk, .int .i64 tn, .string tt, .string nm, .slice a1 n1 c1] 58)) (w.heap.size + 1) (.slice a1 n1 c1) ls) := (hoy.mono (by simp)).later (below1 _ _); have hz1 : w.heap.size < w1.heap.size := (HB.out.bl hb (by omega)).lt; clear hs hb hoy)
      | (go_at_call 115; refine (HN2.out _ HS1.out).mono ?_; rintro e w2 ⟨v2, rfl, ⟨rfl, -, h8, h0, -⟩, hs, hb⟩; have HB2 : Hid (Bv g w.heap.size w w2) := HB1.out.step hb; have HS2 : Hid (RdS w2 g r2) := hs; have HK2 : Hid (Blk w2 w.heap.size _ _) := HK1.out.bl hb (by omega); have HT2 : Hid (Blk w2 w1.heap.size _ _) := HT1.out.bl hb (by omega); have HO2 : Hid (OwnT w2 (w.heap.size + 1) (.slice a1 n1 c1) ls) := HO1.out.blM hb (by omega); clear hs hb)
      | (go_at_call 114; refine (HN3.out _ HS2.out h0 h8).mono ?_; rintro e w3 ⟨v3, rfl, ⟨L, hL, hoL⟩, hs, hb⟩; obtain ⟨a2, c2, rfl⟩ := OwnA.form hoL.1; have HB3 : Hid (Bv g w.heap.size w w3) := HB2.out.step hb; have HS3 : Hid (RdS w3 g r3) := hs; have HK3 : Hid (Blk w3 w.heap.size _ _) := HK2.out.bl hb (by omega); have HT3 : Hid (Blk w3 w1.heap.size _ _) := HT2.out.bl hb (by omega); have HO3 : Hid (OwnT w3 (w.heap.size + 1) (.slice a1 n1 c1) ls) := HO2.out.blM hb (by omega); have HA3 : Hid (OAL w3 (w.heap.size + 1) (.slice a2 L.length c2) L) := hoL.mono (by have := HK2.out.lt; omega); have HLL : Hid (L.map (·.1) = bs) := hL; clear hs hb hoL hL)
      | (go_at_call 115; refine (HN4.out _ HS3.out).mono ?_; rintro e w4 ⟨rfl, hb⟩))
     exact ⟨rfl, HB3.out.step hb, rfl⟩
    ·have HN4 : Hid (∀ X, RdS X g r3 -> Calls Tryz.prog 115 #[.pointer (some ⟨g, 0, none⟩), .int .i64 0, .int .i64 8] X fun e w' => ∃ v, e = .returned v /\ (v = .int .i64 k /\ 0 <= k /\ k <= 8 /\ 0 <= k /\ k <= 255) /\ RdS w' g r4 /\ Bv g X.heap.size X w') := fun X hX => RdP.ok (hN4 X hX) hr4
     obtain ⟨hy4, hk8⟩ := gd_bnd 0 8 r3 k r4 hy3 hr4
     clear hN4 hr4
     have hN5 : ∀ X, RdS X g r4 -> 0 <= k -> k <= 8 -> Calls Tryz.prog 116 #[.int .i64 k, .func (.func 117) #[.pointer (some ⟨g, 0, none⟩)] #[]] X (RdP g X (fun bs v w' => OwnE w' X.heap.size v bs) (rMany rTest k.toNat r4)) := fun X hX h0 h8 => by
      have := listE_any k.toNat (by omega) g r4 X hX
      rwa [Int.toNat_of_nonneg h0] at this
     simp only
     rcases hr5 : rMany rTest k.toNat r4 with c | ⟨es, r5⟩
     ·have HN5 : Hid (∀ X, RdS X g r4 -> 0 <= k -> k <= 8 -> Calls Tryz.prog 116 #[.int .i64 k, .func (.func 117) #[.pointer (some ⟨g, 0, none⟩)] #[]] X fun e w' => e = .panicked [pE c] /\ Bv g X.heap.size X w') := fun X hX h0 h8 => RdP.err (hN5 X hX h0 h8) hr5
      clear hN5 hr5
      go_enter Tryz.func82, Tryz.ntmps82
      go_wp2_with (first
       | (go_at_call 113; refine HN1.out.mono ?_; rintro e w1 ⟨v1, rfl, ⟨y, rfl, hoy⟩, hs, hb⟩; obtain ⟨a1, n1, c1, rfl⟩ := ownT_form8 hoy; have HB1 : Hid (Bv g w.heap.size w (w1.alloc (.cells #[.int .i64 tk, .int .i64 tn, .string tt, .string nm, .slice a1 n1 c1] 58))) := (HL.out.step hb).step (Bv.of (below1 _ _)); have HS1 : Hid (RdS (w1.alloc (.cells #[.int .i64 tk, .int .i64 tn, .string tt, .string nm, .slice a1 n1 c1] 58)) g r1) := hs.below (below1 _ _); have HK1 : Hid (Blk (w1.alloc (.cells #[.int .i64 tk, .int .i64 tn, .string tt, .string nm, .slice a1 n1 c1] 58)) w.heap.size _ _) := (HB.out.bl hb (by omega)).later (below1 _ _); have HT1 : Hid (Blk (w1.alloc (.cells #[.int .i64 tk, .int .i64 tn, .string tt, .string nm, .slice a1 n1 c1] 58)) w1.heap.size #[.int .i64 tk, .int .i64 tn, .string tt, .string nm, .slice a1 n1 c1] 58) := Blk.new _ _ _; have HO1 : Hid (OwnT (w1.alloc (.cells #[.int .i64 tk, .int .i64 tn, .string tt, .string nm, .slice a1 n1 c1] 58)) (w.heap.size + 1) (.slice a1 n1 c1) ls) := (hoy.mono (by simp)).later (below1 _ _); have hz1 : w.heap.size < w1.heap.size := (HB.out.bl hb (by omega)).lt; clear hs hb hoy)
       | (go_at_call 115; refine (HN2.out _ HS1.out).mono ?_; rintro e w2 ⟨v2, rfl, ⟨rfl, -, h8, h0, -⟩, hs, hb⟩; have HB2 : Hid (Bv g w.heap.size w w2) := HB1.out.step hb; have HS2 : Hid (RdS w2 g r2) := hs; have HK2 : Hid (Blk w2 w.heap.size _ _) := HK1.out.bl hb (by omega); have HT2 : Hid (Blk w2 w1.heap.size _ _) := HT1.out.bl hb (by omega); have HO2 : Hid (OwnT w2 (w.heap.size + 1) (.slice a1 n1 c1) ls) := HO1.out.blM hb (by omega); clear hs hb)
       | (go_at_call 114; refine (HN3.out _ HS2.out h0 h8).mono ?_; rintro e w3 ⟨v3, rfl, ⟨L, hL, hoL⟩, hs, hb⟩; obtain ⟨a2, c2, rfl⟩ := OwnA.form hoL.1; have HB3 : Hid (Bv g w.heap.size w w3) := HB2.out.step hb; have HS3 : Hid (RdS w3 g r3) := hs; have HK3 : Hid (Blk w3 w.heap.size _ _) := HK2.out.bl hb (by omega); have HT3 : Hid (Blk w3 w1.heap.size _ _) := HT2.out.bl hb (by omega); have HO3 : Hid (OwnT w3 (w.heap.size + 1) (.slice a1 n1 c1) ls) := HO2.out.blM hb (by omega); have HA3 : Hid (OAL w3 (w.heap.size + 1) (.slice a2 L.length c2) L) := hoL.mono (by have := HK2.out.lt; omega); have HLL : Hid (L.map (·.1) = bs) := hL; clear hs hb hoL hL)
       | (go_at_call 115; refine (HN4.out _ HS3.out).mono ?_; rintro e w4 ⟨v4, rfl, ⟨rfl, -, k8, k0, -⟩, hs, hb⟩; have HB4 : Hid (Bv g w.heap.size w w4) := HB3.out.step hb; have HS4 : Hid (RdS w4 g r4) := hs; have HK4 : Hid (Blk w4 w.heap.size _ _) := HK3.out.bl hb (by omega); have HT4 : Hid (Blk w4 w1.heap.size _ _) := HT3.out.bl hb (by omega); have HO4 : Hid (OwnT w4 (w.heap.size + 1) (.slice a1 n1 c1) ls) := HO3.out.blM hb (by omega); have HA4 : Hid (OAL w4 (w.heap.size + 1) (.slice a2 L.length c2) L) := HA3.out.blM hb (by omega); clear hs hb)
       | (go_at_call 116; refine (HN5.out _ HS4.out k0 k8).mono ?_; rintro e w5 ⟨rfl, hb⟩))
      exact ⟨rfl, HB4.out.step hb, rfl⟩
     ·have HN5 : Hid (∀ X, RdS X g r4 -> 0 <= k -> k <= 8 -> Calls Tryz.prog 116 #[.int .i64 k, .func (.func 117) #[.pointer (some ⟨g, 0, none⟩)] #[]] X fun e w' => ∃ v, e = .returned v /\ (OwnE w' X.heap.size v es) /\ RdS w' g r5 /\ Bv g X.heap.size X w') := fun X hX h0 h8 => RdP.ok (hN5 X hX h0 h8) hr5
      obtain ⟨hy5, g5⟩ := gd_many gd_test k.toNat r4 es r5 hy4 hr5
      have HG : Hid (GC ((⟨⟨tk, tn, tt⟩, nm, ls⟩ : At), bs, es)) := ⟨g1, ⟨by simp only; omega, g3.2⟩, ⟨by simp only; omega, g5.2⟩⟩
      clear hN5 hr5 hy hy1 hy2 hy3 hy4 hy5 g1 g3 g5 hn8 hk8
      simp only
      obtain ⟨ch, hCH⟩ : ∃ c, chkK ((⟨⟨tk, tn, tt⟩, nm, ls⟩ : At), bs, es) = c := ⟨_, rfl⟩
      rw [hCH]
      by_cases hc : ch = 0
      ·subst hc
       rw [if_pos rfl]
       go_enter Tryz.func82, Tryz.ntmps82
       go_wp2_with (first
        | (go_at_call 113; refine HN1.out.mono ?_; rintro e w1 ⟨v1, rfl, ⟨y, rfl, hoy⟩, hs, hb⟩; obtain ⟨a1, n1, c1, rfl⟩ := ownT_form8 hoy; have HB1 : Hid (Bv g w.heap.size w (w1.alloc (.cells #[.int .i64 tk, .int .i64 tn, .string tt, .string nm, .slice a1 n1 c1] 58))) := (HL.out.step hb).step (Bv.of (below1 _ _)); have HS1 : Hid (RdS (w1.alloc (.cells #[.int .i64 tk, .int .i64 tn, .string tt, .string nm, .slice a1 n1 c1] 58)) g r1) := hs.below (below1 _ _); have HK1 : Hid (Blk (w1.alloc (.cells #[.int .i64 tk, .int .i64 tn, .string tt, .string nm, .slice a1 n1 c1] 58)) w.heap.size _ _) := (HB.out.bl hb (by omega)).later (below1 _ _); have HT1 : Hid (Blk (w1.alloc (.cells #[.int .i64 tk, .int .i64 tn, .string tt, .string nm, .slice a1 n1 c1] 58)) w1.heap.size #[.int .i64 tk, .int .i64 tn, .string tt, .string nm, .slice a1 n1 c1] 58) := Blk.new _ _ _; have HO1 : Hid (OwnT (w1.alloc (.cells #[.int .i64 tk, .int .i64 tn, .string tt, .string nm, .slice a1 n1 c1] 58)) (w.heap.size + 1) (.slice a1 n1 c1) ls) := (hoy.mono (by simp)).later (below1 _ _); have hz1 : w.heap.size < w1.heap.size := (HB.out.bl hb (by omega)).lt; clear hs hb hoy)
        | (go_at_call 115; refine (HN2.out _ HS1.out).mono ?_; rintro e w2 ⟨v2, rfl, ⟨rfl, -, h8, h0, -⟩, hs, hb⟩; have HB2 : Hid (Bv g w.heap.size w w2) := HB1.out.step hb; have HS2 : Hid (RdS w2 g r2) := hs; have HK2 : Hid (Blk w2 w.heap.size _ _) := HK1.out.bl hb (by omega); have HT2 : Hid (Blk w2 w1.heap.size _ _) := HT1.out.bl hb (by omega); have HO2 : Hid (OwnT w2 (w.heap.size + 1) (.slice a1 n1 c1) ls) := HO1.out.blM hb (by omega); clear hs hb)
        | (go_at_call 114; refine (HN3.out _ HS2.out h0 h8).mono ?_; rintro e w3 ⟨v3, rfl, ⟨L, hL, hoL⟩, hs, hb⟩; obtain ⟨a2, c2, rfl⟩ := OwnA.form hoL.1; have HB3 : Hid (Bv g w.heap.size w w3) := HB2.out.step hb; have HS3 : Hid (RdS w3 g r3) := hs; have HK3 : Hid (Blk w3 w.heap.size _ _) := HK2.out.bl hb (by omega); have HT3 : Hid (Blk w3 w1.heap.size _ _) := HT2.out.bl hb (by omega); have HO3 : Hid (OwnT w3 (w.heap.size + 1) (.slice a1 n1 c1) ls) := HO2.out.blM hb (by omega); have HA3 : Hid (OAL w3 (w.heap.size + 1) (.slice a2 L.length c2) L) := hoL.mono (by have := HK2.out.lt; omega); have HLL : Hid (L.map (·.1) = bs) := hL; clear hs hb hoL hL)
        | (go_at_call 115; refine (HN4.out _ HS3.out).mono ?_; rintro e w4 ⟨v4, rfl, ⟨rfl, -, k8, k0, -⟩, hs, hb⟩; have HB4 : Hid (Bv g w.heap.size w w4) := HB3.out.step hb; have HS4 : Hid (RdS w4 g r4) := hs; have HK4 : Hid (Blk w4 w.heap.size _ _) := HK3.out.bl hb (by omega); have HT4 : Hid (Blk w4 w1.heap.size _ _) := HT3.out.bl hb (by omega); have HO4 : Hid (OwnT w4 (w.heap.size + 1) (.slice a1 n1 c1) ls) := HO3.out.blM hb (by omega); have HA4 : Hid (OAL w4 (w.heap.size + 1) (.slice a2 L.length c2) L) := HA3.out.blM hb (by omega); clear hs hb)
        | (go_at_call 116; refine (HN5.out _ HS4.out k0 k8).mono ?_; rintro e w5 ⟨v5, rfl, hoE, hs, hb⟩; obtain ⟨a3, c3, rfl⟩ := OwnE.form hoE; have HB5 : Hid (Bv g w.heap.size w (w5.alloc (.cells #[.int .i64 tk, .int .i64 tn, .string tt, .string nm, .slice a1 n1 c1, .slice a2 L.length c2, .slice a3 es.length c3] 62))) := (HB4.out.step hb).step (Bv.of (below1 _ _)); have HS5 : Hid (RdS (w5.alloc (.cells #[.int .i64 tk, .int .i64 tn, .string tt, .string nm, .slice a1 n1 c1, .slice a2 L.length c2, .slice a3 es.length c3] 62)) g r5) := hs.below (below1 _ _); have HK5 : Hid (Blk (w5.alloc (.cells #[.int .i64 tk, .int .i64 tn, .string tt, .string nm, .slice a1 n1 c1, .slice a2 L.length c2, .slice a3 es.length c3] 62)) w.heap.size _ _) := (HK4.out.bl hb (by omega)).later (below1 _ _); obtain ⟨t0, t1, t2, t3, t4⟩ := five (HT4.out.bl hb (by omega)); have HX5 : Hid (Blk (w5.alloc (.cells #[.int .i64 tk, .int .i64 tn, .string tt, .string nm, .slice a1 n1 c1, .slice a2 L.length c2, .slice a3 es.length c3] 62)) w5.heap.size #[.int .i64 tk, .int .i64 tn, .string tt, .string nm, .slice a1 n1 c1, .slice a2 L.length c2, .slice a3 es.length c3] 62) := Blk.new _ _ _; have HM5 : Hid (MC8 (w.heap.size + 1) (w5.alloc (.cells #[.int .i64 tk, .int .i64 tn, .string tt, .string nm, .slice a1 n1 c1, .slice a2 L.length c2, .slice a3 es.length c3] 62)) (⟨(⟨⟨tk, tn, tt⟩, nm, ls⟩, .slice a1 n1 c1), L, .slice a2 L.length c2, es, .slice a3 es.length c3⟩ : Cm)) := (MC8.mk (HO4.out.blM hb (by omega)) (HA4.out.blM hb (by omega)) (hoE.mono (by have := HK4.out.lt; omega)) : MC8 (w.heap.size + 1) w5 (⟨(⟨⟨tk, tn, tt⟩, nm, ls⟩, .slice a1 n1 c1), L, .slice a2 L.length c2, es, .slice a3 es.length c3⟩ : Cm)).later (below1 _ _); have hKY : Cm.key (⟨(⟨⟨tk, tn, tt⟩, nm, ls⟩, .slice a1 n1 c1), L, .slice a2 L.length c2, es, .slice a3 es.length c3⟩ : Cm) = (⟨⟨tk, tn, tt⟩, nm, ls⟩, bs, es) := (by simp only [Cm.key, fsts]; rw [HLL.out]); have HGC : Hid (GC (Cm.key (⟨(⟨⟨tk, tn, tt⟩, nm, ls⟩, .slice a1 n1 c1), L, .slice a2 L.length c2, es, .slice a3 es.length c3⟩ : Cm))) := (by rw [hKY]; exact HG.out); have HCK : Hid (∀ X, MC8 (w.heap.size + 1) X (⟨(⟨⟨tk, tn, tt⟩, nm, ls⟩, .slice a1 n1 c1), L, .slice a2 L.length c2, es, .slice a3 es.length c3⟩ : Cm) -> Calls Tryz.prog 55 #[Cm.v (⟨(⟨⟨tk, tn, tt⟩, nm, ls⟩, .slice a1 n1 c1), L, .slice a2 L.length c2, es, .slice a3 es.length c3⟩ : Cm)] X fun e w' => e = .returned (.int .i64 0) /\ Below X.heap.size X w') := (fun X hX => by have := check9_any (⟨(⟨⟨tk, tn, tt⟩, nm, ls⟩, .slice a1 n1 c1), L, .slice a2 L.length c2, es, .slice a3 es.length c3⟩ : Cm) X (hX.ok HGC.out) HGC.out.wf; rw [chk_keyK, hKY, hCH] at this; exact this); clear hs hb hoE; obtain ⟨x0, x1, x2, x3, x4, x5, x6⟩ := cseven HX5.out)
        | (go_at_call 55; refine (HCK.out _ HM5.out).mono ?_; rintro e w6 ⟨rfl, hb⟩; have HB6 : Hid (Bv g w.heap.size w w6) := HB5.out.step (Bv.of hb); have HS6 : Hid (RdS w6 g r5) := HS5.out.below hb; have HM6 : Hid (MC8 (w.heap.size + 1) w6 (⟨(⟨⟨tk, tn, tt⟩, nm, ls⟩, .slice a1 n1 c1), L, .slice a2 L.length c2, es, .slice a3 es.length c3⟩ : Cm)) := HM5.out.later hb; have HK6 : Hid (Blk w6 w.heap.size _ _) := HK5.out.later hb; clear x0 x1 x2 x3 x4 x5 x6; obtain ⟨x0, x1, x2, x3, x4, x5, x6⟩ := cseven (HX5.out.later hb); obtain ⟨z0, z1, z2, z3, z4, z5, z6⟩ := cseven HK6.out; obtain ⟨f0, f1, f2, f3, f4, f5, f6⟩ := ff7 HK6.out; clear hb))
       exact bodyPost_ret (v := Cm.v (⟨(⟨⟨tk, tn, tt⟩, nm, ls⟩, .slice a1 n1 c1), L, .slice a2 L.length c2, es, .slice a3 es.length c3⟩ : Cm)) (by simp [results, Tryz.results82, go_sem, z0, z1, z2, z3, z4, z5, z6]) rfl ⟨bset7V HB6.out (Nat.le_refl _), _, rfl, ⟨_, rfl, hKY, HG.out, ((((((((HM6.out.set (by omega)).set (by omega)).set (by omega)).set (by omega)).set (by omega)).set (by omega)).set (by omega)).mono (by omega))⟩, ((((((HS6.out.off hlt).off hlt).off hlt).off hlt).off hlt).off hlt).off hlt⟩
      ·rw [if_neg hc]
       have hne : (ch != 0) = true := by simpa using hc
       go_enter Tryz.func82, Tryz.ntmps82
       go_wp2_with (first
        | (go_at_call 113; refine HN1.out.mono ?_; rintro e w1 ⟨v1, rfl, ⟨y, rfl, hoy⟩, hs, hb⟩; obtain ⟨a1, n1, c1, rfl⟩ := ownT_form8 hoy; have HB1 : Hid (Bv g w.heap.size w (w1.alloc (.cells #[.int .i64 tk, .int .i64 tn, .string tt, .string nm, .slice a1 n1 c1] 58))) := (HL.out.step hb).step (Bv.of (below1 _ _)); have HS1 : Hid (RdS (w1.alloc (.cells #[.int .i64 tk, .int .i64 tn, .string tt, .string nm, .slice a1 n1 c1] 58)) g r1) := hs.below (below1 _ _); have HK1 : Hid (Blk (w1.alloc (.cells #[.int .i64 tk, .int .i64 tn, .string tt, .string nm, .slice a1 n1 c1] 58)) w.heap.size _ _) := (HB.out.bl hb (by omega)).later (below1 _ _); have HT1 : Hid (Blk (w1.alloc (.cells #[.int .i64 tk, .int .i64 tn, .string tt, .string nm, .slice a1 n1 c1] 58)) w1.heap.size #[.int .i64 tk, .int .i64 tn, .string tt, .string nm, .slice a1 n1 c1] 58) := Blk.new _ _ _; have HO1 : Hid (OwnT (w1.alloc (.cells #[.int .i64 tk, .int .i64 tn, .string tt, .string nm, .slice a1 n1 c1] 58)) (w.heap.size + 1) (.slice a1 n1 c1) ls) := (hoy.mono (by simp)).later (below1 _ _); have hz1 : w.heap.size < w1.heap.size := (HB.out.bl hb (by omega)).lt; clear hs hb hoy)
        | (go_at_call 115; refine (HN2.out _ HS1.out).mono ?_; rintro e w2 ⟨v2, rfl, ⟨rfl, -, h8, h0, -⟩, hs, hb⟩; have HB2 : Hid (Bv g w.heap.size w w2) := HB1.out.step hb; have HS2 : Hid (RdS w2 g r2) := hs; have HK2 : Hid (Blk w2 w.heap.size _ _) := HK1.out.bl hb (by omega); have HT2 : Hid (Blk w2 w1.heap.size _ _) := HT1.out.bl hb (by omega); have HO2 : Hid (OwnT w2 (w.heap.size + 1) (.slice a1 n1 c1) ls) := HO1.out.blM hb (by omega); clear hs hb)
        | (go_at_call 114; refine (HN3.out _ HS2.out h0 h8).mono ?_; rintro e w3 ⟨v3, rfl, ⟨L, hL, hoL⟩, hs, hb⟩; obtain ⟨a2, c2, rfl⟩ := OwnA.form hoL.1; have HB3 : Hid (Bv g w.heap.size w w3) := HB2.out.step hb; have HS3 : Hid (RdS w3 g r3) := hs; have HK3 : Hid (Blk w3 w.heap.size _ _) := HK2.out.bl hb (by omega); have HT3 : Hid (Blk w3 w1.heap.size _ _) := HT2.out.bl hb (by omega); have HO3 : Hid (OwnT w3 (w.heap.size + 1) (.slice a1 n1 c1) ls) := HO2.out.blM hb (by omega); have HA3 : Hid (OAL w3 (w.heap.size + 1) (.slice a2 L.length c2) L) := hoL.mono (by have := HK2.out.lt; omega); have HLL : Hid (L.map (·.1) = bs) := hL; clear hs hb hoL hL)
        | (go_at_call 115; refine (HN4.out _ HS3.out).mono ?_; rintro e w4 ⟨v4, rfl, ⟨rfl, -, k8, k0, -⟩, hs, hb⟩; have HB4 : Hid (Bv g w.heap.size w w4) := HB3.out.step hb; have HS4 : Hid (RdS w4 g r4) := hs; have HK4 : Hid (Blk w4 w.heap.size _ _) := HK3.out.bl hb (by omega); have HT4 : Hid (Blk w4 w1.heap.size _ _) := HT3.out.bl hb (by omega); have HO4 : Hid (OwnT w4 (w.heap.size + 1) (.slice a1 n1 c1) ls) := HO3.out.blM hb (by omega); have HA4 : Hid (OAL w4 (w.heap.size + 1) (.slice a2 L.length c2) L) := HA3.out.blM hb (by omega); clear hs hb)
        | (go_at_call 116; refine (HN5.out _ HS4.out k0 k8).mono ?_; rintro e w5 ⟨v5, rfl, hoE, hs, hb⟩; obtain ⟨a3, c3, rfl⟩ := OwnE.form hoE; have HB5 : Hid (Bv g w.heap.size w (w5.alloc (.cells #[.int .i64 tk, .int .i64 tn, .string tt, .string nm, .slice a1 n1 c1, .slice a2 L.length c2, .slice a3 es.length c3] 62))) := (HB4.out.step hb).step (Bv.of (below1 _ _)); have HS5 : Hid (RdS (w5.alloc (.cells #[.int .i64 tk, .int .i64 tn, .string tt, .string nm, .slice a1 n1 c1, .slice a2 L.length c2, .slice a3 es.length c3] 62)) g r5) := hs.below (below1 _ _); have HK5 : Hid (Blk (w5.alloc (.cells #[.int .i64 tk, .int .i64 tn, .string tt, .string nm, .slice a1 n1 c1, .slice a2 L.length c2, .slice a3 es.length c3] 62)) w.heap.size _ _) := (HK4.out.bl hb (by omega)).later (below1 _ _); obtain ⟨t0, t1, t2, t3, t4⟩ := five (HT4.out.bl hb (by omega)); have HX5 : Hid (Blk (w5.alloc (.cells #[.int .i64 tk, .int .i64 tn, .string tt, .string nm, .slice a1 n1 c1, .slice a2 L.length c2, .slice a3 es.length c3] 62)) w5.heap.size #[.int .i64 tk, .int .i64 tn, .string tt, .string nm, .slice a1 n1 c1, .slice a2 L.length c2, .slice a3 es.length c3] 62) := Blk.new _ _ _; have HM5 : Hid (MC8 (w.heap.size + 1) (w5.alloc (.cells #[.int .i64 tk, .int .i64 tn, .string tt, .string nm, .slice a1 n1 c1, .slice a2 L.length c2, .slice a3 es.length c3] 62)) (⟨(⟨⟨tk, tn, tt⟩, nm, ls⟩, .slice a1 n1 c1), L, .slice a2 L.length c2, es, .slice a3 es.length c3⟩ : Cm)) := (MC8.mk (HO4.out.blM hb (by omega)) (HA4.out.blM hb (by omega)) (hoE.mono (by have := HK4.out.lt; omega)) : MC8 (w.heap.size + 1) w5 (⟨(⟨⟨tk, tn, tt⟩, nm, ls⟩, .slice a1 n1 c1), L, .slice a2 L.length c2, es, .slice a3 es.length c3⟩ : Cm)).later (below1 _ _); have hKY : Cm.key (⟨(⟨⟨tk, tn, tt⟩, nm, ls⟩, .slice a1 n1 c1), L, .slice a2 L.length c2, es, .slice a3 es.length c3⟩ : Cm) = (⟨⟨tk, tn, tt⟩, nm, ls⟩, bs, es) := (by simp only [Cm.key, fsts]; rw [HLL.out]); have HGC : Hid (GC (Cm.key (⟨(⟨⟨tk, tn, tt⟩, nm, ls⟩, .slice a1 n1 c1), L, .slice a2 L.length c2, es, .slice a3 es.length c3⟩ : Cm))) := (by rw [hKY]; exact HG.out); have HCK : Hid (∀ X, MC8 (w.heap.size + 1) X (⟨(⟨⟨tk, tn, tt⟩, nm, ls⟩, .slice a1 n1 c1), L, .slice a2 L.length c2, es, .slice a3 es.length c3⟩ : Cm) -> Calls Tryz.prog 55 #[Cm.v (⟨(⟨⟨tk, tn, tt⟩, nm, ls⟩, .slice a1 n1 c1), L, .slice a2 L.length c2, es, .slice a3 es.length c3⟩ : Cm)] X fun e w' => e = .returned (.int .i64 ch) /\ Below X.heap.size X w') := (fun X hX => by have := check9_any (⟨(⟨⟨tk, tn, tt⟩, nm, ls⟩, .slice a1 n1 c1), L, .slice a2 L.length c2, es, .slice a3 es.length c3⟩ : Cm) X (hX.ok HGC.out) HGC.out.wf; rw [chk_keyK, hKY, hCH] at this; exact this); clear hs hb hoE; obtain ⟨x0, x1, x2, x3, x4, x5, x6⟩ := cseven HX5.out)
        | (go_at_call 55; refine (HCK.out _ HM5.out).mono ?_; rintro e w6 ⟨rfl, hb⟩; have HB6 : Hid (Bv g w.heap.size w w6) := HB5.out.step (Bv.of hb); have HS6 : Hid (RdS w6 g r5) := HS5.out.below hb; have HM6 : Hid (MC8 (w.heap.size + 1) w6 (⟨(⟨⟨tk, tn, tt⟩, nm, ls⟩, .slice a1 n1 c1), L, .slice a2 L.length c2, es, .slice a3 es.length c3⟩ : Cm)) := HM5.out.later hb; have HK6 : Hid (Blk w6 w.heap.size _ _) := HK5.out.later hb; clear x0 x1 x2 x3 x4 x5 x6; obtain ⟨x0, x1, x2, x3, x4, x5, x6⟩ := cseven (HX5.out.later hb); obtain ⟨z0, z1, z2, z3, z4, z5, z6⟩ := cseven HK6.out; obtain ⟨f0, f1, f2, f3, f4, f5, f6⟩ := ff7 HK6.out; clear hb)
        | (go_at_call 79; refine (giveUp_any 63 _).mono ?_; rintro e w7 ⟨rfl, rfl⟩))
       exact ⟨rfl, HB6.out, rfl⟩
end Go.Proofs.YtmbmchbninlhpaaGreatDoor
