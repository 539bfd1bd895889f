import Derived.Test.YtelcoihmiglceaaGreatB7
import Derived.Test.YtelcoihmiglceaaGreatCL13
import Derived.Deep.RegionHeld3
import Derived.BigQuiet
import Derived.Test.YtelcoihmiglceaaGreatM2
import Derived.Test.YtelcoihmiglceaaGreatCL12
namespace Go.Proofs.YtelcoihmiglceaaGreat
open Go.RowKit
attribute [local go_sem ↓] Go.wp_at_zero Go.wp_at_succ

instance : DecidableEq At := fun a b => decidable_of_iff (a.by_ = b.by_ /\ a.name = b.name /\ a.args = b.args) (by cases a; cases b; simp)
end Go.Proofs.YtelcoihmiglceaaGreat
namespace Go.Proofs.YtelcoihmiglceaaGreat
open Go.RowKit
attribute [local go_sem ↓] Go.wp_at_zero Go.wp_at_succ

def fsts (l : List (At × Value)) : List At := l.map (·.1)
end Go.Proofs.YtelcoihmiglceaaGreat
namespace Go.Proofs.YtelcoihmiglceaaGreat
open Go.RowKit

def Cm.cmp (c d : Cm) : Int := if c.head.1.cmp d.head.1 ≠ 0 then c.head.1.cmp d.head.1 else if cmpGL cmpX c.body d.body ≠ 0 then cmpGL cmpX c.body d.body else cmpGL Te.cmp c.tests d.tests
set_option maxRecDepth 20000 in
set_option maxHeartbeats 2000000 in
theorem compareC_any (c d : Cm) (w : World) (hc : c.ok w) (hd : d.ok w) : Calls Tryz.prog 71 #[c.v, d.v] w fun e w' => e = .returned (.int .i64 (c.cmp d)) /\ Below w.heap.size w w' := by
 obtain ⟨⟨a1, n1, cap1, x1⟩, ⟨a2, cap2, x2⟩, ⟨a3, cap3, x3⟩, l1, l2⟩ := hc.shape
 obtain ⟨⟨b1, m1, bap1, y1⟩, ⟨b2, bap2, y2⟩, ⟨b3, bap3, y3⟩, l3, l4⟩ := hd.shape
 have hb2 := below2 w (.cells c.cs 30) (.cells d.cs 30)
 have K1 := fun (X : World) (hX : Below ((w.alloc (.cells c.cs 30)).alloc (.cells d.cs 30)).heap.size ((w.alloc (.cells c.cs 30)).alloc (.cells d.cs 30)) X) => cmpA_any c.head.1 d.head.1 c.head.2 d.head.2 X (hc.h.later (below_step hb2 hX)) (hd.h.later (below_step hb2 hX))
 have K2 := fun (X : World) (hX : Below ((w.alloc (.cells c.cs 30)).alloc (.cells d.cs 30)).heap.size ((w.alloc (.cells c.cs 30)).alloc (.cells d.cs 30)) X) => CLAtom_any c.body d.body c.bv d.bv X (hc.b.later (below_step hb2 hX)) (hd.b.later (below_step hb2 hX))
 have K3 := fun (X : World) (hX : Below ((w.alloc (.cells c.cs 30)).alloc (.cells d.cs 30)).heap.size ((w.alloc (.cells c.cs 30)).alloc (.cells d.cs 30)) X) => CLTest_any c.tests d.tests c.tv d.tv X (hc.t.later (below_step hb2 hX)) (hd.t.later (below_step hb2 hX))
 unfold Cm.cmp
 obtain ⟨r1, h1⟩ : ∃ r, c.head.1.cmp d.head.1 = r := ⟨_, rfl⟩
 obtain ⟨r2, h2⟩ : ∃ r, cmpGL cmpX c.body d.body = r := ⟨_, rfl⟩
 obtain ⟨r3, h3⟩ : ∃ r, cmpGL Te.cmp c.tests d.tests = r := ⟨_, rfl⟩
 simp only [h1, h2, h3] at K1 K2 K3 ⊢
 clear h1 h2 h3 hc hd hb2
 obtain ⟨⟨⟨⟨k, m, s⟩, nm, ls⟩, hx⟩, body, bv, tests, tv⟩ := c
 obtain ⟨⟨⟨⟨k', m', s'⟩, nm', ls'⟩, hx'⟩, body', bv', tests', tv'⟩ := d
 simp only at x1 x2 x3 y1 y2 y3 K1 K2 K3 l1 l2 l3 l4
 subst x1 x2 x3 y1 y2 y3
 by_cases q1 : r1 = 0
 ·subst q1
  by_cases q2 : r2 = 0
  ·subst q2
   simp only [ne_eq, not_true, if_false]
   go_enter Tryz.func71, Tryz.ntmps71
   go_wp2_with (first | (go_at_call 111; refine (K1 _ (Below.refl _ _)).mono ?_; clear K1; rintro e w1 ⟨rfl, hb⟩; have HB1 : Hid (Below _ _ w1) := hb; clear hb; obtain ⟨p0, p1, p2, p3, p4, p5, p6⟩ := cseven (two_boxes HB1.out).1; obtain ⟨q0, q1, q2, q3, q4, q5, q6⟩ := cseven (two_boxes HB1.out).2) | (go_at_call 112; refine (K2 _ HB1.out).mono ?_; clear K2; rintro e w2 ⟨rfl, hb⟩; have HB2 : Hid (Below _ _ w2) := (below_step HB1.out hb); clear hb; clear p0 p1 p2 p3 p4 p5 p6 q0 q1 q2 q3 q4 q5 q6; obtain ⟨p0, p1, p2, p3, p4, p5, p6⟩ := cseven (two_boxes HB2.out).1; obtain ⟨q0, q1, q2, q3, q4, q5, q6⟩ := cseven (two_boxes HB2.out).2) | (go_at_call 113; refine (K3 _ HB2.out).mono ?_; clear K3; rintro e w3 ⟨rfl, hb⟩; have HB3 : Hid (Below _ _ w3) := (below_step HB2.out hb); clear hb; clear p0 p1 p2 p3 p4 p5 p6 q0 q1 q2 q3 q4 q5 q6; obtain ⟨p0, p1, p2, p3, p4, p5, p6⟩ := cseven (two_boxes HB3.out).1; obtain ⟨q0, q1, q2, q3, q4, q5, q6⟩ := cseven (two_boxes HB3.out).2))
   go_ret
   exact ⟨rfl, below_step (below2 _ _ _) HB3.out⟩
  ·have n1 : (r2 == 0) = false := beq_eq_false_iff_ne.2 q2
   have n2 : (r2 != 0) = true := by rw [bne, n1]; rfl
   simp only [ne_eq, not_true, if_false, q2, not_false_eq_true, if_true]
   clear q2 K3
   go_enter Tryz.func71, Tryz.ntmps71
   go_wp2_with (first | (go_at_call 111; refine (K1 _ (Below.refl _ _)).mono ?_; clear K1; rintro e w1 ⟨rfl, hb⟩; have HB1 : Hid (Below _ _ w1) := hb; clear hb; obtain ⟨p0, p1, p2, p3, p4, p5, p6⟩ := cseven (two_boxes HB1.out).1; obtain ⟨q0, q1, q2, q3, q4, q5, q6⟩ := cseven (two_boxes HB1.out).2) | (go_at_call 112; refine (K2 _ HB1.out).mono ?_; clear K2; rintro e w2 ⟨rfl, hb⟩; have HB2 : Hid (Below _ _ w2) := (below_step HB1.out hb); clear hb; clear p0 p1 p2 p3 p4 p5 p6 q0 q1 q2 q3 q4 q5 q6; obtain ⟨p0, p1, p2, p3, p4, p5, p6⟩ := cseven (two_boxes HB2.out).1; obtain ⟨q0, q1, q2, q3, q4, q5, q6⟩ := cseven (two_boxes HB2.out).2))
   go_ret
   exact ⟨rfl, below_step (below2 _ _ _) HB2.out⟩
 ·have n1 : (r1 == 0) = false := beq_eq_false_iff_ne.2 q1
  have n2 : (r1 != 0) = true := by rw [bne, n1]; rfl
  rw [if_pos q1]
  clear q1 K2 K3
  go_enter Tryz.func71, Tryz.ntmps71
  go_wp2_with ((go_at_call 111; refine (K1 _ (Below.refl _ _)).mono ?_; clear K1; rintro e w1 ⟨rfl, hb⟩; have HB1 : Hid (Below _ _ w1) := hb; clear hb; obtain ⟨p0, p1, p2, p3, p4, p5, p6⟩ := cseven (two_boxes HB1.out).1; obtain ⟨q0, q1, q2, q3, q4, q5, q6⟩ := cseven (two_boxes HB1.out).2))
  go_ret
  exact ⟨rfl, below_step (below2 _ _ _) HB1.out⟩
end Go.Proofs.YtelcoihmiglceaaGreat
namespace Go.Proofs.YtelcoihmiglceaaGreat

def cmpN {α : Type} (f : α -> α -> Int) : List α -> List α -> Int
 | x :: p, y :: q => if f x y ≠ 0 then f x y else cmpN f p q
 | _, _ => 0
theorem cmpN_ord {α : Type} {f : α -> α -> Int} (hf : Ord3 f) : ∀ n : Nat, (∀ a b : List α, a.length = n -> b.length = n -> (cmpN f a b = -1 ∨ cmpN f a b = 0 ∨ cmpN f a b = 1) /\ cmpN f b a = - cmpN f a b /\ (cmpN f a b = 0 -> a = b)) ∧
  (∀ a b c : List α, a.length = n -> b.length = n -> c.length = n -> cmpN f a b <= 0 -> cmpN f b c <= 0 -> cmpN f a c <= 0 /\ (cmpN f a b < 0 ∨ cmpN f b c < 0 -> cmpN f a c < 0))
 | 0 => by
  refine ⟨fun a b ha hb => ?_, fun a b c ha hb hc => ?_⟩
  ·rw [List.length_eq_zero_iff] at ha hb; subst ha hb; simp [cmpN]
  ·rw [List.length_eq_zero_iff] at ha hb hc; subst ha hb hc; simp [cmpN]
 | n + 1 => by
  have ih := cmpN_ord hf n
  refine ⟨fun a b ha hb => ?_, fun a b c ha hb hc => ?_⟩
  ·match a, b, ha, hb with
   | x :: a, y :: b, ha, hb =>
    have i := ih.1 a b (by simpa using ha) (by simpa using hb)
    have hn := hf.neg x y
    by_cases h : f x y = 0
    ·have e := hf.zero x y h
     simp only [cmpN]
     rw [if_neg (by omega), if_neg (by omega)]
     exact ⟨i.1, i.2.1, fun h' => by rw [e, i.2.2 h']⟩
    ·simp only [cmpN]
     rw [if_pos h, if_pos (by omega)]
     exact ⟨hf.rng x y, hn, fun h' => absurd h' h⟩
  ·match a, b, c, ha, hb, hc with
   | x :: a, y :: b, z :: c, ha, hb, hc =>
    have i := ih.2 a b c (by simpa using ha) (by simpa using hb) (by simpa using hc)
    have t := hf.tr x y z
    simp only [cmpN]
    by_cases h1 : f x y = 0
    ·have e1 := hf.zero _ _ h1
     rw [e1] at h1 ⊢
     by_cases h2 : f y z = 0
     ·simp only [h1, h2, ne_eq, not_true_eq_false, if_false]; exact i
     ·simp only [h1, h2, ne_eq, not_true_eq_false, not_false_eq_true, if_false, if_true]; intro _ h; exact ⟨h, fun _ => by omega⟩
    ·by_cases h2 : f y z = 0
     ·have e2 := hf.zero _ _ h2
      rw [<- e2] at h2 ⊢
      simp only [h1, h2, ne_eq, not_true_eq_false, not_false_eq_true, if_false, if_true]
      intro h _; exact ⟨h, fun _ => by omega⟩
     ·simp only [h1, h2, ne_eq, not_false_eq_true, if_true]
      intro h h'
      have := (t h h').2 (Or.inl (by omega))
      rw [if_pos (by omega)]
      exact ⟨by omega, fun _ => this⟩
def cmpNL {α : Type} (f : α -> α -> Int) (a b : List α) : Int := if M.sgI a.length b.length ≠ 0 then M.sgI a.length b.length else cmpN f a b
theorem cmpNL_ne {α : Type} (f : α -> α -> Int) (a b : List α) (h : a.length ≠ b.length) : cmpNL f a b = M.sgI a.length b.length := by
 unfold cmpNL; rw [if_pos (by rw [ne_eq, zI]; omega)]
theorem cmpNL_eq {α : Type} (f : α -> α -> Int) (a b : List α) (h : a.length = b.length) : cmpNL f a b = cmpN f a b := by
 unfold cmpNL; rw [if_neg (by rw [ne_eq, zI]; omega)]
theorem ord_nl {α : Type} {f : α -> α -> Int} (hf : Ord3 f) : Ord3 (cmpNL f) where
 rng a b := by
  by_cases h : a.length = b.length
  ·rw [cmpNL_eq f a b h]; exact ((cmpN_ord hf _).1 a b rfl h.symm).1
  ·rw [cmpNL_ne f a b h]; exact ord_sgI.rng _ _
 neg a b := by
  by_cases h : a.length = b.length
  ·rw [cmpNL_eq f a b h, cmpNL_eq f b a h.symm]; exact ((cmpN_ord hf _).1 a b rfl h.symm).2.1
  ·rw [cmpNL_ne f a b h, cmpNL_ne f b a (Ne.symm h)]; exact ord_sgI.neg _ _
 zero a b := by
  by_cases h : a.length = b.length
  ·rw [cmpNL_eq f a b h]; exact ((cmpN_ord hf _).1 a b rfl h.symm).2.2
  ·rw [cmpNL_ne f a b h, zI]; omega
 refl a := by
  rw [cmpNL_eq f a a rfl]
  have h := ((cmpN_ord hf _).1 a a rfl rfl).2.1
  omega
 tr a b c := by
  have t := ord_sgI.tr a.length b.length c.length
  have z1 := zI a.length b.length
  have z2 := zI b.length c.length
  have z3 := zI a.length c.length
  by_cases h1 : a.length = b.length
  ·by_cases h2 : b.length = c.length
   ·rw [cmpNL_eq f a b h1, cmpNL_eq f b c h2, cmpNL_eq f a c (h1.trans h2)]
    exact (cmpN_ord hf _).2 a b c rfl h1.symm (h1.trans h2).symm
   ·rw [cmpNL_eq f a b h1, cmpNL_ne f b c h2, cmpNL_ne f a c (by omega), h1]
    intro _ h; exact ⟨h, fun _ => by omega⟩
  ·by_cases h2 : b.length = c.length
   ·rw [cmpNL_ne f a b h1, cmpNL_eq f b c h2, cmpNL_ne f a c (by omega), <- h2]
    intro h _; exact ⟨h, fun _ => by omega⟩
   ·rw [cmpNL_ne f a b h1, cmpNL_ne f b c h2]
    intro h h'
    have := (t h h').2 (Or.inl (by omega))
    rw [cmpNL_ne f a c (by omega)]
    exact ⟨by omega, fun _ => this⟩

theorem cmpG_N {α : Type} (f : α -> α -> Int) : ∀ p q : List α, cmpG f p q = cmpN f p q
 | [], _ => rfl
 | _ :: _, [] => rfl
 | x :: p, y :: q => by
  simp only [cmpG, cmpN]
  by_cases h : f x y = 0
  ·rw [if_pos h, if_neg (by omega), cmpG_N f p q]
  ·rw [if_neg h, if_pos h]
theorem cmpG_X : ∀ p q : List (At × Value), cmpG cmpX p q = cmpG At.cmp (fsts p) (fsts q)
 | [], _ => by simp [fsts, cmpG]
 | _ :: _, [] => by simp [fsts, cmpG]
 | x :: p, y :: q => by
  show (if x.1.cmp y.1 = 0 then cmpG cmpX p q else x.1.cmp y.1) = if x.1.cmp y.1 = 0 then cmpG At.cmp (fsts p) (fsts q) else x.1.cmp y.1
  rw [cmpG_X p q]
theorem cmpGL_N {α : Type} (f : α -> α -> Int) (p q : List α) : cmpGL f p q = cmpNL f p q := by
 unfold cmpGL
 by_cases h : p.length = q.length
 ·rw [if_pos h, cmpNL_eq f _ _ h, cmpG_N]
 ·rw [if_neg h, cmpNL_ne f _ _ h]
theorem cmpGL_X (p q : List (At × Value)) : cmpGL cmpX p q = cmpNL At.cmp (fsts p) (fsts q) := by
 rw [<- cmpGL_N]
 unfold cmpGL
 rw [cmpG_X]
 simp [fsts]
theorem ord_te : Ord3 Te.cmp := by
 have h1 := Ord3.lex (γ := Tm × Tm) ord_tm ord_tm (fun x => x.1) (fun x => x.2) (fun x y h h' => Prod.ext h h')
 have h2 := Ord3.lex (γ := Te) ord_sgI h1 (fun x => x.op) (fun x => (x.l, x.r)) (fun x y h h' => by
  obtain ⟨o, l, r⟩ := x
  obtain ⟨o', l', r'⟩ := y
  simp only [Prod.mk.injEq] at h h'
  rw [h, h'.1, h'.2])
 exact h2
def Cm.key (c : Cm) : At × List At × List Te := (c.head.1, fsts c.body, c.tests)
def cmpC (x y : At × List At × List Te) : Int := if x.1.cmp y.1 ≠ 0 then x.1.cmp y.1 else if cmpNL At.cmp x.2.1 y.2.1 ≠ 0 then cmpNL At.cmp x.2.1 y.2.1 else cmpNL Te.cmp x.2.2 y.2.2
theorem ord_c : Ord3 cmpC := by
 have h1 := Ord3.lex (γ := List At × List Te) (ord_nl ord_at) (ord_nl ord_te) (fun x => x.1) (fun x => x.2) (fun x y h h' => Prod.ext h h')
 exact Ord3.lex (γ := At × List At × List Te) ord_at h1 (fun x => x.1) (fun x => x.2) (fun x y h h' => Prod.ext h h')
theorem cmp_key (c d : Cm) : c.cmp d = cmpC c.key d.key := by
 unfold Cm.cmp cmpC Cm.key
 rw [cmpGL_X, cmpGL_N]
end Go.Proofs.YtelcoihmiglceaaGreat
namespace Go.Proofs.YtelcoihmiglceaaGreat
open Go.RowKit

abbrev Ck := At × List At × List Te
def Ck.terms (x : Ck) : List Tm := x.1.pl ++ (x.2.1.flatMap At.pl ++ tls x.2.2)
theorem key_terms (c : Cm) : c.terms = Ck.terms c.key := by
 rw [Cm.terms_eq, Ck.terms, Cm.key, flt, fsts, List.flatMap_map]; simp
def mapA (f : Tm -> Tm) (a : At) : At := ⟨f a.by_, a.name, a.args.map f⟩
def mapE (f : Tm -> Tm) (t : Te) : Te := ⟨t.op, f t.l, f t.r⟩
def mapC (f : Tm -> Tm) (x : Ck) : Ck := (mapA f x.1, x.2.1.map (mapA f), x.2.2.map (mapE f))
theorem mapA_pl (f : Tm -> Tm) (a : At) : (mapA f a).pl = a.pl.map f := rfl
theorem flat_mapA (f : Tm -> Tm) (l : List At) : (l.map (mapA f)).flatMap At.pl = (l.flatMap At.pl).map f := by
 rw [List.flatMap_map, List.map_flatMap]; rfl
theorem tls_mapE (f : Tm -> Tm) (l : List Te) : tls (l.map (mapE f)) = (tls l).map f := by
 unfold tls; rw [List.flatMap_map, List.map_flatMap]; rfl
theorem mapC_terms (f : Tm -> Tm) (x : Ck) : Ck.terms (mapC f x) = (Ck.terms x).map f := by
 unfold Ck.terms mapC; simp only [mapA_pl, flat_mapA, tls_mapE, List.map_append]
def cut64 (s : ByteArray) : ByteArray := s.extract 0 (min s.size 64)
def mkC (t : Tm) : Tm := if t.con = true then t else if t.k = 2 then ⟨2, 0, cut64 t.s⟩ else ⟨1, t.n, ⟨#[]⟩⟩
def fixT (t : Tm) : Tm := if t.var = true then t else mkC t
def nmP : ByteArray := ⟨#[112]⟩
def mkA (a : At) : At := ⟨if qualOk a.by_ = true then a.by_ else zt, if nameOk a.name = true then a.name else nmP, (a.args.take 8).map fixT⟩
def grd (t : Tm) : Tm := if t.k = 3 then ⟨1, t.n, ⟨#[]⟩⟩ else t
def sf (l : List Tm) (t : Tm) : Tm := if t ∈ l then t else grd t
def opF (o : Int) : Int := if o < 1 ∨ 4 < o then 1 + ((o.tmod 4) + 4).tmod 4 else o
def mkE (b : List Tm) (t : Te) : Te := ⟨opF t.op, sf b (fixT t.l), sf b (fixT t.r)⟩
theorem cut64_size (s : ByteArray) : (cut64 s).size <= 64 := by
 unfold cut64; rw [ByteArray.size_extract]; omega
theorem mkC_con (t : Tm) : (mkC t).con = true := by
 unfold mkC
 by_cases h : t.con = true
 ·rw [if_pos h]; exact h
 ·rw [if_neg h]
  by_cases h2 : t.k = 2
  ·rw [if_pos h2]; simp [Tm.con, cut64_size]
  ·rw [if_neg h2]; simp [Tm.con]
theorem fixT_cov (t : Tm) : (fixT t).cov = true := by
 unfold fixT
 by_cases h : t.var = true
 ·rw [if_pos h]; simp [Tm.cov, h]
 ·rw [if_neg h]; simp [Tm.cov, mkC_con]
theorem sf_cov {b : List Tm} {t : Tm} (h : t.cov = true) : (sf b t).cov = true := by
 unfold sf
 by_cases hm : t ∈ b
 ·rw [if_pos hm]; exact h
 ·rw [if_neg hm]
  unfold grd
  by_cases h3 : t.k = 3
  ·rw [if_pos h3]; simp [Tm.cov, Tm.con]
  ·rw [if_neg h3]; exact h
theorem sf_var {b : List Tm} {t : Tm} (h : (sf b t).var = true) : sf b t ∈ b := by
 unfold sf at *
 by_cases hm : t ∈ b
 ·rw [if_pos hm]; exact hm
 ·rw [if_neg hm] at h
  unfold grd at h
  by_cases h3 : t.k = 3
  ·rw [if_pos h3] at h; simp [Tm.var] at h
  ·rw [if_neg h3] at h; simp only [Tm.var, decide_eq_true_eq] at h; exact absurd h.1 h3
theorem opF_ok (o : Int) : 1 <= opF o /\ opF o <= 4 := by
 unfold opF
 by_cases h : o < 1 ∨ 4 < o
 ·rw [if_pos h]
  have h1 := Int.tmod_lt_of_pos o (show (0 : Int) < 4 by omega)
  have h2 : -4 < o.tmod 4 := Int.lt_tmod_of_pos o (by omega)
  have h3 : ((o.tmod 4) + 4).tmod 4 = ((o.tmod 4) + 4) % 4 := Int.tmod_eq_emod_of_nonneg (by omega)
  rw [h3]; omega
 ·rw [if_neg h]; omega
theorem mkE_ok (b : List Tm) (t : Te) : (mkE b t).ok = true := by
 have := opF_ok t.op
 simp [mkE, Te.ok, this, sf_cov, fixT_cov]
theorem err_zero {a : At} (h1 : nameOk a.name = true) (h2 : a.args.length <= 8) (h3 : qualOk a.by_ = true) (h4 : ∀ t ∈ a.args, t.cov = true) : a.err = 0 := by
 unfold At.err
 rw [if_neg (by rw [h1]; simp), if_neg (by omega), if_neg (by rw [h3]; simp), if_pos (by rw [List.all_eq_true]; exact h4)]
theorem err_zero' {a : At} (h : a.err = 0) : nameOk a.name = true /\ a.args.length <= 8 /\ qualOk a.by_ = true /\ ∀ t ∈ a.args, t.cov = true := by
 unfold At.err at h
 split at h
 ·cases h
 split at h
 ·cases h
 split at h
 ·cases h
 split at h
 ·rename_i a1 a2 a3 a4
  exact ⟨by simpa using a1, by omega, by simpa using a3, by rwa [List.all_eq_true] at a4⟩
 ·cases h
theorem qual_zt : qualOk zt = true := by simp [qualOk]
theorem mkA_err (hp : nameOk nmP = true) (a : At) : (mkA a).err = 0 := by
 refine err_zero ?_ ?_ ?_ ?_
 ·unfold mkA; simp only
  split
  ·assumption
  ·exact hp
 ·simp [mkA]; omega
 ·unfold mkA; simp only
  split
  ·assumption
  ·exact qual_zt
 ·intro t ht
  simp only [mkA, List.mem_map] at ht
  obtain ⟨u, -, rfl⟩ := ht
  exact fixT_cov u
def dstepT (acc : List Tm) (x : Tm) : List Tm := if x ∈ acc then acc else acc ++ [x]
def disT (l : List Tm) : List Tm := (l.filter Tm.var).foldl dstepT []
theorem dstepT_mem {acc : List Tm} {x y : Tm} : y ∈ dstepT acc x ↔ y ∈ acc ∨ y = x := by
 unfold dstepT
 by_cases h : x ∈ acc
 ·rw [if_pos h]
  exact ⟨Or.inl, fun e => e.elim id fun e => e ▸ h⟩
 ·rw [if_neg h]; simp
theorem foldT_mem : ∀ {l acc : List Tm} {y : Tm}, y ∈ l.foldl dstepT acc ↔ y ∈ acc ∨ y ∈ l
 | [], acc, y => by simp
 | x :: l, acc, y => by rw [List.foldl_cons, foldT_mem, dstepT_mem, List.mem_cons, or_assoc]
theorem disT_mem {l : List Tm} {y : Tm} : y ∈ disT l ↔ y ∈ l /\ y.var = true := by
 unfold disT; rw [foldT_mem, List.mem_filter]; simp
theorem foldT_pre : ∀ (l acc : List Tm), acc <+: l.foldl dstepT acc
 | [], acc => List.prefix_rfl
 | x :: l, acc => by
  rw [List.foldl_cons]
  refine List.IsPrefix.trans ?_ (foldT_pre l _)
  unfold dstepT
  split
  ·exact List.prefix_rfl
  ·exact List.prefix_append _ _
def ix : List Tm -> Tm -> Nat
 | [], _ => 0
 | x :: l, t => if x = t then 0 else ix l t + 1
theorem ix_lt : ∀ {l : List Tm} {t : Tm}, t ∈ l -> ix l t < l.length
 | x :: l, t, h => by
  rw [ix]
  by_cases e : x = t
  ·rw [if_pos e]; simp
  ·rw [if_neg e]
   have := ix_lt (l := l) (t := t) (by rcases List.mem_cons.1 h with h | h; exact absurd h.symm e; exact h)
   simp only [List.length_cons]; omega
theorem ix_app : ∀ {p q : List Tm} {t : Tm}, t ∈ p -> ix (p ++ q) t = ix p t
 | x :: l, q, t, h => by
  rw [List.cons_append, ix, ix]
  by_cases e : x = t
  ·rw [if_pos e, if_pos e]
  ·rw [if_neg e, if_neg e, ix_app (by rcases List.mem_cons.1 h with h | h; exact absurd h.symm e; exact h)]
theorem ix_new : ∀ {p : List Tm} {t : Tm}, ¬ t ∈ p -> ix (p ++ [t]) t = p.length
 | [], t, _ => by simp [ix]
 | x :: l, t, h => by
  rw [List.cons_append, ix, if_neg (fun e => h (by simp [e])), ix_new (fun e => h (by simp [e]))]; rfl
theorem ix_at : ∀ {l : List Tm} {t : Tm} {j : Nat}, l[j]? = some t -> (¬ t ∈ l.take j) -> ix l t = j
 | x :: l, t, 0, h, _ => by simp at h; rw [ix, if_pos h]
 | x :: l, t, j + 1, h, hn => by
  rw [List.take_succ_cons, List.mem_cons, not_or] at hn
  rw [List.getElem?_cons_succ] at h
  rw [ix, if_neg (fun e => hn.1 e.symm), ix_at h hn.2]
def nmT (vs : List Tm) (t : Tm) : Tm := if t ∈ vs then ⟨3, (ix vs t : Nat), ⟨#[]⟩⟩ else t
def normC (x : Ck) : Ck := mapC (nmT (disT (Ck.terms x))) x
theorem idxOf_pre {p q : List Tm} {t : Tm} (h : p <+: q) (ht : t ∈ p) : ix q t = ix p t := by
 obtain ⟨r, rfl⟩ := h
 exact ix_app ht
theorem mis_idx : ∀ (l acc : List Tm), mis acc.length (l.map fun t => ((ix (l.foldl dstepT acc) t : Nat) : Int)) = false
 | [], _ => rfl
 | t :: r, acc => by
  rw [List.map_cons, List.foldl_cons]
  have hpre := foldT_pre r (dstepT acc t)
  have ih := mis_idx r (dstepT acc t)
  by_cases h : t ∈ acc
  ·have e : dstepT acc t = acc := if_pos h
   rw [e] at hpre ih ⊢
   have e2 := idxOf_pre hpre h
   have e3 := ix_lt h
   rw [mis, if_neg (by rw [e2]; omega), if_neg (by rw [e2]; omega)]
   exact ih
  ·have e : dstepT acc t = acc ++ [t] := if_neg h
   rw [e] at hpre ih ⊢
   have e2 := idxOf_pre hpre (t := t) (by simp)
   have e3 : ix (acc ++ [t]) t = acc.length := ix_new h
   rw [mis, if_neg (by rw [e2, e3]; omega), if_pos (by rw [e2, e3])]
   rw [List.length_append, List.length_singleton] at ih
   exact_mod_cast ih
theorem nmT_var (vs : List Tm) (t : Tm) (h : ∀ u ∈ vs, u.var = true) : (nmT vs t).var = t.var := by
 unfold nmT
 by_cases hm : t ∈ vs
 ·rw [if_pos hm, h t hm]; simp [Tm.var]
 ·rw [if_neg hm]
theorem norm_vars (x : Ck) : vrs (Ck.terms (normC x)) = ((Ck.terms x).filter Tm.var).map fun t => (ix (((Ck.terms x).filter Tm.var).foldl dstepT []) t : Int) := by
 unfold normC
 rw [mapC_terms, vrs, List.filter_map, List.map_map]
 have e : List.filter (Tm.var ∘ nmT (disT (Ck.terms x))) (Ck.terms x) = List.filter Tm.var (Ck.terms x) := List.filter_congr fun t ht => nmT_var _ _ (fun u hu => (disT_mem.1 hu).2)
 rw [e]
 refine List.map_congr_left fun t ht => ?_
 have hm : t ∈ disT (Ck.terms x) := disT_mem.2 (List.mem_filter.1 ht)
 simp only [Function.comp, nmT, if_pos hm]
 rfl
theorem norm_mis (x : Ck) : mis 0 (vrs (Ck.terms (normC x))) = false := by
 rw [norm_vars]; exact mis_idx _ []
structure Val0 (x : Ck) : Prop where
 e : ∀ a ∈ x.1 :: x.2.1, a.err = 0
 t : ∀ a ∈ x.2.2, a.ok = true
 bl : x.2.1.length <= 8
 tl : x.2.2.length <= 8
 h : x.1.by_.var = false
 s : ∀ t ∈ x.1.pl ++ tls x.2.2, t.var = true -> t ∈ x.2.1.flatMap At.pl
theorem chk_zero {c : Cm} (h1 : ∀ a ∈ c.key.1 :: c.key.2.1, a.err = 0) (h2 : ∀ a ∈ c.key.2.2, a.ok = true) (h3 : c.key.2.1.length <= 8) (h4 : c.key.2.2.length <= 8) (h5 : c.key.1.by_.var = false)
  (h6 : ∀ t ∈ c.key.1.pl ++ tls c.key.2.2, t.var = true -> t ∈ c.key.2.1.flatMap At.pl) (h7 : mis 0 (vrs (Ck.terms c.key)) = false) : c.chk = 0 := by
 have a1 : long c = false := by
  simp only [Cm.key, fsts, List.length_map] at h3 h4
  simp [long]; omega
 have a2 : aErr c.atoms = 0 := aErr_zero fun y hy => by
  rcases List.mem_cons.1 hy with rfl | hy
  ·exact h1 _ (by simp [Cm.key])
  ·exact h1 _ (by simp only [Cm.key, fsts, List.mem_cons, List.mem_map]; exact Or.inr ⟨y, hy, rfl⟩)
 have a3 : badT c = false := by
  unfold badT; rw [List.any_eq_false]; intro t ht; rw [h2 t ht]; simp
 have a5 : unb c = false := unb_no fun v hv => by
  have e1 : c.restC.vars = vrs c.restC.terms := rfl
  have e2 : c.bodyC.vars = vrs c.bodyC.terms := rfl
  rw [e1, restC_terms, vrs] at hv
  rw [e2, bodyC_terms, vrs]
  obtain ⟨t, ht, rfl⟩ := List.mem_map.1 hv
  obtain ⟨ht, hvt⟩ := List.mem_filter.1 ht
  have := h6 t ht hvt
  refine List.mem_map.2 ⟨t, List.mem_filter.2 ⟨List.mem_cons_of_mem _ ?_, hvt⟩, rfl⟩
  rw [flt]
  simpa [Cm.key, fsts, List.flatMap_map] using this
 have a6 : mis 0 c.vars = false := by
  have : c.vars = vrs c.terms := rfl
  rw [this, key_terms]; exact h7
 have a4 : c.head.1.by_.var = false := h5
 simp [Cm.chk, Cm.rs, chkL, a1, a2, a3, a4, a5, a6]
theorem nmT_cov {vs : List Tm} {t : Tm} (h : t.cov = true) : (nmT vs t).cov = true := by
 unfold nmT
 by_cases hm : t ∈ vs
 ·rw [if_pos hm]; simp [Tm.cov, Tm.var]
 ·rw [if_neg hm]; exact h
theorem nmT_qual {vs : List Tm} {t : Tm} (h : qualOk t = true) : qualOk (nmT vs t) = true := by
 unfold nmT
 by_cases hm : t ∈ vs
 ·rw [if_pos hm]
  have : Tm.var ⟨3, (ix vs t : Nat), ⟨#[]⟩⟩ = true := by simp [Tm.var]
  simp [qualOk, this]
 ·rw [if_neg hm]; exact h
theorem norm_val {x : Ck} (h : Val0 x) : Val0 (normC x) := by
 have hv : ∀ t ∈ Ck.terms x, (nmT (disT (Ck.terms x)) t).var = t.var := fun t ht => nmT_var _ _ (fun u hu => (disT_mem.1 hu).2)
 have he : ∀ a : At, a.err = 0 -> (mapA (nmT (disT (Ck.terms x))) a).err = 0 := fun a ha => by
  obtain ⟨h1, h2, h3, h4⟩ := err_zero' ha
  refine err_zero h1 (by simpa [mapA] using h2) (nmT_qual h3) fun t ht => ?_
  obtain ⟨u, hu, rfl⟩ := List.mem_map.1 ht
  exact nmT_cov (h4 u hu)
 refine ⟨fun a ha => ?_, fun a ha => ?_, by simpa [normC, mapC] using h.bl, by simpa [normC, mapC] using h.tl, ?_, fun t ht hvt => ?_⟩
 ·rcases List.mem_cons.1 ha with rfl | ha
  ·exact he _ (h.e _ (by simp))
  ·obtain ⟨b, hb, rfl⟩ := List.mem_map.1 ha
   exact he _ (h.e _ (by simp [hb]))
 ·obtain ⟨b, hb, rfl⟩ := List.mem_map.1 ha
  have := h.t b hb
  simp only [Te.ok, Bool.and_eq_true, mapE] at this ⊢
  exact ⟨this.1, nmT_cov this.2.1, nmT_cov this.2.2⟩
 ·exact (hv x.1.by_ (by simp [Ck.terms, At.pl])).trans h.h
 ·have e : (normC x).1.pl ++ tls (normC x).2.2 = (x.1.pl ++ tls x.2.2).map (nmT (disT (Ck.terms x))) := by
   rw [List.map_append, normC, mapC]; simp only [mapA_pl, tls_mapE]
  rw [e] at ht
  obtain ⟨u, hu, rfl⟩ := List.mem_map.1 ht
  have hut : u ∈ Ck.terms x := by
   unfold Ck.terms; rcases List.mem_append.1 hu with hu | hu <;> simp [hu]
  rw [hv u hut] at hvt
  have := h.s u hu hvt
  have e2 : (normC x).2.1.flatMap At.pl = (x.2.1.flatMap At.pl).map (nmT (disT (Ck.terms x))) := by rw [normC, mapC]; exact flat_mapA _ _
  rw [e2]
  exact List.mem_map.2 ⟨u, this, rfl⟩
def made0 (x : Ck) : Ck :=
 let b := (x.2.1.take 8).map mkA
 let h := mkA x.1
 (⟨if h.by_.k = 3 then zt else h.by_, h.name, h.args.map (sf (b.flatMap At.pl))⟩, b, (x.2.2.take 8).map (mkE (b.flatMap At.pl)))
def madeK (x : Ck) : Ck := normC (made0 x)
theorem made0_val (hp : nameOk nmP = true) (x : Ck) : Val0 (made0 x) := by
 refine ⟨fun a ha => ?_, fun a ha => ?_, by simp [made0]; omega, by simp [made0]; omega, ?_, fun t ht hv => ?_⟩
 ·rcases List.mem_cons.1 ha with rfl | ha
  ·obtain ⟨h1, h2, h3, h4⟩ := err_zero' (mkA_err hp x.1)
   refine err_zero h1 (by simpa [made0] using h2) ?_ fun t ht => ?_
   ·simp only [made0]
    split
    ·exact qual_zt
    ·exact h3
   ·obtain ⟨u, hu, rfl⟩ := List.mem_map.1 ht
    exact sf_cov (h4 u hu)
  ·obtain ⟨b, hb, rfl⟩ := List.mem_map.1 ha
   exact mkA_err hp b
 ·obtain ⟨b, hb, rfl⟩ := List.mem_map.1 ha
  exact mkE_ok _ _
 ·simp only [made0]
  split
  ·simp [Tm.var, zt]
  ·rename_i h; simp [Tm.var, h]
 ·rcases List.mem_append.1 ht with ht | ht
  ·rcases List.mem_cons.1 ht with rfl | ht
   ·exfalso
    simp only [made0] at hv
    split at hv
    ·simp [Tm.var, zt] at hv
    ·rename_i h; simp [Tm.var, h] at hv
   ·obtain ⟨u, hu, rfl⟩ := List.mem_map.1 ht
    exact sf_var hv
  ·obtain ⟨e, he, ht⟩ := List.mem_flatMap.1 ht
   obtain ⟨b, hb, rfl⟩ := List.mem_map.1 he
   simp only [mkE, List.mem_cons, List.not_mem_nil, or_false] at ht
   rcases ht with rfl | rfl <;> exact sf_var hv
theorem made_val (hp : nameOk nmP = true) (x : Ck) : Val0 (madeK x) := norm_val (made0_val hp x)
theorem made_chk (hp : nameOk nmP = true) {c : Cm} {x : Ck} (h : c.key = madeK x) : c.chk = 0 := by
 have hv := made_val hp x
 rw [<- h] at hv
 exact chk_zero hv.e hv.t hv.bl hv.tl hv.h hv.s (by rw [h]; exact norm_mis _)
end Go.Proofs.YtelcoihmiglceaaGreat
