import Derived.Test.YtcejljehjhlonaaGreatDoorB5
import Derived.Test.YtcejljehjhlonaaGreatDoorSD10
import Derived.Test.YtcejljehjhlonaaGreatDoorMD1
namespace Go.Proofs.YtcejljehjhlonaaGreatDoor
open Go.RowKit

def Cm.szs (c : Cm) : Prop := (c.head.1.name.size <= maxLen /\ ∀ t ∈ c.head.1.pl, t.s.size <= maxLen) /\ (∀ x ∈ c.body, x.1.name.size <= maxLen /\ ∀ t ∈ x.1.pl, t.s.size <= maxLen) /\ ∀ t ∈ c.tests, t.szs
theorem Ts.frm {w : World} {v : Value} {l : List Tm} (h : Ts w v l) : ∃ a n c, v = .slice a n c := by obtain ⟨a, c, e, -⟩ := h; exact ⟨a, _, c, e⟩
theorem As.tsM {w : World} {v : Value} {l : List (At × Value)} (h : As w v l) {x : At × Value} (hx : x ∈ l) : Ts w x.2 x.1.args := by obtain ⟨-, -, -, -, -, h⟩ := h; exact h x hx
theorem As.row_ {w : World} {a : Option Addr} {n cap j : Nat} {l : List (At × Value)} {x : At × Value} (h : As w (.slice a n cap) l) (hx : l[j]? = some x) : ∃ b o, a = some ⟨b, o, none⟩ /\ b < w.heap.size ∧
  w.cell? ⟨b, o + j * 5, none⟩ = some (.int .i64 x.1.by_.k) /\ w.cell? ⟨b, o + j * 5 + 1, none⟩ = some (.int .i64 x.1.by_.n) /\ w.cell? ⟨b, o + j * 5 + 2, none⟩ = some (.string x.1.by_.s) /\ w.cell? ⟨b, o + j * 5 + 3, none⟩ = some (.string x.1.name) /\ w.cell? ⟨b, o + j * 5 + 4, none⟩ = some x.2 := by
 obtain ⟨a', cap', e, -, hm, -⟩ := h
 simp only [Value.slice.injEq] at e
 obtain ⟨rfl, -, -⟩ := e
 rcases hm with rfl | ⟨b, o, rfl, hm⟩
 ·simp at hx
 ·exact ⟨b, o, rfl, hm.1, hm.2 j x hx⟩
theorem Es.row_ {w : World} {a : Option Addr} {n cap j : Nat} {l : List Te} {t : Te} (h : Es w (.slice a n cap) l) (hx : l[j]? = some t) : ∃ b o, a = some ⟨b, o, none⟩ /\ b < w.heap.size ∧
  w.cell? ⟨b, o + j * 7, none⟩ = some (.int .i64 t.op) /\ w.cell? ⟨b, o + j * 7 + 1, none⟩ = some (.int .i64 t.l.k) /\ w.cell? ⟨b, o + j * 7 + 2, none⟩ = some (.int .i64 t.l.n) /\ w.cell? ⟨b, o + j * 7 + 3, none⟩ = some (.string t.l.s) ∧
  w.cell? ⟨b, o + j * 7 + 4, none⟩ = some (.int .i64 t.r.k) /\ w.cell? ⟨b, o + j * 7 + 5, none⟩ = some (.int .i64 t.r.n) /\ w.cell? ⟨b, o + j * 7 + 6, none⟩ = some (.string t.r.s) := by
 obtain ⟨a', cap', e, -, hm⟩ := h
 simp only [Value.slice.injEq] at e
 obtain ⟨rfl, -, -⟩ := e
 rcases hm with rfl | ⟨b, o, rfl, hm⟩
 ·simp at hx
 ·exact ⟨b, o, rfl, hm.1, hm.2 j t hx⟩
set_option maxRecDepth 20000 in
set_option maxHeartbeats 8000000 in
theorem rcompareC_any (c d : Cm) (w : World) (hc : c.ok w) (hd : d.ok w) (zc : c.szs) (zd : d.szs) : Calls Tryz.prog 51 #[c.v, d.v] w fun e w' => e = .returned (.int .i64 (c.cmp d)) /\ Below w.heap.size w w' := by
 obtain ⟨⟨a1, a2, a3, x1⟩, ⟨b1, b3, x2⟩, ⟨t1, t3, x3⟩, l1, l2⟩ := hc.shape
 obtain ⟨⟨c1, c2, c3, y1⟩, ⟨d1, d3, y2⟩, ⟨e1, e3, y3⟩, l3, l4⟩ := hd.shape
 have K1 := fun (X : World) (hX : Below w.heap.size w X) => rcmpA_any c.head.1 d.head.1 c.head.2 d.head.2 X (hc.h.later hX) (hd.h.later hX) zc.1.2 zd.1.2 zc.1.1 zd.1.1
 have HOB : Hid (As w c.bv c.body) := hc.b
 have HPB : Hid (As w d.bv d.body) := hd.b
 have HZB : Hid (∀ x ∈ c.body, x.1.name.size <= maxLen /\ ∀ t ∈ x.1.pl, t.s.size <= maxLen) := zc.2.1
 have HZD : Hid (∀ x ∈ d.body, x.1.name.size <= maxLen /\ ∀ t ∈ x.1.pl, t.s.size <= maxLen) := zd.2.1
 have HOT : Hid (Es w c.tv c.tests) := hc.t
 have HPT : Hid (Es w d.tv d.tests) := hd.t
 have HYC : Hid (∀ t ∈ c.tests, t.szs) := zc.2.2
 have HYD : Hid (∀ t ∈ d.tests, t.szs) := zd.2.2
 have HRR : Hid (c.cmp d = if c.head.1.cmp d.head.1 ≠ 0 then c.head.1.cmp d.head.1 else if cmpGL cmpX c.body d.body ≠ 0 then cmpGL cmpX c.body d.body else cmpGL Te.cmp c.tests d.tests) := rfl
 obtain ⟨R, hR⟩ : ∃ R, c.cmp d = R := ⟨_, rfl⟩
 rw [hR] at HRR ⊢
 obtain ⟨r1, hr1⟩ : ∃ r, c.head.1.cmp d.head.1 = r := ⟨_, rfl⟩
 rw [hr1] at HRR
 simp only [hr1] at K1
 have hb2 := below2 w (.cells c.cs 60) (.cells d.cs 60)
 clear hc hd zc zd hR hr1
 obtain ⟨⟨⟨⟨k, m, s⟩, nm, ls⟩, hx⟩, p, bv, tp, tv⟩ := c
 obtain ⟨⟨⟨⟨k', m', s'⟩, nm', ls'⟩, hx'⟩, q, bv', tq, tv'⟩ := d
 simp only at x1 x2 x3 y1 y2 y3 K1 HRR l1 l2 l3 l4 HOB HPB HZB HZD HOT HPT HYC HYD hb2
 subst x1 x2 x3 y1 y2 y3
 have K1' := K1 _ hb2
 clear K1
 go_enter Tryz.func51, Tryz.ntmps51
 go_upto_region 2 with (go_at_call 52; refine K1'.mono ?_; clear K1'; rintro e w1 ⟨rfl, hb⟩; have HC : Hid (CBlk w1 w.heap.size #[.int .i64 k, .int .i64 m, .string s, .string nm, .slice a1 a2 a3, .slice b1 p.length b3, .slice t1 tp.length t3] 60) := (two_boxes hb).1; have HD : Hid (CBlk w1 (w.heap.size + 1) #[.int .i64 k', .int .i64 m', .string s', .string nm', .slice c1 c2 c3, .slice d1 q.length d3, .slice e1 tq.length e3] 60) := (two_boxes hb).2; have HB1 : Hid (Below w.heap.size w w1) := below_step hb2 hb; clear hb hb2)
 obtain ⟨p0, p1, p2, p3, p4, p5, p6⟩ := cseven HC.out
 obtain ⟨q0, q1, q2, q3, q4, q5, q6⟩ := cseven HD.out
 by_cases h1 : r1 = 0
 ·subst h1
  have HR2 : Hid (R = if cmpGL cmpX p q ≠ 0 then cmpGL cmpX p q else cmpGL Te.cmp tp tq) := by show R = _; have := HRR.out; simpa using this
  clear HRR
  by_cases hl : p.length = q.length
  ·have HLL : Hid (p.length = q.length) := hl
   obtain ⟨r2, hr2⟩ : ∃ r, cmpG cmpX p q = r := ⟨_, rfl⟩
   have HR3 : Hid (R = if r2 ≠ 0 then r2 else cmpGL Te.cmp tp tq) := by show R = _; rw [HR2.out, show cmpGL cmpX p q = r2 by unfold cmpGL; rw [if_pos hl, hr2]]
   have HST : Hid (cmpG cmpX (p.drop 0) (q.drop 0) = r2) := hr2
   have HN : Hid (∀ X, Calls Tryz.prog 77 #[.int .i64 (p.length : Int), .int .i64 (q.length : Int)] X fun e w' => e = .returned (.int .i64 0) /\ w' = X) := fun X => by have := snumber_any (p.length : Int) (q.length : Int) X; rw [sgI_zero.2 (by omega)] at this; exact this
   clear HR2 hr2 hl
   go_upto_region 4 with (go_at_call 77; refine (HN.out _).mono ?_; clear HN; rintro e w2 ⟨rfl, hw⟩; have hw := hw.symm; subst hw)
   clear p0 p1 p2 p3 p4 p5 p6 q0 q1 q2 q3 q4 q5 q6
   go_wp2
   go_loopg [5, 6] p.length (fun g u i wr => ∃ (j : Nat) (N : Int), j + g = p.length /\ i = .int .i64 (j : Int) /\ u = .int .i64 N /\ ((N ≠ 0 /\ N = r2) ∨ (N = 0 /\ cmpG cmpX (p.drop j) (q.drop j) = r2)) /\ CBlk wr w.heap.size #[.int .i64 k, .int .i64 m, .string s, .string nm, .slice a1 a2 a3, .slice b1 p.length b3, .slice t1 tp.length t3] 60 /\ CBlk wr (w.heap.size + 1) #[.int .i64 k', .int .i64 m', .string s', .string nm', .slice c1 c2 c3, .slice d1 q.length d3, .slice e1 tq.length e3] 60 /\ Below w.heap.size w wr)
   case atStart => exact ⟨0, 0, by omega, rfl, rfl, Or.inr ⟨rfl, HST.out⟩, HC.out, HD.out, HB1.out⟩
   case round =>
    clear HC HD HB1 HST
    obtain ⟨j, N, hg, rfl, rfl, hN, hcb, hdb, hb⟩ := hrel
    have HC : Hid (CBlk wr w.heap.size #[.int .i64 k, .int .i64 m, .string s, .string nm, .slice a1 a2 a3, .slice b1 p.length b3, .slice t1 tp.length t3] 60) := hcb
    have HD : Hid (CBlk wr (w.heap.size + 1) #[.int .i64 k', .int .i64 m', .string s', .string nm', .slice c1 c2 c3, .slice d1 q.length d3, .slice e1 tq.length e3] 60) := hdb
    have HB : Hid (Below w.heap.size w wr) := hb
    clear hcb hdb hb
    obtain ⟨p0, p1, p2, p3, p4, p5, p6⟩ := cseven HC.out
    obtain ⟨q0, q1, q2, q3, q4, q5, q6⟩ := cseven HD.out
    by_cases hN0 : N = 0
    ·subst hN0
     have hcm : cmpG cmpX (p.drop j) (q.drop j) = r2 := by
      rcases hN with ⟨h, -⟩ | ⟨-, h⟩
      ·exact absurd rfl h
      ·exact h
     clear hN
     by_cases hj : j < p.length
     ·obtain ⟨g, rfl⟩ : ∃ g, gk = g + 1 := ⟨gk - 1, by omega⟩
      have i0 : (0 : Int) <= (j : Int) := by omega
      have i1 : (j : Int) < (p.length : Int) := by omega
      have i2 : (j : Int) < (q.length : Int) := by have := HLL.out; omega
      obtain ⟨x, hx⟩ : ∃ x, p[j]? = some x := ⟨_, List.getElem?_eq_getElem hj⟩
      obtain ⟨y, hy⟩ : ∃ y, q[j]? = some y := ⟨_, List.getElem?_eq_getElem (by have := HLL.out; omega)⟩
      obtain ⟨sb, so, hb1, hz1, hsv⟩ := As.row_ (HOB.out.later HB.out) hx
      obtain ⟨sd, sq, hb2, hz2, hsw⟩ := As.row_ (HPB.out.later HB.out) hy
      subst hb1 hb2
      obtain ⟨r, hr⟩ : ∃ r, cmpX x y = r := ⟨_, rfl⟩
      have HCS0 := fun (Y : World) (hY : Below wr.heap.size wr Y) => rcmpA_any x.1 y.1 x.2 y.2 Y ((As.tsM HOB.out (List.mem_of_getElem? hx)).later (below_step HB.out hY)) ((As.tsM HPB.out (List.mem_of_getElem? hy)).later (below_step HB.out hY)) (HZB.out x (List.mem_of_getElem? hx)).2 (HZD.out y (List.mem_of_getElem? hy)).2 (HZB.out x (List.mem_of_getElem? hx)).1 (HZD.out y (List.mem_of_getElem? hy)).1
      have hr0 : x.1.cmp y.1 = r := hr
      simp only [hr0] at HCS0
      clear hr0
      have fx := (As.tsM HOB.out (List.mem_of_getElem? hx)).frm
      have fy := (As.tsM HPB.out (List.mem_of_getElem? hy)).frm
      have HNX : Hid ((r ≠ 0 /\ r = r2) ∨ (r = 0 /\ cmpG cmpX (p.drop (j + 1)) (q.drop (j + 1)) = r2)) := by
       by_cases h0 : r = 0
       ·exact Or.inr ⟨h0, by rw [<- hcm, cmpG_eq hx hy (by rw [hr]; exact h0)]⟩
       ·exact Or.inl ⟨h0, by rw [<- hcm, cmpG_ne hx hy (by rw [hr]; exact h0), hr]⟩
      clear hx hy hr hcm p0 p1 p2 p3 p4 q0 q1 q2 q3 q4 hj
      have HQz : Hid (sb < wr.heap.size) := hz1
      have HRz : Hid (sd < wr.heap.size) := hz2
      clear hz1 hz2
      obtain ⟨⟨⟨xk, xm, xs⟩, xn, xl⟩, xv⟩ := x
      obtain ⟨⟨⟨yk, ym, ys⟩, yn, yl⟩, yv⟩ := y
      simp only at hsv hsw fx fy
      obtain ⟨x1, x2, x3, rfl⟩ := fx
      obtain ⟨y1, y2, y3, rfl⟩ := fy
      have HQ : Hid _ := hsv
      have HR : Hid _ := hsw
      have HCS : Hid (∀ Y : World, Below wr.heap.size wr Y -> Calls Tryz.prog 52 #[.agg #[.int .i64 xk, .int .i64 xm, .string xs, .string xn, .slice x1 x2 x3], .agg #[.int .i64 yk, .int .i64 ym, .string ys, .string yn, .slice y1 y2 y3]] Y fun e w' => e = .returned (.int .i64 r) /\ Below Y.heap.size Y w') := HCS0
      clear hsv hsw HCS0
      go_upto_region 7 with fail
      refine wp_region_held_drew (S := fun w' => Below wr.heap.size wr w') (by kernel_rfl) (Below.refl _ _).drew (fun hH => ?_)
      revert hH
      generalize wr.drew = V
      intro hH
      refine wTk 0 (.pointer (some ⟨w.heap.size, 5, none⟩)) rfl (by kernel_rfl) (fun _ _ _ h => h) (Or.inl ⟨by rfl, fun w' _ => by go_simp⟩) hH ?_
      simp only [wA8, wB8, wC8, wD8]
      refine wTk 1 (.slice (some ⟨sb, so, none⟩) p.length b3) rfl (by kernel_rfl) (fun _ _ _ h => h) (Or.inl ⟨by rfl, fun w' h => by obtain ⟨x0, x1, x2, x3, x4, x5, x6⟩ := cseven (CBlk.later (Hid.out HC) h); clear h; go_simp⟩) hH ?_
      simp only [wA8, wB8, wC8, wD8]
      refine wTk 2 (.int .i64 (j : Int)) rfl (by kernel_rfl) (fun _ _ _ h => h) (Or.inl ⟨by rfl, fun w' _ => by go_simp⟩) hH ?_
      simp only [wA8, wB8, wC8, wD8]
      refine wTk 3 (.pointer (some ⟨sb, so + j * 5, none⟩)) rfl (by kernel_rfl) (fun _ _ _ h => h) (Or.inl ⟨by rfl, fun w' _ => by go_simp⟩) hH ?_
      simp only [wA8, wB8, wC8, wD8]
      refine wTk 4 (.agg #[.int .i64 xk, .int .i64 xm, .string xs, .string xn, .slice x1 x2 x3]) rfl (by kernel_rfl) (fun _ _ _ h => h) (Or.inl ⟨by rfl, fun w' h => by obtain ⟨q0, q1, q2, q3, q4⟩ := Hid.out HQ; have z := Hid.out HQz; have y0 := cell_step h z q0; have y1 := cell_step h z q1; have y2 := cell_step h z q2; have y3 := cell_step h z q3; have y4 := cell_step h z q4; clear q0 q1 q2 q3 q4; go_simp⟩) hH ?_
      simp only [wA8, wB8, wC8, wD8]
      refine wTk 5 (.pointer (some ⟨w.heap.size + 1, 5, none⟩)) rfl (by kernel_rfl) (fun _ _ _ h => h) (Or.inl ⟨by rfl, fun w' _ => by go_simp⟩) hH ?_
      simp only [wA8, wB8, wC8, wD8]
      refine wTk 6 (.slice (some ⟨sd, sq, none⟩) q.length d3) rfl (by kernel_rfl) (fun _ _ _ h => h) (Or.inl ⟨by rfl, fun w' h => by obtain ⟨x0, x1, x2, x3, x4, x5, x6⟩ := cseven (CBlk.later (Hid.out HD) h); clear h; go_simp⟩) hH ?_
      simp only [wA8, wB8, wC8, wD8]
      refine wTk 7 (.int .i64 (j : Int)) rfl (by kernel_rfl) (fun _ _ _ h => h) (Or.inl ⟨by rfl, fun w' _ => by go_simp⟩) hH ?_
      simp only [wA8, wB8, wC8, wD8]
      refine wTk 8 (.pointer (some ⟨sd, sq + j * 5, none⟩)) rfl (by kernel_rfl) (fun _ _ _ h => h) (Or.inl ⟨by rfl, fun w' _ => by go_simp⟩) hH ?_
      simp only [wA8, wB8, wC8, wD8]
      refine wTk 9 (.agg #[.int .i64 yk, .int .i64 ym, .string ys, .string yn, .slice y1 y2 y3]) rfl (by kernel_rfl) (fun _ _ _ h => h) (Or.inl ⟨by rfl, fun w' h => by obtain ⟨q0, q1, q2, q3, q4⟩ := Hid.out HR; have z := Hid.out HRz; have y0 := cell_step h z q0; have y1 := cell_step h z q1; have y2 := cell_step h z q2; have y3 := cell_step h z q3; have y4 := cell_step h z q4; clear q0 q1 q2 q3 q4; go_simp⟩) hH ?_
      simp only [wA8, wB8, wC8, wD8]
      refine wRd 10 (by kernel_rfl) rfl (fun K hK => ?_)
      go_simp
      refine (HCS.out _ hH).mono ?_
      rintro e V1 ⟨rfl, hb⟩
      refine hK.out _ _ (below_step hH hb) (fun hH => ?_)
      clear hK K hb
      refine wTk 11 (.int .i64 r) rfl (by kernel_rfl) (fun _ _ _ h => h) (Or.inl ⟨by rfl, fun w' _ => by go_simp⟩) hH ?_
      simp only [wA8, wB8, wC8, wD8]
      refine wpAnyH_done (by kernel_rfl) ?_ _
      go_wp2
      go_roundg g
      case measure => omega
      case rel => exact ⟨j + 1, r, by omega, by go_num, rfl, HNX.out, (HC.out.later hH), (HD.out.later hH), below_step HB.out hH⟩
     ·have hjl : j = p.length := by omega
      have hzz : ¬ ((j : Int) < (p.length : Int)) := by omega
      have h20 : r2 = 0 := by rw [<- hcm, hjl, List.drop_length, show p.length = q.length from HLL.out, List.drop_length]; rfl
      clear hcm
      have HR4 : Hid (R = cmpGL Te.cmp tp tq) := by show R = _; rw [HR3.out, h20]; simp
      have HB1 : Hid (Below w.heap.size w wr) := HB.out
      clear HR3 h20 HLL HB hjl
      generalize wr = w5 at *
      by_cases hlt : tp.length = tq.length
      ·have HLL : Hid (tp.length = tq.length) := hlt
       obtain ⟨r3, hr3⟩ : ∃ r, cmpG Te.cmp tp tq = r := ⟨_, rfl⟩
       have HR3 : Hid (R = r3) := by show R = r3; rw [HR4.out]; unfold cmpGL; rw [if_pos hlt, hr3]
       have HST : Hid (cmpG Te.cmp (tp.drop 0) (tq.drop 0) = r3) := hr3
       have HN : Hid (∀ X, Calls Tryz.prog 77 #[.int .i64 (tp.length : Int), .int .i64 (tq.length : Int)] X fun e w' => e = .returned (.int .i64 0) /\ w' = X) := fun X => by have := snumber_any (tp.length : Int) (tq.length : Int) X; rw [sgI_zero.2 (by omega)] at this; exact this
       clear HR4 hr3 hlt
       go_upto_region 10 with (go_at_call 77; refine (HN.out _).mono ?_; clear HN; rintro e w2 ⟨rfl, hw⟩; have hw := hw.symm; subst hw)
       clear p0 p1 p2 p3 p4 p5 p6 q0 q1 q2 q3 q4 q5 q6 hzz
       go_wp2
       go_loopg [5, 7] tp.length (fun g u i wr => ∃ (j : Nat) (N : Int), j + g = tp.length /\ i = .int .i64 (j : Int) /\ u = .int .i64 N /\ ((N ≠ 0 /\ N = r3) ∨ (N = 0 /\ cmpG Te.cmp (tp.drop j) (tq.drop j) = r3)) /\ CBlk wr w.heap.size #[.int .i64 k, .int .i64 m, .string s, .string nm, .slice a1 a2 a3, .slice b1 p.length b3, .slice t1 tp.length t3] 60 /\ CBlk wr (w.heap.size + 1) #[.int .i64 k', .int .i64 m', .string s', .string nm', .slice c1 c2 c3, .slice d1 q.length d3, .slice e1 tq.length e3] 60 /\ Below w.heap.size w wr)
       case atStart => exact ⟨0, 0, by omega, rfl, rfl, Or.inr ⟨rfl, HST.out⟩, HC.out, HD.out, HB1.out⟩
       case round =>
        clear HC HD HB1 HST
        obtain ⟨j, N, hg, rfl, rfl, hN, hcb, hdb, hb⟩ := hrel
        have HC : Hid (CBlk wr w.heap.size #[.int .i64 k, .int .i64 m, .string s, .string nm, .slice a1 a2 a3, .slice b1 p.length b3, .slice t1 tp.length t3] 60) := hcb
        have HD : Hid (CBlk wr (w.heap.size + 1) #[.int .i64 k', .int .i64 m', .string s', .string nm', .slice c1 c2 c3, .slice d1 q.length d3, .slice e1 tq.length e3] 60) := hdb
        have HB : Hid (Below w.heap.size w wr) := hb
        clear hcb hdb hb
        obtain ⟨p0, p1, p2, p3, p4, p5, p6⟩ := cseven HC.out
        obtain ⟨q0, q1, q2, q3, q4, q5, q6⟩ := cseven HD.out
        by_cases hN0 : N = 0
        ·subst hN0
         have hcm : cmpG Te.cmp (tp.drop j) (tq.drop j) = r3 := by
          rcases hN with ⟨h, -⟩ | ⟨-, h⟩
          ·exact absurd rfl h
          ·exact h
         clear hN
         by_cases hj : j < tp.length
         ·obtain ⟨g, rfl⟩ : ∃ g, gk = g + 1 := ⟨gk - 1, by omega⟩
          have i0 : (0 : Int) <= (j : Int) := by omega
          have i1 : (j : Int) < (tp.length : Int) := by omega
          have i2 : (j : Int) < (tq.length : Int) := by have := HLL.out; omega
          obtain ⟨x, hx⟩ : ∃ x, tp[j]? = some x := ⟨_, List.getElem?_eq_getElem hj⟩
          obtain ⟨y, hy⟩ : ∃ y, tq[j]? = some y := ⟨_, List.getElem?_eq_getElem (by have := HLL.out; omega)⟩
          obtain ⟨sb, so, hb1, hz1, hsv⟩ := Es.row_ (HOT.out.later HB.out) hx
          obtain ⟨sd, sq, hb2, hz2, hsw⟩ := Es.row_ (HPT.out.later HB.out) hy
          subst hb1 hb2
          obtain ⟨r, hr⟩ : ∃ r, Te.cmp x y = r := ⟨_, rfl⟩
          have HCS0 := fun (Y : World) => rcmpT_any x y Y (HYC.out x (List.mem_of_getElem? hx)) (HYD.out y (List.mem_of_getElem? hy))
          simp only [hr] at HCS0
          have HNX : Hid ((r ≠ 0 /\ r = r3) ∨ (r = 0 /\ cmpG Te.cmp (tp.drop (j + 1)) (tq.drop (j + 1)) = r3)) := by
           by_cases h0 : r = 0
           ·exact Or.inr ⟨h0, by rw [<- hcm, cmpG_eq hx hy (by rw [hr]; exact h0)]⟩
           ·exact Or.inl ⟨h0, by rw [<- hcm, cmpG_ne hx hy (by rw [hr]; exact h0), hr]⟩
          clear hx hy hr hcm p0 p1 p2 p3 p4 q0 q1 q2 q3 q4 hj
          have HQz : Hid (sb < wr.heap.size) := hz1
          have HRz : Hid (sd < wr.heap.size) := hz2
          clear hz1 hz2
          obtain ⟨xo, ⟨xk, xm, xs⟩, ⟨xk2, xm2, xs2⟩⟩ := x
          obtain ⟨yo, ⟨yk, ym, ys⟩, ⟨yk2, ym2, ys2⟩⟩ := y
          simp only at hsv hsw
          have HQ : Hid _ := hsv
          have HR : Hid _ := hsw
          have HCS : Hid (∀ Y : World, Below wr.heap.size wr Y -> Calls Tryz.prog 78 #[.agg #[.int .i64 xo, .int .i64 xk, .int .i64 xm, .string xs, .int .i64 xk2, .int .i64 xm2, .string xs2], .agg #[.int .i64 yo, .int .i64 yk, .int .i64 ym, .string ys, .int .i64 yk2, .int .i64 ym2, .string ys2]] Y fun e w' => e = .returned (.int .i64 r) /\ Below Y.heap.size Y w') := fun Y _ => HCS0 Y
          clear hsv hsw HCS0
          go_upto_region 13 with fail
          refine wp_region_held_drew (S := fun w' => Below wr.heap.size wr w') (by kernel_rfl) (Below.refl _ _).drew (fun hH => ?_)
          revert hH
          generalize wr.drew = V
          intro hH
          refine wTk 0 (.pointer (some ⟨w.heap.size, 6, none⟩)) rfl (by kernel_rfl) (fun _ _ _ h => h) (Or.inl ⟨by rfl, fun w' _ => by go_simp⟩) hH ?_
          simp only [wA8, wB8, wC8, wD8]
          refine wTk 1 (.slice (some ⟨sb, so, none⟩) tp.length t3) rfl (by kernel_rfl) (fun _ _ _ h => h) (Or.inl ⟨by rfl, fun w' h => by obtain ⟨x0, x1, x2, x3, x4, x5, x6⟩ := cseven (CBlk.later (Hid.out HC) h); clear h; go_simp⟩) hH ?_
          simp only [wA8, wB8, wC8, wD8]
          refine wTk 2 (.int .i64 (j : Int)) rfl (by kernel_rfl) (fun _ _ _ h => h) (Or.inl ⟨by rfl, fun w' _ => by go_simp⟩) hH ?_
          simp only [wA8, wB8, wC8, wD8]
          refine wTk 3 (.pointer (some ⟨sb, so + j * 7, none⟩)) rfl (by kernel_rfl) (fun _ _ _ h => h) (Or.inl ⟨by rfl, fun w' _ => by go_simp⟩) hH ?_
          simp only [wA8, wB8, wC8, wD8]
          refine wTk 4 (.agg #[.int .i64 xo, .int .i64 xk, .int .i64 xm, .string xs, .int .i64 xk2, .int .i64 xm2, .string xs2]) rfl (by kernel_rfl) (fun _ _ _ h => h) (Or.inl ⟨by rfl, fun w' h => by obtain ⟨q0, q1, q2, q3, q4, q5, q6⟩ := Hid.out HQ; have z := Hid.out HQz; have y0 := cell_step h z q0; have y1 := cell_step h z q1; have y2 := cell_step h z q2; have y3 := cell_step h z q3; have y4 := cell_step h z q4; have y5 := cell_step h z q5; have y6 := cell_step h z q6; clear q0 q1 q2 q3 q4 q5 q6; go_simp⟩) hH ?_
          simp only [wA8, wB8, wC8, wD8]
          refine wTk 5 (.pointer (some ⟨w.heap.size + 1, 6, none⟩)) rfl (by kernel_rfl) (fun _ _ _ h => h) (Or.inl ⟨by rfl, fun w' _ => by go_simp⟩) hH ?_
          simp only [wA8, wB8, wC8, wD8]
          refine wTk 6 (.slice (some ⟨sd, sq, none⟩) tq.length e3) rfl (by kernel_rfl) (fun _ _ _ h => h) (Or.inl ⟨by rfl, fun w' h => by obtain ⟨x0, x1, x2, x3, x4, x5, x6⟩ := cseven (CBlk.later (Hid.out HD) h); clear h; go_simp⟩) hH ?_
          simp only [wA8, wB8, wC8, wD8]
          refine wTk 7 (.int .i64 (j : Int)) rfl (by kernel_rfl) (fun _ _ _ h => h) (Or.inl ⟨by rfl, fun w' _ => by go_simp⟩) hH ?_
          simp only [wA8, wB8, wC8, wD8]
          refine wTk 8 (.pointer (some ⟨sd, sq + j * 7, none⟩)) rfl (by kernel_rfl) (fun _ _ _ h => h) (Or.inl ⟨by rfl, fun w' _ => by go_simp⟩) hH ?_
          simp only [wA8, wB8, wC8, wD8]
          refine wTk 9 (.agg #[.int .i64 yo, .int .i64 yk, .int .i64 ym, .string ys, .int .i64 yk2, .int .i64 ym2, .string ys2]) rfl (by kernel_rfl) (fun _ _ _ h => h) (Or.inl ⟨by rfl, fun w' h => by obtain ⟨q0, q1, q2, q3, q4, q5, q6⟩ := Hid.out HR; have z := Hid.out HRz; have y0 := cell_step h z q0; have y1 := cell_step h z q1; have y2 := cell_step h z q2; have y3 := cell_step h z q3; have y4 := cell_step h z q4; have y5 := cell_step h z q5; have y6 := cell_step h z q6; clear q0 q1 q2 q3 q4 q5 q6; go_simp⟩) hH ?_
          simp only [wA8, wB8, wC8, wD8]
          refine wRd 10 (by kernel_rfl) rfl (fun K hK => ?_)
          go_simp
          refine (HCS.out _ hH).mono ?_
          rintro e V1 ⟨rfl, hb⟩
          refine hK.out _ _ (below_step hH hb) (fun hH => ?_)
          clear hK K hb
          refine wTk 11 (.int .i64 r) rfl (by kernel_rfl) (fun _ _ _ h => h) (Or.inl ⟨by rfl, fun w' _ => by go_simp⟩) hH ?_
          simp only [wA8, wB8, wC8, wD8]
          refine wpAnyH_done (by kernel_rfl) ?_ _
          go_wp2
          go_roundg g
          case measure => omega
          case rel => exact ⟨j + 1, r, by omega, by go_num, rfl, HNX.out, (HC.out.later hH), (HD.out.later hH), below_step HB.out hH⟩
         ·have hjl : j = tp.length := by omega
          have hzz : ¬ ((j : Int) < (tp.length : Int)) := by omega
          have h20 : r3 = 0 := by rw [<- hcm, hjl, List.drop_length, show tp.length = tq.length from HLL.out, List.drop_length]; rfl
          clear hcm
          have HFI : Hid ((0 : Int) = R) := by show (0 : Int) = R; rw [HR3.out, h20]
          have HBF : Hid (Below w.heap.size w wr) := HB.out
          clear HR3 h20 HB HC HD
          go_wp2
          go_ret
          exact ⟨ret_i HFI.out, HBF.out⟩
        ·have hNr : N = r3 := by
          rcases hN with ⟨-, h⟩ | ⟨h, -⟩
          ·exact h
          ·exact absurd h hN0
         have n1 : (N == 0) = false := beq_eq_false_iff_ne.2 hN0
         have HFI : Hid (N = R) := by show N = R; rw [hNr, HR3.out]
         have HBF : Hid (Below w.heap.size w wr) := HB.out
         clear hN hNr HB HC HD HR3
         go_wp2
         go_ret
         exact ⟨ret_i HFI.out, HBF.out⟩
      ·have e0 : cmpGL Te.cmp tp tq = M.sgI tp.length tq.length := by unfold cmpGL; rw [if_neg hlt]
       have e2 : ¬ M.sgI tp.length tq.length = 0 := fun e => hlt (by have := sgI_zero.1 e; omega)
       obtain ⟨r, hr⟩ : ∃ r, M.sgI tp.length tq.length = r := ⟨_, rfl⟩
       have HN : Hid (∀ X, Calls Tryz.prog 77 #[.int .i64 (tp.length : Int), .int .i64 (tq.length : Int)] X fun e w' => e = .returned (.int .i64 r) /\ w' = X) := fun X => by rw [<- hr]; exact snumber_any _ _ X
       have HFI : Hid (r = R) := by show r = R; rw [HR4.out, e0, hr]
       have HBF : Hid (Below w.heap.size w w5) := HB1.out
       have n0 : ¬ r = 0 := by rw [<- hr]; exact e2
       have n1 : (r == 0) = false := beq_eq_false_iff_ne.2 n0
       clear e0 e2 hr HR4 HB1 HC HD hlt
       go_upto_region 10 with (go_at_call 77; refine (HN.out _).mono ?_; clear HN; rintro e w2 ⟨rfl, hw⟩; have hw := hw.symm; subst hw)
       go_wp2
       go_loopg [5, 7] 0 (fun _ u i wr => u = .int .i64 r /\ i = .int .i64 0 /\ wr = w5)
       case atStart => exact ⟨rfl, rfl, rfl⟩
       case round =>
        obtain ⟨rfl, rfl, hw⟩ := hrel
        have hw := hw.symm
        subst hw
        go_wp2
        go_ret
        exact ⟨ret_i HFI.out, HBF.out⟩
    ·have hNr : N = r2 := by
      rcases hN with ⟨-, h⟩ | ⟨h, -⟩
      ·exact h
      ·exact absurd h hN0
     have n1 : (N == 0) = false := beq_eq_false_iff_ne.2 hN0
     have HFI : Hid (N = R) := by show N = R; rw [HR3.out, <- hNr, if_pos hN0]
     have HBF : Hid (Below w.heap.size w wr) := HB.out
     clear hN hNr HB HC HD HR3
     generalize wr = w5 at *
     go_wp2
     go_loopg [5, 7] 0 (fun _ u i wr => u = .int .i64 N /\ i = .int .i64 0 /\ wr = w5)
     case atStart => exact ⟨rfl, rfl, rfl⟩
     case round =>
      obtain ⟨rfl, rfl, hw⟩ := hrel
      have hw := hw.symm
      subst hw
      go_wp2
      go_ret
      exact ⟨ret_i HFI.out, HBF.out⟩
  ·have e0 : cmpGL cmpX p q = M.sgI p.length q.length := by unfold cmpGL; rw [if_neg hl]
   have e2 : ¬ M.sgI p.length q.length = 0 := fun e => hl (by have := sgI_zero.1 e; omega)
   obtain ⟨r, hr⟩ : ∃ r, M.sgI p.length q.length = r := ⟨_, rfl⟩
   have HN : Hid (∀ X, Calls Tryz.prog 77 #[.int .i64 (p.length : Int), .int .i64 (q.length : Int)] X fun e w' => e = .returned (.int .i64 r) /\ w' = X) := fun X => by rw [<- hr]; exact snumber_any _ _ X
   have HFI : Hid (r = R) := by show r = R; rw [HR2.out, e0, hr, if_pos (by rw [<- hr]; exact e2)]
   have HBF : Hid (Below w.heap.size w w1) := HB1.out
   have n0 : ¬ r = 0 := by rw [<- hr]; exact e2
   have n1 : (r == 0) = false := beq_eq_false_iff_ne.2 n0
   clear e0 e2 hr HR2 HB1 HC HD hl
   go_upto_region 4 with (go_at_call 77; refine (HN.out _).mono ?_; clear HN; rintro e w2 ⟨rfl, hw⟩; have hw := hw.symm; subst hw)
   go_wp2
   go_loopg [5, 6] 0 (fun _ u i wr => u = .int .i64 r /\ i = .int .i64 0 /\ wr = w1)
   case atStart => exact ⟨rfl, rfl, rfl⟩
   case round =>
    obtain ⟨rfl, rfl, hw⟩ := hrel
    have hw := hw.symm
    subst hw
    go_wp2
    go_loopg [5, 7] 0 (fun _ u i wr => u = .int .i64 r /\ i = .int .i64 0 /\ wr = w1)
    case atStart => exact ⟨rfl, rfl, rfl⟩
    case round =>
     obtain ⟨rfl, rfl, hw⟩ := hrel
     have hw := hw.symm
     subst hw
     go_wp2
     go_ret
     exact ⟨ret_i HFI.out, HBF.out⟩
 ·have n1 : (r1 == 0) = false := beq_eq_false_iff_ne.2 h1
  have HFI : Hid (r1 = R) := by show r1 = R; rw [HRR.out, if_pos h1]
  have HBF : Hid (Below w.heap.size w w1) := HB1.out
  clear HRR HB1 HC HD
  go_wp2
  go_loopg [5, 6] 0 (fun _ u i wr => u = .int .i64 r1 /\ i = .int .i64 0 /\ wr = w1)
  case atStart => exact ⟨rfl, rfl, rfl⟩
  case round =>
   obtain ⟨rfl, rfl, hw⟩ := hrel
   have hw := hw.symm
   subst hw
   go_wp2
   go_loopg [5, 7] 0 (fun _ u i wr => u = .int .i64 r1 /\ i = .int .i64 0 /\ wr = w1)
   case atStart => exact ⟨rfl, rfl, rfl⟩
   case round =>
    obtain ⟨rfl, rfl, hw⟩ := hrel
    have hw := hw.symm
    subst hw
    go_wp2
    go_ret
    exact ⟨ret_i HFI.out, HBF.out⟩
end Go.Proofs.YtcejljehjhlonaaGreatDoor
