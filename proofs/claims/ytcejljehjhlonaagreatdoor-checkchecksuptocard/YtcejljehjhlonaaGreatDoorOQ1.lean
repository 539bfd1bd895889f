import Derived.Test.YtcejljehjhlonaaGreatDoorMD1
import Derived.Test.YtcejljehjhlonaaGreatDoorCL29
import Derived.Test.YtcejljehjhlonaaGreatDoorCL28
import Derived.Test.YtcejljehjhlonaaGreatDoorLD2
import Derived.Test.YtcejljehjhlonaaGreatDoorMD2
namespace Go.Proofs.YtcejljehjhlonaaGreatDoor
open Go.RowKit

def ints (n : Nat) : List Int := (List.range n).map fun i : Nat => (i : Int)
theorem mem_ints {n : Nat} {v : Int} : v ∈ ints n ↔ 0 <= v /\ v < n := by
 simp only [ints, List.mem_map, List.mem_range]
 exact ⟨fun ⟨i, h, e⟩ => by omega, fun ⟨h1, h2⟩ => ⟨v.toNat, by omega, by omega⟩⟩
theorem ints_succ (n : Nat) : ints (n + 1) = ints n ++ [(n : Int)] := by simp [ints, List.range_succ]
theorem ints_len (n : Nat) : (ints n).length = n := by simp [ints]
theorem mis_ints : ∀ (l : List Int) (n : Nat), (∀ v ∈ l, 0 <= v) -> mis n l = false -> ∃ m, n <= m /\ l.foldl dstep (ints n) = ints m /\ ∀ v ∈ l, v < m
 | [], n, _, _ => ⟨n, Nat.le_refl _, rfl, fun v hv => by cases hv⟩
 | v :: l, n, h0, h => by
  rw [mis] at h
  by_cases h1 : (n : Int) < v
  ·rw [if_pos h1] at h; cases h
  ·rw [if_neg h1] at h
   have hv := h0 v (by simp)
   rw [List.foldl_cons]
   by_cases h2 : v = n
   ·rw [if_pos h2] at h
    have e : dstep (ints n) v = ints (n + 1) := by
     unfold dstep; rw [if_neg (by rw [mem_ints]; omega), ints_succ, h2]
    obtain ⟨m, k1, k2, k3⟩ := mis_ints l (n + 1) (fun u hu => h0 u (by simp [hu])) (by exact_mod_cast h)
    rw [e]
    refine ⟨m, by omega, k2, fun u hu => ?_⟩
    rcases List.mem_cons.1 hu with rfl | hu
    ·omega
    ·exact k3 u hu
   ·rw [if_neg h2] at h
    have e : dstep (ints n) v = ints n := by
     unfold dstep; rw [if_pos (by rw [mem_ints]; omega)]
    obtain ⟨m, k1, k2, k3⟩ := mis_ints l n (fun u hu => h0 u (by simp [hu])) h
    rw [e]
    refine ⟨m, k1, k2, fun u hu => ?_⟩
    rcases List.mem_cons.1 hu with rfl | hu
    ·omega
    ·exact k3 u hu
theorem var_nn {t : Tm} (h : t.var = true) : 0 <= t.n := by simp only [Tm.var, decide_eq_true_eq] at h; exact h.2.1
theorem ins_non {vs : List Tm} {t : Tm} (h : t.var = false) : ins vs t = t := by unfold ins; rw [if_neg (by rw [h]; simp)]
end Go.Proofs.YtcejljehjhlonaaGreatDoor
namespace Go.Proofs.YtcejljehjhlonaaGreatDoor
open Go.RowKit
attribute [local go_sem ↓] Go.wp_at_zero Go.wp_at_succ

set_option maxRecDepth 20000 in
set_option maxHeartbeats 4000000 in
theorem inst_any (vs : List Tm) (v : Value) (c : Cm) (w : World) (hv : Ts w v vs) (h : c.ok w) (hl1 : c.head.1.args.length <= 1900000000000) (hl2 : c.body.length <= 1900000000000) (hl3 : c.tests.length <= 1900000000000) (hl4 : ∀ x ∈ c.body, x.1.args.length <= 1900000000000) :
  Calls Tryz.prog 37 #[c.v, v] w (IPost w c vs) := by
 have hb3 := below_step (below2 w (.cells c.cs 60) (.cells #[v] 37)) (below1 _ (.cells zcs 60))
 have x1 := (CBlk.new (w.alloc (.cells c.cs 60)) #[v] 37).later (below1 _ (.cells zcs 60))
 have x2 := CBlk.new ((w.alloc (.cells c.cs 60)).alloc (.cells #[v] 37)) zcs 60
 rw [show (w.alloc (.cells c.cs 60)).heap.size = w.heap.size + 1 by simp] at x1
 rw [show ((w.alloc (.cells c.cs 60)).alloc (.cells #[v] 37)).heap.size = w.heap.size + 1 + 1 by simp] at x2
 have K1 := rep_inst vs v (w.heap.size + 1) c (((w.alloc (.cells c.cs 60)).alloc (.cells #[v] 37)).alloc (.cells zcs 60)) ⟨x1, hv.later hb3⟩ (h.later hb3) hl1 hl2 hl3 hl4
 have z2 : (((w.alloc (.cells c.cs 60)).alloc (.cells #[v] 37)).alloc (.cells zcs 60)).heap.size = w.heap.size + 3 := by simp
 have HB2 : Hid (Below w.heap.size w (((w.alloc (.cells c.cs 60)).alloc (.cells #[v] 37)).alloc (.cells zcs 60))) := hb3
 have HX2 : Hid (CBlk (((w.alloc (.cells c.cs 60)).alloc (.cells #[v] 37)).alloc (.cells zcs 60)) (w.heap.size + 1 + 1) zcs 60) := x2
 clear hl1 hl2 hl3 hl4 hb3 x1 x2
 obtain ⟨av, cv, rfl, -, -⟩ := hv
 obtain ⟨⟨a, hn, cap, h1⟩, ⟨a', cap', h2⟩, ⟨a'', cap'', h3⟩, hbl, htl⟩ := h.shape
 clear h
 obtain ⟨⟨⟨⟨k, m, s⟩, nm, ls⟩, hx⟩, body, bv, tests, tv⟩ := c
 simp only at h1 h2 h3 hbl htl
 subst h1 h2 h3
 go_enter Tryz.func37, Tryz.ntmps37
 go_wp2_with (go_at_call 57; refine K1.mono ?_; clear K1; rintro e w1 ⟨M1, M2, M3, lb, rfl, hrp, hb1⟩; have hbx := HX2.out.later hb1; obtain ⟨r0, r1, r2, r3, r4, r5, r6⟩ := cseven hbx; have hfr : ∀ i, w1.frozen? ⟨w.heap.size + 1 + 1, i, none⟩ = false := fun i => hbx.froz; have s0 := hfr 0; have s1 := hfr 1; have s2 := hfr 2; have s3 := hfr 3; have s4 := hfr 4; have s5 := hfr 5; have s6 := hfr 6; rw [z2] at hrp; have HRP : Hid (RJ (w.heap.size + 3) w1 ls.length body.length tests.length (ls.map (ins vs)) ((fsts body).map (insA vs)) (tests.map (insE vs)) M1 M2 M3 lb) := hrp; have HW1 : Hid (Below w.heap.size w w1) := below_step HB2.out hb1; clear hfr hrp hb1 hbx HB2 HX2; simp only [Cm.cpI, insA])
 have nw : w.heap.size <= w.heap.size + 1 + 1 := by omega
 have ng : w.heap.size + 1 + 1 < w.heap.size + 3 := by omega
 have hrp := HRP.out
 have hbw := HW1.out
 exact bodyPost_ret (v := (Cm.cpI ⟨(⟨⟨k, m, s⟩, nm, ls⟩, .slice a hn cap), body, .slice a' body.length cap', tests, .slice a'' tests.length cap''⟩ vs M1 M2 M3 lb).v) (by simp [results, Tryz.results37, go_sem, Cm.v, Cm.cpI, insA, r0, r1, r2, r3, r4, r5, r6]) rfl
  ⟨M1, M2, M3, lb, rfl, (((((((hrp.off ng).off ng).off ng).off ng).off ng).off ng).off ng).mono (by omega), ((((((hbw.setCell nw _).setCell nw _).setCell nw _).setCell nw _).setCell nw _).setCell nw _).setCell nw _⟩
end Go.Proofs.YtcejljehjhlonaaGreatDoor
namespace Go.Proofs.YtcejljehjhlonaaGreatDoor
open Go.RowKit
attribute [local go_sem ↓] Go.wp_at_zero Go.wp_at_succ

structure KS (x : Ck) : Prop where
 h : x.1.args.length <= 8
 b : x.2.1.length <= 8
 t : x.2.2.length <= 8
 x : ∀ a ∈ x.2.1, a.args.length <= 8
theorem KS.map {x : Ck} (h : KS x) (f : Tm -> Tm) : KS (mapC f x) := ⟨by simpa [mapC, mapA] using h.h, by simpa [mapC] using h.b, by simpa [mapC] using h.t, fun a ha => by obtain ⟨b, hb, rfl⟩ := List.mem_map.1 ha; simpa [mapA] using h.x b hb⟩
theorem KS.len {x : Ck} (h : KS x) : (Ck.terms x).length <= 100 := by
 have h1 := h.h; have h2 := h.b; have h3 := h.t
 have := flat_len9 x.2.1 fun a ha => by have := h.x a ha; simp [At.pl]; omega
 unfold Ck.terms
 rw [List.length_append, List.length_append, tls_len]
 simp [At.pl] at this ⊢
 omega
theorem KS.lens {c : Cm} (h : KS c.key) : c.head.1.args.length <= 8 /\ c.body.length <= 8 /\ c.tests.length <= 8 /\ ∀ x ∈ c.body, x.1.args.length <= 8 :=
 ⟨h.h, by have := h.b; simpa [Cm.key, fsts] using this, h.t, fun x hx => h.x x.1 (List.mem_map.2 ⟨x, hx, rfl⟩)⟩
theorem MCl.ok8 {B : Nat} {X : World} {d : Cm} (h : MCl B X d) (hs : KS d.key) : d.ok X := by
 obtain ⟨h1, h2, h3, h4⟩ := hs.lens
 exact h.ok (by omega) (by omega) (fun y hy => by have := h4 y hy; omega) (by omega)
end Go.Proofs.YtcejljehjhlonaaGreatDoor
namespace Go.Proofs.YtcejljehjhlonaaGreatDoor
open Go.RowKit

def Kp (B : Nat) (X : World) (d : Cm) : Prop := ∀ X' : World, X.heap.size <= X'.heap.size -> (∀ b, B <= b -> b < X.heap.size -> X'.heap[b]? = X.heap[b]?) -> d.ok X'
theorem Kp.ok {B : Nat} {X : World} {d : Cm} (h : Kp B X d) : d.ok X := h X (Nat.le_refl _) fun _ _ _ => rfl
theorem Kp.later {B : Nat} {X X' : World} {d : Cm} (h : Kp B X d) (hb : Below X.heap.size X X') : Kp B X' d := fun Y hs ha =>
 h Y (Nat.le_trans hb.size hs) fun b h1 h2 => (ha b h1 (Nat.lt_of_lt_of_le h2 hb.size)).trans (hb.block b h2)
theorem Kp.mono {B B' : Nat} {X : World} {d : Cm} (h : Kp B X d) (hB : B' <= B) : Kp B' X d := fun Y hs ha => h Y hs fun b h1 h2 => ha b (Nat.le_trans hB h1) h2
theorem Kp.off {B G i : Nat} {X : World} {d : Cm} {c : Value} (h : Kp B X d) (hG : G < B) : Kp B (X.setCell ⟨G, i, none⟩ c) d := fun Y hs ha =>
 h Y (by simpa [World.setCell] using hs) fun b h1 h2 => (ha b h1 (by simpa [World.setCell] using h2)).trans (heap_setCell_other _ _ _ _ (show b ≠ G by omega))
theorem Ts.agree {X X' : World} {v : Value} {l : List Tm} (h : Ts X v l) (hs : X.heap.size <= X'.heap.size) (hb : ∀ b, v.ownBlock = some b -> b < X.heap.size -> X'.heap[b]? = X.heap[b]?) : Ts X' v l := by
 obtain ⟨a, cap, rfl, hl, hm⟩ := h
 refine ⟨a, cap, rfl, hl, ?_⟩
 rcases hm with hm | ⟨b, o, rfl, hlt, hm⟩
 ·exact Or.inl hm
 ·have hc : ∀ j, X'.cell? ⟨b, j, none⟩ = X.cell? ⟨b, j, none⟩ := fun j => World.cell?_of_block (w := X) (a := ⟨b, j, none⟩) (hb b rfl hlt)
  refine Or.inr ⟨b, o, rfl, Nat.lt_of_lt_of_le hlt hs, fun q t ht => ?_⟩
  simp only [hc]
  exact hm q t ht
theorem RJ.kp {B : Nat} {X : World} {c : Cm} {vs : List Tm} {M1 M2 M3 : Nat} {lb : List (At × Value)} (h : RJ B X c.head.1.args.length c.body.length c.tests.length (c.head.1.args.map (ins vs)) ((fsts c.body).map (insA vs)) (c.tests.map (insE vs)) M1 M2 M3 lb)
  (h2 : c.body.length < 1000000000000000000) (h3 : c.tests.length < 1000000000000000000) : Kp B X (c.cpI vs M1 M2 M3 lb) := fun Y hs ha => by
 have hl : lb.length = c.body.length := by have := congrArg List.length h.f; simpa [fsts] using this
 have hA : ABlk Y M2 c.body.length lb := by
  obtain ⟨C, e1, e2, e3⟩ := h.a
  exact ⟨C, (ha M2 h.b2 h.a.lt).trans e1, e2, e3⟩
 have hE : EBlk Y M3 c.tests.length (c.tests.map (insE vs)) := by
  obtain ⟨C, e1, e2, e3⟩ := h.e
  exact ⟨C, (ha M3 (by have := h.b2; have := h.b3; omega) h.e.lt).trans e1, e2, e3⟩
 refine ⟨?_, hA.as hl h2 fun x hx => (h.ts x hx).1.1.agree hs fun b e hlt => ha b ((h.ts x hx).2 b e) hlt, hE.es (by simp) h3⟩
 exact h.t1.agree hs fun b e hlt => by obtain rfl : M1 = b := Option.some.inj e; exact ha M1 h.b1 hlt
theorem OwnT.agree {X X' : World} {B : Nat} {v : Value} {l : List Tm} (h : OwnT X B v l) (hb : ∀ b, B <= b -> b < X.heap.size -> X'.heap[b]? = X.heap[b]?) : OwnT X' B v l := by
 refine ⟨h.1, ?_⟩
 rcases h.2 with hn | ⟨g, cap, cur, hv, hbb, hg, rest⟩
 ·exact Or.inl hn
 ·exact Or.inr ⟨g, cap, cur, hv, hbb, (hb g hbb (Array.getElem?_eq_some_iff.1 hg).1).trans hg, rest⟩
theorem OwnA.agree {X X' : World} {B : Nat} {v : Value} {l : List (At × Value)} (h : OwnA X B v l) (hb : ∀ b, B <= b -> b < X.heap.size -> X'.heap[b]? = X.heap[b]?) : OwnA X' B v l := by
 refine ⟨h.1, ?_⟩
 rcases h.2 with hn | ⟨g, cap, cur, hv, hbb, hg, rest⟩
 ·exact Or.inl hn
 ·exact Or.inr ⟨g, cap, cur, hv, hbb, (hb g hbb (Array.getElem?_eq_some_iff.1 hg).1).trans hg, rest⟩
theorem OwnE.agree {X X' : World} {B : Nat} {v : Value} {l : List Te} (h : OwnE X B v l) (hb : ∀ b, B <= b -> b < X.heap.size -> X'.heap[b]? = X.heap[b]?) : OwnE X' B v l := by
 refine ⟨h.1, ?_⟩
 rcases h.2 with hn | ⟨g, cap, cur, hv, hbb, hg, rest⟩
 ·exact Or.inl hn
 ·exact Or.inr ⟨g, cap, cur, hv, hbb, (hb g hbb (Array.getElem?_eq_some_iff.1 hg).1).trans hg, rest⟩
theorem MCl.kp {B : Nat} {X : World} {d : Cm} (h : MCl B X d) (hs : KS d.key) : Kp B X d := fun Y _ ha =>
 (show MCl B Y d from ⟨h.h.agree ha, h.b.agree ha, fun y hy => (h.x y hy).agree ha, h.t.agree ha, h.s⟩).ok8 hs
theorem inst4_any (c : Cm) (vs : List Tm) (v : Value) (w : World) (h : c.ok w) (hv : Ts w v vs) (hs : KS c.key) :
  Calls Tryz.prog 37 #[c.v, v] w fun e w' => ∃ d : Cm, e = .returned d.v /\ d.key = mapC (ins vs) c.key /\ Kp w.heap.size w' d /\ Below w.heap.size w w' := by
 obtain ⟨h1, h2, h3, h4⟩ := hs.lens
 refine (inst_any vs v c w hv h (by omega) (by omega) (by omega) (fun x hx => by have := h4 x hx; omega)).mono fun e w' he => ?_
 obtain ⟨M1, M2, M3, lb, rfl, hr, hb⟩ := he
 refine ⟨_, rfl, ?_, hr.kp (by omega) (by omega), hb⟩
 unfold Cm.key mapC Cm.cpI
 simp only
 rw [hr.f]; rfl
structure Bx (X : World) (G : Nat) (d : Cm) : Prop where
 b : CBlk X G d.cs 60
 o : d.ok X
theorem Bx.later {X X' : World} {G : Nat} {d : Cm} (h : Bx X G d) (hb : Below X.heap.size X X') : Bx X' G d := ⟨h.b.later hb, h.o.later hb⟩
theorem Bx.new {X : World} {d : Cm} (h : d.ok X) : Bx (X.alloc (.cells d.cs 60)) X.heap.size d := ⟨CBlk.new _ _ _, h.later (below1 _ _)⟩
abbrev Cput (X : World) (G : Nat) (a b c d e f g : Value) : World := ((((((X.setCell ⟨G, 0, none⟩ a).setCell ⟨G, 1, none⟩ b).setCell ⟨G, 2, none⟩ c).setCell ⟨G, 3, none⟩ d).setCell ⟨G, 4, none⟩ e).setCell ⟨G, 5, none⟩ f).setCell ⟨G, 6, none⟩ g
theorem CBlk.put7 {X : World} {G : Nat} {t : TypeId} (h : CBlk X G zcs t) (a b c d e f g : Value) : CBlk (Cput X G a b c d e f g) G #[a, b, c, d, e, f, g] t := by
 have := ((((((h.set 0 a).set 1 b).set 2 c).set 3 d).set 4 e).set 5 f).set 6 g
 simpa [zcs] using this
theorem bput7 {W X : World} {B G : Nat} (h : Below B W X) (hG : B <= G) (a b c d e f g : Value) : Below B W (Cput X G a b c d e f g) := ((((((h.setCell (show B <= G from hG) _).setCell (show B <= G from hG) _).setCell (show B <= G from hG) _).setCell (show B <= G from hG) _).setCell (show B <= G from hG) _).setCell (show B <= G from hG) _).setCell (show B <= G from hG) _
end Go.Proofs.YtcejljehjhlonaaGreatDoor
namespace Go.Proofs.YtcejljehjhlonaaGreatDoor
open Go.RowKit
attribute [local go_sem ↓] Go.wp_at_zero Go.wp_at_succ

def EsP (w : World) (v : Value) (l : List Te) : Prop := (v = .slice none 0 0 /\ l = []) ∨ ∃ ad cap, v = .slice (some ad) l.length cap /\ (l = [] ∨ ∃ b o, ad = ⟨b, o, none⟩ /\ ERow w b o l)
theorem EsP.later {w w' : World} {v : Value} {l : List Te} (h : EsP w v l) (hb : Below w.heap.size w w') : EsP w' v l := by
 rcases h with h | ⟨ad, cap, h1, h2⟩
 ·exact Or.inl h
 ·refine Or.inr ⟨ad, cap, h1, ?_⟩
  rcases h2 with h2 | ⟨b, o, h2, h3⟩
  ·exact Or.inl h2
  ·exact Or.inr ⟨b, o, h2, h3.later hb⟩
theorem erow_get {w : World} {b o : Nat} {l : List Te} (h : ERow w b o l) : ∀ j u, (ecs l)[j]? = some u -> w.cell? ((⟨b, o, none⟩ : Addr).add j) = some u := fun j u hu => by
 have hj := (List.getElem?_eq_some_iff.1 hu).1
 rw [ecs_len] at hj
 have h1 : j / 7 < l.length := by omega
 obtain ⟨d, hd⟩ : ∃ d, l[j / 7]? = some d := ⟨_, List.getElem?_eq_getElem h1⟩
 have hg := ecs_get l (j / 7) d hd (j % 7) (by omega)
 have e : j / 7 * 7 + j % 7 = j := by omega
 rw [e, hu] at hg
 have hc := h.2 _ d hd
 rw [Go.WideShapes.add_plain]
 have ea : o + j = o + j / 7 * 7 + j % 7 := by omega
 rw [ea]
 have h4 : j % 7 = 0 ∨ j % 7 = 1 ∨ j % 7 = 2 ∨ j % 7 = 3 ∨ j % 7 = 4 ∨ j % 7 = 5 ∨ j % 7 = 6 := by omega
 rcases h4 with e | e | e | e | e | e | e <;> rw [e] at hg ⊢ <;> simp [ecell] at hg <;> subst hg
 ·exact hc.1
 ·exact hc.2.1
 ·exact hc.2.2.1
 ·exact hc.2.2.2.1
 ·exact hc.2.2.2.2.1
 ·exact hc.2.2.2.2.2.1
 ·exact hc.2.2.2.2.2.2
theorem eapp_list {ops : Array Oper} {rest : List Oper} {o : Oper} {a : Act} {Q : Exit -> Act -> World -> Prop} {w : World} (hgd : o.guard = none) (s x : Operand)
  (ho : o.op = .call { callee := .builtin .append, args := #[s, x], argTypes := #[58, 58] }) (hs : a.eval s = .slice none 0 0)
  (y : Value) (m : List Te) (hx : a.eval x = y) (hy : EsP w y m) (hlen : m.length <= 1800000000000)
  (h : ∀ v' w', OwnE w' w.heap.size v' m -> Below w.heap.size w w' -> wpList Tryz.prog ops Q rest (a.put o.dst v') w') : wpList Tryz.prog ops Q (o :: rest) a w := by
 obtain ⟨i0, hi0, hz0, hz1, hz2⟩ := info_parts Tryz.infoTest
 have hown : OwnE w w.heap.size (.slice none 0 0) [] := OwnE.nil _ _
 rcases hy with ⟨rfl, rfl⟩ | ⟨ad, cap, rfl, hm⟩
 ·refine wpList_append_own_none hgd s x 58 ho w.heap.size 73 i0 7 Tryz.underlying58 hi0 _ 0 [] hs hown hx ?_
  exact h _ w hown (Below.refl _ _)
 ·refine wpList_append_own _ hgd s x 58 ho w.heap.size 73 i0 _ 7 72 Tryz.underlying58 hi0 hz0 hz1 hz2 rfl (by omega) _ 0 [] hs hown ad m.length cap (ecs m) hx (ecs_len m) ?_ (fun u hu => by obtain ⟨z, hz, hu⟩ := List.mem_flatMap.1 hu; exact ecell_one z u hu) (by unfold maxLen; omega) (by omega) (Nat.le_refl _) ?_
  ·rcases hm with rfl | ⟨b, o', rfl, hm⟩
   ·intro j u hu; simp [ecs] at hu
   ·exact erow_get hm
  ·intro v' w' h1 h2 _
   rw [Nat.zero_add, List.nil_append] at h1
   exact h v' w' h1 (grown_below3 h2 (fun k hk => by simp [Value.ownBlock] at hk) (Nat.le_refl _))
def LentE (X : World) (B : Nat) (v : Value) (l : List Te) : Prop := ∃ g cap, v = .slice (some ⟨g, 0, none⟩) l.length cap /\ OwnE X B (.slice (some ⟨g, 0, none⟩) (l.length + 1) cap) (l ++ [bE])
theorem LentE.later {X X' : World} {B : Nat} {v : Value} {l : List Te} (h : LentE X B v l) (hb : Below X.heap.size X X') : LentE X' B v l := by
 obtain ⟨g, cap, e, ho⟩ := h
 exact ⟨g, cap, e, ho.later hb⟩
theorem ownE_some {w : World} {base : Nat} {v : Value} {l : List Te} {d : Te} (h : OwnE w base v (l ++ [d])) : ∃ g cap, v = .slice (some ⟨g, 0, none⟩) (l.length + 1) cap /\ l.length + 1 <= cap := by
 rcases h.2 with ⟨_, hn⟩ | ⟨g, cap, cur, hv, _, _, hn, _⟩
 ·simp at hn
 ·rw [List.length_append, List.length_singleton] at hv hn; exact ⟨g, cap, hv, hn⟩
theorem ownE_cap {w : World} {base g cap n : Nat} {l : List Te} (h : OwnE w base (.slice (some ⟨g, 0, none⟩) n cap) l) : l.length <= cap := by
 rcases h.2 with ⟨h, _⟩ | ⟨g', c, cur, hv, _, _, hn, _⟩
 ·cases h
 ·simp only [Value.slice.injEq] at hv; omega
theorem LentE.row {X : World} {B g cap n : Nat} {l : List Te} {d : Te} (ho : OwnE X B (.slice (some ⟨g, 0, none⟩) n cap) (l ++ [d])) : ERow X g 0 l := by
 refine ⟨(ho.lt g rfl).2, fun i x hx => ?_⟩
 have hi := (List.getElem?_eq_some_iff.1 hx).1
 have hx' : (l ++ [d])[i]? = some x := by rw [List.getElem?_append_left hi]; exact hx
 rw [Nat.zero_add]
 exact ⟨ho.cells i x hx' 0 (by omega), ho.cells i x hx' 1 (by omega), ho.cells i x hx' 2 (by omega), ho.cells i x hx' 3 (by omega), ho.cells i x hx' 4 (by omega), ho.cells i x hx' 5 (by omega), ho.cells i x hx' 6 (by omega)⟩
theorem LentE.es {X : World} {B : Nat} {v : Value} {l : List Te} (h : LentE X B v l) (hl : l.length < 1000000000000000000) : Es X v l := by
 obtain ⟨g, cap, rfl, ho⟩ := h
 exact ⟨_, cap, rfl, hl, Or.inr ⟨g, 0, rfl, LentE.row ho⟩⟩
structure Lent (B : Nat) (X : World) (d : Cm) : Prop where
 h : LentT X B d.head.2 d.head.1.args
 b : LentA X B d.bv d.body
 t : LentE X B d.tv d.tests
theorem Lent.later {B : Nat} {X X' : World} {d : Cm} (h : Lent B X d) (hb : Below X.heap.size X X') : Lent B X' d := ⟨h.h.later hb, h.b.later hb, h.t.later hb⟩
theorem Lent.ok {B : Nat} {X : World} {d : Cm} (h : Lent B X d) (h1 : d.head.1.args.length < 1000000000000000000) (h2 : d.body.length < 1000000000000000000) (h3 : ∀ y ∈ d.body, y.1.args.length < 1000000000000000000) (h4 : d.tests.length < 1000000000000000000) : d.ok X :=
 ⟨h.h.ts h1, h.b.as h2 h3, h.t.es h4⟩
structure Ag (B G : Nat) (X0 X : World) : Prop where
 s : X0.heap.size <= X.heap.size
 e : ∀ k, B <= k -> k < X0.heap.size -> k ≠ G -> X.heap[k]? = X0.heap[k]?
theorem Ag.refl (B G : Nat) (X : World) : Ag B G X X := ⟨Nat.le_refl _, fun _ _ _ _ => rfl⟩
theorem Ag.below {B G : Nat} {X0 X X' : World} (h : Ag B G X0 X) (hb : Below X0.heap.size X X') : Ag B G X0 X' := ⟨Nat.le_trans h.s hb.size, fun k h1 h2 h3 => (hb.block k h2).trans (h.e k h1 h2 h3)⟩
theorem Ag.set {B G i : Nat} {X0 X : World} {v : Value} (h : Ag B G X0 X) : Ag B G X0 (X.setCell ⟨G, i, none⟩ v) := ⟨by simpa [World.setCell] using h.s, fun k h1 h2 h3 => (heap_setCell_other _ _ _ _ (show k ≠ G from h3)).trans (h.e k h1 h2 h3)⟩
theorem Ag.low {B G D i : Nat} {X0 X : World} {v : Value} (h : Ag B G X0 X) (hD : D < B) : Ag B G X0 (X.setCell ⟨D, i, none⟩ v) := ⟨by simpa [World.setCell] using h.s, fun k h1 h2 h3 => (heap_setCell_other _ _ _ _ (show k ≠ D by omega)).trans (h.e k h1 h2 h3)⟩
theorem LentT.ag {B G : Nat} {X0 X : World} {v : Value} {l : List Tm} (h : LentT X0 B v l) (ha : Ag B G X0 X) (hn : ∀ k, v.ownBlock = some k -> k ≠ G) : LentT X B v l := by
 obtain ⟨g, cap, rfl, ho⟩ := h
 refine ⟨g, cap, rfl, ho.1, ?_⟩
 rcases ho.2 with hm | ⟨g', cap', cur, hv, hbb, hg, rest⟩
 ·exact Or.inl hm
 ·have e : g = g' := by simp only [Value.slice.injEq, Option.some.injEq, Addr.mk.injEq] at hv; exact hv.1.1
  subst e
  exact Or.inr ⟨g, cap', cur, hv, hbb, (ha.e g hbb (Array.getElem?_eq_some_iff.1 hg).1 (hn g rfl)).trans hg, rest⟩
theorem LentA.ag {B G : Nat} {X0 X : World} {v : Value} {LB : List (At × Value)} (h : LentA X0 B v LB) (ha : Ag B G X0 X) (hn : ∀ k, v.ownBlock = some k -> k ≠ G) (hx : ∀ x ∈ LB, ∀ k, x.2.ownBlock = some k -> k ≠ G) : LentA X B v LB := by
 obtain ⟨⟨g, cap, rfl, ho⟩, ht⟩ := h
 refine ⟨⟨g, cap, rfl, ho.1, ?_⟩, fun x hm => (ht x hm).ag ha (hx x hm)⟩
 rcases ho.2 with hm | ⟨g', cap', cur, hv, hbb, hg, rest⟩
 ·exact Or.inl hm
 ·have e : g = g' := by simp only [Value.slice.injEq, Option.some.injEq, Addr.mk.injEq] at hv; exact hv.1.1
  subst e
  exact Or.inr ⟨g, cap', cur, hv, hbb, (ha.e g hbb (Array.getElem?_eq_some_iff.1 hg).1 (hn g rfl)).trans hg, rest⟩
structure NGs (G : Nat) (u ub : Value) (LB : List (At × Value)) : Prop where
 a : ∀ k, u.ownBlock = some k -> k ≠ G
 b : ∀ k, ub.ownBlock = some k -> k ≠ G
 c : ∀ x ∈ LB, ∀ k, x.2.ownBlock = some k -> k ≠ G
structure LC (W X : World) (G : Nat) (a : At) (u ub : Value) (LB : List (At × Value)) : Prop where
 bo : CBlk X G #[.int .i64 a.by_.k, .int .i64 a.by_.n, .string a.by_.s, .string a.name, u, ub, .slice none 0 0] 60
 hu : LentT X W.heap.size u a.args
 hb : LentA X W.heap.size ub LB
 n : NGs G u ub LB
 gw : W.heap.size <= G
 bw : Below W.heap.size W X
theorem LC.mk7 {W X : World} {G : Nat} (k m : Int) (s nm : ByteArray) (ls : List Tm) (u ub : Value) (LB : List (At × Value)) (fg : CBlk X G zcs 60) (hu : LentT X W.heap.size u ls) (hl : LentA X W.heap.size ub LB) (hn : NGs G u ub LB) (gw : W.heap.size <= G) (hb : Below W.heap.size W X) :
  LC W (Cput X G (.int .i64 k) (.int .i64 m) (.string s) (.string nm) u ub (.slice none 0 0)) G ⟨⟨k, m, s⟩, nm, ls⟩ u ub LB := by
 have ha : Ag W.heap.size G X (Cput X G (.int .i64 k) (.int .i64 m) (.string s) (.string nm) u ub (.slice none 0 0)) := ((((((((Ag.refl W.heap.size G X).set).set).set).set).set).set).set)
 exact ⟨fg.put7 _ _ _ _ _ _ _, hu.ag ha hn.a, hl.ag ha hn.b hn.c, hn, gw, bput7 hb gw _ _ _ _ _ _ _⟩
theorem cm_sizes {c : Cm} (hs : (Ck.terms c.key).length <= 4000000) : c.head.1.args.length <= 4000000 /\ c.body.length <= 4000000 /\ c.tests.length <= 4000000 /\ ∀ x ∈ c.body, x.1.args.length <= 4000000 := by
 have e : (Ck.terms c.key).length = c.head.1.pl.length + (((fsts c.body).flatMap At.pl).length + (tls c.tests).length) := by
  unfold Ck.terms Cm.key
  simp only [List.length_append]
 have e1 : c.head.1.args.length <= c.head.1.pl.length := by simp [At.pl]
 have e2 : (tls c.tests).length = c.tests.length * 2 := tls_len _
 have e3 : (fsts c.body).length <= ((fsts c.body).flatMap At.pl).length := by
  generalize fsts c.body = l
  induction l with
  | nil => simp
  | cons a l ih => rw [List.flatMap_cons, List.length_append, List.length_cons]; have : 1 <= a.pl.length := (by simp [At.pl]); omega
 have e4 : (fsts c.body).length = c.body.length := by simp [fsts]
 refine ⟨by omega, by omega, by omega, fun x hx => ?_⟩
 have hm : x.1 ∈ fsts c.body := List.mem_map.2 ⟨x, hx, rfl⟩
 have : x.1.args.length <= ((fsts c.body).flatMap At.pl).length := by
  generalize fsts c.body = l at hm
  induction l with
  | nil => cases hm
  | cons a l ih =>
   rw [List.flatMap_cons, List.length_append]
   rcases List.mem_cons.1 hm with rfl | hm
   ·have : x.1.args.length <= x.1.pl.length := (by simp [At.pl]); omega
   ·have := ih hm; omega
 omega
end Go.Proofs.YtcejljehjhlonaaGreatDoor
namespace Go.Proofs.YtcejljehjhlonaaGreatDoor
open Go.RowKit

theorem key_len (c : Cm) : c.body.length = c.key.2.1.length /\ c.tests.length = c.key.2.2.length := by simp [Cm.key, fsts]
theorem unb_key {c : Cm} : unb c = (vrs (c.key.1.pl ++ tls c.key.2.2)).any fun v => !decide (v ∈ vrs (c.key.2.1.flatMap At.pl)) := by
 have e1 : c.restC.vars = vrs c.restC.terms := rfl
 have e2 : c.bodyC.vars = vrs c.bodyC.terms := rfl
 have e3 : flt c.body = c.key.2.1.flatMap At.pl := by simp [flt, Cm.key, fsts, List.flatMap_map]
 unfold unb
 rw [e1, e2, restC_terms, bodyC_terms, e3]
 have e4 : vrs (⟨0, 0, ⟨#[]⟩⟩ :: c.key.2.1.flatMap At.pl) = vrs (c.key.2.1.flatMap At.pl) := by unfold vrs; rw [List.filter_cons_of_neg (by rw [zt_var]; simp)]
 rw [e4]; rfl
theorem mis_key {c : Cm} : mis 0 c.vars = mis 0 (vrs (Ck.terms c.key)) := by
 have : c.vars = vrs c.terms := rfl
 rw [this, key_terms]
end Go.Proofs.YtcejljehjhlonaaGreatDoor
namespace Go.Proofs.YtcejljehjhlonaaGreatDoor
open Go.RowKit

theorem qual_k {t : Tm} (h : qualOk t = true) (hv : t.var = false) : t.k ≠ 3 := by
 simp only [qualOk, hv, Bool.or_false, Bool.or_eq_true, decide_eq_true_eq, Tm.prin] at h
 rcases h with h | h
 ·rw [h]; simp [zt]
 ·omega
theorem var_eqQ {t : Tm} (h : t.var = true) : t = ⟨3, t.n, ⟨#[]⟩⟩ := by
 simp only [Tm.var, decide_eq_true_eq] at h
 obtain ⟨k, n, s⟩ := t
 simp only at h
 obtain ⟨rfl, -, rfl⟩ := h
 rfl
theorem fold_n : ∀ (l acc : List Tm), (∀ t ∈ l, t.var = true) -> (∀ t ∈ acc, t.var = true) -> (l.foldl dstepT acc).map (·.n) = (l.map (·.n)).foldl dstep (acc.map (·.n))
 | [], acc, _, _ => rfl
 | t :: l, acc, h1, h2 => by
  rw [List.foldl_cons, List.map_cons, List.foldl_cons]
  have ht := h1 t (by simp)
  have hm : t.n ∈ acc.map (·.n) ↔ t ∈ acc := ⟨fun hm => by
   obtain ⟨u, hu, e⟩ := List.mem_map.1 hm
   rw [var_eqQ ht, <- e, <- var_eqQ (h2 u hu)]; exact hu, fun hm => List.mem_map.2 ⟨t, hm, rfl⟩⟩
  have e : (dstepT acc t).map (·.n) = dstep (acc.map (·.n)) t.n := by
   unfold dstepT dstep
   by_cases hc : t ∈ acc
   ·rw [if_pos hc, if_pos (hm.2 hc)]
   ·rw [if_neg hc, if_neg (fun x => hc (hm.1 x))]; simp
  rw [<- e]
  refine fold_n l _ (fun u hu => h1 u (by simp [hu])) fun u hu => ?_
  rcases dstepT_mem.1 hu with hu | rfl
  ·exact h2 u hu
  ·exact ht
theorem disT_n (l : List Tm) : (disT l).map (·.n) = dis (vrs l) := by
 unfold disT dis vrs
 exact fold_n _ [] (fun t ht => (List.mem_filter.1 ht).2) (by simp)
end Go.Proofs.YtcejljehjhlonaaGreatDoor
