import Derived.Test.YtmbmchbninlhpaaGreatDoorCL14
import Derived.Test.YtmbmchbninlhpaaGreatDoorCL12
import Derived.Test.YtmbmchbninlhpaaGreatDoorCL5
import Derived.Test.YtmbmchbninlhpaaGreatDoorCL1
import Derived.Laws.AppendOwnNone
import Derived.Laws.AppendOwn
namespace Go.Proofs.YtmbmchbninlhpaaGreatDoor
open Go.RowKit

def Cm.same (c d : Cm) : Bool := decide (c.head.1 = d.head.1) && (decide (fsts c.body = fsts d.body) && decide (c.tests = d.tests))
set_option maxRecDepth 20000 in
set_option maxHeartbeats 2000000 in
theorem sameC_any (c d : Cm) (w : World) (hc : c.ok w) (hd : d.ok w) : Calls Tryz.prog 54 #[c.v, d.v] w fun e w' => e = .returned (.bool (c.same d)) /\ Below w.heap.size w w' := by
 obtain ⟨⟨a1, n1, cap1, x1⟩, ⟨a2, cap2, x2⟩, ⟨a3, cap3, x3⟩, l1, l2⟩ := hc.shape
 obtain ⟨⟨b1, m1, bap1, y1⟩, ⟨b2, bap2, y2⟩, ⟨b3, bap3, y3⟩, l3, l4⟩ := hd.shape
 have hb2 := below2 w (.cells c.cs 62) (.cells d.cs 62)
 have K1 := fun (X : World) (hX : Below ((w.alloc (.cells c.cs 62)).alloc (.cells d.cs 62)).heap.size ((w.alloc (.cells c.cs 62)).alloc (.cells d.cs 62)) X) => sameAtom_any c.head.1 d.head.1 c.head.2 d.head.2 X (hc.h.later (below_step hb2 hX)) (hd.h.later (below_step hb2 hX))
 have K2 := fun (X : World) (hX : Below ((w.alloc (.cells c.cs 62)).alloc (.cells d.cs 62)).heap.size ((w.alloc (.cells c.cs 62)).alloc (.cells d.cs 62)) X) => sameAtoms_any c.body d.body c.bv d.bv X (hc.b.later (below_step hb2 hX)) (hd.b.later (below_step hb2 hX))
 have K3 := fun (X : World) (hX : Below ((w.alloc (.cells c.cs 62)).alloc (.cells d.cs 62)).heap.size ((w.alloc (.cells c.cs 62)).alloc (.cells d.cs 62)) X) => sameTests_any c.tests d.tests c.tv d.tv X (hc.t.later (below_step hb2 hX)) (hd.t.later (below_step hb2 hX))
 unfold Cm.same
 obtain ⟨r1, h1⟩ : ∃ r, decide (c.head.1 = d.head.1) = r := ⟨_, rfl⟩
 obtain ⟨r2, h2⟩ : ∃ r, decide (fsts c.body = fsts d.body) = r := ⟨_, rfl⟩
 obtain ⟨r3, h3⟩ : ∃ r, decide (c.tests = d.tests) = r := ⟨_, rfl⟩
 rw [h1, h2, h3]
 rw [h1] at K1
 rw [h2] at K2
 rw [h3] at K3
 clear h1 h2 h3 hc hd hb2
 obtain ⟨⟨⟨⟨k, m, s⟩, nm, ls⟩, hx⟩, body, bv, tests, tv⟩ := c
 obtain ⟨⟨⟨⟨k', m', s'⟩, nm', ls'⟩, hx'⟩, body', bv', tests', tv'⟩ := d
 simp only at x1 x2 x3 y1 y2 y3 K1 K2 K3 l1 l2 l3 l4
 subst x1 x2 x3 y1 y2 y3
 cases r1 with
 | true =>
  cases r2 with
  | true =>
   simp only [Bool.true_and]
   go_enter Tryz.func54, Tryz.ntmps54
   go_wp2_with (first | (go_at_call 105; refine (K1 _ (Below.refl _ _)).mono ?_; clear K1; rintro e w1 ⟨rfl, hb⟩; have HB1 : Hid (Below _ _ w1) := hb; clear hb; obtain ⟨p0, p1, p2, p3, p4, p5, p6⟩ := cseven (two_boxes HB1.out).1; obtain ⟨q0, q1, q2, q3, q4, q5, q6⟩ := cseven (two_boxes HB1.out).2) | (go_at_call 106; refine (K2 _ HB1.out).mono ?_; clear K2; rintro e w2 ⟨rfl, hb⟩; have HB2 : Hid (Below _ _ w2) := (below_step HB1.out hb); clear hb; clear p0 p1 p2 p3 p4 p5 p6 q0 q1 q2 q3 q4 q5 q6; obtain ⟨p0, p1, p2, p3, p4, p5, p6⟩ := cseven (two_boxes HB2.out).1; obtain ⟨q0, q1, q2, q3, q4, q5, q6⟩ := cseven (two_boxes HB2.out).2) | (go_at_call 100; refine (K3 _ HB2.out).mono ?_; clear K3; rintro e w3 ⟨rfl, hb⟩; have HB3 : Hid (Below _ _ w3) := (below_step HB2.out hb); clear hb; clear p0 p1 p2 p3 p4 p5 p6 q0 q1 q2 q3 q4 q5 q6; obtain ⟨p0, p1, p2, p3, p4, p5, p6⟩ := cseven (two_boxes HB3.out).1; obtain ⟨q0, q1, q2, q3, q4, q5, q6⟩ := cseven (two_boxes HB3.out).2))
   go_ret
   exact ⟨rfl, below_step (below2 _ _ _) HB3.out⟩
  | false =>
   simp only [Bool.true_and, Bool.false_and]
   clear K3
   go_enter Tryz.func54, Tryz.ntmps54
   go_wp2_with (first | (go_at_call 105; refine (K1 _ (Below.refl _ _)).mono ?_; clear K1; rintro e w1 ⟨rfl, hb⟩; have HB1 : Hid (Below _ _ w1) := hb; clear hb; obtain ⟨p0, p1, p2, p3, p4, p5, p6⟩ := cseven (two_boxes HB1.out).1; obtain ⟨q0, q1, q2, q3, q4, q5, q6⟩ := cseven (two_boxes HB1.out).2) | (go_at_call 106; refine (K2 _ HB1.out).mono ?_; clear K2; rintro e w2 ⟨rfl, hb⟩; have HB2 : Hid (Below _ _ w2) := (below_step HB1.out hb); clear hb; clear p0 p1 p2 p3 p4 p5 p6 q0 q1 q2 q3 q4 q5 q6; obtain ⟨p0, p1, p2, p3, p4, p5, p6⟩ := cseven (two_boxes HB2.out).1; obtain ⟨q0, q1, q2, q3, q4, q5, q6⟩ := cseven (two_boxes HB2.out).2))
   go_ret
   exact ⟨rfl, below_step (below2 _ _ _) HB2.out⟩
 | false =>
  simp only [Bool.false_and]
  clear K2 K3
  go_enter Tryz.func54, Tryz.ntmps54
  go_wp2_with ((go_at_call 105; refine (K1 _ (Below.refl _ _)).mono ?_; clear K1; rintro e w1 ⟨rfl, hb⟩; have HB1 : Hid (Below _ _ w1) := hb; clear hb; obtain ⟨p0, p1, p2, p3, p4, p5, p6⟩ := cseven (two_boxes HB1.out).1; obtain ⟨q0, q1, q2, q3, q4, q5, q6⟩ := cseven (two_boxes HB1.out).2))
  go_ret
  exact ⟨rfl, below_step (below2 _ _ _) HB1.out⟩
end Go.Proofs.YtmbmchbninlhpaaGreatDoor
namespace Go.Proofs.YtmbmchbninlhpaaGreatDoor

def Cm.key (c : Cm) : At × List At × List Te := (c.head.1, fsts c.body, c.tests)
theorem same_key (c d : Cm) : c.same d = decide (c.key = d.key) := by
 unfold Cm.same Cm.key
 rw [Bool.eq_iff_iff]
 simp
end Go.Proofs.YtmbmchbninlhpaaGreatDoor
namespace Go.Proofs.YtmbmchbninlhpaaGreatDoor
open Go.RowKit

abbrev Ck := At × List At × List Te
def Ck.terms (x : Ck) : List Tm := x.1.pl ++ (x.2.1.flatMap At.pl ++ tls x.2.2)
theorem key_terms (c : Cm) : c.terms = Ck.terms c.key := by
 rw [Cm.terms_eq, Ck.terms, Cm.key, flt, fsts, List.flatMap_map]; simp
theorem err_zero' {a : At} (h : a.err = 0) : nameOk a.name = true /\ a.args.length <= 8 /\ qualOk a.by_ = true /\ ∀ t ∈ a.args, t.cov = true := by
 unfold At.err at h
 split at h
 ·cases h
 split at h
 ·cases h
 split at h
 ·cases h
 split at h
 ·rename_i a1 a2 a3 a4
  exact ⟨by simpa using a1, by omega, by simpa using a3, by rwa [List.all_eq_true] at a4⟩
 ·cases h
def dstepT (acc : List Tm) (x : Tm) : List Tm := if x ∈ acc then acc else acc ++ [x]
def disT (l : List Tm) : List Tm := (l.filter Tm.var).foldl dstepT []
theorem dstepT_mem {acc : List Tm} {x y : Tm} : y ∈ dstepT acc x ↔ y ∈ acc ∨ y = x := by
 unfold dstepT
 by_cases h : x ∈ acc
 ·rw [if_pos h]
  exact ⟨Or.inl, fun e => e.elim id fun e => e ▸ h⟩
 ·rw [if_neg h]; simp
theorem foldT_mem : ∀ {l acc : List Tm} {y : Tm}, y ∈ l.foldl dstepT acc ↔ y ∈ acc ∨ y ∈ l
 | [], acc, y => by simp
 | x :: l, acc, y => by rw [List.foldl_cons, foldT_mem, dstepT_mem, List.mem_cons, or_assoc]
theorem disT_mem {l : List Tm} {y : Tm} : y ∈ disT l ↔ y ∈ l /\ y.var = true := by
 unfold disT; rw [foldT_mem, List.mem_filter]; simp
theorem foldT_pre : ∀ (l acc : List Tm), acc <+: l.foldl dstepT acc
 | [], acc => List.prefix_rfl
 | x :: l, acc => by
  rw [List.foldl_cons]
  refine List.IsPrefix.trans ?_ (foldT_pre l _)
  unfold dstepT
  split
  ·exact List.prefix_rfl
  ·exact List.prefix_append _ _
def ix : List Tm -> Tm -> Nat
 | [], _ => 0
 | x :: l, t => if x = t then 0 else ix l t + 1
theorem ix_lt : ∀ {l : List Tm} {t : Tm}, t ∈ l -> ix l t < l.length
 | x :: l, t, h => by
  rw [ix]
  by_cases e : x = t
  ·rw [if_pos e]; simp
  ·rw [if_neg e]
   have := ix_lt (l := l) (t := t) (by rcases List.mem_cons.1 h with h | h; exact absurd h.symm e; exact h)
   simp only [List.length_cons]; omega
theorem ix_app : ∀ {p q : List Tm} {t : Tm}, t ∈ p -> ix (p ++ q) t = ix p t
 | x :: l, q, t, h => by
  rw [List.cons_append, ix, ix]
  by_cases e : x = t
  ·rw [if_pos e, if_pos e]
  ·rw [if_neg e, if_neg e, ix_app (by rcases List.mem_cons.1 h with h | h; exact absurd h.symm e; exact h)]
theorem ix_new : ∀ {p : List Tm} {t : Tm}, ¬ t ∈ p -> ix (p ++ [t]) t = p.length
 | [], t, _ => by simp [ix]
 | x :: l, t, h => by
  rw [List.cons_append, ix, if_neg (fun e => h (by simp [e])), ix_new (fun e => h (by simp [e]))]; rfl
theorem ix_get : ∀ {l : List Tm} {t : Tm}, t ∈ l -> l[ix l t]? = some t
 | x :: l, t, h => by
  rw [ix]
  by_cases e : x = t
  ·rw [if_pos e]; simp [e]
  ·rw [if_neg e, List.getElem?_cons_succ]; exact ix_get (by rcases List.mem_cons.1 h with h | h; exact absurd h.symm e; exact h)
theorem idxOf_pre {p q : List Tm} {t : Tm} (h : p <+: q) (ht : t ∈ p) : ix q t = ix p t := by
 obtain ⟨r, rfl⟩ := h
 exact ix_app ht
theorem mis_idx : ∀ (l acc : List Tm), mis acc.length (l.map fun t => ((ix (l.foldl dstepT acc) t : Nat) : Int)) = false
 | [], _ => rfl
 | t :: r, acc => by
  rw [List.map_cons, List.foldl_cons]
  have hpre := foldT_pre r (dstepT acc t)
  have ih := mis_idx r (dstepT acc t)
  by_cases h : t ∈ acc
  ·have e : dstepT acc t = acc := if_pos h
   rw [e] at hpre ih ⊢
   have e2 := idxOf_pre hpre h
   have e3 := ix_lt h
   rw [mis, if_neg (by rw [e2]; omega), if_neg (by rw [e2]; omega)]
   exact ih
  ·have e : dstepT acc t = acc ++ [t] := if_neg h
   rw [e] at hpre ih ⊢
   have e2 := idxOf_pre hpre (t := t) (by simp)
   have e3 : ix (acc ++ [t]) t = acc.length := ix_new h
   rw [mis, if_neg (by rw [e2, e3]; omega), if_pos (by rw [e2, e3])]
   rw [List.length_append, List.length_singleton] at ih
   exact_mod_cast ih
end Go.Proofs.YtmbmchbninlhpaaGreatDoor
namespace Go.Proofs.YtmbmchbninlhpaaGreatDoor
open Go.RowKit
attribute [local go_sem ↓] Go.wp_at_zero Go.wp_at_succ

set_option maxHeartbeats 1000000 in
theorem within_any (l : List Tm) (v : Value) (t : Tm) (w : World) (h : Ts w v l) :
  Calls Tryz.prog 72 #[v, t.v] w fun e w' => e = .returned (.bool (decide (t ∈ l))) /\ Below w.heap.size w w' := by
 obtain ⟨ad, cap, rfl, hl, h⟩ := h
 obtain ⟨r, hr⟩ : ∃ r, decide (t ∈ l) = r := ⟨_, rfl⟩
 rw [hr]
 obtain ⟨k, n, s⟩ := t
 have HR : Hid (decide (Tm.mk k n s ∈ l) = r) := hr
 clear hr
 go_enter Tryz.func72, Tryz.ntmps72
 go_wp2
 have bx := Blk.new w #[.int .i64 k, .int .i64 n, .string s] 56
 have hbx := below1 w (.cells #[.int .i64 k, .int .i64 n, .string s] 56)
 have h' : l = [] ∨ ∃ b o, ad = some ⟨b, o, none⟩ /\ TRow (w.alloc (.cells #[.int .i64 k, .int .i64 n, .string s] 56)) b o l := by
  rcases h with h | ⟨b, o, h1, h2⟩
  ·exact Or.inl h
  ·exact Or.inr ⟨b, o, h1, h2.later hbx⟩
 revert bx hbx h'
 generalize w.alloc (.cells #[.int .i64 k, .int .i64 n, .string s] 56) = X
 intro bx hbx h'
 clear h
 have HBX : Hid (Below w.heap.size w X) := hbx
 have BX : Hid (Blk X w.heap.size #[.int .i64 k, .int .i64 n, .string s] 56) := bx
 clear hbx bx
 go_loopg [5] l.length (fun g i wr => ∃ j : Nat, j + g = l.length /\ i = .int .i64 j /\ (¬ Tm.mk k n s ∈ l.take j) /\ Below X.heap.size X wr)
 case atStart => exact ⟨0, by omega, rfl, by simp, Below.refl _ _⟩
 case round =>
  obtain ⟨j, hj, rfl, hno, hb⟩ := hrel
  have HN : Hid (¬ Tm.mk k n s ∈ l.take j) := hno
  clear hno
  cases gk with
  | succ g =>
   have hlt : (j : Int) < (l.length : Int) := by omega
   have j0 : (0 : Int) <= (j : Int) := by omega
   obtain ⟨u, hu⟩ : ∃ u, l[j]? = some u := ⟨_, List.getElem?_eq_getElem (by omega)⟩
   rcases h' with h | ⟨b1, o1, rfl, hb1, h⟩
   ·subst h; simp at hj
   obtain ⟨p0, p1, p2⟩ := h j u hu
   rw [<- hb.cell (p := ⟨b1, _, none⟩) hb1] at p0 p1 p2
   obtain ⟨q0, q1, q2, -, -, -⟩ := three (Blk.later (Hid.out BX) hb)
   have he := run_eql_tm u ⟨k, n, s⟩
   have HU : Hid (l[j]? = some u) := hu
   by_cases htu : u = ⟨k, n, s⟩
   ·have HY : Hid (decide (Tm.mk k n s ∈ l) = true) := decide_eq_true (by rw [<- htu]; exact List.mem_of_getElem? hu)
    rw [decide_eq_true htu] at he
    clear htu hu h
    obtain ⟨uk, un, us⟩ := u
    simp only at p0 p1 p2
    go_wp2
    go_quiet (fail)
    go_wp2
    go_ret
    exact ⟨ret_b (HY.out.symm.trans HR.out), below_step (Hid.out HBX) (below_drewN hb _)⟩
   ·have HY : Hid (¬ Tm.mk k n s ∈ l.take (j + 1)) := by
     show ¬ _
     rw [List.take_add_one, hu]
     simp only [Option.toList_some, List.mem_append, List.mem_singleton, not_or]
     exact ⟨HN.out, fun e => htu e.symm⟩
    rw [decide_eq_false htu] at he
    clear htu hu h
    obtain ⟨uk, un, us⟩ := u
    simp only at p0 p1 p2
    go_wp2
    go_quiet (fail)
    go_wp2
    go_roundg g
    case measure => omega
    case rel => exact ⟨j + 1, by omega, by go_num, HY.out, below_drewN hb _⟩
  | zero =>
   obtain rfl : j = l.length := by omega
   have HY : Hid (decide (Tm.mk k n s ∈ l) = false) := decide_eq_false (by have := HN.out; rwa [List.take_length] at this)
   have hz : ¬ ((l.length : Int) < (l.length : Int)) := by omega
   clear h'
   go_wp2
   go_ret
   exact ⟨ret_b (HY.out.symm.trans HR.out), below_step (Hid.out HBX) hb⟩

end Go.Proofs.YtmbmchbninlhpaaGreatDoor
namespace Go.Proofs.YtmbmchbninlhpaaGreatDoor
open Go.RowKit
attribute [local go_sem ↓] Go.wp_at_zero Go.wp_at_succ

theorem Tryz.infoTerm : (Tryz.prog.info? 56).map (fun i => (i.zero, i.size, i.bytes)) = some (some (.agg #[.int .i64 0, .int .i64 0, .string ⟨#[]⟩]), 3, 32) := by kernel_rfl
end Go.Proofs.YtmbmchbninlhpaaGreatDoor
namespace Go.Proofs.YtmbmchbninlhpaaGreatDoor
open Go.RowKit

def Tm.cs (t : Tm) : List Value := [.int .i64 t.k, .int .i64 t.n, .string t.s]
def tcs (l : List Tm) : List Value := l.flatMap Tm.cs
theorem tcs_len (l : List Tm) : (tcs l).length = l.length * 3 := by
 induction l with
 | nil => rfl
 | cons d l ih => simp only [tcs, List.flatMap_cons, List.length_append, List.length_cons] at *; rw [ih]; simp [Tm.cs]; omega
theorem tcs_get (l : List Tm) (j : Nat) (d : Tm) (h : l[j]? = some d) (i : Nat) (hi : i < 3) : (tcs l)[j * 3 + i]? = d.cs[i]? := by
 induction l generalizing j with
 | nil => simp at h
 | cons e l ih =>
  rw [tcs, List.flatMap_cons]
  cases j with
  | zero =>
   simp only [List.getElem?_cons_zero, Option.some.injEq] at h
   subst h
   rw [List.getElem?_append_left (by simp [Tm.cs]; omega)]
   simp
  | succ j =>
   simp only [List.getElem?_cons_succ] at h
   rw [List.getElem?_append_right (by simp [Tm.cs]; omega)]
   have e1 : (j + 1) * 3 + i - (Tm.cs e).length = j * 3 + i := by simp [Tm.cs]; omega
   rw [e1]
   exact ih j h
def OwnT (w : World) (base : Nat) (v : Value) (l : List Tm) : Prop := w.ownsRow base 56 3 v l.length (tcs l)
theorem ownT_cells {w : World} {base g cap n : Nat} {l : List Tm} (h : OwnT w base (.slice (some ⟨g, 0, none⟩) n cap) l) (j : Nat) (d : Tm) (hd : l[j]? = some d) :
  w.cell? ⟨g, j * 3, none⟩ = some (.int .i64 d.k) /\ w.cell? ⟨g, j * 3 + 1, none⟩ = some (.int .i64 d.n) /\ w.cell? ⟨g, j * 3 + 2, none⟩ = some (.string d.s) := by
 rcases h.2 with ⟨h, _⟩ | ⟨g', cap', cur, hv, hb, hg, hn, hc, hs, ht⟩
 ·cases h
 ·simp only [Value.slice.injEq, Option.some.injEq, Addr.mk.injEq] at hv
  obtain ⟨⟨rfl, -⟩, -, rfl⟩ := hv
  have hj := (List.getElem?_eq_some_iff.1 hd).1
  have key : ∀ i, i < 3 -> w.cell? ⟨g, j * 3 + i, none⟩ = d.cs[i]? := fun i hi => by
   rw [cell_of_row _ _ _ _ _ _ hg, <- tcs_get l j d hd i hi, <- ht, List.getElem?_take_of_lt (by omega)]
   simp
  exact ⟨key 0 (by omega), key 1 (by omega), key 2 (by omega)⟩
theorem OwnT.lt {w : World} {base : Nat} {v : Value} {l : List Tm} (h : OwnT w base v l) : ∀ k, v.ownBlock = some k -> base <= k /\ k < w.heap.size := World.ownsRow.lt h
theorem OwnT.mono {w : World} {b b' : Nat} {v : Value} {l : List Tm} (h : OwnT w b v l) (hb : b' <= b) : OwnT w b' v l := by
 refine ⟨h.1, ?_⟩
 rcases h.2 with hn | ⟨g, cap, cur, hv, hbb, rest⟩
 ·exact Or.inl hn
 ·exact Or.inr ⟨g, cap, cur, hv, Nat.le_trans hb hbb, rest⟩
theorem OwnT.later {w w' : World} {base : Nat} {v : Value} {l : List Tm} (h : OwnT w base v l) (hb : Below w.heap.size w w') : OwnT w' base v l := by
 refine ⟨h.1, ?_⟩
 rcases h.2 with hn | ⟨g, cap, cur, hv, hbb, hg, rest⟩
 ·exact Or.inl hn
 ·exact Or.inr ⟨g, cap, cur, hv, hbb, (hb.block _ (Array.getElem?_eq_some_iff.1 hg).1).trans hg, rest⟩
theorem OwnT.set {w : World} {base G i : Nat} {a : Value} {v : Value} {l : List Tm} (h : OwnT w base v l) (hG : G < base) : OwnT (w.setCell ⟨G, i, none⟩ a) base v l := by
 refine ⟨h.1, ?_⟩
 rcases h.2 with hn | ⟨g, cap, cur, hv, hbb, hg, rest⟩
 ·exact Or.inl hn
 ·exact Or.inr ⟨g, cap, cur, hv, hbb, by rw [heap_setCell_other _ _ _ _ (show g ≠ G by omega)]; exact hg, rest⟩
theorem tcs_mem {l : List Tm} {u : Value} (h : u ∈ tcs l) : u.oneCell' = true := by
 simp only [tcs, List.mem_flatMap] at h
 obtain ⟨d, -, hu⟩ := h
 simp [Tm.cs] at hu
 rcases hu with rfl | rfl | rfl <;> rfl
theorem trow_get {w : World} {b o : Nat} {l : List Tm} (h : TRow w b o l) : ∀ j u, (tcs l)[j]? = some u -> w.cell? ((⟨b, o, none⟩ : Addr).add j) = some u := fun j u hu => by
 have hj : j < l.length * 3 := by rw [<- tcs_len]; exact (List.getElem?_eq_some_iff.1 hu).1
 have hq : j / 3 < l.length := by omega
 obtain ⟨d, hd⟩ : ∃ d, l[j / 3]? = some d := ⟨_, List.getElem?_eq_getElem hq⟩
 have hg := tcs_get l (j / 3) d hd (j % 3) (by omega)
 rw [show j / 3 * 3 + j % 3 = j by omega, hu] at hg
 have hc := h.2 _ _ hd
 have ha : (⟨b, o, none⟩ : Addr).add j = ⟨b, o + j / 3 * 3 + j % 3, none⟩ := by
  rw [Go.WideShapes.add_plain]; congr 1; omega
 rw [ha]
 have h4 : j % 3 = 0 ∨ j % 3 = 1 ∨ j % 3 = 2 := by omega
 rcases h4 with e | e | e <;> rw [e] at hg ⊢ <;> simp [Tm.cs] at hg <;> subst hg
 ·exact hc.1
 ·exact hc.2.1
 ·exact hc.2.2
theorem ownT_pre {w : World} {base g cap : Nat} {s : List Tm} {d : Tm} (h : OwnT w base (.slice (some ⟨g, 0, none⟩) (s.length + 1) cap) (s ++ [d])) (hs : s.length < 1000000000000000000) : Ts w (.slice (some ⟨g, 0, none⟩) s.length cap) s := by
 have hlt : g < w.heap.size := (h.lt g rfl).2
 refine ⟨_, cap, rfl, hs, Or.inr ⟨g, 0, rfl, hlt, fun i t ht => ?_⟩⟩
 have hi := (List.getElem?_eq_some_iff.1 ht).1
 have := ownT_cells h i t (by rw [List.getElem?_append_left hi]; exact ht)
 simpa using this
theorem ownT_cap {w : World} {base g cap n : Nat} {l : List Tm} (h : OwnT w base (.slice (some ⟨g, 0, none⟩) n cap) l) : n <= cap := by
 rcases h.2 with ⟨h, _⟩ | ⟨g', c, cur, hv, _, _, hn, _⟩
 ·cases h
 ·simp only [Value.slice.injEq] at hv; omega
end Go.Proofs.YtmbmchbninlhpaaGreatDoor
namespace Go.Proofs.YtmbmchbninlhpaaGreatDoor
open Go.RowKit

theorem Tryz.infoAtom : (Tryz.prog.info? 58).map (fun i => (i.zero, i.size, i.bytes)) = some (some (.agg #[.int .i64 0, .int .i64 0, .string ⟨#[]⟩, .string ⟨#[]⟩, .slice none 0 0]), 5, 72) := by kernel_rfl
theorem Tryz.infoTest : (Tryz.prog.info? 97).map (fun i => (i.zero, i.size, i.bytes)) = some (some (.agg #[.int .i64 0, .int .i64 0, .int .i64 0, .string ⟨#[]⟩, .int .i64 0, .int .i64 0, .string ⟨#[]⟩]), 7, 72) := by kernel_rfl
end Go.Proofs.YtmbmchbninlhpaaGreatDoor
namespace Go.Proofs.YtmbmchbninlhpaaGreatDoor
open Go.RowKit
attribute [local go_sem ↓] Go.wp_at_zero Go.wp_at_succ

def zcs : Array Value := #[.int .i64 0, .int .i64 0, .string ⟨#[]⟩, .string ⟨#[]⟩, .slice none 0 0, .slice none 0 0, .slice none 0 0]
end Go.Proofs.YtmbmchbninlhpaaGreatDoor
namespace Go.Proofs.YtmbmchbninlhpaaGreatDoor
open Go.RowKit
attribute [local go_sem ↓] Go.wp_at_zero Go.wp_at_succ

def qa (u : ByteArray) (x : At) : At := if x.by_ = zt then ⟨⟨2, 0, u⟩, x.name, x.args⟩ else x
theorem CBlk.froz {w : World} {g i : Nat} {c : Array Value} {t : TypeId} (h : CBlk w g c t) : w.frozen? ⟨g, i, none⟩ = false := frozen_of_row _ _ _ _ _ h

end Go.Proofs.YtmbmchbninlhpaaGreatDoor
namespace Go.Proofs.YtmbmchbninlhpaaGreatDoor
open Go.RowKit
attribute [local go_sem ↓] Go.wp_at_zero Go.wp_at_succ

def TsP (w : World) (v : Value) (l : List Tm) : Prop := (v = .slice none 0 0 /\ l = []) ∨ ∃ ad cap, v = .slice (some ad) l.length cap /\ (l = [] ∨ ∃ b o, ad = ⟨b, o, none⟩ /\ TRow w b o l)
theorem TsP.later {w w' : World} {v : Value} {l : List Tm} (h : TsP w v l) (hb : Below w.heap.size w w') : TsP w' v l := by
 rcases h with h | ⟨ad, cap, h1, h2⟩
 ·exact Or.inl h
 ·refine Or.inr ⟨ad, cap, h1, ?_⟩
  rcases h2 with h2 | ⟨b, o, h2, h3⟩
  ·exact Or.inl h2
  ·exact Or.inr ⟨b, o, h2, h3.later hb⟩
theorem TsP.ts {w : World} {v : Value} {l : List Tm} (h : TsP w v l) (hl : l.length < 1000000000000000000) : Ts w v l := by
 rcases h with ⟨rfl, rfl⟩ | ⟨ad, cap, rfl, h2⟩
 ·exact ⟨none, 0, rfl, by simp, Or.inl rfl⟩
 ·refine ⟨some ad, cap, rfl, hl, ?_⟩
  rcases h2 with h2 | ⟨b, o, rfl, h3⟩
  ·exact Or.inl h2
  ·exact Or.inr ⟨b, o, rfl, h3⟩
theorem OwnT.tsP {w : World} {base : Nat} {v : Value} {l : List Tm} (h : OwnT w base v l) : TsP w v l := by
 have hh := h
 rcases h.2 with ⟨rfl, hn⟩ | ⟨g, cap, cur, rfl, hb, hg, -⟩
 ·exact Or.inl ⟨rfl, List.length_eq_zero_iff.1 hn⟩
 ·refine Or.inr ⟨_, cap, rfl, Or.inr ⟨g, 0, rfl, (Array.getElem?_eq_some_iff.1 hg).1, fun i t ht => ?_⟩⟩
  simpa using ownT_cells hh i t ht
theorem tcs_app (l m : List Tm) : tcs (l ++ m) = tcs l ++ tcs m := by simp [tcs]
theorem ownT_nil (w : World) (base : Nat) : OwnT w base (.slice none 0 0) [] := World.ownsRow_nil _ _ _ _
theorem grown_below3 {w w' : World} {base : Nat} {v : Value} (hg : w.grownBy w' v.ownBlock) (h : ∀ k, v.ownBlock = some k -> base <= k) (hb : base <= w.heap.size) : Below base w w' :=
 (Below.refl _ _).grown hg hb h
theorem app_terms {ops : Array Oper} {rest : List Oper} {o : Oper} {a : Act} {Q : Exit -> Act -> World -> Prop} {w : World} (hgd : o.guard = none) (s x : Operand)
  (ho : o.op = .call { callee := .builtin .append, args := #[s, x], argTypes := #[47, 47] }) (base : Nat) (v : Value) (l : List Tm) (hs : a.eval s = v) (hown : OwnT w base v l)
  (y : Value) (m : List Tm) (hx : a.eval x = y) (hy : TsP w y m) (hlen : l.length + m.length <= 4000000000000) (hbase : base <= w.heap.size)
  (h : ∀ v' w', OwnT w' base v' (l ++ m) -> Below base w w' -> w.grownBy w' v.ownBlock -> wpList Tryz.prog ops Q rest (a.put o.dst v') w') : wpList Tryz.prog ops Q (o :: rest) a w := by
 obtain ⟨i0, hi0, hz0, hz1, hz2⟩ := info_parts Tryz.infoTerm
 rcases hy with ⟨rfl, rfl⟩ | ⟨ad, cap, rfl, hm⟩
 ·refine wpList_append_own_none hgd s x 47 ho base 56 i0 3 Tryz.underlying47 hi0 v l.length (tcs l) hs hown hx ?_
  refine h v w (by rw [List.append_nil]; exact hown) (Below.refl _ _) ?_
  exact World.grownBy.refl _ _
 ·refine wpList_append_own _ hgd s x 47 ho base 56 i0 _ 3 32 Tryz.underlying47 hi0 hz0 hz1 hz2 rfl (by omega) v l.length (tcs l) hs hown ad m.length cap (tcs m) hx (tcs_len m) ?_ (fun u hu => tcs_mem hu) (by unfold maxLen; omega) (by omega) hbase ?_
  ·rcases hm with rfl | ⟨b, o', rfl, hm⟩
   ·intro j u hu; simp [tcs] at hu
   ·exact trow_get hm
  ·intro v' w' h1 h2 _
   refine h v' w' ?_ (grown_below3 h2 (fun k hk => (World.ownsRow.lt hown k hk).1) hbase) h2
   unfold OwnT
   rw [List.length_append, tcs_app]
   exact h1
theorem TsP.one {w : World} {b : Nat} {t : Tm} (h : CBlk w b #[.int .i64 t.k, .int .i64 t.n, .string t.s] 56) : TsP w (.slice (some ⟨b, 0, none⟩) 1 1) [t] := by
 refine Or.inr ⟨_, 1, rfl, Or.inr ⟨b, 0, rfl, h.lt, fun i u hu => ?_⟩⟩
 obtain ⟨c0, c1, c2⟩ := cthree h
 cases i with
 | zero => simp at hu; subst hu; exact ⟨c0, c1, c2⟩
 | succ i => simp at hu
theorem TsP.two {w : World} {b : Nat} {t u : Tm} (h : CBlk w b #[.int .i64 t.k, .int .i64 t.n, .string t.s, .int .i64 u.k, .int .i64 u.n, .string u.s] 56) : TsP w (.slice (some ⟨b, 0, none⟩) 2 2) [t, u] := by
 refine Or.inr ⟨_, 2, rfl, Or.inr ⟨b, 0, rfl, h.lt, fun i x hx => ?_⟩⟩
 match i, hx with
 | 0, hx => simp at hx; subst hx; exact ⟨cell_of_row _ _ _ _ _ _ h, cell_of_row _ _ _ _ _ _ h, cell_of_row _ _ _ _ _ _ h⟩
 | 1, hx => simp at hx; subst hx; exact ⟨cell_of_row _ _ _ _ _ _ h, cell_of_row _ _ _ _ _ _ h, cell_of_row _ _ _ _ _ _ h⟩
 | i + 2, hx => simp at hx
theorem OwnT.one {w : World} {b base : Nat} {t : Tm} (h : CBlk w b #[.int .i64 t.k, .int .i64 t.n, .string t.s] 56) (hb : base <= b) : OwnT w base (.slice (some ⟨b, 0, none⟩) 1 1) [t] := by
 refine ⟨by simp [tcs, Tm.cs], Or.inr ⟨_, 1, #[.int .i64 t.k, .int .i64 t.n, .string t.s], rfl, hb, h, Nat.le_refl _, by unfold maxLen; omega, by simp, by simp [tcs, Tm.cs]⟩⟩
set_option maxHeartbeats 2000000 in
theorem atomTerms_any (x : At) (v : Value) (w : World) (h : TsP w v x.args) (hl : x.args.length <= 3900000000000) :
  Calls Tryz.prog 69 #[x.v v] w fun e w' => ∃ v', e = .returned v' /\ OwnT w' w.heap.size v' x.pl /\ Below w.heap.size w w' := by
 have hb2 := below2 w (.cells (At.cs x v) 58) (.cells #[.int .i64 x.by_.k, .int .i64 x.by_.n, .string x.by_.s] 56)
 have g1 := CBlk.new (w.alloc (.cells (At.cs x v) 58)) #[.int .i64 x.by_.k, .int .i64 x.by_.n, .string x.by_.s] 56
 rw [show (w.alloc (.cells (At.cs x v) 58)).heap.size = w.heap.size + 1 by simp] at g1
 have H1 : Hid _ := OwnT.one g1 (show w.heap.size <= w.heap.size + 1 by omega)
 have H2 : Hid _ := h.later hb2
 have HB : Hid _ := hb2
 clear hb2 g1 h
 obtain ⟨⟨k, n, ss⟩, nm, l⟩ := x
 simp only [At.cs] at H1 H2 HB hl
 simp only [At.pl]
 go_enter Tryz.func69, Tryz.ntmps69
 go_wp2_with (at_builtin; refine app_terms rfl _ _ rfl w.heap.size (.slice (some ⟨w.heap.size + 1, 0, none⟩) 1 1) [⟨k, n, ss⟩] (by rfl) H1.out v l (by rfl) H2.out (by simp; omega) (by simp; omega) ?_; intro v' w1 hown hb hg)
 go_ret
 exact ⟨_, rfl, hown, HB.out.trans hb⟩
end Go.Proofs.YtmbmchbninlhpaaGreatDoor
