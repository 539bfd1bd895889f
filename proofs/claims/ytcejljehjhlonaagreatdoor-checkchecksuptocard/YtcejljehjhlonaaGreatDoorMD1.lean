import Derived.Test.YtcejljehjhlonaaGreatDoorO2
import Derived.Deep.RegionHeld3
import Derived.BigQuiet
import Derived.Test.YtcejljehjhlonaaGreatDoorCL12
import Derived.Test.YtcejljehjhlonaaGreatDoorCL5
import Derived.Test.YtcejljehjhlonaaGreatDoorB5
namespace Go.Proofs.YtcejljehjhlonaaGreatDoor
open Go.RowKit
attribute [local go_sem ↓] Go.wp_at_zero Go.wp_at_succ

set_option maxHeartbeats 1000000 in
theorem sameTerms_any (a b : List Tm) (x y : Value) (w : World) (h : Ts w x a) (h' : Ts w y b) :
  Calls Tryz.prog 44 #[x, y] w fun e w' => e = .returned (.bool (decide (a = b))) /\ Below w.heap.size w w' := by
 obtain ⟨ad, cap, rfl, hl, h⟩ := h
 obtain ⟨ad', cap', rfl, hl', h'⟩ := h'
 by_cases e2 : a.length = b.length
 ·have hq2 : ((a.length : Int) == (b.length : Int)) = true := by simp; omega
  have E2 : Hid (a.length = b.length) := e2
  clear e2
  go_enter Tryz.func44, Tryz.ntmps44
  go_wp2
  go_loopg [5] a.length (fun g i wr => ∃ j : Nat, j + g = a.length /\ i = .int .i64 j /\ (a = b ↔ a.drop j = b.drop j) /\ Below w.heap.size w wr)
  case atStart => exact ⟨0, by omega, rfl, by simp, Below.refl _ _⟩
  case round =>
   obtain ⟨j, hj, rfl, hgo, hb⟩ := hrel
   have HG : Hid (a = b ↔ a.drop j = b.drop j) := hgo
   clear hgo
   cases gk with
   | succ g =>
    have hlt : (j : Int) < (a.length : Int) := by omega
    have hlt' : (j : Int) < (b.length : Int) := by have := E2.out; omega
    have j0 : (0 : Int) <= (j : Int) := by omega
    obtain ⟨t, ht⟩ : ∃ t, a[j]? = some t := ⟨_, List.getElem?_eq_getElem (by omega)⟩
    obtain ⟨u, hu⟩ : ∃ u, b[j]? = some u := ⟨_, List.getElem?_eq_getElem (by omega)⟩
    have HS : Hid ((a = b) ↔ (t = u /\ a.drop (j + 1) = b.drop (j + 1))) := HG.out.trans (drop_eq_step a b j t u ht hu)
    rcases h with h | ⟨b1, o1, rfl, hb1, h⟩
    ·subst h; simp at hj
    rcases h' with h' | ⟨b2, o2, rfl, hb2, h'⟩
    ·subst h'; simp at hu
    obtain ⟨p0, p1, p2⟩ := h j t ht
    obtain ⟨q0, q1, q2⟩ := h' j u hu
    rw [<- hb.cell (p := ⟨b1, _, none⟩) hb1] at p0 p1 p2
    rw [<- hb.cell (p := ⟨b2, _, none⟩) hb2] at q0 q1 q2
    have he := run_neq_tm t u
    clear h h' ht hu
    obtain ⟨tk, tn, ts⟩ := t
    obtain ⟨uk, un, us⟩ := u
    simp only at p0 p1 p2 q0 q1 q2
    by_cases htu : Tm.mk tk tn ts = ⟨uk, un, us⟩
    ·have HS2 : Hid (a = b ↔ a.drop (j + 1) = b.drop (j + 1)) := by
      have := HS.out; show a = b ↔ _; simpa [htu] using this
     rw [decide_eq_true htu] at he
     clear htu
     go_wp2
     go_quiet (fail)
     go_wp2
     go_roundg g
     case measure => omega
     case rel => exact ⟨j + 1, by omega, by go_num, HS2.out, below_drewN hb _⟩
    ·have HS2 : Hid (decide (a = b) = false) := decide_eq_false fun e => htu (HS.out.1 e).1
     rw [decide_eq_false htu] at he
     clear htu
     go_wp2
     go_quiet (fail)
     go_wp2
     go_ret
     exact ⟨ret_b HS2.out.symm, below_drewN hb _⟩
   | zero =>
    have hlt : ¬ (j : Int) < (a.length : Int) := by omega
    have HS2 : Hid (decide (a = b) = true) := decide_eq_true (HG.out.2 (by rw [List.drop_eq_nil_of_le (by omega), List.drop_eq_nil_of_le (by have := E2.out; omega)]))
    clear hj h h'
    go_wp2
    go_ret
    exact ⟨ret_b HS2.out.symm, hb⟩
 ·have hq2 : ((a.length : Int) == (b.length : Int)) = false := by simp; omega
  have HS2 : Hid (decide (a = b) = false) := decide_eq_false fun e => e2 (by rw [e])
  clear e2 h h'
  go_enter Tryz.func44, Tryz.ntmps44
  go_wp2
  go_ret
  exact ⟨ret_b HS2.out.symm, Below.refl _ _⟩

theorem drop_eq_stepE (a b : List Te) (i : Nat) (t u : Te) (ht : a[i]? = some t) (hu : b[i]? = some u) : (a.drop i = b.drop i) ↔ (t = u /\ a.drop (i + 1) = b.drop (i + 1)) := by
 obtain ⟨h1, rfl⟩ := List.getElem?_eq_some_iff.1 ht
 obtain ⟨h2, rfl⟩ := List.getElem?_eq_some_iff.1 hu
 rw [List.drop_eq_getElem_cons h1, List.drop_eq_getElem_cons h2, List.cons.injEq]
theorem run_neq_te (t u : Te) (w : World) : (binOp .neq 73 t.v u.v).run Tryz.prog w = .ok (.bool (!decide (t = u))) w := by
 obtain ⟨op, ⟨kl, ml, sl⟩, ⟨kr, mr, sr⟩⟩ := t
 obtain ⟨oq, ⟨kp, mp, sp⟩, ⟨kq, mq, sq⟩⟩ := u
 by_cases h0 : op = oq
 ·subst h0
  by_cases h1 : kl = kp
  ·subst h1
   by_cases h2 : ml = mp
   ·subst h2
    by_cases h3 : sl = sp
    ·subst h3
     by_cases h4 : kr = kq
     ·subst h4
      by_cases h5 : mr = mq
      ·subst h5
       by_cases h6 : sr = sq
       ·subst h6; go_simp
       ·have h7 : ¬ sr.toList = sq.toList := fun e => h6 (toList_inj e)
        go_simp
      ·go_simp
     ·go_simp
    ·have h7 : ¬ sl.toList = sp.toList := fun e => h3 (toList_inj e)
     go_simp
   ·go_simp
  ·go_simp
 ·go_simp
set_option maxHeartbeats 1000000 in
theorem sameTests_any (a b : List Te) (x y : Value) (w : World) (h : Es w x a) (h' : Es w y b) :
  Calls Tryz.prog 54 #[x, y] w fun e w' => e = .returned (.bool (decide (a = b))) /\ Below w.heap.size w w' := by
 obtain ⟨ad, cap, rfl, hl, h⟩ := h
 obtain ⟨ad', cap', rfl, hl', h'⟩ := h'
 by_cases e2 : a.length = b.length
 ·have hq2 : ((a.length : Int) == (b.length : Int)) = true := by simp; omega
  have E2 : Hid (a.length = b.length) := e2
  clear e2
  go_enter Tryz.func54, Tryz.ntmps54
  go_wp2
  go_loopg [5] a.length (fun g i wr => ∃ j : Nat, j + g = a.length /\ i = .int .i64 j /\ (a = b ↔ a.drop j = b.drop j) /\ Below w.heap.size w wr)
  case atStart => exact ⟨0, by omega, rfl, by simp, Below.refl _ _⟩
  case round =>
   obtain ⟨j, hj, rfl, hgo, hb⟩ := hrel
   have HG : Hid (a = b ↔ a.drop j = b.drop j) := hgo
   clear hgo
   cases gk with
   | succ g =>
    have hlt : (j : Int) < (a.length : Int) := by omega
    have hlt' : (j : Int) < (b.length : Int) := by have := E2.out; omega
    have j0 : (0 : Int) <= (j : Int) := by omega
    obtain ⟨t, ht⟩ : ∃ t, a[j]? = some t := ⟨_, List.getElem?_eq_getElem (by omega)⟩
    obtain ⟨u, hu⟩ : ∃ u, b[j]? = some u := ⟨_, List.getElem?_eq_getElem (by omega)⟩
    have HS : Hid ((a = b) ↔ (t = u /\ a.drop (j + 1) = b.drop (j + 1))) := HG.out.trans (drop_eq_stepE a b j t u ht hu)
    rcases h with h | ⟨b1, o1, rfl, hb1, h⟩
    ·subst h; simp at hj
    rcases h' with h' | ⟨b2, o2, rfl, hb2, h'⟩
    ·subst h'; simp at hu
    obtain ⟨p0, p1, p2, p3, p4, p5, p6⟩ := h j t ht
    obtain ⟨q0, q1, q2, q3, q4, q5, q6⟩ := h' j u hu
    rw [<- hb.cell (p := ⟨b1, _, none⟩) hb1] at p0 p1 p2 p3 p4 p5 p6
    rw [<- hb.cell (p := ⟨b2, _, none⟩) hb2] at q0 q1 q2 q3 q4 q5 q6
    have he := run_neq_te t u
    clear h h' ht hu
    obtain ⟨op, ⟨kl, ml, sl⟩, ⟨kr, mr, sr⟩⟩ := t
    obtain ⟨oq, ⟨kp, mp, sp⟩, ⟨kq, mq, sq⟩⟩ := u
    simp only at p0 p1 p2 p3 p4 p5 p6 q0 q1 q2 q3 q4 q5 q6
    by_cases htu : Te.mk op ⟨kl, ml, sl⟩ ⟨kr, mr, sr⟩ = ⟨oq, ⟨kp, mp, sp⟩, ⟨kq, mq, sq⟩⟩
    ·have HS2 : Hid (a = b ↔ a.drop (j + 1) = b.drop (j + 1)) := by
      have := HS.out; show a = b ↔ _; simpa [htu] using this
     rw [decide_eq_true htu] at he
     clear htu
     go_wp2
     go_quiet (fail)
     go_wp2
     go_roundg g
     case measure => omega
     case rel => exact ⟨j + 1, by omega, by go_num, HS2.out, below_drewN hb _⟩
    ·have HS2 : Hid (decide (a = b) = false) := decide_eq_false fun e => htu (HS.out.1 e).1
     rw [decide_eq_false htu] at he
     clear htu
     go_wp2
     go_quiet (fail)
     go_wp2
     go_ret
     exact ⟨ret_b HS2.out.symm, below_drewN hb _⟩
   | zero =>
    have hlt : ¬ (j : Int) < (a.length : Int) := by omega
    have HS2 : Hid (decide (a = b) = true) := decide_eq_true (HG.out.2 (by rw [List.drop_eq_nil_of_le (by omega), List.drop_eq_nil_of_le (by have := E2.out; omega)]))
    clear hj h h'
    go_wp2
    go_ret
    exact ⟨ret_b HS2.out.symm, hb⟩
 ·have hq2 : ((a.length : Int) == (b.length : Int)) = false := by simp; omega
  have HS2 : Hid (decide (a = b) = false) := decide_eq_false fun e => e2 (by rw [e])
  clear e2 h h'
  go_enter Tryz.func54, Tryz.ntmps54
  go_wp2
  go_ret
  exact ⟨ret_b HS2.out.symm, Below.refl _ _⟩

set_option maxHeartbeats 1000000 in
theorem sameAtom_any (a b : At) (x y : Value) (w : World) (h : Ts w x a.args) (h' : Ts w y b.args) :
  Calls Tryz.prog 21 #[a.v x, b.v y] w fun e w' => e = .returned (.bool (decide (a = b))) /\ Below w.heap.size w w' := by
 obtain ⟨⟨k, n, s⟩, nm, l⟩ := a
 obtain ⟨⟨k', n', s'⟩, nm', l'⟩ := b
 have HX : Hid (Ts w x l) := h
 have HY : Hid (Ts w y l') := h'
 obtain ⟨xa, xc, hxs, -⟩ := h
 obtain ⟨ya, yc, hys, -⟩ := h'
 simp only at hxs hys
 subst hxs hys
 obtain ⟨r, hr⟩ : ∃ r, decide (At.mk ⟨k, n, s⟩ nm l = At.mk ⟨k', n', s'⟩ nm' l') = r := ⟨_, rfl⟩
 rw [hr]
 have HR : Hid ((decide (Tm.mk k n s = ⟨k', n', s'⟩) && (decide (nm.toList = nm'.toList) && decide (l = l'))) = r) := by
  show _ = r
  rw [<- hr, Bool.eq_iff_iff]
  simp only [Bool.and_eq_true, decide_eq_true_eq, At.mk.injEq]
  exact ⟨fun ⟨p, q, r⟩ => ⟨p, toList_inj q, r⟩, fun ⟨p, q, r⟩ => ⟨p, by rw [q], r⟩⟩
 clear hr
 have he := run_eql_tm ⟨k, n, s⟩ ⟨k', n', s'⟩
 by_cases e2 : Tm.mk k n s = ⟨k', n', s'⟩
 ·rw [decide_eq_true e2] at he
  by_cases e1 : nm.toList = nm'.toList
  ·have hq1 : (nm.toList == nm'.toList) = true := by simpa using e1
   have HR2 : Hid (decide (l = l') = r) := by show _ = r; rw [<- HR.out]; simp [e1, e2]
   clear e1 e2 HR
   go_enter Tryz.func21, Tryz.ntmps21
   go_wp2_with (go_at_call 44; refine (sameTerms_any l l' _ _ _ (HX.out.later (below2 _ _ _)) (HY.out.later (below2 _ _ _))).mono ?_; rw [HR2.out]; rintro e w1 ⟨rfl, hb1⟩)
   go_ret
   exact ⟨rfl, below_step (below2 _ _ _) hb1⟩
  ·have HR2 : Hid (false = r) := by show false = r; rw [<- HR.out]; simp [e1]
   have hq1 : (nm.toList == nm'.toList) = false := by simpa using e1
   clear e1 e2 HR
   go_enter Tryz.func21, Tryz.ntmps21
   go_wp2
   go_ret
   exact ⟨ret_b HR2.out, below2 _ _ _⟩
 ·have HR2 : Hid (false = r) := by show false = r; rw [<- HR.out]; simp [e2]
  rw [decide_eq_false e2] at he
  clear e2 HR
  go_enter Tryz.func21, Tryz.ntmps21
  go_wp2
  go_ret
  exact ⟨ret_b HR2.out, below2 _ _ _⟩
def fsts (l : List (At × Value)) : List At := l.map (·.1)
theorem fsts_step {a b : List (At × Value)} {i : Nat} {t u : At × Value} (ht : a[i]? = some t) (hu : b[i]? = some u) : (fsts (a.drop i) = fsts (b.drop i)) ↔ (t.1 = u.1 /\ fsts (a.drop (i + 1)) = fsts (b.drop (i + 1))) := by
 obtain ⟨h1, rfl⟩ := List.getElem?_eq_some_iff.1 ht
 obtain ⟨h2, rfl⟩ := List.getElem?_eq_some_iff.1 hu
 unfold fsts
 rw [List.drop_eq_getElem_cons h1, List.drop_eq_getElem_cons h2, List.map_cons, List.map_cons, List.cons.injEq]
end Go.Proofs.YtcejljehjhlonaaGreatDoor
namespace Go.Proofs.YtcejljehjhlonaaGreatDoor
open Go.RowKit

def Cm.cmp (c d : Cm) : Int := if c.head.1.cmp d.head.1 ≠ 0 then c.head.1.cmp d.head.1 else if cmpGL cmpX c.body d.body ≠ 0 then cmpGL cmpX c.body d.body else cmpGL Te.cmp c.tests d.tests
def Cm.same (c d : Cm) : Bool := decide (c.head.1 = d.head.1) && (decide (fsts c.body = fsts d.body) && decide (c.tests = d.tests))
end Go.Proofs.YtcejljehjhlonaaGreatDoor
namespace Go.Proofs.YtcejljehjhlonaaGreatDoor

def cmpN {α : Type} (f : α -> α -> Int) : List α -> List α -> Int
 | x :: p, y :: q => if f x y ≠ 0 then f x y else cmpN f p q
 | _, _ => 0
theorem cmpN_ord {α : Type} {f : α -> α -> Int} (hf : Ord3 f) : ∀ n : Nat, (∀ a b : List α, a.length = n -> b.length = n -> (cmpN f a b = -1 ∨ cmpN f a b = 0 ∨ cmpN f a b = 1) /\ cmpN f b a = - cmpN f a b /\ (cmpN f a b = 0 -> a = b)) ∧
  (∀ a b c : List α, a.length = n -> b.length = n -> c.length = n -> cmpN f a b <= 0 -> cmpN f b c <= 0 -> cmpN f a c <= 0 /\ (cmpN f a b < 0 ∨ cmpN f b c < 0 -> cmpN f a c < 0))
 | 0 => by
  refine ⟨fun a b ha hb => ?_, fun a b c ha hb hc => ?_⟩
  ·rw [List.length_eq_zero_iff] at ha hb; subst ha hb; simp [cmpN]
  ·rw [List.length_eq_zero_iff] at ha hb hc; subst ha hb hc; simp [cmpN]
 | n + 1 => by
  have ih := cmpN_ord hf n
  refine ⟨fun a b ha hb => ?_, fun a b c ha hb hc => ?_⟩
  ·match a, b, ha, hb with
   | x :: a, y :: b, ha, hb =>
    have i := ih.1 a b (by simpa using ha) (by simpa using hb)
    have hn := hf.neg x y
    by_cases h : f x y = 0
    ·have e := hf.zero x y h
     simp only [cmpN]
     rw [if_neg (by omega), if_neg (by omega)]
     exact ⟨i.1, i.2.1, fun h' => by rw [e, i.2.2 h']⟩
    ·simp only [cmpN]
     rw [if_pos h, if_pos (by omega)]
     exact ⟨hf.rng x y, hn, fun h' => absurd h' h⟩
  ·match a, b, c, ha, hb, hc with
   | x :: a, y :: b, z :: c, ha, hb, hc =>
    have i := ih.2 a b c (by simpa using ha) (by simpa using hb) (by simpa using hc)
    have t := hf.tr x y z
    simp only [cmpN]
    by_cases h1 : f x y = 0
    ·have e1 := hf.zero _ _ h1
     rw [e1] at h1 ⊢
     by_cases h2 : f y z = 0
     ·simp only [h1, h2, ne_eq, not_true_eq_false, if_false]; exact i
     ·simp only [h1, h2, ne_eq, not_true_eq_false, not_false_eq_true, if_false, if_true]; intro _ h; exact ⟨h, fun _ => by omega⟩
    ·by_cases h2 : f y z = 0
     ·have e2 := hf.zero _ _ h2
      rw [<- e2] at h2 ⊢
      simp only [h1, h2, ne_eq, not_true_eq_false, not_false_eq_true, if_false, if_true]
      intro h _; exact ⟨h, fun _ => by omega⟩
     ·simp only [h1, h2, ne_eq, not_false_eq_true, if_true]
      intro h h'
      have := (t h h').2 (Or.inl (by omega))
      rw [if_pos (by omega)]
      exact ⟨by omega, fun _ => this⟩
def cmpNL {α : Type} (f : α -> α -> Int) (a b : List α) : Int := if M.sgI a.length b.length ≠ 0 then M.sgI a.length b.length else cmpN f a b
theorem cmpNL_ne {α : Type} (f : α -> α -> Int) (a b : List α) (h : a.length ≠ b.length) : cmpNL f a b = M.sgI a.length b.length := by
 unfold cmpNL; rw [if_pos (by rw [ne_eq, zI]; omega)]
theorem cmpNL_eq {α : Type} (f : α -> α -> Int) (a b : List α) (h : a.length = b.length) : cmpNL f a b = cmpN f a b := by
 unfold cmpNL; rw [if_neg (by rw [ne_eq, zI]; omega)]
theorem ord_nl {α : Type} {f : α -> α -> Int} (hf : Ord3 f) : Ord3 (cmpNL f) where
 rng a b := by
  by_cases h : a.length = b.length
  ·rw [cmpNL_eq f a b h]; exact ((cmpN_ord hf _).1 a b rfl h.symm).1
  ·rw [cmpNL_ne f a b h]; exact ord_sgI.rng _ _
 neg a b := by
  by_cases h : a.length = b.length
  ·rw [cmpNL_eq f a b h, cmpNL_eq f b a h.symm]; exact ((cmpN_ord hf _).1 a b rfl h.symm).2.1
  ·rw [cmpNL_ne f a b h, cmpNL_ne f b a (Ne.symm h)]; exact ord_sgI.neg _ _
 zero a b := by
  by_cases h : a.length = b.length
  ·rw [cmpNL_eq f a b h]; exact ((cmpN_ord hf _).1 a b rfl h.symm).2.2
  ·rw [cmpNL_ne f a b h, zI]; omega
 refl a := by
  rw [cmpNL_eq f a a rfl]
  have h := ((cmpN_ord hf _).1 a a rfl rfl).2.1
  omega
 tr a b c := by
  have t := ord_sgI.tr a.length b.length c.length
  have z1 := zI a.length b.length
  have z2 := zI b.length c.length
  have z3 := zI a.length c.length
  by_cases h1 : a.length = b.length
  ·by_cases h2 : b.length = c.length
   ·rw [cmpNL_eq f a b h1, cmpNL_eq f b c h2, cmpNL_eq f a c (h1.trans h2)]
    exact (cmpN_ord hf _).2 a b c rfl h1.symm (h1.trans h2).symm
   ·rw [cmpNL_eq f a b h1, cmpNL_ne f b c h2, cmpNL_ne f a c (by omega), h1]
    intro _ h; exact ⟨h, fun _ => by omega⟩
  ·by_cases h2 : b.length = c.length
   ·rw [cmpNL_ne f a b h1, cmpNL_eq f b c h2, cmpNL_ne f a c (by omega), <- h2]
    intro h _; exact ⟨h, fun _ => by omega⟩
   ·rw [cmpNL_ne f a b h1, cmpNL_ne f b c h2]
    intro h h'
    have := (t h h').2 (Or.inl (by omega))
    rw [cmpNL_ne f a c (by omega)]
    exact ⟨by omega, fun _ => this⟩

theorem cmpG_N {α : Type} (f : α -> α -> Int) : ∀ p q : List α, cmpG f p q = cmpN f p q
 | [], _ => rfl
 | _ :: _, [] => rfl
 | x :: p, y :: q => by
  simp only [cmpG, cmpN]
  by_cases h : f x y = 0
  ·rw [if_pos h, if_neg (by omega), cmpG_N f p q]
  ·rw [if_neg h, if_pos h]
theorem cmpG_X : ∀ p q : List (At × Value), cmpG cmpX p q = cmpG At.cmp (fsts p) (fsts q)
 | [], _ => by simp [fsts, cmpG]
 | _ :: _, [] => by simp [fsts, cmpG]
 | x :: p, y :: q => by
  show (if x.1.cmp y.1 = 0 then cmpG cmpX p q else x.1.cmp y.1) = if x.1.cmp y.1 = 0 then cmpG At.cmp (fsts p) (fsts q) else x.1.cmp y.1
  rw [cmpG_X p q]
theorem cmpGL_N {α : Type} (f : α -> α -> Int) (p q : List α) : cmpGL f p q = cmpNL f p q := by
 unfold cmpGL
 by_cases h : p.length = q.length
 ·rw [if_pos h, cmpNL_eq f _ _ h, cmpG_N]
 ·rw [if_neg h, cmpNL_ne f _ _ h]
theorem cmpGL_X (p q : List (At × Value)) : cmpGL cmpX p q = cmpNL At.cmp (fsts p) (fsts q) := by
 rw [<- cmpGL_N]
 unfold cmpGL
 rw [cmpG_X]
 simp [fsts]
theorem ord_te : Ord3 Te.cmp := by
 have h1 := Ord3.lex (γ := Tm × Tm) ord_tm ord_tm (fun x => x.1) (fun x => x.2) (fun x y h h' => Prod.ext h h')
 have h2 := Ord3.lex (γ := Te) ord_sgI h1 (fun x => x.op) (fun x => (x.l, x.r)) (fun x y h h' => by
  obtain ⟨o, l, r⟩ := x
  obtain ⟨o', l', r'⟩ := y
  simp only [Prod.mk.injEq] at h h'
  rw [h, h'.1, h'.2])
 exact h2
def Cm.key (c : Cm) : At × List At × List Te := (c.head.1, fsts c.body, c.tests)
def cmpC (x y : At × List At × List Te) : Int := if x.1.cmp y.1 ≠ 0 then x.1.cmp y.1 else if cmpNL At.cmp x.2.1 y.2.1 ≠ 0 then cmpNL At.cmp x.2.1 y.2.1 else cmpNL Te.cmp x.2.2 y.2.2
theorem ord_c : Ord3 cmpC := by
 have h1 := Ord3.lex (γ := List At × List Te) (ord_nl ord_at) (ord_nl ord_te) (fun x => x.1) (fun x => x.2) (fun x y h h' => Prod.ext h h')
 exact Ord3.lex (γ := At × List At × List Te) ord_at h1 (fun x => x.1) (fun x => x.2) (fun x y h h' => Prod.ext h h')
theorem cmp_key (c d : Cm) : c.cmp d = cmpC c.key d.key := by
 unfold Cm.cmp cmpC Cm.key
 rw [cmpGL_X, cmpGL_N]
end Go.Proofs.YtcejljehjhlonaaGreatDoor
namespace Go.Proofs.YtcejljehjhlonaaGreatDoor
open Go.RowKit

abbrev Ck := At × List At × List Te
def Ck.terms (x : Ck) : List Tm := x.1.pl ++ (x.2.1.flatMap At.pl ++ tls x.2.2)
theorem key_terms (c : Cm) : c.terms = Ck.terms c.key := by
 rw [Cm.terms_eq, Ck.terms, Cm.key, flt, fsts, List.flatMap_map]; simp
def mapA (f : Tm -> Tm) (a : At) : At := ⟨f a.by_, a.name, a.args.map f⟩
def mapE (f : Tm -> Tm) (t : Te) : Te := ⟨t.op, f t.l, f t.r⟩
def mapC (f : Tm -> Tm) (x : Ck) : Ck := (mapA f x.1, x.2.1.map (mapA f), x.2.2.map (mapE f))
theorem err_zero' {a : At} (h : a.err = 0) : nameOk a.name = true /\ a.args.length <= 8 /\ qualOk a.by_ = true /\ ∀ t ∈ a.args, t.cov = true := by
 unfold At.err at h
 split at h
 ·cases h
 split at h
 ·cases h
 split at h
 ·cases h
 split at h
 ·rename_i a1 a2 a3 a4
  exact ⟨by simpa using a1, by omega, by simpa using a3, by rwa [List.all_eq_true] at a4⟩
 ·cases h
def dstepT (acc : List Tm) (x : Tm) : List Tm := if x ∈ acc then acc else acc ++ [x]
def disT (l : List Tm) : List Tm := (l.filter Tm.var).foldl dstepT []
theorem dstepT_mem {acc : List Tm} {x y : Tm} : y ∈ dstepT acc x ↔ y ∈ acc ∨ y = x := by
 unfold dstepT
 by_cases h : x ∈ acc
 ·rw [if_pos h]
  exact ⟨Or.inl, fun e => e.elim id fun e => e ▸ h⟩
 ·rw [if_neg h]; simp
theorem foldT_mem : ∀ {l acc : List Tm} {y : Tm}, y ∈ l.foldl dstepT acc ↔ y ∈ acc ∨ y ∈ l
 | [], acc, y => by simp
 | x :: l, acc, y => by rw [List.foldl_cons, foldT_mem, dstepT_mem, List.mem_cons, or_assoc]
theorem disT_mem {l : List Tm} {y : Tm} : y ∈ disT l ↔ y ∈ l /\ y.var = true := by
 unfold disT; rw [foldT_mem, List.mem_filter]; simp
theorem foldT_pre : ∀ (l acc : List Tm), acc <+: l.foldl dstepT acc
 | [], acc => List.prefix_rfl
 | x :: l, acc => by
  rw [List.foldl_cons]
  refine List.IsPrefix.trans ?_ (foldT_pre l _)
  unfold dstepT
  split
  ·exact List.prefix_rfl
  ·exact List.prefix_append _ _
def ix : List Tm -> Tm -> Nat
 | [], _ => 0
 | x :: l, t => if x = t then 0 else ix l t + 1
theorem ix_lt : ∀ {l : List Tm} {t : Tm}, t ∈ l -> ix l t < l.length
 | x :: l, t, h => by
  rw [ix]
  by_cases e : x = t
  ·rw [if_pos e]; simp
  ·rw [if_neg e]
   have := ix_lt (l := l) (t := t) (by rcases List.mem_cons.1 h with h | h; exact absurd h.symm e; exact h)
   simp only [List.length_cons]; omega
theorem ix_app : ∀ {p q : List Tm} {t : Tm}, t ∈ p -> ix (p ++ q) t = ix p t
 | x :: l, q, t, h => by
  rw [List.cons_append, ix, ix]
  by_cases e : x = t
  ·rw [if_pos e, if_pos e]
  ·rw [if_neg e, if_neg e, ix_app (by rcases List.mem_cons.1 h with h | h; exact absurd h.symm e; exact h)]
theorem ix_new : ∀ {p : List Tm} {t : Tm}, ¬ t ∈ p -> ix (p ++ [t]) t = p.length
 | [], t, _ => by simp [ix]
 | x :: l, t, h => by
  rw [List.cons_append, ix, if_neg (fun e => h (by simp [e])), ix_new (fun e => h (by simp [e]))]; rfl
theorem ix_get : ∀ {l : List Tm} {t : Tm}, t ∈ l -> l[ix l t]? = some t
 | x :: l, t, h => by
  rw [ix]
  by_cases e : x = t
  ·rw [if_pos e]; simp [e]
  ·rw [if_neg e, List.getElem?_cons_succ]; exact ix_get (by rcases List.mem_cons.1 h with h | h; exact absurd h.symm e; exact h)
theorem idxOf_pre {p q : List Tm} {t : Tm} (h : p <+: q) (ht : t ∈ p) : ix q t = ix p t := by
 obtain ⟨r, rfl⟩ := h
 exact ix_app ht
theorem mis_idx : ∀ (l acc : List Tm), mis acc.length (l.map fun t => ((ix (l.foldl dstepT acc) t : Nat) : Int)) = false
 | [], _ => rfl
 | t :: r, acc => by
  rw [List.map_cons, List.foldl_cons]
  have hpre := foldT_pre r (dstepT acc t)
  have ih := mis_idx r (dstepT acc t)
  by_cases h : t ∈ acc
  ·have e : dstepT acc t = acc := if_pos h
   rw [e] at hpre ih ⊢
   have e2 := idxOf_pre hpre h
   have e3 := ix_lt h
   rw [mis, if_neg (by rw [e2]; omega), if_neg (by rw [e2]; omega)]
   exact ih
  ·have e : dstepT acc t = acc ++ [t] := if_neg h
   rw [e] at hpre ih ⊢
   have e2 := idxOf_pre hpre (t := t) (by simp)
   have e3 : ix (acc ++ [t]) t = acc.length := ix_new h
   rw [mis, if_neg (by rw [e2, e3]; omega), if_pos (by rw [e2, e3])]
   rw [List.length_append, List.length_singleton] at ih
   exact_mod_cast ih
end Go.Proofs.YtcejljehjhlonaaGreatDoor
namespace Go.Proofs.YtcejljehjhlonaaGreatDoor
open Go.RowKit
attribute [local go_sem ↓] Go.wp_at_zero Go.wp_at_succ

set_option maxHeartbeats 1000000 in
theorem within_any (l : List Tm) (v : Value) (t : Tm) (w : World) (h : Ts w v l) :
  Calls Tryz.prog 68 #[v, t.v] w fun e w' => e = .returned (.bool (decide (t ∈ l))) /\ Below w.heap.size w w' := by
 obtain ⟨ad, cap, rfl, hl, h⟩ := h
 obtain ⟨r, hr⟩ : ∃ r, decide (t ∈ l) = r := ⟨_, rfl⟩
 rw [hr]
 obtain ⟨k, n, s⟩ := t
 have HR : Hid (decide (Tm.mk k n s ∈ l) = r) := hr
 clear hr
 go_enter Tryz.func68, Tryz.ntmps68
 go_wp2
 have bx := Blk.new w #[.int .i64 k, .int .i64 n, .string s] 36
 have hbx := below1 w (.cells #[.int .i64 k, .int .i64 n, .string s] 36)
 have h' : l = [] ∨ ∃ b o, ad = some ⟨b, o, none⟩ /\ TRow (w.alloc (.cells #[.int .i64 k, .int .i64 n, .string s] 36)) b o l := by
  rcases h with h | ⟨b, o, h1, h2⟩
  ·exact Or.inl h
  ·exact Or.inr ⟨b, o, h1, h2.later hbx⟩
 revert bx hbx h'
 generalize w.alloc (.cells #[.int .i64 k, .int .i64 n, .string s] 36) = X
 intro bx hbx h'
 clear h
 have HBX : Hid (Below w.heap.size w X) := hbx
 have BX : Hid (Blk X w.heap.size #[.int .i64 k, .int .i64 n, .string s] 36) := bx
 clear hbx bx
 go_loopg [5] l.length (fun g i wr => ∃ j : Nat, j + g = l.length /\ i = .int .i64 j /\ (¬ Tm.mk k n s ∈ l.take j) /\ Below X.heap.size X wr)
 case atStart => exact ⟨0, by omega, rfl, by simp, Below.refl _ _⟩
 case round =>
  obtain ⟨j, hj, rfl, hno, hb⟩ := hrel
  have HN : Hid (¬ Tm.mk k n s ∈ l.take j) := hno
  clear hno
  cases gk with
  | succ g =>
   have hlt : (j : Int) < (l.length : Int) := by omega
   have j0 : (0 : Int) <= (j : Int) := by omega
   obtain ⟨u, hu⟩ : ∃ u, l[j]? = some u := ⟨_, List.getElem?_eq_getElem (by omega)⟩
   rcases h' with h | ⟨b1, o1, rfl, hb1, h⟩
   ·subst h; simp at hj
   obtain ⟨p0, p1, p2⟩ := h j u hu
   rw [<- hb.cell (p := ⟨b1, _, none⟩) hb1] at p0 p1 p2
   obtain ⟨q0, q1, q2, -, -, -⟩ := three (Blk.later (Hid.out BX) hb)
   have he := run_eql_tm u ⟨k, n, s⟩
   have HU : Hid (l[j]? = some u) := hu
   by_cases htu : u = ⟨k, n, s⟩
   ·have HY : Hid (decide (Tm.mk k n s ∈ l) = true) := decide_eq_true (by rw [<- htu]; exact List.mem_of_getElem? hu)
    rw [decide_eq_true htu] at he
    clear htu hu h
    obtain ⟨uk, un, us⟩ := u
    simp only at p0 p1 p2
    go_wp2
    go_quiet (fail)
    go_wp2
    go_ret
    exact ⟨ret_b (HY.out.symm.trans HR.out), below_step (Hid.out HBX) (below_drewN hb _)⟩
   ·have HY : Hid (¬ Tm.mk k n s ∈ l.take (j + 1)) := by
     show ¬ _
     rw [List.take_add_one, hu]
     simp only [Option.toList_some, List.mem_append, List.mem_singleton, not_or]
     exact ⟨HN.out, fun e => htu e.symm⟩
    rw [decide_eq_false htu] at he
    clear htu hu h
    obtain ⟨uk, un, us⟩ := u
    simp only at p0 p1 p2
    go_wp2
    go_quiet (fail)
    go_wp2
    go_roundg g
    case measure => omega
    case rel => exact ⟨j + 1, by omega, by go_num, HY.out, below_drewN hb _⟩
  | zero =>
   obtain rfl : j = l.length := by omega
   have HY : Hid (decide (Tm.mk k n s ∈ l) = false) := decide_eq_false (by have := HN.out; rwa [List.take_length] at this)
   have hz : ¬ ((l.length : Int) < (l.length : Int)) := by omega
   clear h'
   go_wp2
   go_ret
   exact ⟨ret_b (HY.out.symm.trans HR.out), below_step (Hid.out HBX) hb⟩

end Go.Proofs.YtcejljehjhlonaaGreatDoor
