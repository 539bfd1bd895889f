import Derived.Test.YtdfgijdededolabGreatDoorCL1
import Derived.Deep.AppendLies
import Derived.WalkMore
import Derived.Deep.LoopGhost
import Derived.Deep.CutRange
import Derived.Deep.RegionHeld3
import Derived.BigQuiet
/-
  Binds in memory that the call itself made; firstBinds.
-/
namespace Go.Proofs.YtdfgijdededolabGreatDoor
open Go.RowKit

def Bd.cs (d : Bd) : List Value := [.int .i64 d.x, .int .i64 d.to.k, .int .i64 d.to.n, .string d.to.s]
theorem four {w : World} {g : Nat} {a b c d : Value} {t : TypeId} (h : w.heap[g]? = some (.cells #[a, b, c, d] t (0, 0))) :
    w.cell? ⟨g, 0, none⟩ = some a ∧ w.cell? ⟨g, 1, none⟩ = some b ∧ w.cell? ⟨g, 2, none⟩ = some c ∧ w.cell? ⟨g, 3, none⟩ = some d :=
  ⟨cell_of_row _ _ _ _ _ _ h, cell_of_row _ _ _ _ _ _ h, cell_of_row _ _ _ _ _ _ h, cell_of_row _ _ _ _ _ _ h⟩
end Go.Proofs.YtdfgijdededolabGreatDoor
/-
  Match.
-/
namespace Go.Proofs.YtdfgijdededolabGreatDoor
open Go.RowKit
attribute [local go_sem ↓] Go.wp_at_zero Go.wp_at_succ

theorem pl_len (a : At) : a.pl.length = a.args.length + 1 := by simp [At.pl]
theorem balloc {w W : World} {o : Obj} (h : Below w.heap.size w W) : Below w.heap.size w (W.alloc o) := h.alloc h.size _
theorem bset {w W : World} {G i : Nat} {a : Value} (h : Below w.heap.size w W) (hg : w.heap.size ≤ G) : Below w.heap.size w (W.setCell ⟨G, i, none⟩ a) := h.setCell hg _
/-- The two atoms' boxes, as Match lays them. -/
def Box2 (w W : World) (c d : Array Value) : Prop := W.heap[w.heap.size]? = some (.cells c 37 (0, 0)) ∧ W.heap[w.heap.size + 1]? = some (.cells d 37 (0, 0)) ∧ Below w.heap.size w W
theorem Box2.start (w : World) (c d : Array Value) : Box2 w ((w.alloc (.cells c 37)).alloc (.cells d 37)) c d := ⟨heap_alloc2_old _ _ _, heap_alloc2_new _ _ _, below2 _ _ _⟩
theorem Box2.later {w W W' : World} {c d : Array Value} (h : Box2 w W c d) (hb : Below W.heap.size W W') : Box2 w W' c d :=
  ⟨(hb.block _ (Array.getElem?_eq_some_iff.1 h.1).1).trans h.1, (hb.block _ (Array.getElem?_eq_some_iff.1 h.2.1).1).trans h.2.1, h.2.2.trans (hb.mono h.2.2.size)⟩
theorem Box2.lt {w W : World} {c d : Array Value} (h : Box2 w W c d) : w.heap.size + 1 < W.heap.size := (Array.getElem?_eq_some_iff.1 h.2.1).1
theorem Box2.cells {w W : World} {a b c d e a' b' c' d' e' : Value} (h : Box2 w W #[a, b, c, d, e] #[a', b', c', d', e']) :
    (W.cell? ⟨w.heap.size, 0, none⟩ = some a ∧ W.cell? ⟨w.heap.size, 1, none⟩ = some b ∧ W.cell? ⟨w.heap.size, 2, none⟩ = some c ∧ W.cell? ⟨w.heap.size, 3, none⟩ = some d ∧ W.cell? ⟨w.heap.size, 4, none⟩ = some e) ∧
    (W.cell? ⟨w.heap.size + 1, 0, none⟩ = some a' ∧ W.cell? ⟨w.heap.size + 1, 1, none⟩ = some b' ∧ W.cell? ⟨w.heap.size + 1, 2, none⟩ = some c' ∧ W.cell? ⟨w.heap.size + 1, 3, none⟩ = some d' ∧ W.cell? ⟨w.heap.size + 1, 4, none⟩ = some e') := ⟨five h.1, five h.2.1⟩
end Go.Proofs.YtdfgijdededolabGreatDoor
/-
  CompareAtoms.
-/
namespace Go.Proofs.YtdfgijdededolabGreatDoor
open Go.RowKit
attribute [local go_sem ↓] Go.wp_at_zero Go.wp_at_succ

def cmpL : List Tm → List Tm → Int
  | x :: xs, y :: ys => if x.cmp y ≠ 0 then x.cmp y else cmpL xs ys
  | _, _ => 0
def At.cmp (a b : At) : Int := if a.name.toList ≠ b.name.toList then M.sgL a.name.toList b.name.toList else if a.args.length ≠ b.args.length then M.sgI a.args.length b.args.length else cmpL a.pl b.pl
end Go.Proofs.YtdfgijdededolabGreatDoor
/-
  Compare of tests and of lists. (Written by CL13.py.)
-/
namespace Go.Proofs.YtdfgijdededolabGreatDoor
open Go.RowKit

def cmpG {α : Type} (f : α → α → Int) : List α → List α → Int
  | x :: p, y :: q => if f x y = 0 then cmpG f p q else f x y
  | _, _ => 0
def cmpGL {α : Type} (f : α → α → Int) (p q : List α) : Int := if p.length = q.length then cmpG f p q else M.sgI p.length q.length
theorem two_boxes {w w1 : World} {c d : Array Value} {t u : TypeId} (hb : Below ((w.alloc (.cells c t)).alloc (.cells d u)).heap.size ((w.alloc (.cells c t)).alloc (.cells d u)) w1) : CBlk w1 w.heap.size c t ∧ CBlk w1 (w.heap.size + 1) d u := by
  have h1 := ((CBlk.new w c t).later (below1 _ (.cells d u))).later hb
  have h2 := (CBlk.new (w.alloc (.cells c t)) d u).later hb
  rw [show (w.alloc (.cells c t)).heap.size = w.heap.size + 1 by simp] at h2
  exact ⟨h1, h2⟩
def cmpX (x y : At × Value) : Int := x.1.cmp y.1
def Te.cmp (t u : Te) : Int := if M.sgI t.op u.op ≠ 0 then M.sgI t.op u.op else if t.l.cmp u.l ≠ 0 then t.l.cmp u.l else t.r.cmp u.r
end Go.Proofs.YtdfgijdededolabGreatDoor
/-
  terms, same of the laws.
-/
namespace Go.Proofs.YtdfgijdededolabGreatDoor
open Go.RowKit
attribute [local go_sem ↓] Go.wp_at_zero Go.wp_at_succ

theorem drop_eq_step (a b : List Tm) (i : Nat) (t u : Tm) (ht : a[i]? = some t) (hu : b[i]? = some u) : (a.drop i = b.drop i) ↔ (t = u ∧ a.drop (i + 1) = b.drop (i + 1)) := by
  obtain ⟨h1, rfl⟩ := List.getElem?_eq_some_iff.1 ht
  obtain ⟨h2, rfl⟩ := List.getElem?_eq_some_iff.1 hu
  rw [List.drop_eq_getElem_cons h1, List.drop_eq_getElem_cons h2, List.cons.injEq]
instance : DecidableEq At := fun a b => decidable_of_iff (a.by_ = b.by_ ∧ a.name = b.name ∧ a.args = b.args) (by cases a; cases b; simp)
end Go.Proofs.YtdfgijdededolabGreatDoor
/-
  The same, of the laws: terms, atoms, tests, clauses. (Written by CL14.py.)
-/
namespace Go.Proofs.YtdfgijdededolabGreatDoor
open Go.RowKit
attribute [local go_sem ↓] Go.wp_at_zero Go.wp_at_succ

set_option maxHeartbeats 1000000 in
theorem sameTerms_any (a b : List Tm) (x y : Value) (w : World) (h : Ts w x a) (h' : Ts w y b) :
    Calls Tryz.prog 10 #[x, y] w fun e w' => e = .returned (.bool (decide (a = b))) ∧ Below w.heap.size w w' := by
  obtain ⟨ad, cap, rfl, hl, h⟩ := h
  obtain ⟨ad', cap', rfl, hl', h'⟩ := h'
  by_cases e2 : a.length = b.length
  · have hq2 : ((a.length : Int) == (b.length : Int)) = true := by simp; omega
    have E2 : Hid (a.length = b.length) := e2
    clear e2
    go_enter Tryz.func10, Tryz.ntmps10
    go_wp2
    go_loopg [5] a.length (fun g i wr => ∃ j : Nat, j + g = a.length ∧ i = .int .i64 j ∧ (a = b ↔ a.drop j = b.drop j) ∧ Below w.heap.size w wr)
    case atStart => exact ⟨0, by omega, rfl, by simp, Below.refl _ _⟩
    case round =>
      obtain ⟨j, hj, rfl, hgo, hb⟩ := hrel
      have HG : Hid (a = b ↔ a.drop j = b.drop j) := hgo
      clear hgo
      cases gk with
      | succ g =>
        have hlt : (j : Int) < (a.length : Int) := by omega
        have hlt' : (j : Int) < (b.length : Int) := by have := E2.out; omega
        have j0 : (0 : Int) ≤ (j : Int) := by omega
        obtain ⟨t, ht⟩ : ∃ t, a[j]? = some t := ⟨_, List.getElem?_eq_getElem (by omega)⟩
        obtain ⟨u, hu⟩ : ∃ u, b[j]? = some u := ⟨_, List.getElem?_eq_getElem (by omega)⟩
        have HS : Hid ((a = b) ↔ (t = u ∧ a.drop (j + 1) = b.drop (j + 1))) := HG.out.trans (drop_eq_step a b j t u ht hu)
        rcases h with h | ⟨b1, o1, rfl, hb1, h⟩
        · subst h; simp at hj
        rcases h' with h' | ⟨b2, o2, rfl, hb2, h'⟩
        · subst h'; simp at hu
        obtain ⟨p0, p1, p2⟩ := h j t ht
        obtain ⟨q0, q1, q2⟩ := h' j u hu
        rw [← hb.cell (p := ⟨b1, _, none⟩) hb1] at p0 p1 p2
        rw [← hb.cell (p := ⟨b2, _, none⟩) hb2] at q0 q1 q2
        have he := run_neq_tm t u
        clear h h' ht hu
        obtain ⟨tk, tn, ts⟩ := t
        obtain ⟨uk, un, us⟩ := u
        simp only at p0 p1 p2 q0 q1 q2
        by_cases htu : Tm.mk tk tn ts = ⟨uk, un, us⟩
        · have HS2 : Hid (a = b ↔ a.drop (j + 1) = b.drop (j + 1)) := by
            have := HS.out; show a = b ↔ _; simpa [htu] using this
          rw [decide_eq_true htu] at he
          clear htu
          go_wp2
          go_quiet (fail)
          go_wp2
          go_roundg g
          case measure => omega
          case rel => exact ⟨j + 1, by omega, by go_num, HS2.out, below_drewN hb _⟩
        · have HS2 : Hid (decide (a = b) = false) := decide_eq_false fun e => htu (HS.out.1 e).1
          rw [decide_eq_false htu] at he
          clear htu
          go_wp2
          go_quiet (fail)
          go_wp2
          go_ret
          exact ⟨ret_b HS2.out.symm, below_drewN hb _⟩
      | zero =>
        have hlt : ¬ (j : Int) < (a.length : Int) := by omega
        have HS2 : Hid (decide (a = b) = true) := decide_eq_true (HG.out.2 (by rw [List.drop_eq_nil_of_le (by omega), List.drop_eq_nil_of_le (by have := E2.out; omega)]))
        clear hj h h'
        go_wp2
        go_ret
        exact ⟨ret_b HS2.out.symm, hb⟩
  · have hq2 : ((a.length : Int) == (b.length : Int)) = false := by simp; omega
    have HS2 : Hid (decide (a = b) = false) := decide_eq_false fun e => e2 (by rw [e])
    clear e2 h h'
    go_enter Tryz.func10, Tryz.ntmps10
    go_wp2
    go_ret
    exact ⟨ret_b HS2.out.symm, Below.refl _ _⟩

theorem drop_eq_stepE (a b : List Te) (i : Nat) (t u : Te) (ht : a[i]? = some t) (hu : b[i]? = some u) : (a.drop i = b.drop i) ↔ (t = u ∧ a.drop (i + 1) = b.drop (i + 1)) := by
  obtain ⟨h1, rfl⟩ := List.getElem?_eq_some_iff.1 ht
  obtain ⟨h2, rfl⟩ := List.getElem?_eq_some_iff.1 hu
  rw [List.drop_eq_getElem_cons h1, List.drop_eq_getElem_cons h2, List.cons.injEq]
theorem run_neq_te (t u : Te) (w : World) : (binOp .neq 88 t.v u.v).run Tryz.prog w = .ok (.bool (!decide (t = u))) w := by
  obtain ⟨op, ⟨kl, ml, sl⟩, ⟨kr, mr, sr⟩⟩ := t
  obtain ⟨oq, ⟨kp, mp, sp⟩, ⟨kq, mq, sq⟩⟩ := u
  by_cases h0 : op = oq
  · subst h0
    by_cases h1 : kl = kp
    · subst h1
      by_cases h2 : ml = mp
      · subst h2
        by_cases h3 : sl = sp
        · subst h3
          by_cases h4 : kr = kq
          · subst h4
            by_cases h5 : mr = mq
            · subst h5
              by_cases h6 : sr = sq
              · subst h6; go_simp
              · have h7 : ¬ sr.toList = sq.toList := fun e => h6 (toList_inj e)
                go_simp
            · go_simp
          · go_simp
        · have h7 : ¬ sl.toList = sp.toList := fun e => h3 (toList_inj e)
          go_simp
      · go_simp
    · go_simp
  · go_simp
set_option maxHeartbeats 1000000 in
theorem sameTests_any (a b : List Te) (x y : Value) (w : World) (h : Es w x a) (h' : Es w y b) :
    Calls Tryz.prog 61 #[x, y] w fun e w' => e = .returned (.bool (decide (a = b))) ∧ Below w.heap.size w w' := by
  obtain ⟨ad, cap, rfl, hl, h⟩ := h
  obtain ⟨ad', cap', rfl, hl', h'⟩ := h'
  by_cases e2 : a.length = b.length
  · have hq2 : ((a.length : Int) == (b.length : Int)) = true := by simp; omega
    have E2 : Hid (a.length = b.length) := e2
    clear e2
    go_enter Tryz.func61, Tryz.ntmps61
    go_wp2
    go_loopg [5] a.length (fun g i wr => ∃ j : Nat, j + g = a.length ∧ i = .int .i64 j ∧ (a = b ↔ a.drop j = b.drop j) ∧ Below w.heap.size w wr)
    case atStart => exact ⟨0, by omega, rfl, by simp, Below.refl _ _⟩
    case round =>
      obtain ⟨j, hj, rfl, hgo, hb⟩ := hrel
      have HG : Hid (a = b ↔ a.drop j = b.drop j) := hgo
      clear hgo
      cases gk with
      | succ g =>
        have hlt : (j : Int) < (a.length : Int) := by omega
        have hlt' : (j : Int) < (b.length : Int) := by have := E2.out; omega
        have j0 : (0 : Int) ≤ (j : Int) := by omega
        obtain ⟨t, ht⟩ : ∃ t, a[j]? = some t := ⟨_, List.getElem?_eq_getElem (by omega)⟩
        obtain ⟨u, hu⟩ : ∃ u, b[j]? = some u := ⟨_, List.getElem?_eq_getElem (by omega)⟩
        have HS : Hid ((a = b) ↔ (t = u ∧ a.drop (j + 1) = b.drop (j + 1))) := HG.out.trans (drop_eq_stepE a b j t u ht hu)
        rcases h with h | ⟨b1, o1, rfl, hb1, h⟩
        · subst h; simp at hj
        rcases h' with h' | ⟨b2, o2, rfl, hb2, h'⟩
        · subst h'; simp at hu
        obtain ⟨p0, p1, p2, p3, p4, p5, p6⟩ := h j t ht
        obtain ⟨q0, q1, q2, q3, q4, q5, q6⟩ := h' j u hu
        rw [← hb.cell (p := ⟨b1, _, none⟩) hb1] at p0 p1 p2 p3 p4 p5 p6
        rw [← hb.cell (p := ⟨b2, _, none⟩) hb2] at q0 q1 q2 q3 q4 q5 q6
        have he := run_neq_te t u
        clear h h' ht hu
        obtain ⟨op, ⟨kl, ml, sl⟩, ⟨kr, mr, sr⟩⟩ := t
        obtain ⟨oq, ⟨kp, mp, sp⟩, ⟨kq, mq, sq⟩⟩ := u
        simp only at p0 p1 p2 p3 p4 p5 p6 q0 q1 q2 q3 q4 q5 q6
        by_cases htu : Te.mk op ⟨kl, ml, sl⟩ ⟨kr, mr, sr⟩ = ⟨oq, ⟨kp, mp, sp⟩, ⟨kq, mq, sq⟩⟩
        · have HS2 : Hid (a = b ↔ a.drop (j + 1) = b.drop (j + 1)) := by
            have := HS.out; show a = b ↔ _; simpa [htu] using this
          rw [decide_eq_true htu] at he
          clear htu
          go_wp2
          go_quiet (fail)
          go_wp2
          go_roundg g
          case measure => omega
          case rel => exact ⟨j + 1, by omega, by go_num, HS2.out, below_drewN hb _⟩
        · have HS2 : Hid (decide (a = b) = false) := decide_eq_false fun e => htu (HS.out.1 e).1
          rw [decide_eq_false htu] at he
          clear htu
          go_wp2
          go_quiet (fail)
          go_wp2
          go_ret
          exact ⟨ret_b HS2.out.symm, below_drewN hb _⟩
      | zero =>
        have hlt : ¬ (j : Int) < (a.length : Int) := by omega
        have HS2 : Hid (decide (a = b) = true) := decide_eq_true (HG.out.2 (by rw [List.drop_eq_nil_of_le (by omega), List.drop_eq_nil_of_le (by have := E2.out; omega)]))
        clear hj h h'
        go_wp2
        go_ret
        exact ⟨ret_b HS2.out.symm, hb⟩
  · have hq2 : ((a.length : Int) == (b.length : Int)) = false := by simp; omega
    have HS2 : Hid (decide (a = b) = false) := decide_eq_false fun e => e2 (by rw [e])
    clear e2 h h'
    go_enter Tryz.func61, Tryz.ntmps61
    go_wp2
    go_ret
    exact ⟨ret_b HS2.out.symm, Below.refl _ _⟩

def fsts (l : List (At × Value)) : List At := l.map (·.1)
end Go.Proofs.YtdfgijdededolabGreatDoor
