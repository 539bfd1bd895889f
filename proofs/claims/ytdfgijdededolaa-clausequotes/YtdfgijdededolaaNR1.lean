import Derived.Test.YtdfgijdededolaaL1
import Derived.Test.YtdfgijdededolaaCL26
import Derived.Test.YtdfgijdededolaaCL27
import Derived.Maps.OwnOps
import Derived.Maps.OwnSet
/-
  said; atoms and tests of a clause in memory.
-/
namespace Go.Proofs.Ytdfgijdededolaa
open Go.RowKit
attribute [local go_sem ↓] Go.wp_at_zero Go.wp_at_succ

set_option maxHeartbeats 1000000 in
theorem said_any (u : ByteArray) (a b : At) (x y : Value) (bare : Bool) (w : World) (h : Ts w x a.args) (h' : Ts w y b.args) :
    Calls Try.prog 21 #[.string u, a.v x, b.v y, .bool bare] w fun e w' => e = .returned (.bool (sdB u a b bare)) ∧ Below w.heap.size w w' := by
  obtain ⟨⟨k, n, s⟩, nm, l⟩ := a
  obtain ⟨⟨k', n', s'⟩, nm', l'⟩ := b
  have HX : Hid (Ts w x l) := h
  have HY : Hid (Ts w y l') := h'
  obtain ⟨xa, xc, hxs, -⟩ := h
  obtain ⟨ya, yc, hys, -⟩ := h'
  simp only at hxs hys
  subst hxs hys
  obtain ⟨r, hr⟩ : ∃ r, sdB u ⟨⟨k, n, s⟩, nm, l⟩ ⟨⟨k', n', s'⟩, nm', l'⟩ bare = r := ⟨_, rfl⟩
  rw [hr]
  have HN : Hid (nm = nm' ↔ nm.toList = nm'.toList) := ⟨fun e => by rw [e], toList_inj⟩
  cases bare with
  | true =>
    have HR : Hid ((decide (Tm.mk k n s = ⟨2, 0, u⟩) && (decide (nm = nm') && decide (l = l'))) = r) := by rw [← hr]; rfl
    clear hr
    have he := run_neq_tm ⟨k, n, s⟩ ⟨2, 0, u⟩
    by_cases e2 : Tm.mk k n s = ⟨2, 0, u⟩
    · rw [decide_eq_true e2] at he
      by_cases e1 : nm.toList = nm'.toList
      · have hq1 : (nm.toList == nm'.toList) = true := by simpa using e1
        have HR2 : Hid (decide (l = l') = r) := by show _ = r; rw [← HR.out]; simp [HN.out.2 e1, e2]
        clear e1 e2 HR HN
        go_enter Try.func21, Try.ntmps21
        go_wp2_with (go_at_call 44; refine (sameTerms_any l l' _ _ _ (HX.out.later (below2 _ _ _)) (HY.out.later (below2 _ _ _))).mono ?_; rw [HR2.out]; rintro e w1 ⟨rfl, hb1⟩)
        go_ret
        exact ⟨rfl, below_step (below2 _ _ _) hb1⟩
      · have HR2 : Hid (false = r) := by show false = r; rw [← HR.out]; rw [decide_eq_false (fun x => e1 (HN.out.1 x))]; simp
        have hq1 : (nm.toList == nm'.toList) = false := by simpa using e1
        clear e1 e2 HR HN
        go_enter Try.func21, Try.ntmps21
        go_wp2
        go_ret
        exact ⟨ret_b HR2.out, below2 _ _ _⟩
    · have HR2 : Hid (false = r) := by show false = r; rw [← HR.out]; simp [e2]
      rw [decide_eq_false e2] at he
      clear e2 HR HN
      go_enter Try.func21, Try.ntmps21
      go_wp2
      go_ret
      exact ⟨ret_b HR2.out, below2 _ _ _⟩
  | false =>
    have HR : Hid ((decide (Tm.mk k n s = ⟨k', n', s'⟩) && (decide (nm = nm') && decide (l = l'))) = r) := by rw [← hr]; rfl
    clear hr
    have he := run_neq_tm ⟨k, n, s⟩ ⟨k', n', s'⟩
    by_cases e2 : Tm.mk k n s = ⟨k', n', s'⟩
    · rw [decide_eq_true e2] at he
      by_cases e1 : nm.toList = nm'.toList
      · have hq1 : (nm.toList == nm'.toList) = true := by simpa using e1
        have HR2 : Hid (decide (l = l') = r) := by show _ = r; rw [← HR.out]; simp [HN.out.2 e1, e2]
        clear e1 e2 HR HN
        go_enter Try.func21, Try.ntmps21
        go_wp2_with (go_at_call 44; refine (sameTerms_any l l' _ _ _ (HX.out.later (below2 _ _ _)) (HY.out.later (below2 _ _ _))).mono ?_; rw [HR2.out]; rintro e w1 ⟨rfl, hb1⟩)
        go_ret
        exact ⟨rfl, below_step (below2 _ _ _) hb1⟩
      · have HR2 : Hid (false = r) := by show false = r; rw [← HR.out]; rw [decide_eq_false (fun x => e1 (HN.out.1 x))]; simp
        have hq1 : (nm.toList == nm'.toList) = false := by simpa using e1
        clear e1 e2 HR HN
        go_enter Try.func21, Try.ntmps21
        go_wp2
        go_ret
        exact ⟨ret_b HR2.out, below2 _ _ _⟩
    · have HR2 : Hid (false = r) := by show false = r; rw [← HR.out]; simp [e2]
      rw [decide_eq_false e2] at he
      clear e2 HR HN
      go_enter Try.func21, Try.ntmps21
      go_wp2
      go_ret
      exact ⟨ret_b HR2.out, below2 _ _ _⟩
/-- One atom of a list, one test of a list. -/
theorem As.at_ {w : World} {a : Option Addr} {n cap j : Nat} {l : List (At × Value)} (h : As w (.slice a n cap) l) (hj : j < n) :
    ∃ (b o : Nat) (t : At × Value), a = some ⟨b, o, none⟩ ∧ l[j]? = some t ∧ b < w.heap.size ∧ (w.cell? ⟨b, o + j * 5, none⟩ = some (.int .i64 t.1.by_.k) ∧ w.cell? ⟨b, o + j * 5 + 1, none⟩ = some (.int .i64 t.1.by_.n) ∧ w.cell? ⟨b, o + j * 5 + 2, none⟩ = some (.string t.1.by_.s) ∧ w.cell? ⟨b, o + j * 5 + 3, none⟩ = some (.string t.1.name) ∧ w.cell? ⟨b, o + j * 5 + 4, none⟩ = some t.2) ∧ Ts w t.2 t.1.args := by
  obtain ⟨a', cap', e, hl, hm, ht⟩ := h
  simp only [Value.slice.injEq] at e
  obtain ⟨rfl, rfl, rfl⟩ := e
  obtain ⟨t, htj⟩ : ∃ t, l[j]? = some t := ⟨_, List.getElem?_eq_getElem hj⟩
  rcases hm with rfl | ⟨b, o, rfl, hr⟩
  · simp at hj
  · exact ⟨b, o, t, rfl, htj, hr.1, hr.2 j t htj, ht t (List.mem_of_getElem? htj)⟩
theorem Es.at_ {w : World} {a : Option Addr} {n cap j : Nat} {l : List Te} (h : Es w (.slice a n cap) l) (hj : j < n) :
    ∃ (b o : Nat) (t : Te), a = some ⟨b, o, none⟩ ∧ l[j]? = some t ∧ b < w.heap.size ∧ w.cell? ⟨b, o + j * 7, none⟩ = some (.int .i64 t.op) ∧ w.cell? ⟨b, o + j * 7 + 1, none⟩ = some (.int .i64 t.l.k) ∧ w.cell? ⟨b, o + j * 7 + 2, none⟩ = some (.int .i64 t.l.n) ∧ w.cell? ⟨b, o + j * 7 + 3, none⟩ = some (.string t.l.s) ∧ w.cell? ⟨b, o + j * 7 + 4, none⟩ = some (.int .i64 t.r.k) ∧ w.cell? ⟨b, o + j * 7 + 5, none⟩ = some (.int .i64 t.r.n) ∧ w.cell? ⟨b, o + j * 7 + 6, none⟩ = some (.string t.r.s) := by
  obtain ⟨a', cap', e, hl, hm⟩ := h
  simp only [Value.slice.injEq] at e
  obtain ⟨rfl, rfl, rfl⟩ := e
  obtain ⟨t, htj⟩ : ∃ t, l[j]? = some t := ⟨_, List.getElem?_eq_getElem hj⟩
  rcases hm with rfl | ⟨b, o, rfl, hr⟩
  · simp at hj
  · exact ⟨b, o, t, rfl, htj, hr.1, hr.2 j t htj⟩
theorem key_at {c : Cm} {K : Ck} (h : c.key = K) {j : Nat} {t : At × Value} (ht : c.body[j]? = some t) : K.2.1[j]? = some t.1 := by
  rw [← h]; simp [Cm.key, fsts, ht]
theorem key_te {c : Cm} {K : Ck} (h : c.key = K) : c.tests = K.2.2 := by rw [← h]; rfl
theorem ok_lenB {X : World} {hd : At × Value} {b : List (At × Value)} {a : Option Addr} {n cap : Nat} {t : List Te} {tv : Value} (h : Cm.ok X ⟨hd, b, .slice a n cap, t, tv⟩) : n = b.length := by
  obtain ⟨_, _, e, -⟩ := h.b
  simp only [Value.slice.injEq] at e
  exact e.2.1
theorem ok_lenT {X : World} {hd : At × Value} {b : List (At × Value)} {bv : Value} {a : Option Addr} {n cap : Nat} {t : List Te} (h : Cm.ok X ⟨hd, b, bv, t, .slice a n cap⟩) : n = t.length := by
  obtain ⟨_, _, e, -⟩ := h.t
  simp only [Value.slice.injEq] at e
  exact e.2.1
theorem zt_dec (t : Tm) : decide (t = zt) = (decide (t.k = 0) && (decide (t.n = 0) && decide (t.s.toList = []))) := by
  have e3 : t.s.toList = [] ↔ t.s = ⟨#[]⟩ := by rw [← List.isEmpty_iff, isE, decide_eq_true_iff]
  rw [Bool.eq_iff_iff]
  simp only [Bool.and_eq_true, decide_eq_true_eq]
  rw [e3]
  obtain ⟨k, n, s⟩ := t
  simp only [zt, Tm.mk.injEq]
/-- A clause out of Made, its head's qualifier taken away. -/
theorem oneBx {w1 : World} {d : Cm} (hd : d.ok w1) :
    Bx (((w1.alloc (.cells d.cs 30)).setCell ⟨w1.heap.size, 0, none⟩ (.int .i64 0)).setCell ⟨w1.heap.size, 1, none⟩ (.int .i64 0) |>.setCell ⟨w1.heap.size, 2, none⟩ (.string ⟨#[]⟩)) w1.heap.size ⟨(⟨⟨0, 0, ⟨#[]⟩⟩, d.head.1.name, d.head.1.args⟩, d.head.2), d.body, d.bv, d.tests, d.tv⟩ ∧
    Below w1.heap.size w1 (((w1.alloc (.cells d.cs 30)).setCell ⟨w1.heap.size, 0, none⟩ (.int .i64 0)).setCell ⟨w1.heap.size, 1, none⟩ (.int .i64 0) |>.setCell ⟨w1.heap.size, 2, none⟩ (.string ⟨#[]⟩)) := by
  have g1 : CBlk (w1.alloc (.cells d.cs 30)) w1.heap.size d.cs 30 := CBlk.new _ _ _
  have b4 := (((below1 w1 (.cells d.cs 30)).setCell (p := ⟨w1.heap.size, 0, none⟩) (Nat.le_refl _) (.int .i64 0)).setCell (p := ⟨w1.heap.size, 1, none⟩) (Nat.le_refl _) (.int .i64 0)).setCell (p := ⟨w1.heap.size, 2, none⟩) (Nat.le_refl _) (.string ⟨#[]⟩)
  have od := hd.later b4
  have k1 := ((g1.set 0 (.int .i64 0)).set 1 (.int .i64 0)).set 2 (.string ⟨#[]⟩)
  exact ⟨⟨by simpa using k1, od.h, od.b, od.t⟩, b4⟩
end Go.Proofs.Ytdfgijdededolaa
/-
  What clause.Normal makes of a term: its function, and its map of numbers.
-/
namespace Go.Proofs.Ytdfgijdededolaa
open Go.RowKit Go.Shelf
attribute [local go_sem ↓] Go.wp_at_zero Go.wp_at_succ

/-- The numbers of the variables asked so far, as a datum. -/
def nvF (D : DataW Unit) (i : Nat) : List Int → DataW Unit
  | [] => D
  | x :: l => nvF (D.put (.int .i64 x) (.lit (.int .i64 (i : Int)))) (i + 1) l
def nv (vs : List Int) : DataW Unit := nvF (.map []) 0 vs
theorem nvF_snoc (x : Int) : ∀ (l : List Int) (D : DataW Unit) (i : Nat), nvF D i (l ++ [x]) = (nvF D i l).put (.int .i64 x) (.lit (.int .i64 ((i + l.length : Nat) : Int)))
  | [], _, _ => rfl
  | y :: l, D, i => by
    rw [List.cons_append, nvF, nvF_snoc x l]
    show _ = (nvF (D.put (.int .i64 y) (.lit (.int .i64 (i : Int)))) (i + 1) l).put _ _
    rw [show i + 1 + l.length = i + (y :: l).length by simp; omega]
theorem nv_snoc (vs : List Int) (x : Int) : nv (vs ++ [x]) = (nv vs).put (.int .i64 x) (.lit (.int .i64 (vs.length : Int))) := by
  unfold nv; rw [nvF_snoc, Nat.zero_add]
/-- Where a number first stands. -/
def ixN : List Int → Int → Nat
  | [], _ => 0
  | x :: l, t => if x = t then 0 else ixN l t + 1
theorem ixN_app : ∀ {p q : List Int} {t : Int}, t ∈ p → ixN (p ++ q) t = ixN p t
  | x :: l, q, t, h => by
    rw [List.cons_append, ixN, ixN]
    by_cases e : x = t
    · rw [if_pos e, if_pos e]
    · rw [if_neg e, if_neg e, ixN_app (by rcases List.mem_cons.1 h with h | h; exact absurd h.symm e; exact h)]
theorem ixN_new : ∀ {p : List Int} {t : Int}, ¬ t ∈ p → ixN (p ++ [t]) t = p.length
  | [], t, _ => by simp [ixN]
  | x :: l, t, h => by
    rw [List.cons_append, ixN, if_neg (fun e => h (by simp [e])), ixN_new (fun e => h (by simp [e]))]; rfl
theorem keyI (x : Int) : WideAt.IsKeyLit (Lit.int .i64 x) := by trivial
/-- What the map answers: the numbers in the order in which they were asked, none twice. -/
structure NvOk (vs : List Int) : Prop where
  t : Maps.Tidy (nv vs)
  h : ∀ x, Maps.has (nv vs) (.int .i64 x) = decide (x ∈ vs)
  a : ∀ x ∈ vs, (nv vs).atKey (.int .i64 x) (.lit (.int .i64 0)) = .lit (.int .i64 (ixN vs x : Int))
  s : Maps.size (nv vs) = vs.length
theorem nvOk_nil : NvOk [] := ⟨Maps.tidy_empty, fun x => by simp [nv, nvF, Maps.has], fun x hx => by simp at hx, rfl⟩
theorem NvOk.snoc {vs : List Int} (H : NvOk vs) {x : Int} (hx : ¬ x ∈ vs) : NvOk (vs ++ [x]) := by
  refine ⟨by rw [nv_snoc]; exact H.t.put (keyI x) _, fun y => ?_, fun y hy => ?_, ?_⟩
  · rw [nv_snoc]
    by_cases e : y = x
    · subst e; rw [Maps.has_put_same H.t.isMap (keyI _)]; simp
    · rw [Maps.has_put_other (fun h => e (by cases h; rfl)), H.h]; simp [e]
  · rw [nv_snoc]
    by_cases e : y = x
    · subst e; rw [Maps.atKey_put_same H.t.isMap (keyI _), ixN_new hx]
    · have hy' : y ∈ vs := by rcases List.mem_append.1 hy with h | h; exact h; exact absurd (List.mem_singleton.1 h) e
      rw [Maps.atKey_put_other (fun h => e (by cases h; rfl)), H.a y hy', ixN_app hy']
  · rw [nv_snoc, Maps.size_put H.t, H.h, if_neg (by simp [hx]), H.s]; simp
/-- The map of numbers in its box P. -/
structure NM (w : World) (P M : Nat) (vs : List Int) : Prop where
  b : CBlk w P #[.map (some M)] 73
  m : w.ownsMap Try.prog 3 (plainElem Try.prog 3 (H := Unit)) M vs.length (nv vs)
  o : NvOk vs
  ne : P ≠ M
def nst (vs : List Int) (t : Tm) : List Int := if t.var = true then (if t.n ∈ vs then vs else vs ++ [t.n]) else vs
def nsT (vs : List Int) (t : Tm) : Tm := if t.var = true then ⟨3, (ixN (nst vs t) t.n : Int), ⟨#[]⟩⟩ else t
end Go.Proofs.Ytdfgijdededolaa
