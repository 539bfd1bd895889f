import Derived.Test.YtdfgijdededolabGreatDoorB7
import Derived.Test.YtdfgijdededolabGreatDoorA1
import Derived.Test.YtdfgijdededolabGreatDoorO2
import Derived.Test.YtdfgijdededolabGreatDoorB4
import Derived.ProofKit
import Derived.OpenShut
import Derived.ShutString
import Derived.ChangeOld
import Derived.Below
import Derived.Lib.SmallJoins
import Derived.Test.YtdfgijdededolabGreatDoorCL7
import Derived.DeepKeys4
/-
  sortBinds of at most one bind; first.
-/
namespace Go.Proofs.YtdfgijdededolabGreatDoor
open Go.RowKit

set_option maxRecDepth 100000 in
theorem len64_tiny (n : Int) (h : n = 0 ∨ n = 1) (w : World) : Calls Tryz.prog 129 #[.int .u64 n] w fun e w' => (∃ m : Int, e = .returned (.int .i64 m)) ∧ w' = w := by
  rcases h with rfl | rfl
  · go_enter Tryz.func129, Tryz.ntmps129
    go_wp2
    go_ret
    exact ⟨⟨_, rfl⟩, rfl⟩
  · go_enter Tryz.func129, Tryz.ntmps129
    go_wp2
    go_ret
    exact ⟨⟨_, rfl⟩, rfl⟩
theorem len_tiny (n : Nat) (h : n ≤ 1) (w : World) : Calls Tryz.prog 99 #[.int .u64 n] w fun e w' => (∃ m : Int, e = .returned (.int .i64 m)) ∧ w' = w := by
  have hn : (n : Int) = 0 ∨ (n : Int) = 1 := by omega
  have HN : Hid ((n : Int) = 0 ∨ (n : Int) = 1) := hn
  clear hn h
  go_enter Tryz.func99, Tryz.ntmps99
  go_wp2_with (go_at_call 129; refine (len64_tiny _ HN.out _).mono ?_; rintro e w1 ⟨⟨m, rfl⟩, rfl⟩)
  go_ret
  exact ⟨⟨_, rfl⟩, rfl⟩
end Go.Proofs.YtdfgijdededolabGreatDoor
/-
  first.
-/
namespace Go.Proofs.YtdfgijdededolabGreatDoor
open Go.RowKit

theorem ts_block {w : World} {g : Nat} {t : Tm} {ty : TypeId} (h : w.heap[g]? = some (.cells #[.int .i64 t.k, .int .i64 t.n, .string t.s] ty (0, 0))) : Ts w (.slice (some ⟨g, 0, none⟩) 1 1) [t] := by
  refine ⟨_, 1, rfl, by simp, Or.inr ⟨g, 0, rfl, (Array.getElem?_eq_some_iff.1 h).1, ?_⟩⟩
  intro i u hu
  match i, hu with
  | 0, hu =>
    simp only [List.getElem?_cons_zero, Option.some.injEq] at hu
    subst hu
    have := three h
    exact ⟨this.1, this.2.1, this.2.2.1⟩
def tX : Tm := ⟨3, 0, ⟨#[]⟩⟩
def tF : Tm := ⟨1, 5, ⟨#[]⟩⟩
def aX : At := ⟨zt, ⟨#[112]⟩, [tX]⟩
def aF : At := ⟨zt, ⟨#[112]⟩, [tF]⟩
theorem mres_first : mRes aX aF [] = some [⟨0, tF⟩] := by
  simp [mRes, mOk, shB, fixOk, At.pl, aX, aF, tX, tF, zt, Tm.var, fb, mGo, look]
theorem heap4a (w : World) (A B C D : Obj) : ((((w.alloc A).alloc B).alloc C).alloc D).heap[w.heap.size + 2]? = some C := by
  have e : w.heap.size + 2 = ((w.alloc A).alloc B).heap.size := by simp
  rw [e]; exact heap_alloc2_old _ _ _
theorem heap4b (w : World) (A B C D : Obj) : ((((w.alloc A).alloc B).alloc C).alloc D).heap[w.heap.size + 3]? = some D := by
  have e : w.heap.size + 3 = ((w.alloc A).alloc B).heap.size + 1 := by simp
  rw [e]; exact heap_alloc2_new _ _ _
theorem heap4c (w : World) (A B C D : Obj) : ((((w.alloc A).alloc B).alloc C).alloc D).heap[w.heap.size + 1]? = some B := by
  rw [Below.heap_alloc _ _ _ (by simp), Below.heap_alloc _ _ _ (by simp)]; exact heap_alloc2_new _ _ _
end Go.Proofs.YtdfgijdededolabGreatDoor
/-
  hearsaylaw02.TermDecides, for every two terms.
-/
namespace Go.Proofs.YtdfgijdededolabGreatDoor
open Go.RowKit
attribute [local go_sem ↓] Go.wp_at_zero Go.wp_at_succ

theorem sgI_neg (a b : Int) : M.sgI b a = - M.sgI a b := by unfold M.sgI; repeat' split
                                                            all_goals omega
theorem cmp_neg (a b : Tm) : b.cmp a = - a.cmp b := by
  unfold Tm.cmp
  by_cases h1 : a.k = b.k
  · by_cases h2 : a.n = b.n
    · simp [h1, h2]; exact M.sgL_neg _ _
    · have h2' : ¬ b.n = a.n := fun e => h2 e.symm
      simp [h1, h2, h2']; exact sgI_neg _ _
  · have h1' : ¬ b.k = a.k := fun e => h1 e.symm
    simp [h1, h1']; exact sgI_neg _ _
theorem con_var (t : Tm) (h : t.con = true) : t.var = false := by
  unfold Tm.con at h; unfold Tm.var
  simp only [decide_eq_true_eq, decide_eq_false_iff_not] at *
  omega
def x4 : Tm := ⟨3, 4, ⟨#[]⟩⟩
theorem x4_con : x4.con = false := by decide
theorem x4_var : x4.var = true := by simp [x4, Tm.var]
theorem apply_x4 (l r : Tm) (h : r.con = true) : applyTe [⟨4, l⟩] ⟨4, x4, r⟩ = ⟨4, l, r⟩ := by
  unfold applyTe become
  rw [x4_var, con_var r h]; simp [look, x4]
theorem bs_one {w : World} {g : Nat} {d : Bd} {ty : TypeId} (h : w.heap[g]? = some (.cells #[.int .i64 d.x, .int .i64 d.to.k, .int .i64 d.to.n, .string d.to.s] ty (0, 0))) : Bs w (.slice (some ⟨g, 0, none⟩) 1 1) [d] := by
  refine ⟨_, 1, rfl, by simp, Or.inr ⟨g, 0, rfl, (Array.getElem?_eq_some_iff.1 h).1, ?_⟩⟩
  intro i u hu
  match i, hu with
  | 0, hu =>
    simp only [List.getElem?_cons_zero, Option.some.injEq] at hu
    subst hu
    have := four h
    exact ⟨this.1, this.2.1, this.2.2.1, this.2.2.2⟩
end Go.Proofs.YtdfgijdededolabGreatDoor
/-
  Atoms in their order, as plain mathematics.
-/
namespace Go.Proofs.YtdfgijdededolabGreatDoor

/-- A total order, told by -1, 0, 1. -/
structure Ord3 {α : Type} (f : α → α → Int) : Prop where
  rng : ∀ a b, f a b = -1 ∨ f a b = 0 ∨ f a b = 1
  neg : ∀ a b, f b a = - f a b
  zero : ∀ a b, f a b = 0 → a = b
  refl : ∀ a, f a a = 0
  tr : ∀ a b c, f a b ≤ 0 → f b c ≤ 0 → f a c ≤ 0 ∧ (f a b < 0 ∨ f b c < 0 → f a c < 0)
theorem ord_sgI : Ord3 M.sgI where
  rng a b := by unfold M.sgI; repeat' split
                all_goals omega
  neg a b := sgI_neg a b
  zero a b := by unfold M.sgI; repeat' split
                 all_goals omega
  refl a := by simp [M.sgI]
  tr a b c := by
    have k1 : ∀ x y, M.sgI x y ≤ 0 ↔ x ≤ y := fun x y => by unfold M.sgI; repeat' split
                                                            all_goals omega
    have k2 : ∀ x y, M.sgI x y < 0 ↔ x < y := fun x y => by unfold M.sgI; repeat' split
                                                            all_goals omega
    rw [k1, k1, k1, k2, k2, k2]; omega
theorem ord_sgL : Ord3 M.sgL where
  rng := M.sgL_rng
  neg a b := M.sgL_neg a b
  zero a b h := (M.sgL_zero a b).1 h
  refl a := (M.sgL_zero a a).2 rfl
  tr := M.sgL_trans
/-- First one, then the other. -/
theorem Ord3.lex {α β γ : Type} {f : α → α → Int} {g : β → β → Int} (hf : Ord3 f) (hg : Ord3 g) (p : γ → α) (q : γ → β) (inj : ∀ x y, p x = p y → q x = q y → x = y) :
    Ord3 fun x y => if f (p x) (p y) ≠ 0 then f (p x) (p y) else g (q x) (q y) where
  rng a b := by
    split
    · exact hf.rng _ _
    · exact hg.rng _ _
  neg a b := by
    have h1 := hf.neg (p a) (p b)
    have h2 := hg.neg (q a) (q b)
    by_cases h : f (p a) (p b) = 0
    · rw [if_neg (by omega), if_neg (by omega), h2]
    · rw [if_pos (by omega), if_pos (by omega), h1]
  zero a b := by
    by_cases h : f (p a) (p b) = 0
    · rw [if_neg (by omega)]; exact fun h' => inj _ _ (hf.zero _ _ h) (hg.zero _ _ h')
    · rw [if_pos h]; exact fun h' => absurd h' h
  refl a := by
    rw [if_neg (by rw [hf.refl]; omega)]; exact hg.refl _
  tr a b c := by
    have t := hf.tr (p a) (p b) (p c)
    have t' := hg.tr (q a) (q b) (q c)
    by_cases h1 : f (p a) (p b) = 0
    · have e1 := hf.zero _ _ h1
      rw [e1] at h1 ⊢
      by_cases h2 : f (p b) (p c) = 0
      · simp only [h1, h2, ne_eq, not_true_eq_false, if_false]; exact t'
      · simp only [h1, h2, ne_eq, not_true_eq_false, not_false_eq_true, if_false, if_true]; intro _ h; exact ⟨h, fun _ => by omega⟩
    · by_cases h2 : f (p b) (p c) = 0
      · have e2 := hf.zero _ _ h2
        rw [← e2] at h2 ⊢
        simp only [h1, h2, ne_eq, not_true_eq_false, not_false_eq_true, if_false, if_true]
        intro h _; exact ⟨h, fun _ => by omega⟩
      · simp only [h1, h2, ne_eq, not_false_eq_true, if_true]
        intro h h'
        have := (t h h').2 (Or.inl (by omega))
        rw [if_pos (by omega)]
        exact ⟨by omega, fun _ => this⟩
theorem ord_tm : Ord3 Tm.cmp := by
  have h1 := Ord3.lex (γ := Int × List UInt8) ord_sgI ord_sgL (fun x => x.1) (fun x => x.2) (fun x y h h' => Prod.ext h h')
  have h2 := Ord3.lex (γ := Tm) ord_sgI h1 (fun x => x.k) (fun x => (x.n, x.s.toList)) (fun x y h h' => by
    obtain ⟨k, n, s⟩ := x
    obtain ⟨k', n', s'⟩ := y
    simp only [Prod.mk.injEq] at h h'
    rw [h, h'.1, toList_inj h'.2])
  have e : Tm.cmp = fun x y => if M.sgI x.k y.k ≠ 0 then M.sgI x.k y.k else if M.sgI x.n y.n ≠ 0 then M.sgI x.n y.n else M.sgL x.s.toList y.s.toList := by
    funext x y
    have z : ∀ a b, M.sgI a b = 0 ↔ a = b := fun a b => ⟨ord_sgI.zero a b, fun h => by rw [h]; exact ord_sgI.refl b⟩
    unfold Tm.cmp
    simp only [ne_eq, z]
  rw [e]; exact h2
theorem cmpL_ord : ∀ n : Nat, (∀ a b : List Tm, a.length = n → b.length = n → (cmpL a b = -1 ∨ cmpL a b = 0 ∨ cmpL a b = 1) ∧ cmpL b a = - cmpL a b ∧ (cmpL a b = 0 → a = b)) ∧
    (∀ a b c : List Tm, a.length = n → b.length = n → c.length = n → cmpL a b ≤ 0 → cmpL b c ≤ 0 → cmpL a c ≤ 0 ∧ (cmpL a b < 0 ∨ cmpL b c < 0 → cmpL a c < 0))
  | 0 => by
    refine ⟨fun a b ha hb => ?_, fun a b c ha hb hc => ?_⟩
    · rw [List.length_eq_zero_iff] at ha hb; subst ha hb; simp [cmpL]
    · rw [List.length_eq_zero_iff] at ha hb hc; subst ha hb hc; simp [cmpL]
  | n + 1 => by
    have ih := cmpL_ord n
    refine ⟨fun a b ha hb => ?_, fun a b c ha hb hc => ?_⟩
    · match a, b, ha, hb with
      | x :: a, y :: b, ha, hb =>
        have i := ih.1 a b (by simpa using ha) (by simpa using hb)
        have hn := ord_tm.neg x y
        by_cases h : x.cmp y = 0
        · have e := ord_tm.zero x y h
          simp only [cmpL]
          rw [if_neg (by omega), if_neg (by omega)]
          exact ⟨i.1, i.2.1, fun h' => by rw [e, i.2.2 h']⟩
        · simp only [cmpL]
          rw [if_pos h, if_pos (by omega)]
          exact ⟨ord_tm.rng x y, hn, fun h' => absurd h' h⟩
    · match a, b, c, ha, hb, hc with
      | x :: a, y :: b, z :: c, ha, hb, hc =>
        have i := ih.2 a b c (by simpa using ha) (by simpa using hb) (by simpa using hc)
        have t := ord_tm.tr x y z
        simp only [cmpL]
        by_cases h1 : x.cmp y = 0
        · have e1 := ord_tm.zero _ _ h1
          rw [e1] at h1 ⊢
          by_cases h2 : y.cmp z = 0
          · simp only [h1, h2, ne_eq, not_true_eq_false, if_false]; exact i
          · simp only [h1, h2, ne_eq, not_true_eq_false, not_false_eq_true, if_false, if_true]; intro _ h; exact ⟨h, fun _ => by omega⟩
        · by_cases h2 : y.cmp z = 0
          · have e2 := ord_tm.zero _ _ h2
            rw [← e2] at h2 ⊢
            simp only [h1, h2, ne_eq, not_true_eq_false, not_false_eq_true, if_false, if_true]
            intro h _; exact ⟨h, fun _ => by omega⟩
          · simp only [h1, h2, ne_eq, not_false_eq_true, if_true]
            intro h h'
            have := (t h h').2 (Or.inl (by omega))
            rw [if_pos (by omega)]
            exact ⟨by omega, fun _ => this⟩
def cmpLL (a b : List Tm) : Int := if M.sgI a.length b.length ≠ 0 then M.sgI a.length b.length else cmpL a b
theorem zI (a b : Int) : M.sgI a b = 0 ↔ a = b := ⟨ord_sgI.zero a b, fun h => by rw [h]; exact ord_sgI.refl b⟩
theorem cmpLL_ne (a b : List Tm) (h : a.length ≠ b.length) : cmpLL a b = M.sgI a.length b.length := by
  unfold cmpLL; rw [if_pos (by rw [ne_eq, zI]; omega)]
theorem cmpLL_eq (a b : List Tm) (h : a.length = b.length) : cmpLL a b = cmpL a b := by
  unfold cmpLL; rw [if_neg (by rw [ne_eq, zI]; omega)]
theorem ord_ll : Ord3 cmpLL where
  rng a b := by
    by_cases h : a.length = b.length
    · rw [cmpLL_eq a b h]; exact ((cmpL_ord _).1 a b rfl h.symm).1
    · rw [cmpLL_ne a b h]; exact ord_sgI.rng _ _
  neg a b := by
    by_cases h : a.length = b.length
    · rw [cmpLL_eq a b h, cmpLL_eq b a h.symm]; exact ((cmpL_ord _).1 a b rfl h.symm).2.1
    · rw [cmpLL_ne a b h, cmpLL_ne b a (Ne.symm h)]; exact ord_sgI.neg _ _
  zero a b := by
    by_cases h : a.length = b.length
    · rw [cmpLL_eq a b h]; exact ((cmpL_ord _).1 a b rfl h.symm).2.2
    · rw [cmpLL_ne a b h, zI]; omega
  refl a := by
    rw [cmpLL_eq a a rfl]
    have h := ((cmpL_ord _).1 a a rfl rfl).2.1
    omega
  tr a b c := by
    have t := ord_sgI.tr a.length b.length c.length
    have z1 := zI a.length b.length
    have z2 := zI b.length c.length
    have z3 := zI a.length c.length
    by_cases h1 : a.length = b.length
    · by_cases h2 : b.length = c.length
      · rw [cmpLL_eq a b h1, cmpLL_eq b c h2, cmpLL_eq a c (h1.trans h2)]
        exact (cmpL_ord _).2 a b c rfl h1.symm (h1.trans h2).symm
      · rw [cmpLL_eq a b h1, cmpLL_ne b c h2, cmpLL_ne a c (by omega), h1]
        intro _ h; exact ⟨h, fun _ => by omega⟩
    · by_cases h2 : b.length = c.length
      · rw [cmpLL_ne a b h1, cmpLL_eq b c h2, cmpLL_ne a c (by omega), ← h2]
        intro h _; exact ⟨h, fun _ => by omega⟩
      · rw [cmpLL_ne a b h1, cmpLL_ne b c h2]
        intro h h'
        have := (t h h').2 (Or.inl (by omega))
        rw [cmpLL_ne a c (by omega)]
        exact ⟨by omega, fun _ => this⟩
theorem ord_at : Ord3 At.cmp := by
  have h := Ord3.lex (γ := At) ord_sgL ord_ll (fun x => x.name.toList) (fun x => x.pl) (fun x y h h' => by
    obtain ⟨a, n, l⟩ := x
    obtain ⟨a', n', l'⟩ := y
    simp only [At.pl, List.cons.injEq] at h h'
    rw [toList_inj h, h'.1, h'.2])
  have e : At.cmp = fun x y => if M.sgL x.name.toList y.name.toList ≠ 0 then M.sgL x.name.toList y.name.toList else cmpLL x.pl y.pl := by
    funext x y
    unfold At.cmp
    simp only [ne_eq, M.sgL_zero]
    by_cases hn : x.name.toList = y.name.toList
    · simp only [hn, not_true_eq_false, if_false]
      by_cases hl : x.args.length = y.args.length
      · rw [if_neg (by simpa using hl), cmpLL_eq _ _ (by rw [pl_len, pl_len, hl])]
      · rw [if_pos hl, cmpLL_ne _ _ (by rw [pl_len, pl_len]; omega), pl_len, pl_len]
        have e1 : ((x.args.length : Int) < y.args.length) = (((x.args.length + 1 : Nat) : Int) < ((y.args.length + 1 : Nat) : Int)) := propext (by omega)
        have e2 : ((y.args.length : Int) < x.args.length) = (((y.args.length + 1 : Nat) : Int) < ((x.args.length + 1 : Nat) : Int)) := propext (by omega)
        unfold M.sgI
        simp only [e1, e2]
    · simp only [hn, not_false_eq_true, if_true]
  rw [e]; exact h
end Go.Proofs.YtdfgijdededolabGreatDoor
/-
  Lists that rise in a total order; two of them merged: plain. (Written by CN1.py, out of SD11, SD6.)
-/
namespace Go.Proofs.YtdfgijdededolabGreatDoor

abbrev ltG {α : Type} (f : α → α → Int) (a b : α) : Prop := f a b < 0
section
variable {α : Type} {f : α → α → Int}
theorem mem_takeG {α : Type} {p : List α} {i : Nat} {x y : α} (h : p[i]? = some x) : y ∈ p.take (i + 1) ↔ y ∈ p.take i ∨ y = x := by
  rw [List.take_add_one, h]; simp
/-- How far a merge of p and q has come: i of p and k of q are taken, and out is what they make. -/
structure MrgG (f : α → α → Int) (p q out : List α) (i k : Nat) : Prop where
  rise : out.Pairwise (ltG f)
  mem : ∀ x, x ∈ out ↔ x ∈ p.take i ∨ x ∈ q.take k
  lp : ∀ x ∈ out, ∀ j y, i ≤ j → p[j]? = some y → f x y < 0
  lq : ∀ x ∈ out, ∀ j y, k ≤ j → q[j]? = some y → f x y < 0
theorem MrgG.start (f : α → α → Int) (p q : List α) : MrgG f p q [] 0 0 := ⟨List.Pairwise.nil, (fun x => by simp), (fun x hx => by cases hx), (fun x hx => by cases hx)⟩
theorem ltG_tr (o : Ord3 f) {a b c : α} (h1 : f a b < 0) (h2 : f b c ≤ 0) : f a c < 0 := (o.tr _ _ _ (by omega) h2).2 (Or.inl h1)
theorem riseG_get {p : List α} (h : p.Pairwise (ltG f)) {i j : Nat} {x y : α} (hij : i < j) (hx : p[i]? = some x) (hy : p[j]? = some y) : f x y < 0 := by
  obtain ⟨h1, rfl⟩ := List.getElem?_eq_some_iff.1 hx
  obtain ⟨h2, rfl⟩ := List.getElem?_eq_some_iff.1 hy
  exact List.pairwise_iff_getElem.1 h i j h1 h2 hij
theorem riseG_snoc {o : List α} {x : α} (h : o.Pairwise (ltG f)) (hx : ∀ y ∈ o, f y x < 0) : (o ++ [x]).Pairwise (ltG f) :=
  List.pairwise_append.2 ⟨h, List.pairwise_singleton _ _, fun a ha b hb => by rw [List.mem_singleton] at hb; subst hb; exact hx a ha⟩
/-- The next of p is less than all that is left of q. -/
theorem MrgG.left {p q out : List α} {i k : Nat} {x : α} (h : MrgG f p q out i k) (o : Ord3 f) (hp : p.Pairwise (ltG f)) (hq : q.Pairwise (ltG f)) (hx : p[i]? = some x) (hl : ∀ y, q[k]? = some y → f x y < 0) : MrgG f p q (out ++ [x]) (i + 1) k := by
  have hx2 : ∀ y ∈ out, f y x < 0 := fun y hy => h.lp y hy i x (Nat.le_refl _) hx
  refine ⟨riseG_snoc h.rise hx2, fun y => ?_, fun y hy j z hj hz => ?_, fun y hy j z hj hz => ?_⟩
  · rw [List.mem_append, h.mem, mem_takeG hx, List.mem_singleton]
    constructor
    · rintro ((h | h) | h)
      · exact Or.inl (Or.inl h)
      · exact Or.inr h
      · exact Or.inl (Or.inr h)
    · rintro ((h | h) | h)
      · exact Or.inl (Or.inl h)
      · exact Or.inr h
      · exact Or.inl (Or.inr h)
  · rcases List.mem_append.1 hy with hy | hy
    · exact h.lp y hy j z (by omega) hz
    · rw [List.mem_singleton] at hy; subst hy; exact riseG_get hp (by omega) hx hz
  · rcases List.mem_append.1 hy with hy | hy
    · exact h.lq y hy j z hj hz
    · rw [List.mem_singleton] at hy; subst hy
      have hk : k < q.length := by have := (List.getElem?_eq_some_iff.1 hz).1; omega
      have h1 := hl _ (List.getElem?_eq_getElem hk)
      by_cases e : j = k
      · subst e; exact hl z hz
      · exact ltG_tr o h1 (by have := riseG_get hq (show k < j by omega) (List.getElem?_eq_getElem hk) hz; omega)
theorem MrgG.swap {p q out : List α} {i k : Nat} (h : MrgG f p q out i k) : MrgG f q p out k i := ⟨h.rise, fun x => by rw [h.mem, or_comm], h.lq, h.lp⟩
theorem MrgG.right {p q out : List α} {i k : Nat} {x : α} (h : MrgG f p q out i k) (o : Ord3 f) (hp : p.Pairwise (ltG f)) (hq : q.Pairwise (ltG f)) (hx : q[k]? = some x) (hl : ∀ y, p[i]? = some y → f x y < 0) : MrgG f p q (out ++ [x]) i (k + 1) := (h.swap.left o hq hp hx hl).swap
/-- The next of both are one. -/
theorem MrgG.both {p q out : List α} {i k : Nat} {x : α} (h : MrgG f p q out i k) (hp : p.Pairwise (ltG f)) (hq : q.Pairwise (ltG f)) (hx : p[i]? = some x) (hy : q[k]? = some x) : MrgG f p q (out ++ [x]) (i + 1) (k + 1) := by
  have hx2 : ∀ y ∈ out, f y x < 0 := fun y hy => h.lp y hy i x (Nat.le_refl _) hx
  refine ⟨riseG_snoc h.rise hx2, fun y => ?_, fun y hy' j z hj hz => ?_, fun y hy' j z hj hz => ?_⟩
  · rw [List.mem_append, h.mem, mem_takeG hx, mem_takeG hy, List.mem_singleton]
    constructor
    · rintro ((h | h) | h)
      · exact Or.inl (Or.inl h)
      · exact Or.inr (Or.inl h)
      · exact Or.inl (Or.inr h)
    · rintro ((h | h) | (h | h))
      · exact Or.inl (Or.inl h)
      · exact Or.inr h
      · exact Or.inl (Or.inr h)
      · exact Or.inr h
  · rcases List.mem_append.1 hy' with hy' | hy'
    · exact h.lp y hy' j z (by omega) hz
    · rw [List.mem_singleton] at hy'; subst hy'; exact riseG_get hp (by omega) hx hz
  · rcases List.mem_append.1 hy' with hy' | hy'
    · exact h.lq y hy' j z (by omega) hz
    · rw [List.mem_singleton] at hy'; subst hy'; exact riseG_get hq (by omega) hy hz
theorem MrgG.done {p q out : List α} {i k : Nat} (h : MrgG f p q out i k) (hi : p.length ≤ i) (hk : q.length ≤ k) : out.Pairwise (ltG f) ∧ ∀ x, x ∈ out ↔ x ∈ p ∨ x ∈ q :=
  ⟨h.rise, fun x => by rw [h.mem, List.take_of_length_le hi, List.take_of_length_le hk]⟩
theorem riseG_uniq (o : Ord3 f) : ∀ (a b : List α), a.Pairwise (ltG f) → b.Pairwise (ltG f) → (∀ k, k ∈ a ↔ k ∈ b) → a = b
  | [], [], _, _, _ => rfl
  | [], y :: b, _, _, h => absurd ((h y).2 (List.mem_cons_self ..)) (by simp)
  | x :: a, [], _, _, h => absurd ((h x).1 (List.mem_cons_self ..)) (by simp)
  | x :: a, y :: b, ha, hb, h => by
    obtain ⟨ha1, ha2⟩ := List.pairwise_cons.1 ha
    obtain ⟨hb1, hb2⟩ := List.pairwise_cons.1 hb
    have e : x = y := by
      rcases List.mem_cons.1 ((h x).1 (List.mem_cons_self ..)) with e | hx
      · exact e
      · rcases List.mem_cons.1 ((h y).2 (List.mem_cons_self ..)) with e | hy
        · exact e.symm
        · have h1 : f y x < 0 := hb1 x hx
          have h2 : f x y < 0 := ha1 y hy
          have := o.neg x y
          omega
    subst e
    rw [riseG_uniq o a b ha2 hb2 fun k => ⟨fun hk => ?_, fun hk => ?_⟩]
    · rcases List.mem_cons.1 ((h k).1 (List.mem_cons_of_mem _ hk)) with e | hk'
      · have h1 : f x k < 0 := ha1 k hk
        rw [e, o.refl] at h1; omega
      · exact hk'
    · rcases List.mem_cons.1 ((h k).2 (List.mem_cons_of_mem _ hk)) with e | hk'
      · have h1 : f x k < 0 := hb1 k hk
        rw [e, o.refl] at h1; omega
      · exact hk'
/-- A list that rises and has the members of another. -/
structure RiseOf (f : α → α → Int) (K l : List α) : Prop where
  rise : K.Pairwise (ltG f)
  mem : ∀ x, x ∈ K ↔ x ∈ l
theorem RiseOf.uniq {K K' l l' : List α} (h : RiseOf f K l) (o : Ord3 f) (h' : RiseOf f K' l') (hm : ∀ x, x ∈ l ↔ x ∈ l') : K = K' :=
  riseG_uniq o K K' h.rise h'.rise fun x => by rw [h.mem, h'.mem, hm]
theorem RiseOf.nil : RiseOf f [] [] := ⟨List.Pairwise.nil, fun _ => Iff.rfl⟩
theorem RiseOf.one (x : α) : RiseOf f [x] [x] := ⟨List.pairwise_singleton _ _, fun _ => Iff.rfl⟩
theorem MrgG.rof {p q out l m : List α} {i k : Nat} (h : MrgG f p q out i k) (hi : p.length ≤ i) (hk : q.length ≤ k) (hp : RiseOf f p l) (hq : RiseOf f q m) : RiseOf f out (l ++ m) :=
  ⟨(h.done hi hk).1, fun x => by rw [(h.done hi hk).2 x, hp.mem, hq.mem, List.mem_append]⟩
/-- A list sorted, none twice: it rises. -/
theorem riseG_of {K : List α} (o : Ord3 f) (hs : K.Pairwise fun a b => f a b ≤ 0) (hn : K.Nodup) : K.Pairwise (ltG f) := by
  refine (hs.and hn).imp fun {a b} ⟨h1, h2⟩ => ?_
  unfold ltG
  rcases Int.lt_or_eq_of_le h1 with h | h
  · exact h
  · exact absurd (o.zero a b h) h2
end
end Go.Proofs.YtdfgijdededolabGreatDoor
/-
  Arguments opened: a term, a list of terms, an atom, a binding.
-/
namespace Go.Proofs.YtdfgijdededolabGreatDoor
open Go.ChangeShapes Go.WideShapes Go.ChangeAt Go.RowKit Go.Joins
open Go.ChangeMaps (open_string shut_string)

theorem Tryz.own : ownKnob Tryz.prog.godebug = none := by kernel_rfl
theorem Tryz.laidOut : laidOutB Tryz.prog = true := by kernel_rfl
theorem Tryz.cellsTerm : Tryz.prog.cellsOf 35 = 3 := by kernel_rfl

set_option maxRecDepth 100000 in
theorem open_term {H : Type} {enc : TypeId × Value → H} {W : World} {r : Reach} {b0 base : Nat} {spare : Nat → Bool} {held : Bool} {v : Value} {d : DataW H} {p : List MemPlace}
    (hv : Value.okWide Tryz.prog W r b0 35 v) (h : DataW.Trod enc Tryz.prog W base spare held 35 v d p) : ∃ t : Tm, v = t.v ∧ t.s.size ≤ maxLen := by
  obtain ⟨c0, c1, c2, y0, y1, y2, m, rfl, -, -, h0, h1, h2⟩ := open_agg3 Tryz.underlying35 (by kernel_rfl) Tryz.cellsTerm hv h
  obtain ⟨k, e0, -, -⟩ := DataW.trod_int Tryz.underlying3 h0
  obtain ⟨n, e1, -, -⟩ := DataW.trod_int Tryz.underlying3 h1
  obtain ⟨s, e2, -, hs⟩ := DataW.trod_string Tryz.underlying9 h2
  simp at e0 e1 e2
  subst e0 e1 e2
  exact ⟨⟨k, n, s⟩, rfl, hs⟩
end Go.Proofs.YtdfgijdededolabGreatDoor
/-
  Terms and predicates as keys of maps.
-/
namespace Go.Proofs.YtdfgijdededolabGreatDoor
open Go.RowKit

/-- A predicate. -/
structure Pd where
  nm : ByteArray
  ar : Int
theorem Pd.ext' {p q : Pd} (h1 : p.nm = q.nm) (h2 : p.ar = q.ar) : p = q := by cases p; cases q; cases h1; cases h2; rfl
abbrev Pd.v (p : Pd) : Value := .agg #[.string p.nm, .int .i64 p.ar]
def cmpP (p q : Pd) : Int := if M.sgL p.nm.toList q.nm.toList ≠ 0 then M.sgL p.nm.toList q.nm.toList else M.sgI p.ar q.ar
structure KeyT (t : Tm) : Prop where
  k : (Lit.int .i64 t.k).wf = true
  n : (Lit.int .i64 t.n).wf = true
  s : t.s.size ≤ maxLen
structure KeyP (p : Pd) : Prop where
  n : p.nm.size ≤ maxLen
  a : (Lit.int .i64 p.ar).wf = true
def kT (t : Tm) : Lit := .string (keyBytes [.int .i64 t.k, .int .i64 t.n, .string t.s.data.toList])
def kP (p : Pd) : Lit := .string (keyBytes [.string p.nm.data.toList, .int .i64 p.ar])
theorem Tryz.rowTerm : (35 : TypeId) < Tryz.prog.types.size := of_decide_eq_true (by kernel_rfl)
theorem Tryz.wideTerm : (match Tryz.prog.underlying 35 with | some (.array _ _) | some (.struct _) => true | _ => false) = true := by kernel_rfl
theorem Tryz.keyTypeTerm : Tryz.prog.keyType 35 = true := by kernel_rfl
set_option maxRecDepth 100000 in
theorem Tryz.lawTerm : Maps.Keyed Tryz.prog 35 := Maps.Keyed.of_law (deep_law_laid Tryz.laidOut (m := 2) (by omega) Tryz.rowTerm (by kernel_rfl) Tryz.wideTerm)
theorem Tryz.rowPred : (61 : TypeId) < Tryz.prog.types.size := of_decide_eq_true (by kernel_rfl)
theorem Tryz.widePred : (match Tryz.prog.underlying 61 with | some (.array _ _) | some (.struct _) => true | _ => false) = true := by kernel_rfl
theorem Tryz.keyTypePred : Tryz.prog.keyType 61 = true := by kernel_rfl
set_option maxRecDepth 100000 in
theorem Tryz.lawPred : Maps.Keyed Tryz.prog 61 := Maps.Keyed.of_law (deep_law_laid Tryz.laidOut (m := 2) (by omega) Tryz.rowPred (by kernel_rfl) Tryz.widePred)
theorem Tryz.cellsOfTerm : Tryz.prog.cellsOf 35 = 3 := by kernel_rfl
theorem Tryz.cellsOfPred : Tryz.prog.cellsOf 61 = 2 := by kernel_rfl
theorem Tryz.cellsOfInt : Tryz.prog.cellsOf 3 = 1 := by kernel_rfl
theorem Tryz.cellsOfString : Tryz.prog.cellsOf 9 = 1 := by kernel_rfl
theorem lits_int {d : Nat} (c : Value) : Tryz.prog.keyLits (d + 1) 3 [c] = match c with | .int .i64 n => if (Lit.int .i64 n).wf = true then some [Lit.int .i64 n] else none | _ => none := by
  unfold Program.keyLits
  rw [Tryz.underlying3]
  cases c with
  | int q n => 
    by_cases h : q = .i64
    · subst h; simp
    · cases q <;> first | (exact absurd rfl h) | simp
  | _ => rfl
theorem lits_string {d : Nat} (c : Value) : Tryz.prog.keyLits (d + 1) 9 [c] = match c with | .string s => if s.size ≤ maxLen then some [Lit.string s.data.toList] else none | _ => none := by
  unfold Program.keyLits
  rw [Tryz.underlying9]
  cases c <;> rfl
theorem pos_succ {n k : Nat} (h : k < n) : ∃ d, n = d + 1 := ⟨n - 1, by omega⟩
theorem types_pos : ∃ d, Tryz.prog.types.size = d + 1 := pos_succ Tryz.rowTerm
theorem lits_term (c0 c1 c2 : Value) (d : Nat) : Tryz.prog.keyLits (d + 1 + 1) 35 [c0, c1, c2] = (Tryz.prog.keyLits (d + 1) 3 [c0]).bind fun x => (Tryz.prog.keyLits (d + 1) 3 [c1]).bind fun y => (Tryz.prog.keyLits (d + 1) 9 [c2]).bind fun z => some (x ++ (y ++ z)) := by
  have hc := Tryz.cellsOfTerm
  have hi := Tryz.cellsOfInt
  have hs := Tryz.cellsOfString
  conv => lhs; unfold Program.keyLits
  rw [Tryz.underlying35]
  generalize Tryz.prog.keyLits (d + 1) = F at *
  simp [hc, hi, hs, List.mapM_cons, List.mapM_nil]
  cases F 3 [c0] <;> cases F 3 [c1] <;> cases F 9 [c2] <;> simp
theorem lits_pred (c0 c1 : Value) (d : Nat) : Tryz.prog.keyLits (d + 1 + 1) 61 [c0, c1] = (Tryz.prog.keyLits (d + 1) 9 [c0]).bind fun x => (Tryz.prog.keyLits (d + 1) 3 [c1]).bind fun y => some (x ++ y) := by
  have hc := Tryz.cellsOfPred
  have hi := Tryz.cellsOfInt
  have hs := Tryz.cellsOfString
  conv => lhs; unfold Program.keyLits
  rw [Tryz.underlying61]
  generalize Tryz.prog.keyLits (d + 1) = F at *
  simp [hc, hi, hs, List.mapM_cons, List.mapM_nil]
  cases F 9 [c0] <;> cases F 3 [c1] <;> simp
theorem keyOf_term_eq (v : Value) : keyOf Tryz.prog 35 v = if v.formed Tryz.prog 35 = true then (Tryz.prog.keyLits (Tryz.prog.types.size + 1) 35 v.cells.toList).map (fun ls => Lit.string (keyBytes ls)) else none := by
  unfold keyOf
  rw [Tryz.underlying35, Tryz.keyTypeTerm]
  simp only [Bool.true_and]
theorem keyOf_pred_eq (v : Value) : keyOf Tryz.prog 61 v = if v.formed Tryz.prog 61 = true then (Tryz.prog.keyLits (Tryz.prog.types.size + 1) 61 v.cells.toList).map (fun ls => Lit.string (keyBytes ls)) else none := by
  unfold keyOf
  rw [Tryz.underlying61, Tryz.keyTypePred]
  simp only [Bool.true_and]
set_option maxRecDepth 100000 in
theorem formed_term (v : Value) : v.formed Tryz.prog 35 = true ↔ ∃ c0 c1 c2, v = .agg #[c0, c1, c2] := by
  constructor
  · intro h
    cases v with
    | agg cs =>
      have hs : cs.size = 3 := by simpa [Value.formed, Tryz.underlying35, Tryz.cellsOfTerm] using h
      obtain ⟨l⟩ := cs
      match l, hs with
      | [a, b, c], _ => exact ⟨a, b, c, rfl⟩
    | _ => simp [Value.formed, Tryz.underlying35] at h
  · rintro ⟨c0, c1, c2, rfl⟩
    simp [Value.formed, Tryz.underlying35, Tryz.cellsOfTerm]
set_option maxRecDepth 100000 in
theorem formed_pred (v : Value) : v.formed Tryz.prog 61 = true ↔ ∃ c0 c1, v = .agg #[c0, c1] := by
  constructor
  · intro h
    cases v with
    | agg cs =>
      have hs : cs.size = 2 := by simpa [Value.formed, Tryz.underlying61, Tryz.cellsOfPred] using h
      obtain ⟨l⟩ := cs
      match l, hs with
      | [a, b], _ => exact ⟨a, b, rfl⟩
    | _ => simp [Value.formed, Tryz.underlying61] at h
  · rintro ⟨c0, c1, rfl⟩
    simp [Value.formed, Tryz.underlying61, Tryz.cellsOfPred]
theorem keyOf_tm {t : Tm} (h : KeyT t) : keyOf Tryz.prog 35 t.v = some (kT t) := by
  obtain ⟨d, hd⟩ := types_pos
  rw [keyOf_term_eq, if_pos ((formed_term _).2 ⟨_, _, _, rfl⟩), hd]
  show Option.map _ (Tryz.prog.keyLits (d + 1 + 1) 35 [_, _, _]) = _
  rw [lits_term, lits_int, lits_int, lits_string]
  simp [h.k, h.n, h.s, kT]
theorem keyOf_pd {p : Pd} (h : KeyP p) : keyOf Tryz.prog 61 p.v = some (kP p) := by
  obtain ⟨d, hd⟩ := types_pos
  rw [keyOf_pred_eq, if_pos ((formed_pred _).2 ⟨_, _, rfl⟩), hd]
  show Option.map _ (Tryz.prog.keyLits (d + 1 + 1) 61 [_, _]) = _
  rw [lits_pred, lits_int, lits_string]
  simp [h.n, h.a, kP]
theorem keyOf_tm_inv {v : Value} {kl : Lit} (h : keyOf Tryz.prog 35 v = some kl) : ∃ t : Tm, v = t.v ∧ kl = kT t ∧ KeyT t := by
  obtain ⟨d, hd⟩ := types_pos
  rw [keyOf_term_eq] at h
  by_cases hf : v.formed Tryz.prog 35 = true
  · rw [if_pos hf, hd] at h
    obtain ⟨c0, c1, c2, rfl⟩ := (formed_term _).1 hf
    replace h : Option.map (fun ls => Lit.string (keyBytes ls)) (Tryz.prog.keyLits (d + 1 + 1) 35 [c0, c1, c2]) = some kl := h
    rw [lits_term, lits_int, lits_int, lits_string] at h
    cases c0 with
    | int q0 n0 => 
      cases c1 with
      | int q1 n1 =>
        cases c2 with
        | string s =>
          cases q0 <;> try (simp at h; done)
          cases q1 <;> try (simp at h; done)
          by_cases h0 : (Lit.int .i64 n0).wf = true
          · by_cases h1 : (Lit.int .i64 n1).wf = true
            · by_cases h2 : s.size ≤ maxLen
              · simp only [h0, h1, h2, if_true, Option.bind_some, Option.map_some, Option.some.injEq] at h
                exact ⟨⟨n0, n1, s⟩, rfl, h.symm, ⟨h0, h1, h2⟩⟩
              · simp [h0, h1, h2] at h
            · simp [h0, h1] at h
          · simp [h0] at h
        | _ => simp at h
      | _ => simp at h
    | _ => simp at h
  · rw [if_neg hf] at h; cases h
theorem keyOf_pd_inv {v : Value} {kl : Lit} (h : keyOf Tryz.prog 61 v = some kl) : ∃ p : Pd, v = p.v ∧ kl = kP p ∧ KeyP p := by
  obtain ⟨d, hd⟩ := types_pos
  rw [keyOf_pred_eq] at h
  by_cases hf : v.formed Tryz.prog 61 = true
  · rw [if_pos hf, hd] at h
    obtain ⟨c0, c1, rfl⟩ := (formed_pred _).1 hf
    replace h : Option.map (fun ls => Lit.string (keyBytes ls)) (Tryz.prog.keyLits (d + 1 + 1) 61 [c0, c1]) = some kl := h
    rw [lits_pred, lits_int, lits_string] at h
    cases c0 with
    | string s =>
      cases c1 with
      | int q1 n1 =>
        cases q1 <;> try (simp at h; done)
        by_cases h0 : s.size ≤ maxLen
        · by_cases h1 : (Lit.int .i64 n1).wf = true
          · simp only [h0, h1, if_true, Option.bind_some, Option.map_some, Option.some.injEq] at h
            exact ⟨⟨s, n1⟩, rfl, h.symm, ⟨h0, h1⟩⟩
          · simp [h0, h1] at h
        · simp [h0] at h
      | _ => simp at h
    | _ => simp at h
  · rw [if_neg hf] at h; cases h
theorem kT_inj {t u : Tm} (ht : KeyT t) (hu : KeyT u) (h : kT t = kT u) : t = u := by
  have := Tryz.lawTerm.inj (keyOf_tm ht) (h ▸ keyOf_tm hu)
  cases t; cases u
  simpa [Tm.v] using this
theorem kP_inj {t u : Pd} (ht : KeyP t) (hu : KeyP u) (h : kP t = kP u) : t = u := by
  have := Tryz.lawPred.inj (keyOf_pd ht) (h ▸ keyOf_pd hu)
  cases t; cases u
  simpa [Pd.v] using this
theorem ord_pd : Ord3 cmpP := by
  have h := Ord3.lex (γ := Pd) ord_sgL ord_sgI (fun p => p.nm.toList) (fun p => p.ar) (fun x y h h' => Pd.ext' (ByteArray.ext (Array.toList_inj.1 (by simpa [ByteArray.toList_eq] using h))) h')
  exact h
end Go.Proofs.YtdfgijdededolabGreatDoor
/-
  Clauses in their order, as plain mathematics. (Written by CL22.py.)
-/
namespace Go.Proofs.YtdfgijdededolabGreatDoor

def cmpN {α : Type} (f : α → α → Int) : List α → List α → Int
  | x :: p, y :: q => if f x y ≠ 0 then f x y else cmpN f p q
  | _, _ => 0
theorem cmpN_ord {α : Type} {f : α → α → Int} (hf : Ord3 f) : ∀ n : Nat, (∀ a b : List α, a.length = n → b.length = n → (cmpN f a b = -1 ∨ cmpN f a b = 0 ∨ cmpN f a b = 1) ∧ cmpN f b a = - cmpN f a b ∧ (cmpN f a b = 0 → a = b)) ∧
    (∀ a b c : List α, a.length = n → b.length = n → c.length = n → cmpN f a b ≤ 0 → cmpN f b c ≤ 0 → cmpN f a c ≤ 0 ∧ (cmpN f a b < 0 ∨ cmpN f b c < 0 → cmpN f a c < 0))
  | 0 => by
    refine ⟨fun a b ha hb => ?_, fun a b c ha hb hc => ?_⟩
    · rw [List.length_eq_zero_iff] at ha hb; subst ha hb; simp [cmpN]
    · rw [List.length_eq_zero_iff] at ha hb hc; subst ha hb hc; simp [cmpN]
  | n + 1 => by
    have ih := cmpN_ord hf n
    refine ⟨fun a b ha hb => ?_, fun a b c ha hb hc => ?_⟩
    · match a, b, ha, hb with
      | x :: a, y :: b, ha, hb =>
        have i := ih.1 a b (by simpa using ha) (by simpa using hb)
        have hn := hf.neg x y
        by_cases h : f x y = 0
        · have e := hf.zero x y h
          simp only [cmpN]
          rw [if_neg (by omega), if_neg (by omega)]
          exact ⟨i.1, i.2.1, fun h' => by rw [e, i.2.2 h']⟩
        · simp only [cmpN]
          rw [if_pos h, if_pos (by omega)]
          exact ⟨hf.rng x y, hn, fun h' => absurd h' h⟩
    · match a, b, c, ha, hb, hc with
      | x :: a, y :: b, z :: c, ha, hb, hc =>
        have i := ih.2 a b c (by simpa using ha) (by simpa using hb) (by simpa using hc)
        have t := hf.tr x y z
        simp only [cmpN]
        by_cases h1 : f x y = 0
        · have e1 := hf.zero _ _ h1
          rw [e1] at h1 ⊢
          by_cases h2 : f y z = 0
          · simp only [h1, h2, ne_eq, not_true_eq_false, if_false]; exact i
          · simp only [h1, h2, ne_eq, not_true_eq_false, not_false_eq_true, if_false, if_true]; intro _ h; exact ⟨h, fun _ => by omega⟩
        · by_cases h2 : f y z = 0
          · have e2 := hf.zero _ _ h2
            rw [← e2] at h2 ⊢
            simp only [h1, h2, ne_eq, not_true_eq_false, not_false_eq_true, if_false, if_true]
            intro h _; exact ⟨h, fun _ => by omega⟩
          · simp only [h1, h2, ne_eq, not_false_eq_true, if_true]
            intro h h'
            have := (t h h').2 (Or.inl (by omega))
            rw [if_pos (by omega)]
            exact ⟨by omega, fun _ => this⟩
def cmpNL {α : Type} (f : α → α → Int) (a b : List α) : Int := if M.sgI a.length b.length ≠ 0 then M.sgI a.length b.length else cmpN f a b
theorem cmpNL_ne {α : Type} (f : α → α → Int) (a b : List α) (h : a.length ≠ b.length) : cmpNL f a b = M.sgI a.length b.length := by
  unfold cmpNL; rw [if_pos (by rw [ne_eq, zI]; omega)]
theorem cmpNL_eq {α : Type} (f : α → α → Int) (a b : List α) (h : a.length = b.length) : cmpNL f a b = cmpN f a b := by
  unfold cmpNL; rw [if_neg (by rw [ne_eq, zI]; omega)]
theorem ord_nl {α : Type} {f : α → α → Int} (hf : Ord3 f) : Ord3 (cmpNL f) where
  rng a b := by
    by_cases h : a.length = b.length
    · rw [cmpNL_eq f a b h]; exact ((cmpN_ord hf _).1 a b rfl h.symm).1
    · rw [cmpNL_ne f a b h]; exact ord_sgI.rng _ _
  neg a b := by
    by_cases h : a.length = b.length
    · rw [cmpNL_eq f a b h, cmpNL_eq f b a h.symm]; exact ((cmpN_ord hf _).1 a b rfl h.symm).2.1
    · rw [cmpNL_ne f a b h, cmpNL_ne f b a (Ne.symm h)]; exact ord_sgI.neg _ _
  zero a b := by
    by_cases h : a.length = b.length
    · rw [cmpNL_eq f a b h]; exact ((cmpN_ord hf _).1 a b rfl h.symm).2.2
    · rw [cmpNL_ne f a b h, zI]; omega
  refl a := by
    rw [cmpNL_eq f a a rfl]
    have h := ((cmpN_ord hf _).1 a a rfl rfl).2.1
    omega
  tr a b c := by
    have t := ord_sgI.tr a.length b.length c.length
    have z1 := zI a.length b.length
    have z2 := zI b.length c.length
    have z3 := zI a.length c.length
    by_cases h1 : a.length = b.length
    · by_cases h2 : b.length = c.length
      · rw [cmpNL_eq f a b h1, cmpNL_eq f b c h2, cmpNL_eq f a c (h1.trans h2)]
        exact (cmpN_ord hf _).2 a b c rfl h1.symm (h1.trans h2).symm
      · rw [cmpNL_eq f a b h1, cmpNL_ne f b c h2, cmpNL_ne f a c (by omega), h1]
        intro _ h; exact ⟨h, fun _ => by omega⟩
    · by_cases h2 : b.length = c.length
      · rw [cmpNL_ne f a b h1, cmpNL_eq f b c h2, cmpNL_ne f a c (by omega), ← h2]
        intro h _; exact ⟨h, fun _ => by omega⟩
      · rw [cmpNL_ne f a b h1, cmpNL_ne f b c h2]
        intro h h'
        have := (t h h').2 (Or.inl (by omega))
        rw [cmpNL_ne f a c (by omega)]
        exact ⟨by omega, fun _ => this⟩

theorem cmpG_N {α : Type} (f : α → α → Int) : ∀ p q : List α, cmpG f p q = cmpN f p q
  | [], _ => rfl
  | _ :: _, [] => rfl
  | x :: p, y :: q => by
    simp only [cmpG, cmpN]
    by_cases h : f x y = 0
    · rw [if_pos h, if_neg (by omega), cmpG_N f p q]
    · rw [if_neg h, if_pos h]
theorem cmpG_X : ∀ p q : List (At × Value), cmpG cmpX p q = cmpG At.cmp (fsts p) (fsts q)
  | [], _ => by simp [fsts, cmpG]
  | _ :: _, [] => by simp [fsts, cmpG]
  | x :: p, y :: q => by
    show (if x.1.cmp y.1 = 0 then cmpG cmpX p q else x.1.cmp y.1) = if x.1.cmp y.1 = 0 then cmpG At.cmp (fsts p) (fsts q) else x.1.cmp y.1
    rw [cmpG_X p q]
theorem cmpGL_N {α : Type} (f : α → α → Int) (p q : List α) : cmpGL f p q = cmpNL f p q := by
  unfold cmpGL
  by_cases h : p.length = q.length
  · rw [if_pos h, cmpNL_eq f _ _ h, cmpG_N]
  · rw [if_neg h, cmpNL_ne f _ _ h]
theorem cmpGL_X (p q : List (At × Value)) : cmpGL cmpX p q = cmpNL At.cmp (fsts p) (fsts q) := by
  rw [← cmpGL_N]
  unfold cmpGL
  rw [cmpG_X]
  simp [fsts]
theorem ord_te : Ord3 Te.cmp := by
  have h1 := Ord3.lex (γ := Tm × Tm) ord_tm ord_tm (fun x => x.1) (fun x => x.2) (fun x y h h' => Prod.ext h h')
  have h2 := Ord3.lex (γ := Te) ord_sgI h1 (fun x => x.op) (fun x => (x.l, x.r)) (fun x y h h' => by
    obtain ⟨o, l, r⟩ := x
    obtain ⟨o', l', r'⟩ := y
    simp only [Prod.mk.injEq] at h h'
    rw [h, h'.1, h'.2])
  exact h2
/-- What a clause is, wherever it lies. -/
def Cm.key (c : Cm) : At × List At × List Te := (c.head.1, fsts c.body, c.tests)
def cmpC (x y : At × List At × List Te) : Int := if x.1.cmp y.1 ≠ 0 then x.1.cmp y.1 else if cmpNL At.cmp x.2.1 y.2.1 ≠ 0 then cmpNL At.cmp x.2.1 y.2.1 else cmpNL Te.cmp x.2.2 y.2.2
theorem ord_c : Ord3 cmpC := by
  have h1 := Ord3.lex (γ := List At × List Te) (ord_nl ord_at) (ord_nl ord_te) (fun x => x.1) (fun x => x.2) (fun x y h h' => Prod.ext h h')
  exact Ord3.lex (γ := At × List At × List Te) ord_at h1 (fun x => x.1) (fun x => x.2) (fun x y h h' => Prod.ext h h')
theorem cmp_key (c d : Cm) : c.cmp d = cmpC c.key d.key := by
  unfold Cm.cmp cmpC Cm.key
  rw [cmpGL_X, cmpGL_N]
theorem same_key (c d : Cm) : c.same d = decide (c.key = d.key) := by
  unfold Cm.same Cm.key
  rw [Bool.eq_iff_iff]
  simp
end Go.Proofs.YtdfgijdededolabGreatDoor
