import Derived.Test.YtdfgijdededolabGreatDoorB7
import Derived.Test.YtdfgijdededolabGreatDoorA1
import Derived.Test.YtdfgijdededolabGreatDoorO2
/-
  sortBinds of at most one bind; first.
-/
namespace Go.Proofs.YtdfgijdededolabGreatDoor
open Go.RowKit

set_option maxRecDepth 100000 in
theorem len64_tiny (n : Int) (h : n = 0 ∨ n = 1) (w : World) : Calls Tryz.prog 129 #[.int .u64 n] w fun e w' => (∃ m : Int, e = .returned (.int .i64 m)) ∧ w' = w := by
  rcases h with rfl | rfl
  · go_enter Tryz.func129, Tryz.ntmps129
    go_wp2
    go_ret
    exact ⟨⟨_, rfl⟩, rfl⟩
  · go_enter Tryz.func129, Tryz.ntmps129
    go_wp2
    go_ret
    exact ⟨⟨_, rfl⟩, rfl⟩
theorem len_tiny (n : Nat) (h : n ≤ 1) (w : World) : Calls Tryz.prog 99 #[.int .u64 n] w fun e w' => (∃ m : Int, e = .returned (.int .i64 m)) ∧ w' = w := by
  have hn : (n : Int) = 0 ∨ (n : Int) = 1 := by omega
  have HN : Hid ((n : Int) = 0 ∨ (n : Int) = 1) := hn
  clear hn h
  go_enter Tryz.func99, Tryz.ntmps99
  go_wp2_with (go_at_call 129; refine (len64_tiny _ HN.out _).mono ?_; rintro e w1 ⟨⟨m, rfl⟩, rfl⟩)
  go_ret
  exact ⟨⟨_, rfl⟩, rfl⟩
end Go.Proofs.YtdfgijdededolabGreatDoor
/-
  first.
-/
namespace Go.Proofs.YtdfgijdededolabGreatDoor
open Go.RowKit

theorem ts_block {w : World} {g : Nat} {t : Tm} {ty : TypeId} (h : w.heap[g]? = some (.cells #[.int .i64 t.k, .int .i64 t.n, .string t.s] ty (0, 0))) : Ts w (.slice (some ⟨g, 0, none⟩) 1 1) [t] := by
  refine ⟨_, 1, rfl, by simp, Or.inr ⟨g, 0, rfl, (Array.getElem?_eq_some_iff.1 h).1, ?_⟩⟩
  intro i u hu
  match i, hu with
  | 0, hu =>
    simp only [List.getElem?_cons_zero, Option.some.injEq] at hu
    subst hu
    have := three h
    exact ⟨this.1, this.2.1, this.2.2.1⟩
def tX : Tm := ⟨3, 0, ⟨#[]⟩⟩
def tF : Tm := ⟨1, 5, ⟨#[]⟩⟩
def aX : At := ⟨zt, ⟨#[112]⟩, [tX]⟩
def aF : At := ⟨zt, ⟨#[112]⟩, [tF]⟩
theorem mres_first : mRes aX aF [] = some [⟨0, tF⟩] := by
  simp [mRes, mOk, shB, fixOk, At.pl, aX, aF, tX, tF, zt, Tm.var, fb, mGo, look]
theorem heap4a (w : World) (A B C D : Obj) : ((((w.alloc A).alloc B).alloc C).alloc D).heap[w.heap.size + 2]? = some C := by
  have e : w.heap.size + 2 = ((w.alloc A).alloc B).heap.size := by simp
  rw [e]; exact heap_alloc2_old _ _ _
theorem heap4b (w : World) (A B C D : Obj) : ((((w.alloc A).alloc B).alloc C).alloc D).heap[w.heap.size + 3]? = some D := by
  have e : w.heap.size + 3 = ((w.alloc A).alloc B).heap.size + 1 := by simp
  rw [e]; exact heap_alloc2_new _ _ _
theorem heap4c (w : World) (A B C D : Obj) : ((((w.alloc A).alloc B).alloc C).alloc D).heap[w.heap.size + 1]? = some B := by
  rw [Below.heap_alloc _ _ _ (by simp), Below.heap_alloc _ _ _ (by simp)]; exact heap_alloc2_new _ _ _
end Go.Proofs.YtdfgijdededolabGreatDoor
/-
  hearsaylaw02.TermDecides, for every two terms.
-/
namespace Go.Proofs.YtdfgijdededolabGreatDoor
open Go.RowKit
attribute [local go_sem ↓] Go.wp_at_zero Go.wp_at_succ

theorem sgI_neg (a b : Int) : M.sgI b a = - M.sgI a b := by unfold M.sgI; repeat' split
                                                            all_goals omega
theorem cmp_neg (a b : Tm) : b.cmp a = - a.cmp b := by
  unfold Tm.cmp
  by_cases h1 : a.k = b.k
  · by_cases h2 : a.n = b.n
    · simp [h1, h2]; exact M.sgL_neg _ _
    · have h2' : ¬ b.n = a.n := fun e => h2 e.symm
      simp [h1, h2, h2']; exact sgI_neg _ _
  · have h1' : ¬ b.k = a.k := fun e => h1 e.symm
    simp [h1, h1']; exact sgI_neg _ _
theorem con_var (t : Tm) (h : t.con = true) : t.var = false := by
  unfold Tm.con at h; unfold Tm.var
  simp only [decide_eq_true_eq, decide_eq_false_iff_not] at *
  omega
def x4 : Tm := ⟨3, 4, ⟨#[]⟩⟩
theorem x4_con : x4.con = false := by decide
theorem x4_var : x4.var = true := by simp [x4, Tm.var]
theorem apply_x4 (l r : Tm) (h : r.con = true) : applyTe [⟨4, l⟩] ⟨4, x4, r⟩ = ⟨4, l, r⟩ := by
  unfold applyTe become
  rw [x4_var, con_var r h]; simp [look, x4]
theorem bs_one {w : World} {g : Nat} {d : Bd} {ty : TypeId} (h : w.heap[g]? = some (.cells #[.int .i64 d.x, .int .i64 d.to.k, .int .i64 d.to.n, .string d.to.s] ty (0, 0))) : Bs w (.slice (some ⟨g, 0, none⟩) 1 1) [d] := by
  refine ⟨_, 1, rfl, by simp, Or.inr ⟨g, 0, rfl, (Array.getElem?_eq_some_iff.1 h).1, ?_⟩⟩
  intro i u hu
  match i, hu with
  | 0, hu =>
    simp only [List.getElem?_cons_zero, Option.some.injEq] at hu
    subst hu
    have := four h
    exact ⟨this.1, this.2.1, this.2.2.1, this.2.2.2⟩
end Go.Proofs.YtdfgijdededolabGreatDoor
/-
  Atoms in their order, as plain mathematics.
-/
namespace Go.Proofs.YtdfgijdededolabGreatDoor

/-- A total order, told by -1, 0, 1. -/
structure Ord3 {α : Type} (f : α → α → Int) : Prop where
  rng : ∀ a b, f a b = -1 ∨ f a b = 0 ∨ f a b = 1
  neg : ∀ a b, f b a = - f a b
  zero : ∀ a b, f a b = 0 → a = b
  refl : ∀ a, f a a = 0
  tr : ∀ a b c, f a b ≤ 0 → f b c ≤ 0 → f a c ≤ 0 ∧ (f a b < 0 ∨ f b c < 0 → f a c < 0)
theorem ord_sgI : Ord3 M.sgI where
  rng a b := by unfold M.sgI; repeat' split
                all_goals omega
  neg a b := sgI_neg a b
  zero a b := by unfold M.sgI; repeat' split
                 all_goals omega
  refl a := by simp [M.sgI]
  tr a b c := by
    have k1 : ∀ x y, M.sgI x y ≤ 0 ↔ x ≤ y := fun x y => by unfold M.sgI; repeat' split
                                                            all_goals omega
    have k2 : ∀ x y, M.sgI x y < 0 ↔ x < y := fun x y => by unfold M.sgI; repeat' split
                                                            all_goals omega
    rw [k1, k1, k1, k2, k2, k2]; omega
theorem ord_sgL : Ord3 M.sgL where
  rng := M.sgL_rng
  neg a b := M.sgL_neg a b
  zero a b h := (M.sgL_zero a b).1 h
  refl a := (M.sgL_zero a a).2 rfl
  tr := M.sgL_trans
/-- First one, then the other. -/
theorem Ord3.lex {α β γ : Type} {f : α → α → Int} {g : β → β → Int} (hf : Ord3 f) (hg : Ord3 g) (p : γ → α) (q : γ → β) (inj : ∀ x y, p x = p y → q x = q y → x = y) :
    Ord3 fun x y => if f (p x) (p y) ≠ 0 then f (p x) (p y) else g (q x) (q y) where
  rng a b := by
    split
    · exact hf.rng _ _
    · exact hg.rng _ _
  neg a b := by
    have h1 := hf.neg (p a) (p b)
    have h2 := hg.neg (q a) (q b)
    by_cases h : f (p a) (p b) = 0
    · rw [if_neg (by omega), if_neg (by omega), h2]
    · rw [if_pos (by omega), if_pos (by omega), h1]
  zero a b := by
    by_cases h : f (p a) (p b) = 0
    · rw [if_neg (by omega)]; exact fun h' => inj _ _ (hf.zero _ _ h) (hg.zero _ _ h')
    · rw [if_pos h]; exact fun h' => absurd h' h
  refl a := by
    rw [if_neg (by rw [hf.refl]; omega)]; exact hg.refl _
  tr a b c := by
    have t := hf.tr (p a) (p b) (p c)
    have t' := hg.tr (q a) (q b) (q c)
    by_cases h1 : f (p a) (p b) = 0
    · have e1 := hf.zero _ _ h1
      rw [e1] at h1 ⊢
      by_cases h2 : f (p b) (p c) = 0
      · simp only [h1, h2, ne_eq, not_true_eq_false, if_false]; exact t'
      · simp only [h1, h2, ne_eq, not_true_eq_false, not_false_eq_true, if_false, if_true]; intro _ h; exact ⟨h, fun _ => by omega⟩
    · by_cases h2 : f (p b) (p c) = 0
      · have e2 := hf.zero _ _ h2
        rw [← e2] at h2 ⊢
        simp only [h1, h2, ne_eq, not_true_eq_false, not_false_eq_true, if_false, if_true]
        intro h _; exact ⟨h, fun _ => by omega⟩
      · simp only [h1, h2, ne_eq, not_false_eq_true, if_true]
        intro h h'
        have := (t h h').2 (Or.inl (by omega))
        rw [if_pos (by omega)]
        exact ⟨by omega, fun _ => this⟩
theorem ord_tm : Ord3 Tm.cmp := by
  have h1 := Ord3.lex (γ := Int × List UInt8) ord_sgI ord_sgL (fun x => x.1) (fun x => x.2) (fun x y h h' => Prod.ext h h')
  have h2 := Ord3.lex (γ := Tm) ord_sgI h1 (fun x => x.k) (fun x => (x.n, x.s.toList)) (fun x y h h' => by
    obtain ⟨k, n, s⟩ := x
    obtain ⟨k', n', s'⟩ := y
    simp only [Prod.mk.injEq] at h h'
    rw [h, h'.1, toList_inj h'.2])
  have e : Tm.cmp = fun x y => if M.sgI x.k y.k ≠ 0 then M.sgI x.k y.k else if M.sgI x.n y.n ≠ 0 then M.sgI x.n y.n else M.sgL x.s.toList y.s.toList := by
    funext x y
    have z : ∀ a b, M.sgI a b = 0 ↔ a = b := fun a b => ⟨ord_sgI.zero a b, fun h => by rw [h]; exact ord_sgI.refl b⟩
    unfold Tm.cmp
    simp only [ne_eq, z]
  rw [e]; exact h2
theorem cmpL_ord : ∀ n : Nat, (∀ a b : List Tm, a.length = n → b.length = n → (cmpL a b = -1 ∨ cmpL a b = 0 ∨ cmpL a b = 1) ∧ cmpL b a = - cmpL a b ∧ (cmpL a b = 0 → a = b)) ∧
    (∀ a b c : List Tm, a.length = n → b.length = n → c.length = n → cmpL a b ≤ 0 → cmpL b c ≤ 0 → cmpL a c ≤ 0 ∧ (cmpL a b < 0 ∨ cmpL b c < 0 → cmpL a c < 0))
  | 0 => by
    refine ⟨fun a b ha hb => ?_, fun a b c ha hb hc => ?_⟩
    · rw [List.length_eq_zero_iff] at ha hb; subst ha hb; simp [cmpL]
    · rw [List.length_eq_zero_iff] at ha hb hc; subst ha hb hc; simp [cmpL]
  | n + 1 => by
    have ih := cmpL_ord n
    refine ⟨fun a b ha hb => ?_, fun a b c ha hb hc => ?_⟩
    · match a, b, ha, hb with
      | x :: a, y :: b, ha, hb =>
        have i := ih.1 a b (by simpa using ha) (by simpa using hb)
        have hn := ord_tm.neg x y
        by_cases h : x.cmp y = 0
        · have e := ord_tm.zero x y h
          simp only [cmpL]
          rw [if_neg (by omega), if_neg (by omega)]
          exact ⟨i.1, i.2.1, fun h' => by rw [e, i.2.2 h']⟩
        · simp only [cmpL]
          rw [if_pos h, if_pos (by omega)]
          exact ⟨ord_tm.rng x y, hn, fun h' => absurd h' h⟩
    · match a, b, c, ha, hb, hc with
      | x :: a, y :: b, z :: c, ha, hb, hc =>
        have i := ih.2 a b c (by simpa using ha) (by simpa using hb) (by simpa using hc)
        have t := ord_tm.tr x y z
        simp only [cmpL]
        by_cases h1 : x.cmp y = 0
        · have e1 := ord_tm.zero _ _ h1
          rw [e1] at h1 ⊢
          by_cases h2 : y.cmp z = 0
          · simp only [h1, h2, ne_eq, not_true_eq_false, if_false]; exact i
          · simp only [h1, h2, ne_eq, not_true_eq_false, not_false_eq_true, if_false, if_true]; intro _ h; exact ⟨h, fun _ => by omega⟩
        · by_cases h2 : y.cmp z = 0
          · have e2 := ord_tm.zero _ _ h2
            rw [← e2] at h2 ⊢
            simp only [h1, h2, ne_eq, not_true_eq_false, not_false_eq_true, if_false, if_true]
            intro h _; exact ⟨h, fun _ => by omega⟩
          · simp only [h1, h2, ne_eq, not_false_eq_true, if_true]
            intro h h'
            have := (t h h').2 (Or.inl (by omega))
            rw [if_pos (by omega)]
            exact ⟨by omega, fun _ => this⟩
def cmpLL (a b : List Tm) : Int := if M.sgI a.length b.length ≠ 0 then M.sgI a.length b.length else cmpL a b
theorem zI (a b : Int) : M.sgI a b = 0 ↔ a = b := ⟨ord_sgI.zero a b, fun h => by rw [h]; exact ord_sgI.refl b⟩
theorem cmpLL_ne (a b : List Tm) (h : a.length ≠ b.length) : cmpLL a b = M.sgI a.length b.length := by
  unfold cmpLL; rw [if_pos (by rw [ne_eq, zI]; omega)]
theorem cmpLL_eq (a b : List Tm) (h : a.length = b.length) : cmpLL a b = cmpL a b := by
  unfold cmpLL; rw [if_neg (by rw [ne_eq, zI]; omega)]
theorem ord_ll : Ord3 cmpLL where
  rng a b := by
    by_cases h : a.length = b.length
    · rw [cmpLL_eq a b h]; exact ((cmpL_ord _).1 a b rfl h.symm).1
    · rw [cmpLL_ne a b h]; exact ord_sgI.rng _ _
  neg a b := by
    by_cases h : a.length = b.length
    · rw [cmpLL_eq a b h, cmpLL_eq b a h.symm]; exact ((cmpL_ord _).1 a b rfl h.symm).2.1
    · rw [cmpLL_ne a b h, cmpLL_ne b a (Ne.symm h)]; exact ord_sgI.neg _ _
  zero a b := by
    by_cases h : a.length = b.length
    · rw [cmpLL_eq a b h]; exact ((cmpL_ord _).1 a b rfl h.symm).2.2
    · rw [cmpLL_ne a b h, zI]; omega
  refl a := by
    rw [cmpLL_eq a a rfl]
    have h := ((cmpL_ord _).1 a a rfl rfl).2.1
    omega
  tr a b c := by
    have t := ord_sgI.tr a.length b.length c.length
    have z1 := zI a.length b.length
    have z2 := zI b.length c.length
    have z3 := zI a.length c.length
    by_cases h1 : a.length = b.length
    · by_cases h2 : b.length = c.length
      · rw [cmpLL_eq a b h1, cmpLL_eq b c h2, cmpLL_eq a c (h1.trans h2)]
        exact (cmpL_ord _).2 a b c rfl h1.symm (h1.trans h2).symm
      · rw [cmpLL_eq a b h1, cmpLL_ne b c h2, cmpLL_ne a c (by omega), h1]
        intro _ h; exact ⟨h, fun _ => by omega⟩
    · by_cases h2 : b.length = c.length
      · rw [cmpLL_ne a b h1, cmpLL_eq b c h2, cmpLL_ne a c (by omega), ← h2]
        intro h _; exact ⟨h, fun _ => by omega⟩
      · rw [cmpLL_ne a b h1, cmpLL_ne b c h2]
        intro h h'
        have := (t h h').2 (Or.inl (by omega))
        rw [cmpLL_ne a c (by omega)]
        exact ⟨by omega, fun _ => this⟩
theorem ord_at : Ord3 At.cmp := by
  have h := Ord3.lex (γ := At) ord_sgL ord_ll (fun x => x.name.toList) (fun x => x.pl) (fun x y h h' => by
    obtain ⟨a, n, l⟩ := x
    obtain ⟨a', n', l'⟩ := y
    simp only [At.pl, List.cons.injEq] at h h'
    rw [toList_inj h, h'.1, h'.2])
  have e : At.cmp = fun x y => if M.sgL x.name.toList y.name.toList ≠ 0 then M.sgL x.name.toList y.name.toList else cmpLL x.pl y.pl := by
    funext x y
    unfold At.cmp
    simp only [ne_eq, M.sgL_zero]
    by_cases hn : x.name.toList = y.name.toList
    · simp only [hn, not_true_eq_false, if_false]
      by_cases hl : x.args.length = y.args.length
      · rw [if_neg (by simpa using hl), cmpLL_eq _ _ (by rw [pl_len, pl_len, hl])]
      · rw [if_pos hl, cmpLL_ne _ _ (by rw [pl_len, pl_len]; omega), pl_len, pl_len]
        have e1 : ((x.args.length : Int) < y.args.length) = (((x.args.length + 1 : Nat) : Int) < ((y.args.length + 1 : Nat) : Int)) := propext (by omega)
        have e2 : ((y.args.length : Int) < x.args.length) = (((y.args.length + 1 : Nat) : Int) < ((x.args.length + 1 : Nat) : Int)) := propext (by omega)
        unfold M.sgI
        simp only [e1, e2]
    · simp only [hn, not_false_eq_true, if_true]
  rw [e]; exact h
end Go.Proofs.YtdfgijdededolabGreatDoor
/-
  Clauses in their order, as plain mathematics. (Written by CL22.py.)
-/
namespace Go.Proofs.YtdfgijdededolabGreatDoor

def cmpN {α : Type} (f : α → α → Int) : List α → List α → Int
  | x :: p, y :: q => if f x y ≠ 0 then f x y else cmpN f p q
  | _, _ => 0
theorem cmpN_ord {α : Type} {f : α → α → Int} (hf : Ord3 f) : ∀ n : Nat, (∀ a b : List α, a.length = n → b.length = n → (cmpN f a b = -1 ∨ cmpN f a b = 0 ∨ cmpN f a b = 1) ∧ cmpN f b a = - cmpN f a b ∧ (cmpN f a b = 0 → a = b)) ∧
    (∀ a b c : List α, a.length = n → b.length = n → c.length = n → cmpN f a b ≤ 0 → cmpN f b c ≤ 0 → cmpN f a c ≤ 0 ∧ (cmpN f a b < 0 ∨ cmpN f b c < 0 → cmpN f a c < 0))
  | 0 => by
    refine ⟨fun a b ha hb => ?_, fun a b c ha hb hc => ?_⟩
    · rw [List.length_eq_zero_iff] at ha hb; subst ha hb; simp [cmpN]
    · rw [List.length_eq_zero_iff] at ha hb hc; subst ha hb hc; simp [cmpN]
  | n + 1 => by
    have ih := cmpN_ord hf n
    refine ⟨fun a b ha hb => ?_, fun a b c ha hb hc => ?_⟩
    · match a, b, ha, hb with
      | x :: a, y :: b, ha, hb =>
        have i := ih.1 a b (by simpa using ha) (by simpa using hb)
        have hn := hf.neg x y
        by_cases h : f x y = 0
        · have e := hf.zero x y h
          simp only [cmpN]
          rw [if_neg (by omega), if_neg (by omega)]
          exact ⟨i.1, i.2.1, fun h' => by rw [e, i.2.2 h']⟩
        · simp only [cmpN]
          rw [if_pos h, if_pos (by omega)]
          exact ⟨hf.rng x y, hn, fun h' => absurd h' h⟩
    · match a, b, c, ha, hb, hc with
      | x :: a, y :: b, z :: c, ha, hb, hc =>
        have i := ih.2 a b c (by simpa using ha) (by simpa using hb) (by simpa using hc)
        have t := hf.tr x y z
        simp only [cmpN]
        by_cases h1 : f x y = 0
        · have e1 := hf.zero _ _ h1
          rw [e1] at h1 ⊢
          by_cases h2 : f y z = 0
          · simp only [h1, h2, ne_eq, not_true_eq_false, if_false]; exact i
          · simp only [h1, h2, ne_eq, not_true_eq_false, not_false_eq_true, if_false, if_true]; intro _ h; exact ⟨h, fun _ => by omega⟩
        · by_cases h2 : f y z = 0
          · have e2 := hf.zero _ _ h2
            rw [← e2] at h2 ⊢
            simp only [h1, h2, ne_eq, not_true_eq_false, not_false_eq_true, if_false, if_true]
            intro h _; exact ⟨h, fun _ => by omega⟩
          · simp only [h1, h2, ne_eq, not_false_eq_true, if_true]
            intro h h'
            have := (t h h').2 (Or.inl (by omega))
            rw [if_pos (by omega)]
            exact ⟨by omega, fun _ => this⟩
def cmpNL {α : Type} (f : α → α → Int) (a b : List α) : Int := if M.sgI a.length b.length ≠ 0 then M.sgI a.length b.length else cmpN f a b
theorem cmpNL_ne {α : Type} (f : α → α → Int) (a b : List α) (h : a.length ≠ b.length) : cmpNL f a b = M.sgI a.length b.length := by
  unfold cmpNL; rw [if_pos (by rw [ne_eq, zI]; omega)]
theorem cmpNL_eq {α : Type} (f : α → α → Int) (a b : List α) (h : a.length = b.length) : cmpNL f a b = cmpN f a b := by
  unfold cmpNL; rw [if_neg (by rw [ne_eq, zI]; omega)]
theorem ord_nl {α : Type} {f : α → α → Int} (hf : Ord3 f) : Ord3 (cmpNL f) where
  rng a b := by
    by_cases h : a.length = b.length
    · rw [cmpNL_eq f a b h]; exact ((cmpN_ord hf _).1 a b rfl h.symm).1
    · rw [cmpNL_ne f a b h]; exact ord_sgI.rng _ _
  neg a b := by
    by_cases h : a.length = b.length
    · rw [cmpNL_eq f a b h, cmpNL_eq f b a h.symm]; exact ((cmpN_ord hf _).1 a b rfl h.symm).2.1
    · rw [cmpNL_ne f a b h, cmpNL_ne f b a (Ne.symm h)]; exact ord_sgI.neg _ _
  zero a b := by
    by_cases h : a.length = b.length
    · rw [cmpNL_eq f a b h]; exact ((cmpN_ord hf _).1 a b rfl h.symm).2.2
    · rw [cmpNL_ne f a b h, zI]; omega
  refl a := by
    rw [cmpNL_eq f a a rfl]
    have h := ((cmpN_ord hf _).1 a a rfl rfl).2.1
    omega
  tr a b c := by
    have t := ord_sgI.tr a.length b.length c.length
    have z1 := zI a.length b.length
    have z2 := zI b.length c.length
    have z3 := zI a.length c.length
    by_cases h1 : a.length = b.length
    · by_cases h2 : b.length = c.length
      · rw [cmpNL_eq f a b h1, cmpNL_eq f b c h2, cmpNL_eq f a c (h1.trans h2)]
        exact (cmpN_ord hf _).2 a b c rfl h1.symm (h1.trans h2).symm
      · rw [cmpNL_eq f a b h1, cmpNL_ne f b c h2, cmpNL_ne f a c (by omega), h1]
        intro _ h; exact ⟨h, fun _ => by omega⟩
    · by_cases h2 : b.length = c.length
      · rw [cmpNL_ne f a b h1, cmpNL_eq f b c h2, cmpNL_ne f a c (by omega), ← h2]
        intro h _; exact ⟨h, fun _ => by omega⟩
      · rw [cmpNL_ne f a b h1, cmpNL_ne f b c h2]
        intro h h'
        have := (t h h').2 (Or.inl (by omega))
        rw [cmpNL_ne f a c (by omega)]
        exact ⟨by omega, fun _ => this⟩

theorem cmpG_N {α : Type} (f : α → α → Int) : ∀ p q : List α, cmpG f p q = cmpN f p q
  | [], _ => rfl
  | _ :: _, [] => rfl
  | x :: p, y :: q => by
    simp only [cmpG, cmpN]
    by_cases h : f x y = 0
    · rw [if_pos h, if_neg (by omega), cmpG_N f p q]
    · rw [if_neg h, if_pos h]
theorem cmpG_X : ∀ p q : List (At × Value), cmpG cmpX p q = cmpG At.cmp (fsts p) (fsts q)
  | [], _ => by simp [fsts, cmpG]
  | _ :: _, [] => by simp [fsts, cmpG]
  | x :: p, y :: q => by
    show (if x.1.cmp y.1 = 0 then cmpG cmpX p q else x.1.cmp y.1) = if x.1.cmp y.1 = 0 then cmpG At.cmp (fsts p) (fsts q) else x.1.cmp y.1
    rw [cmpG_X p q]
theorem cmpGL_N {α : Type} (f : α → α → Int) (p q : List α) : cmpGL f p q = cmpNL f p q := by
  unfold cmpGL
  by_cases h : p.length = q.length
  · rw [if_pos h, cmpNL_eq f _ _ h, cmpG_N]
  · rw [if_neg h, cmpNL_ne f _ _ h]
theorem cmpGL_X (p q : List (At × Value)) : cmpGL cmpX p q = cmpNL At.cmp (fsts p) (fsts q) := by
  rw [← cmpGL_N]
  unfold cmpGL
  rw [cmpG_X]
  simp [fsts]
theorem ord_te : Ord3 Te.cmp := by
  have h1 := Ord3.lex (γ := Tm × Tm) ord_tm ord_tm (fun x => x.1) (fun x => x.2) (fun x y h h' => Prod.ext h h')
  have h2 := Ord3.lex (γ := Te) ord_sgI h1 (fun x => x.op) (fun x => (x.l, x.r)) (fun x y h h' => by
    obtain ⟨o, l, r⟩ := x
    obtain ⟨o', l', r'⟩ := y
    simp only [Prod.mk.injEq] at h h'
    rw [h, h'.1, h'.2])
  exact h2
/-- What a clause is, wherever it lies. -/
def Cm.key (c : Cm) : At × List At × List Te := (c.head.1, fsts c.body, c.tests)
def cmpC (x y : At × List At × List Te) : Int := if x.1.cmp y.1 ≠ 0 then x.1.cmp y.1 else if cmpNL At.cmp x.2.1 y.2.1 ≠ 0 then cmpNL At.cmp x.2.1 y.2.1 else cmpNL Te.cmp x.2.2 y.2.2
theorem ord_c : Ord3 cmpC := by
  have h1 := Ord3.lex (γ := List At × List Te) (ord_nl ord_at) (ord_nl ord_te) (fun x => x.1) (fun x => x.2) (fun x y h h' => Prod.ext h h')
  exact Ord3.lex (γ := At × List At × List Te) ord_at h1 (fun x => x.1) (fun x => x.2) (fun x y h h' => Prod.ext h h')
theorem cmp_key (c d : Cm) : c.cmp d = cmpC c.key d.key := by
  unfold Cm.cmp cmpC Cm.key
  rw [cmpGL_X, cmpGL_N]
theorem same_key (c d : Cm) : c.same d = decide (c.key = d.key) := by
  unfold Cm.same Cm.key
  rw [Bool.eq_iff_iff]
  simp
end Go.Proofs.YtdfgijdededolabGreatDoor
