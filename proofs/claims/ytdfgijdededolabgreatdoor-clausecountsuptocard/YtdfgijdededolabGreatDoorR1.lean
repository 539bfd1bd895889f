import Derived.Test.YtdfgijdededolabGreatDoorA1
import Derived.Test.YtdfgijdededolabGreatDoorCL14
import Derived.Test.YtdfgijdededolabGreatDoorCL1
import Derived.ProofKit
import Derived.OpenShut
import Derived.ShutString
import Derived.ChangeOld
import Derived.Below
import Derived.Lib.SmallJoins
/-
  hearsaylaw02.TermDecides, for every two terms.
-/
namespace Go.Proofs.YtdfgijdededolabGreatDoor
open Go.RowKit
attribute [local go_sem ↓] Go.wp_at_zero Go.wp_at_succ

theorem sgI_neg (a b : Int) : M.sgI b a = - M.sgI a b := by unfold M.sgI; repeat' split
                                                            all_goals omega
def x4 : Tm := ⟨3, 4, ⟨#[]⟩⟩
end Go.Proofs.YtdfgijdededolabGreatDoor
/-
  Atoms in their order, as plain mathematics.
-/
namespace Go.Proofs.YtdfgijdededolabGreatDoor

/-- A total order, told by -1, 0, 1. -/
structure Ord3 {α : Type} (f : α → α → Int) : Prop where
  rng : ∀ a b, f a b = -1 ∨ f a b = 0 ∨ f a b = 1
  neg : ∀ a b, f b a = - f a b
  zero : ∀ a b, f a b = 0 → a = b
  refl : ∀ a, f a a = 0
  tr : ∀ a b c, f a b ≤ 0 → f b c ≤ 0 → f a c ≤ 0 ∧ (f a b < 0 ∨ f b c < 0 → f a c < 0)
theorem ord_sgI : Ord3 M.sgI where
  rng a b := by unfold M.sgI; repeat' split
                all_goals omega
  neg a b := sgI_neg a b
  zero a b := by unfold M.sgI; repeat' split
                 all_goals omega
  refl a := by simp [M.sgI]
  tr a b c := by
    have k1 : ∀ x y, M.sgI x y ≤ 0 ↔ x ≤ y := fun x y => by unfold M.sgI; repeat' split
                                                            all_goals omega
    have k2 : ∀ x y, M.sgI x y < 0 ↔ x < y := fun x y => by unfold M.sgI; repeat' split
                                                            all_goals omega
    rw [k1, k1, k1, k2, k2, k2]; omega
theorem ord_sgL : Ord3 M.sgL where
  rng := M.sgL_rng
  neg a b := M.sgL_neg a b
  zero a b h := (M.sgL_zero a b).1 h
  refl a := (M.sgL_zero a a).2 rfl
  tr := M.sgL_trans
/-- First one, then the other. -/
theorem Ord3.lex {α β γ : Type} {f : α → α → Int} {g : β → β → Int} (hf : Ord3 f) (hg : Ord3 g) (p : γ → α) (q : γ → β) (inj : ∀ x y, p x = p y → q x = q y → x = y) :
    Ord3 fun x y => if f (p x) (p y) ≠ 0 then f (p x) (p y) else g (q x) (q y) where
  rng a b := by
    split
    · exact hf.rng _ _
    · exact hg.rng _ _
  neg a b := by
    have h1 := hf.neg (p a) (p b)
    have h2 := hg.neg (q a) (q b)
    by_cases h : f (p a) (p b) = 0
    · rw [if_neg (by omega), if_neg (by omega), h2]
    · rw [if_pos (by omega), if_pos (by omega), h1]
  zero a b := by
    by_cases h : f (p a) (p b) = 0
    · rw [if_neg (by omega)]; exact fun h' => inj _ _ (hf.zero _ _ h) (hg.zero _ _ h')
    · rw [if_pos h]; exact fun h' => absurd h' h
  refl a := by
    rw [if_neg (by rw [hf.refl]; omega)]; exact hg.refl _
  tr a b c := by
    have t := hf.tr (p a) (p b) (p c)
    have t' := hg.tr (q a) (q b) (q c)
    by_cases h1 : f (p a) (p b) = 0
    · have e1 := hf.zero _ _ h1
      rw [e1] at h1 ⊢
      by_cases h2 : f (p b) (p c) = 0
      · simp only [h1, h2, ne_eq, not_true_eq_false, if_false]; exact t'
      · simp only [h1, h2, ne_eq, not_true_eq_false, not_false_eq_true, if_false, if_true]; intro _ h; exact ⟨h, fun _ => by omega⟩
    · by_cases h2 : f (p b) (p c) = 0
      · have e2 := hf.zero _ _ h2
        rw [← e2] at h2 ⊢
        simp only [h1, h2, ne_eq, not_true_eq_false, not_false_eq_true, if_false, if_true]
        intro h _; exact ⟨h, fun _ => by omega⟩
      · simp only [h1, h2, ne_eq, not_false_eq_true, if_true]
        intro h h'
        have := (t h h').2 (Or.inl (by omega))
        rw [if_pos (by omega)]
        exact ⟨by omega, fun _ => this⟩
theorem ord_tm : Ord3 Tm.cmp := by
  have h1 := Ord3.lex (γ := Int × List UInt8) ord_sgI ord_sgL (fun x => x.1) (fun x => x.2) (fun x y h h' => Prod.ext h h')
  have h2 := Ord3.lex (γ := Tm) ord_sgI h1 (fun x => x.k) (fun x => (x.n, x.s.toList)) (fun x y h h' => by
    obtain ⟨k, n, s⟩ := x
    obtain ⟨k', n', s'⟩ := y
    simp only [Prod.mk.injEq] at h h'
    rw [h, h'.1, toList_inj h'.2])
  have e : Tm.cmp = fun x y => if M.sgI x.k y.k ≠ 0 then M.sgI x.k y.k else if M.sgI x.n y.n ≠ 0 then M.sgI x.n y.n else M.sgL x.s.toList y.s.toList := by
    funext x y
    have z : ∀ a b, M.sgI a b = 0 ↔ a = b := fun a b => ⟨ord_sgI.zero a b, fun h => by rw [h]; exact ord_sgI.refl b⟩
    unfold Tm.cmp
    simp only [ne_eq, z]
  rw [e]; exact h2
theorem cmpL_ord : ∀ n : Nat, (∀ a b : List Tm, a.length = n → b.length = n → (cmpL a b = -1 ∨ cmpL a b = 0 ∨ cmpL a b = 1) ∧ cmpL b a = - cmpL a b ∧ (cmpL a b = 0 → a = b)) ∧
    (∀ a b c : List Tm, a.length = n → b.length = n → c.length = n → cmpL a b ≤ 0 → cmpL b c ≤ 0 → cmpL a c ≤ 0 ∧ (cmpL a b < 0 ∨ cmpL b c < 0 → cmpL a c < 0))
  | 0 => by
    refine ⟨fun a b ha hb => ?_, fun a b c ha hb hc => ?_⟩
    · rw [List.length_eq_zero_iff] at ha hb; subst ha hb; simp [cmpL]
    · rw [List.length_eq_zero_iff] at ha hb hc; subst ha hb hc; simp [cmpL]
  | n + 1 => by
    have ih := cmpL_ord n
    refine ⟨fun a b ha hb => ?_, fun a b c ha hb hc => ?_⟩
    · match a, b, ha, hb with
      | x :: a, y :: b, ha, hb =>
        have i := ih.1 a b (by simpa using ha) (by simpa using hb)
        have hn := ord_tm.neg x y
        by_cases h : x.cmp y = 0
        · have e := ord_tm.zero x y h
          simp only [cmpL]
          rw [if_neg (by omega), if_neg (by omega)]
          exact ⟨i.1, i.2.1, fun h' => by rw [e, i.2.2 h']⟩
        · simp only [cmpL]
          rw [if_pos h, if_pos (by omega)]
          exact ⟨ord_tm.rng x y, hn, fun h' => absurd h' h⟩
    · match a, b, c, ha, hb, hc with
      | x :: a, y :: b, z :: c, ha, hb, hc =>
        have i := ih.2 a b c (by simpa using ha) (by simpa using hb) (by simpa using hc)
        have t := ord_tm.tr x y z
        simp only [cmpL]
        by_cases h1 : x.cmp y = 0
        · have e1 := ord_tm.zero _ _ h1
          rw [e1] at h1 ⊢
          by_cases h2 : y.cmp z = 0
          · simp only [h1, h2, ne_eq, not_true_eq_false, if_false]; exact i
          · simp only [h1, h2, ne_eq, not_true_eq_false, not_false_eq_true, if_false, if_true]; intro _ h; exact ⟨h, fun _ => by omega⟩
        · by_cases h2 : y.cmp z = 0
          · have e2 := ord_tm.zero _ _ h2
            rw [← e2] at h2 ⊢
            simp only [h1, h2, ne_eq, not_true_eq_false, not_false_eq_true, if_false, if_true]
            intro h _; exact ⟨h, fun _ => by omega⟩
          · simp only [h1, h2, ne_eq, not_false_eq_true, if_true]
            intro h h'
            have := (t h h').2 (Or.inl (by omega))
            rw [if_pos (by omega)]
            exact ⟨by omega, fun _ => this⟩
def cmpLL (a b : List Tm) : Int := if M.sgI a.length b.length ≠ 0 then M.sgI a.length b.length else cmpL a b
theorem zI (a b : Int) : M.sgI a b = 0 ↔ a = b := ⟨ord_sgI.zero a b, fun h => by rw [h]; exact ord_sgI.refl b⟩
theorem cmpLL_ne (a b : List Tm) (h : a.length ≠ b.length) : cmpLL a b = M.sgI a.length b.length := by
  unfold cmpLL; rw [if_pos (by rw [ne_eq, zI]; omega)]
theorem cmpLL_eq (a b : List Tm) (h : a.length = b.length) : cmpLL a b = cmpL a b := by
  unfold cmpLL; rw [if_neg (by rw [ne_eq, zI]; omega)]
theorem ord_ll : Ord3 cmpLL where
  rng a b := by
    by_cases h : a.length = b.length
    · rw [cmpLL_eq a b h]; exact ((cmpL_ord _).1 a b rfl h.symm).1
    · rw [cmpLL_ne a b h]; exact ord_sgI.rng _ _
  neg a b := by
    by_cases h : a.length = b.length
    · rw [cmpLL_eq a b h, cmpLL_eq b a h.symm]; exact ((cmpL_ord _).1 a b rfl h.symm).2.1
    · rw [cmpLL_ne a b h, cmpLL_ne b a (Ne.symm h)]; exact ord_sgI.neg _ _
  zero a b := by
    by_cases h : a.length = b.length
    · rw [cmpLL_eq a b h]; exact ((cmpL_ord _).1 a b rfl h.symm).2.2
    · rw [cmpLL_ne a b h, zI]; omega
  refl a := by
    rw [cmpLL_eq a a rfl]
    have h := ((cmpL_ord _).1 a a rfl rfl).2.1
    omega
  tr a b c := by
    have t := ord_sgI.tr a.length b.length c.length
    have z1 := zI a.length b.length
    have z2 := zI b.length c.length
    have z3 := zI a.length c.length
    by_cases h1 : a.length = b.length
    · by_cases h2 : b.length = c.length
      · rw [cmpLL_eq a b h1, cmpLL_eq b c h2, cmpLL_eq a c (h1.trans h2)]
        exact (cmpL_ord _).2 a b c rfl h1.symm (h1.trans h2).symm
      · rw [cmpLL_eq a b h1, cmpLL_ne b c h2, cmpLL_ne a c (by omega), h1]
        intro _ h; exact ⟨h, fun _ => by omega⟩
    · by_cases h2 : b.length = c.length
      · rw [cmpLL_ne a b h1, cmpLL_eq b c h2, cmpLL_ne a c (by omega), ← h2]
        intro h _; exact ⟨h, fun _ => by omega⟩
      · rw [cmpLL_ne a b h1, cmpLL_ne b c h2]
        intro h h'
        have := (t h h').2 (Or.inl (by omega))
        rw [cmpLL_ne a c (by omega)]
        exact ⟨by omega, fun _ => this⟩
theorem ord_at : Ord3 At.cmp := by
  have h := Ord3.lex (γ := At) ord_sgL ord_ll (fun x => x.name.toList) (fun x => x.pl) (fun x y h h' => by
    obtain ⟨a, n, l⟩ := x
    obtain ⟨a', n', l'⟩ := y
    simp only [At.pl, List.cons.injEq] at h h'
    rw [toList_inj h, h'.1, h'.2])
  have e : At.cmp = fun x y => if M.sgL x.name.toList y.name.toList ≠ 0 then M.sgL x.name.toList y.name.toList else cmpLL x.pl y.pl := by
    funext x y
    unfold At.cmp
    simp only [ne_eq, M.sgL_zero]
    by_cases hn : x.name.toList = y.name.toList
    · simp only [hn, not_true_eq_false, if_false]
      by_cases hl : x.args.length = y.args.length
      · rw [if_neg (by simpa using hl), cmpLL_eq _ _ (by rw [pl_len, pl_len, hl])]
      · rw [if_pos hl, cmpLL_ne _ _ (by rw [pl_len, pl_len]; omega), pl_len, pl_len]
        have e1 : ((x.args.length : Int) < y.args.length) = (((x.args.length + 1 : Nat) : Int) < ((y.args.length + 1 : Nat) : Int)) := propext (by omega)
        have e2 : ((y.args.length : Int) < x.args.length) = (((y.args.length + 1 : Nat) : Int) < ((x.args.length + 1 : Nat) : Int)) := propext (by omega)
        unfold M.sgI
        simp only [e1, e2]
    · simp only [hn, not_false_eq_true, if_true]
  rw [e]; exact h
end Go.Proofs.YtdfgijdededolabGreatDoor
/-
  Lists that rise in a total order; two of them merged: plain. (Written by CN1.py, out of SD11, SD6.)
-/
namespace Go.Proofs.YtdfgijdededolabGreatDoor

abbrev ltG {α : Type} (f : α → α → Int) (a b : α) : Prop := f a b < 0
section
variable {α : Type} {f : α → α → Int}
theorem mem_takeG {α : Type} {p : List α} {i : Nat} {x y : α} (h : p[i]? = some x) : y ∈ p.take (i + 1) ↔ y ∈ p.take i ∨ y = x := by
  rw [List.take_add_one, h]; simp
/-- How far a merge of p and q has come: i of p and k of q are taken, and out is what they make. -/
structure MrgG (f : α → α → Int) (p q out : List α) (i k : Nat) : Prop where
  rise : out.Pairwise (ltG f)
  mem : ∀ x, x ∈ out ↔ x ∈ p.take i ∨ x ∈ q.take k
  lp : ∀ x ∈ out, ∀ j y, i ≤ j → p[j]? = some y → f x y < 0
  lq : ∀ x ∈ out, ∀ j y, k ≤ j → q[j]? = some y → f x y < 0
theorem MrgG.start (f : α → α → Int) (p q : List α) : MrgG f p q [] 0 0 := ⟨List.Pairwise.nil, (fun x => by simp), (fun x hx => by cases hx), (fun x hx => by cases hx)⟩
theorem ltG_tr (o : Ord3 f) {a b c : α} (h1 : f a b < 0) (h2 : f b c ≤ 0) : f a c < 0 := (o.tr _ _ _ (by omega) h2).2 (Or.inl h1)
theorem riseG_get {p : List α} (h : p.Pairwise (ltG f)) {i j : Nat} {x y : α} (hij : i < j) (hx : p[i]? = some x) (hy : p[j]? = some y) : f x y < 0 := by
  obtain ⟨h1, rfl⟩ := List.getElem?_eq_some_iff.1 hx
  obtain ⟨h2, rfl⟩ := List.getElem?_eq_some_iff.1 hy
  exact List.pairwise_iff_getElem.1 h i j h1 h2 hij
theorem riseG_snoc {o : List α} {x : α} (h : o.Pairwise (ltG f)) (hx : ∀ y ∈ o, f y x < 0) : (o ++ [x]).Pairwise (ltG f) :=
  List.pairwise_append.2 ⟨h, List.pairwise_singleton _ _, fun a ha b hb => by rw [List.mem_singleton] at hb; subst hb; exact hx a ha⟩
/-- The next of p is less than all that is left of q. -/
theorem MrgG.left {p q out : List α} {i k : Nat} {x : α} (h : MrgG f p q out i k) (o : Ord3 f) (hp : p.Pairwise (ltG f)) (hq : q.Pairwise (ltG f)) (hx : p[i]? = some x) (hl : ∀ y, q[k]? = some y → f x y < 0) : MrgG f p q (out ++ [x]) (i + 1) k := by
  have hx2 : ∀ y ∈ out, f y x < 0 := fun y hy => h.lp y hy i x (Nat.le_refl _) hx
  refine ⟨riseG_snoc h.rise hx2, fun y => ?_, fun y hy j z hj hz => ?_, fun y hy j z hj hz => ?_⟩
  · rw [List.mem_append, h.mem, mem_takeG hx, List.mem_singleton]
    constructor
    · rintro ((h | h) | h)
      · exact Or.inl (Or.inl h)
      · exact Or.inr h
      · exact Or.inl (Or.inr h)
    · rintro ((h | h) | h)
      · exact Or.inl (Or.inl h)
      · exact Or.inr h
      · exact Or.inl (Or.inr h)
  · rcases List.mem_append.1 hy with hy | hy
    · exact h.lp y hy j z (by omega) hz
    · rw [List.mem_singleton] at hy; subst hy; exact riseG_get hp (by omega) hx hz
  · rcases List.mem_append.1 hy with hy | hy
    · exact h.lq y hy j z hj hz
    · rw [List.mem_singleton] at hy; subst hy
      have hk : k < q.length := by have := (List.getElem?_eq_some_iff.1 hz).1; omega
      have h1 := hl _ (List.getElem?_eq_getElem hk)
      by_cases e : j = k
      · subst e; exact hl z hz
      · exact ltG_tr o h1 (by have := riseG_get hq (show k < j by omega) (List.getElem?_eq_getElem hk) hz; omega)
theorem MrgG.swap {p q out : List α} {i k : Nat} (h : MrgG f p q out i k) : MrgG f q p out k i := ⟨h.rise, fun x => by rw [h.mem, or_comm], h.lq, h.lp⟩
theorem MrgG.right {p q out : List α} {i k : Nat} {x : α} (h : MrgG f p q out i k) (o : Ord3 f) (hp : p.Pairwise (ltG f)) (hq : q.Pairwise (ltG f)) (hx : q[k]? = some x) (hl : ∀ y, p[i]? = some y → f x y < 0) : MrgG f p q (out ++ [x]) i (k + 1) := (h.swap.left o hq hp hx hl).swap
/-- The next of both are one. -/
theorem MrgG.both {p q out : List α} {i k : Nat} {x : α} (h : MrgG f p q out i k) (hp : p.Pairwise (ltG f)) (hq : q.Pairwise (ltG f)) (hx : p[i]? = some x) (hy : q[k]? = some x) : MrgG f p q (out ++ [x]) (i + 1) (k + 1) := by
  have hx2 : ∀ y ∈ out, f y x < 0 := fun y hy => h.lp y hy i x (Nat.le_refl _) hx
  refine ⟨riseG_snoc h.rise hx2, fun y => ?_, fun y hy' j z hj hz => ?_, fun y hy' j z hj hz => ?_⟩
  · rw [List.mem_append, h.mem, mem_takeG hx, mem_takeG hy, List.mem_singleton]
    constructor
    · rintro ((h | h) | h)
      · exact Or.inl (Or.inl h)
      · exact Or.inr (Or.inl h)
      · exact Or.inl (Or.inr h)
    · rintro ((h | h) | (h | h))
      · exact Or.inl (Or.inl h)
      · exact Or.inr h
      · exact Or.inl (Or.inr h)
      · exact Or.inr h
  · rcases List.mem_append.1 hy' with hy' | hy'
    · exact h.lp y hy' j z (by omega) hz
    · rw [List.mem_singleton] at hy'; subst hy'; exact riseG_get hp (by omega) hx hz
  · rcases List.mem_append.1 hy' with hy' | hy'
    · exact h.lq y hy' j z (by omega) hz
    · rw [List.mem_singleton] at hy'; subst hy'; exact riseG_get hq (by omega) hy hz
theorem MrgG.done {p q out : List α} {i k : Nat} (h : MrgG f p q out i k) (hi : p.length ≤ i) (hk : q.length ≤ k) : out.Pairwise (ltG f) ∧ ∀ x, x ∈ out ↔ x ∈ p ∨ x ∈ q :=
  ⟨h.rise, fun x => by rw [h.mem, List.take_of_length_le hi, List.take_of_length_le hk]⟩
theorem riseG_uniq (o : Ord3 f) : ∀ (a b : List α), a.Pairwise (ltG f) → b.Pairwise (ltG f) → (∀ k, k ∈ a ↔ k ∈ b) → a = b
  | [], [], _, _, _ => rfl
  | [], y :: b, _, _, h => absurd ((h y).2 (List.mem_cons_self ..)) (by simp)
  | x :: a, [], _, _, h => absurd ((h x).1 (List.mem_cons_self ..)) (by simp)
  | x :: a, y :: b, ha, hb, h => by
    obtain ⟨ha1, ha2⟩ := List.pairwise_cons.1 ha
    obtain ⟨hb1, hb2⟩ := List.pairwise_cons.1 hb
    have e : x = y := by
      rcases List.mem_cons.1 ((h x).1 (List.mem_cons_self ..)) with e | hx
      · exact e
      · rcases List.mem_cons.1 ((h y).2 (List.mem_cons_self ..)) with e | hy
        · exact e.symm
        · have h1 : f y x < 0 := hb1 x hx
          have h2 : f x y < 0 := ha1 y hy
          have := o.neg x y
          omega
    subst e
    rw [riseG_uniq o a b ha2 hb2 fun k => ⟨fun hk => ?_, fun hk => ?_⟩]
    · rcases List.mem_cons.1 ((h k).1 (List.mem_cons_of_mem _ hk)) with e | hk'
      · have h1 : f x k < 0 := ha1 k hk
        rw [e, o.refl] at h1; omega
      · exact hk'
    · rcases List.mem_cons.1 ((h k).2 (List.mem_cons_of_mem _ hk)) with e | hk'
      · have h1 : f x k < 0 := hb1 k hk
        rw [e, o.refl] at h1; omega
      · exact hk'
/-- A list that rises and has the members of another. -/
structure RiseOf (f : α → α → Int) (K l : List α) : Prop where
  rise : K.Pairwise (ltG f)
  mem : ∀ x, x ∈ K ↔ x ∈ l
theorem RiseOf.uniq {K K' l l' : List α} (h : RiseOf f K l) (o : Ord3 f) (h' : RiseOf f K' l') (hm : ∀ x, x ∈ l ↔ x ∈ l') : K = K' :=
  riseG_uniq o K K' h.rise h'.rise fun x => by rw [h.mem, h'.mem, hm]
theorem RiseOf.nil : RiseOf f [] [] := ⟨List.Pairwise.nil, fun _ => Iff.rfl⟩
theorem RiseOf.one (x : α) : RiseOf f [x] [x] := ⟨List.pairwise_singleton _ _, fun _ => Iff.rfl⟩
theorem MrgG.rof {p q out l m : List α} {i k : Nat} (h : MrgG f p q out i k) (hi : p.length ≤ i) (hk : q.length ≤ k) (hp : RiseOf f p l) (hq : RiseOf f q m) : RiseOf f out (l ++ m) :=
  ⟨(h.done hi hk).1, fun x => by rw [(h.done hi hk).2 x, hp.mem, hq.mem, List.mem_append]⟩
/-- A list sorted, none twice: it rises. -/
theorem riseG_of {K : List α} (o : Ord3 f) (hs : K.Pairwise fun a b => f a b ≤ 0) (hn : K.Nodup) : K.Pairwise (ltG f) := by
  refine (hs.and hn).imp fun {a b} ⟨h1, h2⟩ => ?_
  unfold ltG
  rcases Int.lt_or_eq_of_le h1 with h | h
  · exact h
  · exact absurd (o.zero a b h) h2
end
end Go.Proofs.YtdfgijdededolabGreatDoor
/-
  Arguments opened: a term, a list of terms, an atom, a binding.
-/
namespace Go.Proofs.YtdfgijdededolabGreatDoor
open Go.ChangeShapes Go.WideShapes Go.ChangeAt Go.RowKit Go.Joins
open Go.ChangeMaps (open_string shut_string)

theorem Tryz.own : ownKnob Tryz.prog.godebug = none := by kernel_rfl
theorem Tryz.laidOut : laidOutB Tryz.prog = true := by kernel_rfl
theorem Tryz.cellsTerm : Tryz.prog.cellsOf 35 = 3 := by kernel_rfl

end Go.Proofs.YtdfgijdededolabGreatDoor
