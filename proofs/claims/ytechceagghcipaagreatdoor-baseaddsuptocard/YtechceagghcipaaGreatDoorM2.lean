/-
  Atoms in their order, as plain mathematics.
-/
import Derived.Test.YtechceagghcipaaGreatDoorO1
import Derived.Test.YtechceagghcipaaGreatDoorD3
namespace Go.Proofs.YtechceagghcipaaGreatDoor

/-- A total order, told by -1, 0, 1. -/
structure Ord3 {α : Type} (f : α → α → Int) : Prop where
  rng : ∀ a b, f a b = -1 ∨ f a b = 0 ∨ f a b = 1
  neg : ∀ a b, f b a = - f a b
  zero : ∀ a b, f a b = 0 → a = b
  refl : ∀ a, f a a = 0
  tr : ∀ a b c, f a b ≤ 0 → f b c ≤ 0 → f a c ≤ 0 ∧ (f a b < 0 ∨ f b c < 0 → f a c < 0)
theorem ord_sgI : Ord3 M.sgI where
  rng a b := by unfold M.sgI; repeat' split
                all_goals omega
  neg a b := sgI_neg a b
  zero a b := by unfold M.sgI; repeat' split
                 all_goals omega
  refl a := by simp [M.sgI]
  tr a b c := by
    have k1 : ∀ x y, M.sgI x y ≤ 0 ↔ x ≤ y := fun x y => by unfold M.sgI; repeat' split
                                                            all_goals omega
    have k2 : ∀ x y, M.sgI x y < 0 ↔ x < y := fun x y => by unfold M.sgI; repeat' split
                                                            all_goals omega
    rw [k1, k1, k1, k2, k2, k2]; omega
theorem ord_sgL : Ord3 M.sgL where
  rng := M.sgL_rng
  neg a b := M.sgL_neg a b
  zero a b h := (M.sgL_zero a b).1 h
  refl a := (M.sgL_zero a a).2 rfl
  tr := M.sgL_trans
/-- First one, then the other. -/
theorem Ord3.lex {α β γ : Type} {f : α → α → Int} {g : β → β → Int} (hf : Ord3 f) (hg : Ord3 g) (p : γ → α) (q : γ → β) (inj : ∀ x y, p x = p y → q x = q y → x = y) :
    Ord3 fun x y => if f (p x) (p y) ≠ 0 then f (p x) (p y) else g (q x) (q y) where
  rng a b := by
    split
    · exact hf.rng _ _
    · exact hg.rng _ _
  neg a b := by
    have h1 := hf.neg (p a) (p b)
    have h2 := hg.neg (q a) (q b)
    by_cases h : f (p a) (p b) = 0
    · rw [if_neg (by omega), if_neg (by omega), h2]
    · rw [if_pos (by omega), if_pos (by omega), h1]
  zero a b := by
    by_cases h : f (p a) (p b) = 0
    · rw [if_neg (by omega)]; exact fun h' => inj _ _ (hf.zero _ _ h) (hg.zero _ _ h')
    · rw [if_pos h]; exact fun h' => absurd h' h
  refl a := by
    rw [if_neg (by rw [hf.refl]; omega)]; exact hg.refl _
  tr a b c := by
    have t := hf.tr (p a) (p b) (p c)
    have t' := hg.tr (q a) (q b) (q c)
    by_cases h1 : f (p a) (p b) = 0
    · have e1 := hf.zero _ _ h1
      rw [e1] at h1 ⊢
      by_cases h2 : f (p b) (p c) = 0
      · simp only [h1, h2, ne_eq, not_true_eq_false, if_false]; exact t'
      · simp only [h1, h2, ne_eq, not_true_eq_false, not_false_eq_true, if_false, if_true]; intro _ h; exact ⟨h, fun _ => by omega⟩
    · by_cases h2 : f (p b) (p c) = 0
      · have e2 := hf.zero _ _ h2
        rw [← e2] at h2 ⊢
        simp only [h1, h2, ne_eq, not_true_eq_false, not_false_eq_true, if_false, if_true]
        intro h _; exact ⟨h, fun _ => by omega⟩
      · simp only [h1, h2, ne_eq, not_false_eq_true, if_true]
        intro h h'
        have := (t h h').2 (Or.inl (by omega))
        rw [if_pos (by omega)]
        exact ⟨by omega, fun _ => this⟩
theorem ord_tm : Ord3 Tm.cmp := by
  have h1 := Ord3.lex (γ := Int × List UInt8) ord_sgI ord_sgL (fun x => x.1) (fun x => x.2) (fun x y h h' => Prod.ext h h')
  have h2 := Ord3.lex (γ := Tm) ord_sgI h1 (fun x => x.k) (fun x => (x.n, x.s.toList)) (fun x y h h' => by
    obtain ⟨k, n, s⟩ := x
    obtain ⟨k', n', s'⟩ := y
    simp only [Prod.mk.injEq] at h h'
    rw [h, h'.1, toList_inj h'.2])
  have e : Tm.cmp = fun x y => if M.sgI x.k y.k ≠ 0 then M.sgI x.k y.k else if M.sgI x.n y.n ≠ 0 then M.sgI x.n y.n else M.sgL x.s.toList y.s.toList := by
    funext x y
    have z : ∀ a b, M.sgI a b = 0 ↔ a = b := fun a b => ⟨ord_sgI.zero a b, fun h => by rw [h]; exact ord_sgI.refl b⟩
    unfold Tm.cmp
    simp only [ne_eq, z]
  rw [e]; exact h2
theorem cmpL_ord : ∀ n : Nat, (∀ a b : List Tm, a.length = n → b.length = n → (cmpL a b = -1 ∨ cmpL a b = 0 ∨ cmpL a b = 1) ∧ cmpL b a = - cmpL a b ∧ (cmpL a b = 0 → a = b)) ∧
    (∀ a b c : List Tm, a.length = n → b.length = n → c.length = n → cmpL a b ≤ 0 → cmpL b c ≤ 0 → cmpL a c ≤ 0 ∧ (cmpL a b < 0 ∨ cmpL b c < 0 → cmpL a c < 0))
  | 0 => by
    refine ⟨fun a b ha hb => ?_, fun a b c ha hb hc => ?_⟩
    · rw [List.length_eq_zero_iff] at ha hb; subst ha hb; simp [cmpL]
    · rw [List.length_eq_zero_iff] at ha hb hc; subst ha hb hc; simp [cmpL]
  | n + 1 => by
    have ih := cmpL_ord n
    refine ⟨fun a b ha hb => ?_, fun a b c ha hb hc => ?_⟩
    · match a, b, ha, hb with
      | x :: a, y :: b, ha, hb =>
        have i := ih.1 a b (by simpa using ha) (by simpa using hb)
        have hn := ord_tm.neg x y
        by_cases h : x.cmp y = 0
        · have e := ord_tm.zero x y h
          simp only [cmpL]
          rw [if_neg (by omega), if_neg (by omega)]
          exact ⟨i.1, i.2.1, fun h' => by rw [e, i.2.2 h']⟩
        · simp only [cmpL]
          rw [if_pos h, if_pos (by omega)]
          exact ⟨ord_tm.rng x y, hn, fun h' => absurd h' h⟩
    · match a, b, c, ha, hb, hc with
      | x :: a, y :: b, z :: c, ha, hb, hc =>
        have i := ih.2 a b c (by simpa using ha) (by simpa using hb) (by simpa using hc)
        have t := ord_tm.tr x y z
        simp only [cmpL]
        by_cases h1 : x.cmp y = 0
        · have e1 := ord_tm.zero _ _ h1
          rw [e1] at h1 ⊢
          by_cases h2 : y.cmp z = 0
          · simp only [h1, h2, ne_eq, not_true_eq_false, if_false]; exact i
          · simp only [h1, h2, ne_eq, not_true_eq_false, not_false_eq_true, if_false, if_true]; intro _ h; exact ⟨h, fun _ => by omega⟩
        · by_cases h2 : y.cmp z = 0
          · have e2 := ord_tm.zero _ _ h2
            rw [← e2] at h2 ⊢
            simp only [h1, h2, ne_eq, not_true_eq_false, not_false_eq_true, if_false, if_true]
            intro h _; exact ⟨h, fun _ => by omega⟩
          · simp only [h1, h2, ne_eq, not_false_eq_true, if_true]
            intro h h'
            have := (t h h').2 (Or.inl (by omega))
            rw [if_pos (by omega)]
            exact ⟨by omega, fun _ => this⟩
def cmpLL (a b : List Tm) : Int := if M.sgI a.length b.length ≠ 0 then M.sgI a.length b.length else cmpL a b
theorem zI (a b : Int) : M.sgI a b = 0 ↔ a = b := ⟨ord_sgI.zero a b, fun h => by rw [h]; exact ord_sgI.refl b⟩
theorem cmpLL_ne (a b : List Tm) (h : a.length ≠ b.length) : cmpLL a b = M.sgI a.length b.length := by
  unfold cmpLL; rw [if_pos (by rw [ne_eq, zI]; omega)]
theorem cmpLL_eq (a b : List Tm) (h : a.length = b.length) : cmpLL a b = cmpL a b := by
  unfold cmpLL; rw [if_neg (by rw [ne_eq, zI]; omega)]
theorem ord_ll : Ord3 cmpLL where
  rng a b := by
    by_cases h : a.length = b.length
    · rw [cmpLL_eq a b h]; exact ((cmpL_ord _).1 a b rfl h.symm).1
    · rw [cmpLL_ne a b h]; exact ord_sgI.rng _ _
  neg a b := by
    by_cases h : a.length = b.length
    · rw [cmpLL_eq a b h, cmpLL_eq b a h.symm]; exact ((cmpL_ord _).1 a b rfl h.symm).2.1
    · rw [cmpLL_ne a b h, cmpLL_ne b a (Ne.symm h)]; exact ord_sgI.neg _ _
  zero a b := by
    by_cases h : a.length = b.length
    · rw [cmpLL_eq a b h]; exact ((cmpL_ord _).1 a b rfl h.symm).2.2
    · rw [cmpLL_ne a b h, zI]; omega
  refl a := by
    rw [cmpLL_eq a a rfl]
    have h := ((cmpL_ord _).1 a a rfl rfl).2.1
    omega
  tr a b c := by
    have t := ord_sgI.tr a.length b.length c.length
    have z1 := zI a.length b.length
    have z2 := zI b.length c.length
    have z3 := zI a.length c.length
    by_cases h1 : a.length = b.length
    · by_cases h2 : b.length = c.length
      · rw [cmpLL_eq a b h1, cmpLL_eq b c h2, cmpLL_eq a c (h1.trans h2)]
        exact (cmpL_ord _).2 a b c rfl h1.symm (h1.trans h2).symm
      · rw [cmpLL_eq a b h1, cmpLL_ne b c h2, cmpLL_ne a c (by omega), h1]
        intro _ h; exact ⟨h, fun _ => by omega⟩
    · by_cases h2 : b.length = c.length
      · rw [cmpLL_ne a b h1, cmpLL_eq b c h2, cmpLL_ne a c (by omega), ← h2]
        intro h _; exact ⟨h, fun _ => by omega⟩
      · rw [cmpLL_ne a b h1, cmpLL_ne b c h2]
        intro h h'
        have := (t h h').2 (Or.inl (by omega))
        rw [cmpLL_ne a c (by omega)]
        exact ⟨by omega, fun _ => this⟩
theorem ord_at : Ord3 At.cmp := by
  have h := Ord3.lex (γ := At) ord_sgL ord_ll (fun x => x.name.toList) (fun x => x.pl) (fun x y h h' => by
    obtain ⟨a, n, l⟩ := x
    obtain ⟨a', n', l'⟩ := y
    simp only [At.pl, List.cons.injEq] at h h'
    rw [toList_inj h, h'.1, h'.2])
  have e : At.cmp = fun x y => if M.sgL x.name.toList y.name.toList ≠ 0 then M.sgL x.name.toList y.name.toList else cmpLL x.pl y.pl := by
    funext x y
    unfold At.cmp
    simp only [ne_eq, M.sgL_zero]
    by_cases hn : x.name.toList = y.name.toList
    · simp only [hn, not_true_eq_false, if_false]
      by_cases hl : x.args.length = y.args.length
      · rw [if_neg (by simpa using hl), cmpLL_eq _ _ (by rw [pl_len, pl_len, hl])]
      · rw [if_pos hl, cmpLL_ne _ _ (by rw [pl_len, pl_len]; omega), pl_len, pl_len]
        have e1 : ((x.args.length : Int) < y.args.length) = (((x.args.length + 1 : Nat) : Int) < ((y.args.length + 1 : Nat) : Int)) := propext (by omega)
        have e2 : ((y.args.length : Int) < x.args.length) = (((y.args.length + 1 : Nat) : Int) < ((x.args.length + 1 : Nat) : Int)) := propext (by omega)
        unfold M.sgI
        simp only [e1, e2]
    · simp only [hn, not_false_eq_true, if_true]
  rw [e]; exact h
end Go.Proofs.YtechceagghcipaaGreatDoor
