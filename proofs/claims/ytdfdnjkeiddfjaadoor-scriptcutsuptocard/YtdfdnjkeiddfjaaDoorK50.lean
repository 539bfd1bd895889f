/-
  The document's reading of a number (plain).
-/
import Derived.Test.YtdfdnjkeiddfjaaDoorK29
import Derived.Lib.AtoiAllCases
namespace Go.Proofs.YtdfdnjkeiddfjaaDoor

/-- The value of digits. -/
def dv : List Int → Nat → Nat
  | [], acc => acc
  | c :: r, acc => dv r (acc * 10 + (c - 48).toNat)
theorem dv_app : ∀ (l m : List Int) (acc : Nat), dv (l ++ m) acc = dv m (dv l acc)
  | [], _, _ => rfl
  | c :: l, m, acc => by show dv (l ++ m) _ = dv m (dv l _); exact dv_app l m _
def rnum (d : List Int) : Option Int :=
  if d = [48] then some 0
  else if d.head? = some 45 then
    (if d.tail.length < 1 ∨ 19 < d.tail.length ∨ d.tail.head? = some 48 then none
    else if d.tail.all dig = false then none
    else if 9223372036854775808 < dv d.tail 0 then none else some (-(dv d.tail 0 : Int)))
  else
    (if d.length < 1 ∨ 19 < d.length ∨ d.head? = some 48 then none
    else if d.all dig = false then none
    else if dv d 0 ≤ 9223372036854775807 then some (dv d 0 : Int) else none)
def dcs (u : Nat) : List Int := (Lib.decDigits u).map fun b => (b.toNat : Int)
theorem dcs_small {u : Nat} (h : u < 10) : dcs u = [48 + (u : Int)] := by
  unfold dcs
  rw [Lib.decDigits_one h, List.map_cons, dig_toNat u h]; simp
theorem dcs_big {u : Nat} (h : ¬ u < 10) : dcs u = dcs (u / 10) ++ [48 + ((u % 10 : Nat) : Int)] := by
  unfold dcs
  conv => lhs; rw [Lib.decDigits, dif_neg h]
  rw [List.map_append, List.map_cons, dig_toNat _ (by omega)]; simp
theorem dcs_ne (u : Nat) : ¬ dcs u = [] := by
  unfold dcs; simpa using (dec_dig u).2
theorem dv_dcs (u : Nat) : dv (dcs u) 0 = u := by
  induction u using Nat.strongRecOn with
  | _ u ih =>
    by_cases h : u < 10
    · rw [dcs_small h]; simp only [dv]; omega
    · rw [dcs_big h, dv_app, ih (u / 10) (by omega)]; simp only [dv]; omega
theorem dcs_head (u : Nat) (h1 : 1 ≤ u) : ¬ (dcs u).head? = some 48 := by
  induction u using Nat.strongRecOn with
  | _ u ih =>
    by_cases h : u < 10
    · rw [dcs_small h]; simp; omega
    · rw [dcs_big h]
      cases e : dcs (u / 10) with
      | nil => exact absurd e (dcs_ne _)
      | cons c r =>
        have := ih (u / 10) (by omega) (by omega)
        rw [e] at this
        simpa using this
theorem dcs_dig (u : Nat) : (dcs u).all dig = true := by
  rw [List.all_eq_true]
  exact fun x hx => (dec_rnb u x hx).2
theorem dcs_len : ∀ (k u : Nat), u < 10 ^ (k + 1) → (dcs u).length ≤ k + 1
  | 0, u, h => by rw [dcs_small (by omega)]; simp
  | k + 1, u, h => by
    by_cases q : u < 10
    · rw [dcs_small q]; simp
    · rw [dcs_big q, List.length_append]
      have := dcs_len k (u / 10) (by
        rw [Nat.pow_succ] at h
        exact Nat.div_lt_of_lt_mul (by omega))
      simp only [List.length_cons, List.length_nil]; omega
theorem canon : ∀ (k : Nat) (s : List Int), s.length = k + 1 → s.all dig = true → ¬ s.head? = some 48 → dcs (dv s 0) = s ∧ 1 ≤ dv s 0
  | 0, s, hl, hd, hh => by
    obtain ⟨c, rfl⟩ : ∃ c, s = [c] := by
      match s, hl with
      | [c], _ => exact ⟨c, rfl⟩
    simp only [List.all_cons, List.all_nil, Bool.and_true, dig, Bool.and_eq_true, decide_eq_true_eq, List.head?_cons, Option.some.injEq] at hd hh
    simp only [dv]
    rw [dcs_small (by omega)]
    exact ⟨by congr 1; omega, by omega⟩
  | k + 1, s, hl, hd, hh => by
    have hne : ¬ s = [] := fun h => by rw [h] at hl; simp at hl
    obtain ⟨t, c, rfl⟩ : ∃ t c, s = t ++ [c] := ⟨s.dropLast, s.getLast hne, (List.dropLast_concat_getLast hne).symm⟩
    simp only [List.length_append, List.length_cons, List.length_nil] at hl
    rw [List.all_append, Bool.and_eq_true] at hd
    have ht : ¬ t = [] := fun h => by rw [h] at hl; simp at hl
    have hh' : ¬ t.head? = some 48 := by
      cases t with
      | nil => exact absurd rfl ht
      | cons x y => simpa using hh
    obtain ⟨h1, h2⟩ := canon k t (by omega) hd.1 hh'
    have hc := hd.2
    simp only [List.all_cons, List.all_nil, Bool.and_true, dig, Bool.and_eq_true, decide_eq_true_eq] at hc
    rw [dv_app]
    have e : dv [c] (dv t 0) = dv t 0 * 10 + (c - 48).toNat := rfl
    rw [e, dcs_big (by omega)]
    have e1 : (dv t 0 * 10 + (c - 48).toNat) / 10 = dv t 0 := by omega
    have e2 : (((dv t 0 * 10 + (c - 48).toNat) % 10 : Nat) : Int) = c - 48 := by omega
    rw [e1, e2, h1]
    exact ⟨by congr 2; omega, by omega⟩
theorem bl_pos (u : Nat) : blK (itB (u : Int)) = dcs u := bl_itB_pos u
theorem bl_neg (u : Nat) (h : 1 ≤ u) : blK (itB (-(u : Int))) = 45 :: dcs u := bl_itB_neg u h
/-- The document's number is the program's. -/
theorem rnum_num (d : List Int) (hb : byt d) : rnum d = num d := by
  apply Option.ext
  intro v
  constructor
  · intro h
    unfold rnum at h
    by_cases q0 : d = [48]
    · rw [if_pos q0] at h
      cases h
      have e0 : blK (itB 0) = [48] := by
        have := bl_itB_pos 0
        rw [Lib.decDigits_one (by omega)] at this
        exact this
      rw [q0, ← e0]
      exact num_itB 0 (by decide) (by decide)
    · rw [if_neg q0] at h
      by_cases q1 : d.head? = some 45
      · rw [if_pos q1] at h
        by_cases q2 : d.tail.length < 1 ∨ 19 < d.tail.length ∨ d.tail.head? = some 48
        · rw [if_pos q2] at h; cases h
        · rw [if_neg q2] at h
          by_cases q3 : d.tail.all dig = false
          · rw [if_pos q3] at h; cases h
          · rw [if_neg q3] at h
            by_cases q4 : 9223372036854775808 < dv d.tail 0
            · rw [if_pos q4] at h; cases h
            · rw [if_neg q4] at h
              cases h
              obtain ⟨h1, h2⟩ := canon (d.tail.length - 1) d.tail (by omega) (by simpa using q3) (fun h => q2 (Or.inr (Or.inr h)))
              have e : d = blK (itB (-(dv d.tail 0 : Int))) := by
                rw [bl_neg _ h2, h1]
                cases d with
                | nil => cases q1
                | cons x y => simp only [List.head?_cons, Option.some.injEq] at q1; rw [q1]; rfl
              conv => lhs; rw [e]
              exact num_itB _ (by omega) (by omega)
      · rw [if_neg q1] at h
        by_cases q2 : d.length < 1 ∨ 19 < d.length ∨ d.head? = some 48
        · rw [if_pos q2] at h; cases h
        · rw [if_neg q2] at h
          by_cases q3 : d.all dig = false
          · rw [if_pos q3] at h; cases h
          · rw [if_neg q3] at h
            by_cases q4 : dv d 0 ≤ 9223372036854775807
            · rw [if_pos q4] at h
              cases h
              obtain ⟨h1, h2⟩ := canon (d.length - 1) d (by omega) (by simpa using q3) (fun h => q2 (Or.inr (Or.inr h)))
              have e : d = blK (itB (dv d 0 : Int)) := by rw [bl_pos, h1]
              conv => lhs; rw [e]
              exact num_itB _ (by omega) (by omega)
            · rw [if_neg q4] at h; cases h
  · intro h
    unfold num at h
    cases ea : Lib.atoiAll (i2b d) with
    | «syntax» => rw [ea] at h; cases h
    | range => rw [ea] at h; cases h
    | ok u =>
      rw [ea] at h
      simp only at h
      by_cases q : Lib.itoa u = i2b d
      · rw [if_pos q] at h
        cases h
        have hbd := Lib.atoiAll_bounds ea
        have hd : d = blK (itB v) := by
          have : itB v = ofL d := by unfold itB ofL; rw [q]
          rw [this, bl_ofL hb]
        by_cases hv : v < 0
        · obtain ⟨m, rfl⟩ : ∃ m : Nat, v = -(m : Int) := ⟨v.natAbs, by omega⟩
          rw [bl_neg m (by omega)] at hd
          subst hd
          have hl := dcs_len 18 m (by omega)
          have hl0 : ¬ (dcs m).length < 1 := fun h => dcs_ne m (List.eq_nil_of_length_eq_zero (by omega))
          unfold rnum
          rw [if_neg (by simp), if_pos (show (45 :: dcs m).head? = some 45 from rfl), List.tail_cons, if_neg (by have := dcs_head m (by omega); rintro (h | h | h); exact hl0 h; omega; exact this h), if_neg (by rw [dcs_dig]; simp), dv_dcs, if_neg (by omega)]
        · obtain ⟨m, rfl⟩ : ∃ m : Nat, v = (m : Int) := ⟨v.toNat, by omega⟩
          rw [bl_pos m] at hd
          subst hd
          rcases Nat.eq_zero_or_pos m with rfl | hm
          · have : dcs 0 = [48] := by rw [dcs_small (by omega)]; rfl
            unfold rnum
            rw [if_pos this]; rfl
          · have hl := dcs_len 18 m (by omega)
            have hl0 : ¬ (dcs m).length < 1 := fun h => dcs_ne m (List.eq_nil_of_length_eq_zero (by omega))
            have hh := dcs_head m (by omega)
            have n0 : ¬ dcs m = [48] := fun h => hh (by rw [h]; rfl)
            have n1 : ¬ (dcs m).head? = some 45 := fun h => by
              have hd := dcs_dig m
              cases e : dcs m with
              | nil => rw [e] at h; cases h
              | cons x y =>
                rw [e] at h hd
                simp only [List.head?_cons, Option.some.injEq] at h
                rw [h] at hd
                simp [dig] at hd
            unfold rnum
            rw [if_neg n0, if_neg n1, if_neg (by rintro (h | h | h); exact hl0 h; omega; exact hh h), if_neg (by rw [dcs_dig]; simp), dv_dcs, if_pos (by omega)]
      · rw [if_neg q] at h; cases h
end Go.Proofs.YtdfdnjkeiddfjaaDoor
