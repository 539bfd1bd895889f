/-
  The ways to write a text in quotes, plain; spelt.
-/
import Derived.Test.YtdfdnjkeiddfjaaDoorK18
namespace Go.Proofs.YtdfdnjkeiddfjaaDoor
open Go.RowKit

def hxD (v : Int) : Int := if v < 10 then 48 + v else 55 + v
theorem hexv_hxd (v : Int) (h0 : 0 ≤ v) (h1 : v ≤ 15) : hexv (hxd v) = some v := by
  unfold hexv hxd
  by_cases q : v < 10
  · rw [if_pos q, if_pos (by omega)]; congr 1; omega
  · rw [if_neg q, if_neg (by omega), if_pos (by omega)]; congr 1; omega
theorem hexv_hxD (v : Int) (h0 : 0 ≤ v) (h1 : v ≤ 15) : hexv (hxD v) = some v := by
  unfold hexv hxD
  by_cases q : v < 10
  · rw [if_pos q, if_pos (by omega)]; congr 1; omega
  · rw [if_neg q, if_neg (by omega), if_neg (by omega), if_pos (by omega)]; congr 1; omega
/-- One of the ways to write a byte in quotes. -/
def rep (c K : Int) : List Int :=
  if K < 2 ∧ (32 ≤ c ∧ ¬ c = 127 ∧ ¬ c = 34 ∧ ¬ c = 92) then [c]
  else if K < 2 ∧ (c = 34 ∨ c = 92) then [92, c]
  else if K < 2 ∧ c = 10 then [92, 110]
  else if K < 2 ∧ c = 9 then [92, 116]
  else if K = 3 then [92, 120, hxD (c / 16), hxD (c % 16)]
  else [92, 120, hxd (c / 16), hxd (c % 16)]
theorem qd_hex {f : Nat} {a b x y : Int} {r : List Int} {off : Nat} {acc : List Int} (ha : hexv a = some x) (hb : hexv b = some y) : qd (f + 1) (92 :: 120 :: a :: b :: r) off acc = qd f r (off + 4) (acc ++ [x * 16 + y]) := by
  rw [qd_cons, if_neg (by decide), if_pos rfl]
  have e : esc (120 :: a :: b :: r) = some (x * 16 + y, 3) := by
    rw [esc_cons, if_neg (by decide), if_neg (by decide), if_neg (by decide), if_pos rfl]
    simp [hex2, ha, hb]
  rw [e]
  rfl
theorem rep_step (c K : Int) (h0 : 0 ≤ c) (h1 : c ≤ 255) (f : Nat) (r : List Int) (off : Nat) (acc : List Int) : qd (f + 1) (rep c K ++ r) off acc = qd f r (off + (rep c K).length) (acc ++ [c]) := by
  unfold rep
  by_cases q1 : K < 2 ∧ (32 ≤ c ∧ ¬ c = 127 ∧ ¬ c = 34 ∧ ¬ c = 92)
  · rw [if_pos q1]
    show qd (f + 1) (c :: r) off acc = _
    rw [qd_cons, if_neg (by omega), if_neg (by omega), if_neg (by omega)]; rfl
  · rw [if_neg q1]
    by_cases q2 : K < 2 ∧ (c = 34 ∨ c = 92)
    · rw [if_pos q2]
      show qd (f + 1) (92 :: c :: r) off acc = _
      rw [qd_cons, if_neg (by decide), if_pos rfl, esc_cons, if_pos q2.2]; rfl
    · rw [if_neg q2]
      by_cases q3 : K < 2 ∧ c = 10
      · rw [if_pos q3]
        show qd (f + 1) (92 :: 110 :: r) off acc = _
        rw [qd_cons, if_neg (by decide), if_pos rfl, esc_cons, if_neg (by decide), if_pos rfl, q3.2]; rfl
      · rw [if_neg q3]
        by_cases q4 : K < 2 ∧ c = 9
        · rw [if_pos q4]
          show qd (f + 1) (92 :: 116 :: r) off acc = _
          rw [qd_cons, if_neg (by decide), if_pos rfl, esc_cons, if_neg (by decide), if_neg (by decide), if_pos rfl, q4.2]; rfl
        · rw [if_neg q4]
          have e : c / 16 * 16 + c % 16 = c := by omega
          by_cases q5 : K = 3
          · rw [if_pos q5]
            show qd (f + 1) (92 :: 120 :: hxD (c / 16) :: hxD (c % 16) :: r) off acc = _
            rw [qd_hex (hexv_hxD _ (by omega) (by omega)) (hexv_hxD _ (by omega) (by omega)), e]; rfl
          · rw [if_neg q5]
            show qd (f + 1) (92 :: 120 :: hxd (c / 16) :: hxd (c % 16) :: r) off acc = _
            rw [qd_hex (hexv_hxd _ (by omega) (by omega)) (hexv_hxd _ (by omega) (by omega)), e]; rfl
theorem rep_len (c K : Int) : 0 < (rep c K).length ∧ (rep c K).length ≤ 4 := by
  unfold rep
  repeat' split
  all_goals simp
/-- A text's bytes, each in its way. -/
def rpl (K : Nat → Int) : Nat → List Int → List Int
  | _, [] => []
  | i, c :: r => rep c (K i) ++ rpl K (i + 1) r
theorem rpl_snoc (K : Nat → Int) : ∀ (l : List Int) (i : Nat) (c : Int), rpl K i (l ++ [c]) = rpl K i l ++ rep c (K (i + l.length))
  | [], i, c => by simp [rpl]
  | d :: l, i, c => by
    show rep d (K i) ++ rpl K (i + 1) (l ++ [c]) = (rep d (K i) ++ rpl K (i + 1) l) ++ _
    rw [rpl_snoc K l (i + 1) c, List.append_assoc, List.length_cons, show i + 1 + l.length = i + (l.length + 1) by omega]
theorem rpl_len (K : Nat → Int) : ∀ (l : List Int) (i : Nat), l.length ≤ (rpl K i l).length ∧ (rpl K i l).length ≤ 4 * l.length
  | [], _ => by simp [rpl]
  | c :: l, i => by
    have := rpl_len K l (i + 1)
    have := rep_len c (K i)
    simp only [rpl, List.length_append, List.length_cons]; omega
theorem qd_rpl (K : Nat → Int) : ∀ (l : List Int) (i f off : Nat) (acc : List Int), l.length < f → byt l → qd f (rpl K i l ++ [34]) off acc = .ok 3 (acc ++ l) 0 (off + (rpl K i l).length + 1)
  | [], i, f, off, acc, h, _ => by
    obtain ⟨f, rfl⟩ : ∃ g, f = g + 1 := ⟨f - 1, by simp at h; omega⟩
    show qd (f + 1) [34] off acc = _
    rw [qd_cons, if_pos rfl]; simp [rpl]
  | c :: l, i, f, off, acc, h, hb => by
    simp only [List.length_cons] at h
    obtain ⟨f, rfl⟩ : ∃ g, f = g + 1 := ⟨f - 1, by omega⟩
    have hc := hb c (by simp)
    show qd (f + 1) ((rep c (K i) ++ rpl K (i + 1) l) ++ [34]) off acc = _
    rw [List.append_assoc, rep_step c (K i) hc.1 hc.2, qd_rpl K l (i + 1) f _ _ (by omega) (fun y hy => hb y (by simp [hy]))]
    simp only [rpl, List.append_assoc, List.length_append, List.cons_append, List.nil_append]
    congr 1; omega
/-- How Quote writes a byte. -/
def kq (c : Int) : Int := if (c < 32 ∧ ¬ c = 10 ∧ ¬ c = 9) ∨ 126 < c then 2 else 0
theorem qb_rep (c : Int) : qb c = rep c (kq c) := by
  unfold qb rep kq
  by_cases q : (c < 32 ∧ ¬ c = 10 ∧ ¬ c = 9) ∨ 126 < c
  · rw [if_pos q, if_neg (by omega), if_neg (by omega), if_neg (by omega), if_neg (by omega), if_neg (by omega), if_neg (by omega), if_neg (by omega), if_neg (by omega), if_neg (by omega)]
  · rw [if_neg q]
    by_cases q1 : c = 34 ∨ c = 92
    · rw [if_pos q1, if_neg (by omega), if_pos ⟨by omega, q1⟩]
    · rw [if_neg q1]
      by_cases q2 : c = 10
      · rw [if_pos q2, if_neg (by omega), if_neg (by omega), if_pos ⟨by omega, q2⟩]
      · rw [if_neg q2]
        by_cases q3 : c = 9
        · rw [if_pos q3, if_neg (by omega), if_neg (by omega), if_neg (by omega), if_pos ⟨by omega, q3⟩]
        · rw [if_neg q3, if_pos (by omega), if_pos (by omega)]
theorem take_snoc (s : ByteArray) (j : Nat) (h : j < s.size) : (blK s).take (j + 1) = (blK s).take j ++ [atK_ s j] := by
  have hl : j < (blK s).length := by rw [bl_len]; exact h
  have e := bl_drop h
  rw [List.drop_eq_getElem_cons hl] at e
  rw [List.take_succ_eq_append_getElem hl, (List.cons.inj e).1]
theorem qtl_rpl (s : ByteArray) : ∀ j, j ≤ s.size → qtl s j = 34 :: rpl (fun i => kq (atK_ s i)) 0 ((blK s).take j)
  | 0, _ => by simp [qtl, rpl]
  | j + 1, h => by
    rw [qtl_succ, qtl_rpl s j (by omega), take_snoc s j (by omega), rpl_snoc, qb_rep]
    have : ((blK s).take j).length = j := by rw [List.length_take, bl_len]; omega
    rw [this, Nat.zero_add]; rfl
end Go.Proofs.YtdfdnjkeiddfjaaDoor
