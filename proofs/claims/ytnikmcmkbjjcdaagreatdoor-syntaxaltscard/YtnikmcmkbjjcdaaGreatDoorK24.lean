import Derived.Test.YtnikmcmkbjjcdaaGreatDoorK6
import Derived.Test.YtnikmcmkbjjcdaaGreatDoorK9
import Derived.Lib.AppendStr
/-
  Join.
-/
namespace Go.Proofs.YtnikmcmkbjjcdaaGreatDoor
open Go.RowKit

/-- What stands between two tokens. -/
def gp (p : Option Tk) (t : Tk) : List Int := match p with
  | some q => if grw q t = true then [32] else []
  | none => []
def jnA : Option Tk → List Tk → List Int → Option (List Int)
  | _, [], acc => some acc
  | p, t :: r, acc => match spl t with
    | none => none
    | some s => jnA (some t) r (acc ++ gp p t ++ blK s)
/-- The tokens' joined text. -/
def jn (l : List Tk) : Option (List Int) := jnA none l []
def pv (l : List Tk) (i : Nat) : Option Tk := if i = 0 then none else l[i - 1]?
/-- A token that can be handed in. -/
def okt (t : Tk) : Prop := t.x.size ≤ 2000000 ∧ -9223372036854775808 ≤ t.n ∧ t.n ≤ 9223372036854775807
end Go.Proofs.YtnikmcmkbjjcdaaGreatDoor
/-
  head: its text, cut and joined.
-/
namespace Go.Proofs.YtnikmcmkbjjcdaaGreatDoor
open Go.RowKit

def hB : ByteArray := ⟨#[112, 40, 88, 41, 58, 45, 34, 97, 34, 32, 115, 97, 121, 115, 32, 113, 44, 32, 88, 60, 61, 45, 55, 46]⟩
def hT : List Tk := [⟨1, ⟨#[112]⟩, 0, 0, 1⟩, ⟨6, ⟨#[]⟩, 0, 1, 2⟩, ⟨2, ⟨#[88]⟩, 0, 2, 3⟩, ⟨7, ⟨#[]⟩, 0, 3, 4⟩, ⟨11, ⟨#[]⟩, 0, 4, 6⟩, ⟨3, ⟨#[97]⟩, 0, 6, 9⟩, ⟨5, ⟨#[]⟩, 0, 10, 14⟩, ⟨1, ⟨#[113]⟩, 0, 15, 16⟩, ⟨8, ⟨#[]⟩, 0, 16, 17⟩, ⟨2, ⟨#[88]⟩, 0, 18, 19⟩, ⟨16, ⟨#[]⟩, 0, 19, 21⟩, ⟨4, ⟨#[]⟩, -7, 21, 23⟩, ⟨10, ⟨#[]⟩, 0, 23, 24⟩]
end Go.Proofs.YtnikmcmkbjjcdaaGreatDoor
/-
  Fronts and longer texts: the plain mathematics.
-/
namespace Go.Proofs.YtnikmcmkbjjcdaaGreatDoor

theorem rl_cons (c : Int) (r : List Int) : rl (c :: r) = if rnb c = true then rl r + 1 else 0 := rfl
theorem take_app_le (l y : List Int) (n : Nat) (h : n ≤ l.length) : (l ++ y).take n = l.take n := List.take_append_of_le_length h
theorem esc_take {l : List Int} {b : Int} {k : Nat} (h : esc l = some (b, k)) (y : List Int) (hy : l.take k = y.take k) : esc y = some (b, k) := by
  have hr := esc_rng h
  cases l with
  | nil => cases h
  | cons c r =>
    obtain ⟨k, rfl⟩ : ∃ k', k = k' + 1 := ⟨k - 1, by omega⟩
    cases y with
    | nil => simp at hy
    | cons d z =>
      simp only [List.take_succ_cons, List.cons.injEq] at hy
      obtain ⟨rfl, hy⟩ := hy
      rw [esc_cons] at h ⊢
      by_cases q1 : c = 34 ∨ c = 92
      · rw [if_pos q1] at h ⊢; exact h
      · rw [if_neg q1] at h ⊢
        by_cases q2 : c = 110
        · rw [if_pos q2] at h ⊢; exact h
        · rw [if_neg q2] at h ⊢
          by_cases q3 : c = 116
          · rw [if_pos q3] at h ⊢; exact h
          · rw [if_neg q3] at h ⊢
            by_cases q4 : c = 120
            · rw [if_pos q4] at h ⊢
              cases e : hex2 r with
              | none => rw [e] at h; cases h
              | some x =>
                rw [e] at h
                simp only [Option.map_some, Option.some.injEq, Prod.mk.injEq] at h
                obtain ⟨rfl, hk⟩ := h
                obtain rfl : k = 2 := by omega
                match r, z, e, hy with
                | a :: a2 :: r', z, e, hy =>
                  match z, hy with
                  | [], hy => simp at hy
                  | [_], hy => simp at hy
                  | z1 :: z2 :: z', hy =>
                    simp at hy
                    obtain ⟨rfl, rfl⟩ := hy
                    have e2 : hex2 (a :: a2 :: z') = some x := e
                    rw [e2]; rfl
            · rw [if_neg q4] at h; cases h
/-- A quoted text that ends: what stands behind it doesn't matter. -/
theorem qd_ok : ∀ (f : Nat) (r : List Int) (off : Nat) (acc : List Int) (k : Int) (x : List Int) (n : Int) (len : Nat), qd f r off acc = .ok k x n len →
    ∀ (f' : Nat) (y : List Int), y.length < f' → y.take (len - off) = r.take (len - off) → qd f' y off acc = .ok k x n len
  | 0, _, _, _, _, _, _, _, h, _, _, _, _ => by cases h
  | _ + 1, [], _, _, _, _, _, _, h, _, _, _, _ => by cases h
  | f + 1, c :: r, off, acc, k, x, n, len, h, f', y, hf, hy => by
    have hl := (qd_len (f + 1) (c :: r) off acc).1 k x n len h
    obtain ⟨m, hm⟩ : ∃ m, len - off = m + 1 := ⟨len - off - 1, by omega⟩
    rw [hm] at hy
    cases y with
    | nil => simp at hy
    | cons d z =>
      simp only [List.take_succ_cons, List.cons.injEq] at hy
      obtain ⟨rfl, hy⟩ := hy
      obtain ⟨f', rfl⟩ : ∃ g, f' = g + 1 := ⟨f' - 1, by omega⟩
      simp only [List.length_cons] at hf
      rw [qd_cons] at h ⊢
      by_cases q1 : d = 34
      · rw [if_pos q1] at h ⊢; exact h
      · rw [if_neg q1] at h ⊢
        by_cases q2 : d = 92
        · rw [if_pos q2] at h ⊢
          cases ee : esc r with
          | none => rw [ee] at h; cases h
          | some bk =>
            obtain ⟨b, kk⟩ := bk
            rw [ee] at h
            have hr := esc_rng ee
            have hl2 := (qd_len f (r.drop kk) (off + 1 + kk) (acc ++ [b])).1 k x n len h
            have ez : esc z = some (b, kk) := esc_take ee z (by
              have := congrArg (List.take kk) hy
              rw [List.take_take, List.take_take, Nat.min_eq_left (by omega)] at this
              exact this.symm)
            rw [ez]
            refine qd_ok f (r.drop kk) (off + 1 + kk) (acc ++ [b]) k x n len h f' (z.drop kk) (by rw [List.length_drop]; omega) ?_
            have := congrArg (List.drop kk) hy
            rw [List.drop_take, List.drop_take] at this
            rw [show len - (off + 1 + kk) = m - kk by omega]
            exact this
        · rw [if_neg q2] at h ⊢
          by_cases q3 : d < 32 ∨ d = 127
          · rw [if_pos q3] at h; cases h
          · rw [if_neg q3] at h ⊢
            exact qd_ok f r (off + 1) (acc ++ [d]) k x n len h f' z (by omega) (by rw [show len - (off + 1) = m by omega]; exact hy)
end Go.Proofs.YtnikmcmkbjjcdaaGreatDoor
/-
  Tokens and texts: fronts, and longer ones.
-/
namespace Go.Proofs.YtnikmcmkbjjcdaaGreatDoor

theorem skG_none (x : ByteArray) : ∀ (l : List ByteArray) (i : Nat), (∀ t ∈ l, ¬ t = x) → skG i l x = 0
  | [], _, _ => rfl
  | t :: l, i, h => by
    show (if t = x then i else skG (i + 1) l x) = 0
    rw [if_neg (h t (by simp)), skG_none x l (i + 1) (fun u hu => h u (by simp [hu]))]
end Go.Proofs.YtnikmcmkbjjcdaaGreatDoor
/-
  The ways to write a text in quotes, plain; spelt.
-/
namespace Go.Proofs.YtnikmcmkbjjcdaaGreatDoor
open Go.RowKit

def hxD (v : Int) : Int := if v < 10 then 48 + v else 55 + v
theorem hexv_hxd (v : Int) (h0 : 0 ≤ v) (h1 : v ≤ 15) : hexv (hxd v) = some v := by
  unfold hexv hxd
  by_cases q : v < 10
  · rw [if_pos q, if_pos (by omega)]; congr 1; omega
  · rw [if_neg q, if_neg (by omega), if_pos (by omega)]; congr 1; omega
theorem hexv_hxD (v : Int) (h0 : 0 ≤ v) (h1 : v ≤ 15) : hexv (hxD v) = some v := by
  unfold hexv hxD
  by_cases q : v < 10
  · rw [if_pos q, if_pos (by omega)]; congr 1; omega
  · rw [if_neg q, if_neg (by omega), if_neg (by omega), if_pos (by omega)]; congr 1; omega
/-- One of the ways to write a byte in quotes. -/
def rep (c K : Int) : List Int :=
  if K < 2 ∧ (32 ≤ c ∧ ¬ c = 127 ∧ ¬ c = 34 ∧ ¬ c = 92) then [c]
  else if K < 2 ∧ (c = 34 ∨ c = 92) then [92, c]
  else if K < 2 ∧ c = 10 then [92, 110]
  else if K < 2 ∧ c = 9 then [92, 116]
  else if K = 3 then [92, 120, hxD (c / 16), hxD (c % 16)]
  else [92, 120, hxd (c / 16), hxd (c % 16)]
theorem qd_hex {f : Nat} {a b x y : Int} {r : List Int} {off : Nat} {acc : List Int} (ha : hexv a = some x) (hb : hexv b = some y) : qd (f + 1) (92 :: 120 :: a :: b :: r) off acc = qd f r (off + 4) (acc ++ [x * 16 + y]) := by
  rw [qd_cons, if_neg (by decide), if_pos rfl]
  have e : esc (120 :: a :: b :: r) = some (x * 16 + y, 3) := by
    rw [esc_cons, if_neg (by decide), if_neg (by decide), if_neg (by decide), if_pos rfl]
    simp [hex2, ha, hb]
  rw [e]
  rfl
theorem rep_step (c K : Int) (h0 : 0 ≤ c) (h1 : c ≤ 255) (f : Nat) (r : List Int) (off : Nat) (acc : List Int) : qd (f + 1) (rep c K ++ r) off acc = qd f r (off + (rep c K).length) (acc ++ [c]) := by
  unfold rep
  by_cases q1 : K < 2 ∧ (32 ≤ c ∧ ¬ c = 127 ∧ ¬ c = 34 ∧ ¬ c = 92)
  · rw [if_pos q1]
    show qd (f + 1) (c :: r) off acc = _
    rw [qd_cons, if_neg (by omega), if_neg (by omega), if_neg (by omega)]; rfl
  · rw [if_neg q1]
    by_cases q2 : K < 2 ∧ (c = 34 ∨ c = 92)
    · rw [if_pos q2]
      show qd (f + 1) (92 :: c :: r) off acc = _
      rw [qd_cons, if_neg (by decide), if_pos rfl, esc_cons, if_pos q2.2]; rfl
    · rw [if_neg q2]
      by_cases q3 : K < 2 ∧ c = 10
      · rw [if_pos q3]
        show qd (f + 1) (92 :: 110 :: r) off acc = _
        rw [qd_cons, if_neg (by decide), if_pos rfl, esc_cons, if_neg (by decide), if_pos rfl, q3.2]; rfl
      · rw [if_neg q3]
        by_cases q4 : K < 2 ∧ c = 9
        · rw [if_pos q4]
          show qd (f + 1) (92 :: 116 :: r) off acc = _
          rw [qd_cons, if_neg (by decide), if_pos rfl, esc_cons, if_neg (by decide), if_neg (by decide), if_pos rfl, q4.2]; rfl
        · rw [if_neg q4]
          have e : c / 16 * 16 + c % 16 = c := by omega
          by_cases q5 : K = 3
          · rw [if_pos q5]
            show qd (f + 1) (92 :: 120 :: hxD (c / 16) :: hxD (c % 16) :: r) off acc = _
            rw [qd_hex (hexv_hxD _ (by omega) (by omega)) (hexv_hxD _ (by omega) (by omega)), e]; rfl
          · rw [if_neg q5]
            show qd (f + 1) (92 :: 120 :: hxd (c / 16) :: hxd (c % 16) :: r) off acc = _
            rw [qd_hex (hexv_hxd _ (by omega) (by omega)) (hexv_hxd _ (by omega) (by omega)), e]; rfl
theorem rep_len (c K : Int) : 0 < (rep c K).length ∧ (rep c K).length ≤ 4 := by
  unfold rep
  repeat' split
  all_goals simp
/-- A text's bytes, each in its way. -/
def rpl (K : Nat → Int) : Nat → List Int → List Int
  | _, [] => []
  | i, c :: r => rep c (K i) ++ rpl K (i + 1) r
theorem rpl_snoc (K : Nat → Int) : ∀ (l : List Int) (i : Nat) (c : Int), rpl K i (l ++ [c]) = rpl K i l ++ rep c (K (i + l.length))
  | [], i, c => by simp [rpl]
  | d :: l, i, c => by
    show rep d (K i) ++ rpl K (i + 1) (l ++ [c]) = (rep d (K i) ++ rpl K (i + 1) l) ++ _
    rw [rpl_snoc K l (i + 1) c, List.append_assoc, List.length_cons, show i + 1 + l.length = i + (l.length + 1) by omega]
theorem rpl_len (K : Nat → Int) : ∀ (l : List Int) (i : Nat), l.length ≤ (rpl K i l).length ∧ (rpl K i l).length ≤ 4 * l.length
  | [], _ => by simp [rpl]
  | c :: l, i => by
    have := rpl_len K l (i + 1)
    have := rep_len c (K i)
    simp only [rpl, List.length_append, List.length_cons]; omega
theorem qd_rpl (K : Nat → Int) : ∀ (l : List Int) (i f off : Nat) (acc : List Int), l.length < f → byt l → qd f (rpl K i l ++ [34]) off acc = .ok 3 (acc ++ l) 0 (off + (rpl K i l).length + 1)
  | [], i, f, off, acc, h, _ => by
    obtain ⟨f, rfl⟩ : ∃ g, f = g + 1 := ⟨f - 1, by simp at h; omega⟩
    show qd (f + 1) [34] off acc = _
    rw [qd_cons, if_pos rfl]; simp [rpl]
  | c :: l, i, f, off, acc, h, hb => by
    simp only [List.length_cons] at h
    obtain ⟨f, rfl⟩ : ∃ g, f = g + 1 := ⟨f - 1, by omega⟩
    have hc := hb c (by simp)
    show qd (f + 1) ((rep c (K i) ++ rpl K (i + 1) l) ++ [34]) off acc = _
    rw [List.append_assoc, rep_step c (K i) hc.1 hc.2, qd_rpl K l (i + 1) f _ _ (by omega) (fun y hy => hb y (by simp [hy]))]
    simp only [rpl, List.append_assoc, List.length_append, List.cons_append, List.nil_append]
    congr 1; omega
/-- How Quote writes a byte. -/
def kq (c : Int) : Int := if (c < 32 ∧ ¬ c = 10 ∧ ¬ c = 9) ∨ 126 < c then 2 else 0
theorem qb_rep (c : Int) : qb c = rep c (kq c) := by
  unfold qb rep kq
  by_cases q : (c < 32 ∧ ¬ c = 10 ∧ ¬ c = 9) ∨ 126 < c
  · rw [if_pos q, if_neg (by omega), if_neg (by omega), if_neg (by omega), if_neg (by omega), if_neg (by omega), if_neg (by omega), if_neg (by omega), if_neg (by omega), if_neg (by omega)]
  · rw [if_neg q]
    by_cases q1 : c = 34 ∨ c = 92
    · rw [if_pos q1, if_neg (by omega), if_pos ⟨by omega, q1⟩]
    · rw [if_neg q1]
      by_cases q2 : c = 10
      · rw [if_pos q2, if_neg (by omega), if_neg (by omega), if_pos ⟨by omega, q2⟩]
      · rw [if_neg q2]
        by_cases q3 : c = 9
        · rw [if_pos q3, if_neg (by omega), if_neg (by omega), if_neg (by omega), if_pos ⟨by omega, q3⟩]
        · rw [if_neg q3, if_pos (by omega), if_pos (by omega)]
theorem take_snoc (s : ByteArray) (j : Nat) (h : j < s.size) : (blK s).take (j + 1) = (blK s).take j ++ [atK_ s j] := by
  have hl : j < (blK s).length := by rw [bl_len]; exact h
  have e := bl_drop h
  rw [List.drop_eq_getElem_cons hl] at e
  rw [List.take_succ_eq_append_getElem hl, (List.cons.inj e).1]
theorem qtl_rpl (s : ByteArray) : ∀ j, j ≤ s.size → qtl s j = 34 :: rpl (fun i => kq (atK_ s i)) 0 ((blK s).take j)
  | 0, _ => by simp [qtl, rpl]
  | j + 1, h => by
    rw [qtl_succ, qtl_rpl s j (by omega), take_snoc s j (by omega), rpl_snoc, qb_rep]
    have : ((blK s).take j).length = j := by rw [List.length_take, bl_len]; omega
    rw [this, Nat.zero_add]; rfl
end Go.Proofs.YtnikmcmkbjjcdaaGreatDoor
