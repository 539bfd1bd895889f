import Derived.Test.YtcpjiahdaplhlaaGreatDoorK18
import Derived.Test.YtcpjiahdaplhlaaGreatDoorK11
import Derived.Lib.ItoaMem
/-
  gap, bare; the places of tokens, plain.
-/
namespace Go.Proofs.YtcpjiahdaplhlaaGreatDoor
open Go.RowKit

/-- Blanks and remarks: whether one is inside of a remark at the end; none, if something else stands there. -/
def gpS : Bool → List Int → Option Bool
  | b, [] => some b
  | true, c :: r => gpS (!decide (c = 10)) r
  | false, c :: r => if c = 37 then gpS true r else if c = 32 ∨ c = 9 ∨ c = 10 ∨ c = 13 then gpS false r else none
def gpB (l : List Int) (e : Bool) : Bool := match gpS false l with
  | none => false
  | some b => !b || e
theorem gpS_true (c : Int) (r : List Int) : gpS true (c :: r) = gpS (!decide (c = 10)) r := rfl
theorem gpS_false (c : Int) (r : List Int) : gpS false (c :: r) = if c = 37 then gpS true r else if c = 32 ∨ c = 9 ∨ c = 10 ∨ c = 13 then gpS false r else none := rfl
theorem gpS_app : ∀ (b : Bool) (u v : List Int), gpS b (u ++ v) = (gpS b u).bind fun b' => gpS b' v
  | _, [], _ => rfl
  | true, c :: u, v => by rw [List.cons_append, gpS_true, gpS_true, gpS_app]
  | false, c :: u, v => by
    rw [List.cons_append, gpS_false, gpS_false]
    by_cases q1 : c = 37
    · rw [if_pos q1, if_pos q1, gpS_app]
    · rw [if_neg q1, if_neg q1]
      by_cases q2 : c = 32 ∨ c = 9 ∨ c = 10 ∨ c = 13
      · rw [if_pos q2, if_pos q2, gpS_app]
      · rw [if_neg q2, if_neg q2]; rfl
theorem gpS_rem : ∀ (r : List Int), gpS true (r.take (le_ r)) = some true
  | [] => rfl
  | c :: r => by
    rw [le_cons]
    by_cases q : c = 10
    · rw [if_pos q]; rfl
    · rw [if_neg q, List.take_succ_cons, gpS_true, decide_eq_false q]
      exact gpS_rem r
theorem le_next : ∀ (r : List Int), r.drop (le_ r) = [] ∨ ∃ y, r.drop (le_ r) = 10 :: y
  | [] => Or.inl rfl
  | c :: r => by
    rw [le_cons]
    by_cases q : c = 10
    · rw [if_pos q]; exact Or.inr ⟨r, by rw [q]; rfl⟩
    · rw [if_neg q, List.drop_succ_cons]; exact le_next r
/-- Where tokens lie in a text, from a place on. -/
def Pl (l : List Int) : Nat → List Tk → Prop
  | off, [] => off ≤ l.length ∧ gpB (l.drop off) true = true
  | off, t :: T => ∃ a len : Nat, t.a = (a : Int) ∧ t.e = ((a + len : Nat) : Int) ∧ off ≤ a ∧ 1 ≤ len ∧ a + len ≤ l.length ∧ gpB ((l.drop off).take (a - off)) false = true ∧
      (∀ f, len < f → ct f ((l.drop a).take len) 0 [] = ([⟨t.k, t.x, t.n, 0, (len : Int)⟩], 0, 0)) ∧ Pl l (a + len) T
theorem ct_places (l : List Int) : ∀ (f off off0 : Nat) (acc : List Tk) (b : Bool), (l.drop off).length < f → off0 ≤ off → off ≤ l.length →
    gpS false ((l.drop off0).take (off - off0)) = some b → (b = true → l.drop off = [] ∨ ∃ y, l.drop off = 10 :: y) →
    (ct f (l.drop off) off acc).2.1 = 0 → ∃ T, (ct f (l.drop off) off acc).1 = acc ++ T ∧ Pl l off0 T
  | 0, _, _, _, _, h, _, _, _, _, _ => by omega
  | f + 1, off, off0, acc, b, hf, h0, hl, hg, hb, he => by
    have seg : ∀ n, off + n ≤ l.length → (l.drop off0).take (off + n - off0) = (l.drop off0).take (off - off0) ++ (l.drop off).take n := fun n hn => by
      have e1 : l.drop off = (l.drop off0).drop (off - off0) := by rw [List.drop_drop]; congr 1; omega
      rw [e1, show off + n - off0 = (off - off0) + n by omega, List.take_add]
    cases hd : l.drop off with
    | nil =>
      rw [hd] at he
      refine ⟨[], by simp [ct_end], by omega, ?_⟩
      have hle : l.length ≤ off := by
        have := congrArg List.length hd
        rw [List.length_drop] at this; simp at this; omega
      have e2 : (l.drop off0).take (off - off0) = l.drop off0 := List.take_of_length_le (by rw [List.length_drop]; omega)
      rw [e2] at hg
      unfold gpB; rw [hg]; simp
    | cons c r =>
      rw [hd] at hf hb he
      simp only [List.length_cons] at hf
      have hlt : off < l.length := by
        have := congrArg List.length hd
        rw [List.length_drop] at this; simp at this; omega
      have hr : r = l.drop (off + 1) := by
        have := congrArg List.tail hd
        rw [List.tail_drop] at this; simpa using this.symm
      have hrl : r.length = l.length - (off + 1) := by rw [hr, List.length_drop]
      rw [ct_cons] at he ⊢
      by_cases q1 : c = 32 ∨ c = 9 ∨ c = 10 ∨ c = 13
      · rw [if_pos q1] at he ⊢
        rw [hr] at he ⊢
        refine ct_places l f (off + 1) off0 acc false (by rw [← hr]; omega) (by omega) (by omega) ?_ (fun h => by cases h) he
        rw [seg 1 (by omega), gpS_app, hg, hd, List.take_succ_cons, List.take_zero]
        show gpS b [c] = some false
        cases b with
        | true =>
          rcases hb rfl with h | ⟨y, h⟩
          · cases h
          · cases h; rfl
        | false => rw [gpS_false, if_neg (by omega), if_pos q1]; rfl
      · rw [if_neg q1] at he ⊢
        have hbf : b = false := by
          cases b with
          | false => rfl
          | true =>
            rcases hb rfl with h | ⟨y, h⟩
            · cases h
            · cases h; omega
        subst hbf
        by_cases q2 : c = 37
        · rw [if_pos q2] at he ⊢
          have hle := le_le (c :: r)
          have hle1 : le_ (c :: r) = le_ r + 1 := by rw [le_cons, if_neg (by omega)]
          simp only [List.length_cons] at hle
          have ed : (c :: r).drop (le_ (c :: r)) = l.drop (off + le_ (c :: r)) := by rw [← hd, List.drop_drop]
          rw [ed] at he ⊢
          refine ct_places l f (off + le_ (c :: r)) off0 acc true (by rw [List.length_drop]; omega) (by omega) (by omega) ?_ (fun _ => ?_) he
          · rw [seg _ (by omega), gpS_app, hg, hd]
            show gpS false ((c :: r).take (le_ (c :: r))) = some true
            rw [hle1, List.take_succ_cons, gpS_false, if_pos q2]
            exact gpS_rem r
          · rw [← ed]; exact le_next (c :: r)
        · rw [if_neg q2] at he ⊢
          cases et : tok (c :: r) with
          | bad e o =>
            rw [et] at he
            exact absurd he ((tok_len c r).2 e o et)
          | ok k x n len =>
            rw [et] at he
            have htl := (tok_len c r).1 k x n len et
            have ed : (c :: r).drop len = l.drop (off + len) := by rw [← hd, List.drop_drop]
            have he2 : (ct f (l.drop (off + len)) (off + len) (acc ++ [⟨k, ofL x, n, off, (off + len : Nat)⟩])).2.1 = 0 := by rw [← ed]; exact he
            obtain ⟨T, hT, hP⟩ := ct_places l f (off + len) (off + len) (acc ++ [⟨k, ofL x, n, off, (off + len : Nat)⟩]) false (by rw [List.length_drop]; omega) (Nat.le_refl _) (by omega) (by rw [Nat.sub_self]; rfl) (fun h => by cases h) he2
            refine ⟨⟨k, ofL x, n, off, (off + len : Nat)⟩ :: T, ?_, off, len, rfl, rfl, h0, htl.1, by omega, ?_, fun f' hf' => ?_, hP⟩
            · show (ct f ((c :: r).drop len) (off + len) (acc ++ [⟨k, ofL x, n, off, (off + len : Nat)⟩])).1 = _
              rw [ed, hT]; simp
            · unfold gpB; rw [hg]; rfl
            · obtain ⟨z, rfl⟩ : ∃ z, len = z + 1 := ⟨len - 1, by omega⟩
              obtain ⟨f', rfl⟩ : ∃ g, f' = g + 1 := ⟨f' - 1, by omega⟩
              obtain ⟨f', rfl⟩ : ∃ g, f' = g + 1 := ⟨f' - 1, by omega⟩
              rw [hd, List.take_succ_cons, ct_cons, if_neg q1, if_neg q2, tok_take et z (Nat.le_refl _)]
              have hz : (c :: r.take z).drop (z + 1) = [] := List.drop_eq_nil_of_le (by simp only [List.length_cons, List.length_take]; omega)
              show ct (f' + 1) ((c :: r.take z).drop (z + 1)) (0 + (z + 1)) ([] ++ [⟨k, ofL x, n, (0 : Nat), ((0 + (z + 1) : Nat) : Int)⟩]) = _
              rw [hz, ct_end]
              simp
end Go.Proofs.YtcpjiahdaplhlaaGreatDoor
/-
  The ways to write a text in quotes, plain; spelt.
-/
namespace Go.Proofs.YtcpjiahdaplhlaaGreatDoor
open Go.RowKit

def hxD (v : Int) : Int := if v < 10 then 48 + v else 55 + v
theorem hexv_hxd (v : Int) (h0 : 0 ≤ v) (h1 : v ≤ 15) : hexv (hxd v) = some v := by
  unfold hexv hxd
  by_cases q : v < 10
  · rw [if_pos q, if_pos (by omega)]; congr 1; omega
  · rw [if_neg q, if_neg (by omega), if_pos (by omega)]; congr 1; omega
theorem hexv_hxD (v : Int) (h0 : 0 ≤ v) (h1 : v ≤ 15) : hexv (hxD v) = some v := by
  unfold hexv hxD
  by_cases q : v < 10
  · rw [if_pos q, if_pos (by omega)]; congr 1; omega
  · rw [if_neg q, if_neg (by omega), if_neg (by omega), if_pos (by omega)]; congr 1; omega
/-- One of the ways to write a byte in quotes. -/
def rep (c K : Int) : List Int :=
  if K < 2 ∧ (32 ≤ c ∧ ¬ c = 127 ∧ ¬ c = 34 ∧ ¬ c = 92) then [c]
  else if K < 2 ∧ (c = 34 ∨ c = 92) then [92, c]
  else if K < 2 ∧ c = 10 then [92, 110]
  else if K < 2 ∧ c = 9 then [92, 116]
  else if K = 3 then [92, 120, hxD (c / 16), hxD (c % 16)]
  else [92, 120, hxd (c / 16), hxd (c % 16)]
theorem qd_hex {f : Nat} {a b x y : Int} {r : List Int} {off : Nat} {acc : List Int} (ha : hexv a = some x) (hb : hexv b = some y) : qd (f + 1) (92 :: 120 :: a :: b :: r) off acc = qd f r (off + 4) (acc ++ [x * 16 + y]) := by
  rw [qd_cons, if_neg (by decide), if_pos rfl]
  have e : esc (120 :: a :: b :: r) = some (x * 16 + y, 3) := by
    rw [esc_cons, if_neg (by decide), if_neg (by decide), if_neg (by decide), if_pos rfl]
    simp [hex2, ha, hb]
  rw [e]
  rfl
theorem rep_step (c K : Int) (h0 : 0 ≤ c) (h1 : c ≤ 255) (f : Nat) (r : List Int) (off : Nat) (acc : List Int) : qd (f + 1) (rep c K ++ r) off acc = qd f r (off + (rep c K).length) (acc ++ [c]) := by
  unfold rep
  by_cases q1 : K < 2 ∧ (32 ≤ c ∧ ¬ c = 127 ∧ ¬ c = 34 ∧ ¬ c = 92)
  · rw [if_pos q1]
    show qd (f + 1) (c :: r) off acc = _
    rw [qd_cons, if_neg (by omega), if_neg (by omega), if_neg (by omega)]; rfl
  · rw [if_neg q1]
    by_cases q2 : K < 2 ∧ (c = 34 ∨ c = 92)
    · rw [if_pos q2]
      show qd (f + 1) (92 :: c :: r) off acc = _
      rw [qd_cons, if_neg (by decide), if_pos rfl, esc_cons, if_pos q2.2]; rfl
    · rw [if_neg q2]
      by_cases q3 : K < 2 ∧ c = 10
      · rw [if_pos q3]
        show qd (f + 1) (92 :: 110 :: r) off acc = _
        rw [qd_cons, if_neg (by decide), if_pos rfl, esc_cons, if_neg (by decide), if_pos rfl, q3.2]; rfl
      · rw [if_neg q3]
        by_cases q4 : K < 2 ∧ c = 9
        · rw [if_pos q4]
          show qd (f + 1) (92 :: 116 :: r) off acc = _
          rw [qd_cons, if_neg (by decide), if_pos rfl, esc_cons, if_neg (by decide), if_neg (by decide), if_pos rfl, q4.2]; rfl
        · rw [if_neg q4]
          have e : c / 16 * 16 + c % 16 = c := by omega
          by_cases q5 : K = 3
          · rw [if_pos q5]
            show qd (f + 1) (92 :: 120 :: hxD (c / 16) :: hxD (c % 16) :: r) off acc = _
            rw [qd_hex (hexv_hxD _ (by omega) (by omega)) (hexv_hxD _ (by omega) (by omega)), e]; rfl
          · rw [if_neg q5]
            show qd (f + 1) (92 :: 120 :: hxd (c / 16) :: hxd (c % 16) :: r) off acc = _
            rw [qd_hex (hexv_hxd _ (by omega) (by omega)) (hexv_hxd _ (by omega) (by omega)), e]; rfl
theorem rep_len (c K : Int) : 0 < (rep c K).length ∧ (rep c K).length ≤ 4 := by
  unfold rep
  repeat' split
  all_goals simp
/-- A text's bytes, each in its way. -/
def rpl (K : Nat → Int) : Nat → List Int → List Int
  | _, [] => []
  | i, c :: r => rep c (K i) ++ rpl K (i + 1) r
theorem rpl_snoc (K : Nat → Int) : ∀ (l : List Int) (i : Nat) (c : Int), rpl K i (l ++ [c]) = rpl K i l ++ rep c (K (i + l.length))
  | [], i, c => by simp [rpl]
  | d :: l, i, c => by
    show rep d (K i) ++ rpl K (i + 1) (l ++ [c]) = (rep d (K i) ++ rpl K (i + 1) l) ++ _
    rw [rpl_snoc K l (i + 1) c, List.append_assoc, List.length_cons, show i + 1 + l.length = i + (l.length + 1) by omega]
theorem rpl_len (K : Nat → Int) : ∀ (l : List Int) (i : Nat), l.length ≤ (rpl K i l).length ∧ (rpl K i l).length ≤ 4 * l.length
  | [], _ => by simp [rpl]
  | c :: l, i => by
    have := rpl_len K l (i + 1)
    have := rep_len c (K i)
    simp only [rpl, List.length_append, List.length_cons]; omega
theorem qd_rpl (K : Nat → Int) : ∀ (l : List Int) (i f off : Nat) (acc : List Int), l.length < f → byt l → qd f (rpl K i l ++ [34]) off acc = .ok 3 (acc ++ l) 0 (off + (rpl K i l).length + 1)
  | [], i, f, off, acc, h, _ => by
    obtain ⟨f, rfl⟩ : ∃ g, f = g + 1 := ⟨f - 1, by simp at h; omega⟩
    show qd (f + 1) [34] off acc = _
    rw [qd_cons, if_pos rfl]; simp [rpl]
  | c :: l, i, f, off, acc, h, hb => by
    simp only [List.length_cons] at h
    obtain ⟨f, rfl⟩ : ∃ g, f = g + 1 := ⟨f - 1, by omega⟩
    have hc := hb c (by simp)
    show qd (f + 1) ((rep c (K i) ++ rpl K (i + 1) l) ++ [34]) off acc = _
    rw [List.append_assoc, rep_step c (K i) hc.1 hc.2, qd_rpl K l (i + 1) f _ _ (by omega) (fun y hy => hb y (by simp [hy]))]
    simp only [rpl, List.append_assoc, List.length_append, List.cons_append, List.nil_append]
    congr 1; omega
/-- How Quote writes a byte. -/
def kq (c : Int) : Int := if (c < 32 ∧ ¬ c = 10 ∧ ¬ c = 9) ∨ 126 < c then 2 else 0
theorem qb_rep (c : Int) : qb c = rep c (kq c) := by
  unfold qb rep kq
  by_cases q : (c < 32 ∧ ¬ c = 10 ∧ ¬ c = 9) ∨ 126 < c
  · rw [if_pos q, if_neg (by omega), if_neg (by omega), if_neg (by omega), if_neg (by omega), if_neg (by omega), if_neg (by omega), if_neg (by omega), if_neg (by omega), if_neg (by omega)]
  · rw [if_neg q]
    by_cases q1 : c = 34 ∨ c = 92
    · rw [if_pos q1, if_neg (by omega), if_pos ⟨by omega, q1⟩]
    · rw [if_neg q1]
      by_cases q2 : c = 10
      · rw [if_pos q2, if_neg (by omega), if_neg (by omega), if_pos ⟨by omega, q2⟩]
      · rw [if_neg q2]
        by_cases q3 : c = 9
        · rw [if_pos q3, if_neg (by omega), if_neg (by omega), if_neg (by omega), if_pos ⟨by omega, q3⟩]
        · rw [if_neg q3, if_pos (by omega), if_pos (by omega)]
theorem take_snoc (s : ByteArray) (j : Nat) (h : j < s.size) : (blK s).take (j + 1) = (blK s).take j ++ [atK_ s j] := by
  have hl : j < (blK s).length := by rw [bl_len]; exact h
  have e := bl_drop h
  rw [List.drop_eq_getElem_cons hl] at e
  rw [List.take_succ_eq_append_getElem hl, (List.cons.inj e).1]
theorem qtl_rpl (s : ByteArray) : ∀ j, j ≤ s.size → qtl s j = 34 :: rpl (fun i => kq (atK_ s i)) 0 ((blK s).take j)
  | 0, _ => by simp [qtl, rpl]
  | j + 1, h => by
    rw [qtl_succ, qtl_rpl s j (by omega), take_snoc s j (by omega), rpl_snoc, qb_rep]
    have : ((blK s).take j).length = j := by rw [List.length_take, bl_len]; omega
    rw [this, Nat.zero_add]; rfl
end Go.Proofs.YtcpjiahdaplhlaaGreatDoor
/-
  There and back: numbers, runs (plain).
-/
namespace Go.Proofs.YtcpjiahdaplhlaaGreatDoor

theorem pu_app : ∀ (l m : List UInt8) (acc : Nat), Lib.parseUint10 acc (l ++ m) = match Lib.parseUint10 acc l with
    | .ok a => Lib.parseUint10 a m
    | .«syntax» => .«syntax»
    | .range => .range
  | [], m, acc => rfl
  | c :: l, m, acc => by
    simp only [List.cons_append, Lib.parseUint10]
    split
    · split
      · rfl
      · split
        · rfl
        · exact pu_app l m _
    · rfl
theorem dig_toNat (d : Nat) (h : d < 10) : (UInt8.ofNat (48 + d)).toNat = 48 + d := by simp; omega
theorem pu_one (acc d : Nat) (hd : d < 10) (h : acc * 10 + d < 18446744073709551616) : Lib.parseUint10 acc [UInt8.ofNat (48 + d)] = .ok (acc * 10 + d) := by
  simp only [Lib.parseUint10]
  rw [dig_toNat d hd, if_pos (by omega), if_neg (by omega), if_neg (by omega)]
  congr 1; omega
theorem pu_dec (u : Nat) (hu : u < 18446744073709551616) : Lib.parseUint10 0 (Lib.decDigits u) = .ok u := by
  induction u using Nat.strongRecOn with
  | _ u ih =>
    rw [Lib.decDigits]
    by_cases h : u < 10
    · rw [dif_pos h, pu_one 0 u h (by omega)]; congr 1; omega
    · rw [dif_neg h, pu_app, ih (u / 10) (by omega) (by omega)]
      show Lib.parseUint10 (u / 10) [UInt8.ofNat (48 + u % 10)] = _
      rw [pu_one _ _ (by omega) (by omega)]; congr 1; omega
theorem dec_dig (u : Nat) : (∀ b ∈ Lib.decDigits u, 48 ≤ b.toNat ∧ b.toNat ≤ 57) ∧ ¬ Lib.decDigits u = [] := by
  induction u using Nat.strongRecOn with
  | _ u ih =>
    rw [Lib.decDigits]
    by_cases h : u < 10
    · rw [dif_pos h]
      refine ⟨fun b hb => ?_, by simp⟩
      simp only [List.mem_singleton] at hb
      rw [hb, dig_toNat u h]; omega
    · rw [dif_neg h]
      refine ⟨fun b hb => ?_, by simp⟩
      rcases List.mem_append.1 hb with hb | hb
      · exact (ih (u / 10) (by omega)).1 b hb
      · simp only [List.mem_singleton] at hb
        rw [hb, dig_toNat _ (by omega)]; omega
theorem atoi_itoa (n : Int) (h0 : -9223372036854775808 ≤ n) (h1 : n ≤ 9223372036854775807) : Lib.atoiAll (Lib.itoa n) = .ok n := by
  by_cases hn : n < 0
  · obtain ⟨u, rfl⟩ : ∃ u : Nat, n = -(u : Int) := ⟨n.natAbs, by omega⟩
    rw [Lib.itoa_neg u (by omega)]
    have hd := (dec_dig u).2
    have hm : Lib.parseMag (Lib.decDigits u) = .ok u := by unfold Lib.parseMag; rw [if_neg hd]; exact pu_dec u (by omega)
    have e45 : (45 : UInt8).toNat = 45 := rfl
    simp only [Lib.atoiAll, e45, or_true, if_true, hm, not_true, false_and, if_false, true_and]
    rw [if_neg (by omega)]
  · obtain ⟨u, rfl⟩ : ∃ u : Nat, n = (u : Int) := ⟨n.toNat, by omega⟩
    rw [Lib.itoa_nonneg u]
    have hm : Lib.parseMag (Lib.decDigits u) = .ok u := by unfold Lib.parseMag; rw [if_neg (dec_dig u).2]; exact pu_dec u (by omega)
    have hdg := (dec_dig u).1
    have hne := (dec_dig u).2
    cases e : Lib.decDigits u with
    | nil => exact absurd e hne
    | cons c r =>
      have hc := hdg c (by rw [e]; simp)
      rw [e] at hm
      have n1 : ¬ c.toNat = 43 := by omega
      have n2 : ¬ c.toNat = 45 := by omega
      simp only [Lib.atoiAll, n1, n2, or_self, if_false, hm, not_false_eq_true, true_and, false_and]
      rw [if_neg (by omega)]
theorem num_itB (n : Int) (h0 : -9223372036854775808 ≤ n) (h1 : n ≤ 9223372036854775807) : num (blK (itB n)) = some n := by
  unfold num
  have e : i2b (blK (itB n)) = Lib.itoa n := by rw [i2b_bl]; simp [itB]
  rw [e, atoi_itoa n h0 h1]
  exact if_pos rfl
theorem rl_all : ∀ (l y : List Int), (∀ x ∈ l, rnb x = true) → rl (l ++ y) = l.length + rl y
  | [], y, _ => by simp
  | c :: l, y, h => by
    rw [List.cons_append, rl_cons, if_pos (h c (by simp)), rl_all l y (fun x hx => h x (by simp [hx]))]
    simp only [List.length_cons]; omega
theorem rl_full : ∀ (l : List Int), rl l = l.length → ∀ x ∈ l, rnb x = true
  | [], _, x, hx => by simp at hx
  | c :: l, h, x, hx => by
    rw [rl_cons] at h
    by_cases q : rnb c = true
    · rw [if_pos q] at h
      simp only [List.length_cons] at h
      rcases List.mem_cons.1 hx with rfl | hx
      · exact q
      · exact rl_full l (by omega) x hx
    · rw [if_neg q] at h; simp at h
theorem wrd_run {x : ByteArray} (h : wrd x = true) : ∃ c r, blK x = c :: r ∧ sml c = true ∧ (∀ z ∈ blK x, rnb z = true) ∧ ¬ x = saysB := by
  unfold wrd at h
  simp only [Bool.and_eq_true, Bool.not_eq_true', decide_eq_false_iff_not, decide_eq_true_eq] at h
  obtain ⟨h1, h2, h3, h4⟩ := h
  have hp := size_posK h1
  have e := bl_drop hp
  rw [List.drop_zero] at e
  refine ⟨_, _, e, h2, ?_, h4⟩
  rw [rne_eq x 0 (Nat.zero_le _), List.drop_zero, Nat.zero_add, ← bl_len] at h3
  exact rl_full _ h3
theorem vrb_run {x : ByteArray} (h : vrb x = true) : ∃ c r, blK x = c :: r ∧ grt c = true ∧ (∀ z ∈ blK x, rnb z = true) := by
  unfold vrb at h
  simp only [Bool.and_eq_true, Bool.not_eq_true', decide_eq_false_iff_not, decide_eq_true_eq] at h
  obtain ⟨h1, h2, h3⟩ := h
  have hp := size_posK h1
  have e := bl_drop hp
  rw [List.drop_zero] at e
  refine ⟨_, _, e, h2, ?_⟩
  rw [rne_eq x 0 (Nat.zero_le _), List.drop_zero, Nat.zero_add, ← bl_len] at h3
  exact rl_full _ h3
/-- A word, with what doesn't go on with it, is read as that word. -/
theorem tok_word {x : ByteArray} {y : List Int} (h : wrd x = true) (hy : rl y = 0) : tok (blK x ++ y) = .ok 1 (blK x) 0 x.size := by
  obtain ⟨c, r, e, h1, h2, h3⟩ := wrd_run h
  have hr : rl (blK x ++ y) = x.size := by rw [rl_all _ _ h2, hy, bl_len]; rfl
  have ht : (blK x ++ y).take x.size = blK x := by rw [← bl_len]; exact List.take_left
  rw [e] at hr ht ⊢
  rw [List.cons_append] at hr ht ⊢
  rw [tok_small h1, hr, ht, ← e, ofL_bl, if_neg h3]
theorem tok_var {x : ByteArray} {y : List Int} (h : vrb x = true) (hy : rl y = 0) : tok (blK x ++ y) = .ok 2 (blK x) 0 x.size := by
  obtain ⟨c, r, e, h1, h2⟩ := vrb_run h
  have hr : rl (blK x ++ y) = x.size := by rw [rl_all _ _ h2, hy, bl_len]; rfl
  have ht : (blK x ++ y).take x.size = blK x := by rw [← bl_len]; exact List.take_left
  have hs : sml c = false := by
    simp only [grt, Bool.or_eq_true, Bool.and_eq_true, decide_eq_true_eq] at h1
    simp only [sml, Bool.and_eq_false_iff, decide_eq_false_iff_not]; omega
  rw [e] at hr ht ⊢
  rw [List.cons_append] at hr ht ⊢
  rw [tok_great hs h1, hr, ht, ← e]
theorem tok_quoted (K : Nat → Int) (s : ByteArray) (y : List Int) : tok (34 :: (rpl K 0 (blK s) ++ [34]) ++ y) = .ok 3 (blK s) 0 ((rpl K 0 (blK s)).length + 2) := by
  have hl := (rpl_len K (blK s) 0).1
  rw [List.cons_append, tok_quote (by decide) (by decide) (by decide) (by decide) rfl]
  refine qd_ok (rpl K 0 (blK s) ++ [34]).length.succ (rpl K 0 (blK s) ++ [34]) 1 [] 3 (blK s) 0 ((rpl K 0 (blK s)).length + 2) ?_ _ _ (by simp) ?_
  · rw [qd_rpl K (blK s) 0 _ 1 [] (by simp only [List.length_append, List.length_cons, List.length_nil]; omega) (bl_byt s), List.nil_append]; congr 1; omega
  · exact take_app_le _ _ _ (by simp only [List.length_append, List.length_cons, List.length_nil]; omega)
end Go.Proofs.YtcpjiahdaplhlaaGreatDoor
/-
  There and back: a token's spelling is read as that token (plain).
-/
namespace Go.Proofs.YtcpjiahdaplhlaaGreatDoor

theorem bl_itB_pos (u : Nat) : blK (itB (u : Int)) = (Lib.decDigits u).map fun b => (b.toNat : Int) := by
  unfold itB blK; rw [Lib.itoa_nonneg]
theorem bl_itB_neg (u : Nat) (h : 1 ≤ u) : blK (itB (-(u : Int))) = 45 :: (Lib.decDigits u).map fun b => (b.toNat : Int) := by
  unfold itB blK; rw [Lib.itoa_neg u h]; rfl
theorem dec_rnb (u : Nat) : ∀ x ∈ (Lib.decDigits u).map (fun b => (b.toNat : Int)), rnb x = true ∧ dig x = true := by
  intro x hx
  simp only [List.mem_map] at hx
  obtain ⟨b, hb, rfl⟩ := hx
  have := (dec_dig u).1 b hb
  have hd : dig (b.toNat : Int) = true := by simp only [dig, Bool.and_eq_true, decide_eq_true_eq]; omega
  exact ⟨by simp [rnb, hd], hd⟩
theorem dig_not {c : Int} (h : dig c = true) : sml c = false ∧ grt c = false ∧ ¬ c = 45 := by
  simp only [dig, Bool.and_eq_true, decide_eq_true_eq] at h
  refine ⟨?_, ?_, by omega⟩
  · simp only [sml, Bool.and_eq_false_iff, decide_eq_false_iff_not]; omega
  · simp only [grt, Bool.or_eq_false_iff, Bool.and_eq_false_iff, decide_eq_false_iff_not]; omega
theorem tok_num {n : Int} {y : List Int} (h0 : -9223372036854775808 ≤ n) (h1 : n ≤ 9223372036854775807) (hy : rl y = 0) : tok (blK (itB n) ++ y) = .ok 4 [] n (itB n).size := by
  have hnum := num_itB n h0 h1
  have hlen : (blK (itB n)).length = (itB n).size := bl_len _
  have ht : (blK (itB n) ++ y).take (itB n).size = blK (itB n) := by rw [← hlen]; exact List.take_left
  by_cases hn : n < 0
  · obtain ⟨u, rfl⟩ : ∃ u : Nat, n = -(u : Int) := ⟨n.natAbs, by omega⟩
    have e := bl_itB_neg u (by omega)
    have hrl := rl_all ((Lib.decDigits u).map fun b => (b.toNat : Int)) y (fun x hx => (dec_rnb u x hx).1)
    rw [e] at hlen ht hnum ⊢
    simp only [List.length_cons] at hlen
    rw [List.cons_append] at ht ⊢
    rw [tok_minus (by decide) (by decide) rfl, hrl, hy, Nat.add_zero, show 1 + ((Lib.decDigits u).map fun b => (b.toNat : Int)).length = (itB (-(u : Int))).size by omega]
    exact numt_some (by rw [ht]; exact hnum)
  · obtain ⟨u, rfl⟩ : ∃ u : Nat, n = (u : Int) := ⟨n.toNat, by omega⟩
    have e := bl_itB_pos u
    have hall := dec_rnb u
    have hrl := rl_all ((Lib.decDigits u).map fun b => (b.toNat : Int)) y (fun x hx => (hall x hx).1)
    rw [← e] at hrl hall
    have hne : ¬ blK (itB (u : Int)) = [] := by rw [e]; simpa using (dec_dig u).2
    cases ec : blK (itB (u : Int)) with
    | nil => exact absurd ec hne
    | cons c r =>
      have hc := (hall c (by rw [ec]; simp)).2
      obtain ⟨d1, d2, d3⟩ := dig_not hc
      rw [ec] at hlen ht hnum hrl
      rw [List.cons_append] at ht hrl ⊢
      rw [tok_dig d1 d2 d3 hc, hrl, hy, Nat.add_zero, hlen]
      exact numt_some (by rw [ht]; exact hnum)
theorem sk_two (a b : Int) (ha : 0 ≤ a ∧ a ≤ 255) (hb : 0 ≤ b ∧ b ≤ 255) : sk (ofL [a, b]) = 0 ∨ (a = 58 ∧ b = 45) ∨ (a = 33 ∧ b = 61) ∨ (a = 60 ∧ b = 61) := by
  by_cases h : ∀ t ∈ signL, ¬ t = ofL [a, b]
  · exact Or.inl (skG_none _ _ _ h)
  · right
    simp only [Classical.not_forall, Decidable.not_not] at h
    obtain ⟨t, ht, e⟩ := h
    have e2 : blK t = [a, b] := by rw [e, bl_ofL (by intro x hx; simp at hx; omega)]
    have hl : (blK t).length = 2 := by rw [e2]; rfl
    simp only [signL, List.mem_cons, List.not_mem_nil, or_false] at ht
    rcases ht with rfl | rfl | rfl | rfl | rfl | rfl | rfl | rfl | rfl | rfl | rfl | rfl | rfl | rfl | rfl | rfl | rfl
    all_goals first
      | (exact absurd hl (by decide))
      | (have e3 : ([58, 45] : List Int) = [a, b] := e2; simp at e3; omega)
      | (have e3 : ([33, 61] : List Int) = [a, b] := e2; simp at e3; omega)
      | (have e3 : ([60, 61] : List Int) = [a, b] := e2; simp at e3; omega)
/-- A sign of one byte. -/
theorem tok_one {a : Int} {k : Nat} {y : List Int} (ha : 0 ≤ a ∧ a ≤ 255) (h1 : sml a = false) (h2 : grt a = false) (h3 : ¬ a = 45) (h4 : dig a = false) (h5 : ¬ a = 34) (hk : sk (ofL [a]) = k) (hk0 : ¬ k = 0)
    (hy : byt y) (hn : ∀ d r, y = d :: r → ¬ ((a = 58 ∧ d = 45) ∨ (a = 33 ∧ d = 61) ∨ (a = 60 ∧ d = 61))) : tok ([a] ++ y) = .ok (k : Int) [] 0 1 := by
  rw [List.singleton_append, tok_sign h1 h2 h3 h4 h5]
  unfold sgt
  have hone : sgF (a :: y) 1 = .ok (k : Int) [] 0 1 := by
    have e : ofL ((a :: y).take (0 + 1)) = ofL [a] := rfl
    rw [sgF_yes (m := 0) (by rw [e, hk]; exact hk0), e, hk]
  cases y with
  | nil => exact hone
  | cons d r =>
    have e : min 2 (a :: d :: r).length = 2 := by simp
    have hz : sk (ofL ((a :: d :: r).take (1 + 1))) = 0 := by
      rcases sk_two a d ha (hy d (by simp)) with h | h
      · exact h
      · exact absurd h (hn d r rfl)
    rw [e, sgF_no hz]; exact hone
theorem tok_two {a b : Int} {k : Nat} {y : List Int} (h1 : sml a = false) (h2 : grt a = false) (h3 : ¬ a = 45) (h4 : dig a = false) (h5 : ¬ a = 34) (hk : sk (ofL [a, b]) = k) (hk0 : ¬ k = 0) : tok ([a, b] ++ y) = .ok (k : Int) [] 0 2 := by
  show tok (a :: b :: y) = _
  rw [tok_sign h1 h2 h3 h4 h5]
  unfold sgt
  have e : min 2 (a :: b :: y).length = 2 := by simp
  have e2 : ofL ((a :: b :: y).take (1 + 1)) = ofL [a, b] := rfl
  rw [e, sgF_yes (m := 1) (by rw [e2, hk]; exact hk0), e2, hk]
end Go.Proofs.YtcpjiahdaplhlaaGreatDoor
/-
  A text's Quote, as its bytes are written (plain).
-/
namespace Go.Proofs.YtcpjiahdaplhlaaGreatDoor

theorem bl_qtB (s : ByteArray) : blK (qtB s) = 34 :: (rpl (fun i => kq (atK_ s i)) 0 (blK s) ++ [34]) := by
  have e : qtB s = ofL (qtl s s.size ++ [34]) := rfl
  rw [e, bl_ofL (fun x hx => ?_), qtl_rpl s s.size (Nat.le_refl _), List.take_of_length_le (by rw [bl_len]; exact Nat.le_refl _)]
  · rfl
  · rcases List.mem_append.1 hx with hx | hx
    · exact qtl_byt s _ x hx
    · simp at hx; omega
end Go.Proofs.YtcpjiahdaplhlaaGreatDoor
