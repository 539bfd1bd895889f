import Derived.Test.YtdfdnjkeiddfjaaDoorK50
import Derived.Test.YtdfdnjkeiddfjaaDoorK9
import Derived.Test.YtdfdnjkeiddfjaaDoorK13
import Derived.Test.YtdfdnjkeiddfjaaDoorK24
import Derived.Test.YtdfdnjkeiddfjaaDoorK29
/-
  ref's Number.
-/
namespace Go.Proofs.YtdfdnjkeiddfjaaDoor
open Go.RowKit

theorem dv_le : ∀ (l : List Int) (acc k : Nat), acc < 10 ^ k → l.all dig = true → dv l acc < 10 ^ (k + l.length)
  | [], acc, k, h, _ => by simpa [dv] using h
  | c :: l, acc, k, h, hd => by
    rw [List.all_cons, Bool.and_eq_true] at hd
    have hc := hd.1
    simp only [dig, Bool.and_eq_true, decide_eq_true_eq] at hc
    have := dv_le l (acc * 10 + (c - 48).toNat) (k + 1) (by rw [Nat.pow_succ]; omega) hd.2
    show dv l (acc * 10 + (c - 48).toNat) < _
    rw [List.length_cons, show k + (l.length + 1) = k + 1 + l.length by omega]
    exact this
theorem dv_small (l : List Int) (h : l.length ≤ 19) (hd : l.all dig = true) : dv l 0 < 10000000000000000000 := by
  have h1 := dv_le l 0 0 (by decide) hd
  have h2 : 10 ^ (0 + l.length) ≤ 10 ^ 19 := Nat.pow_le_pow_right (by decide) (by omega)
  exact Nat.lt_of_lt_of_le h1 h2
/-- What stands behind the sign. -/
def mag (mn : Bool) (t : List Int) : Option Int :=
  if t.length < 1 ∨ 19 < t.length ∨ t.head? = some 48 then none
  else if t.all dig = false then none
  else if mn = true then (if 9223372036854775808 < dv t 0 then none else some (-(dv t 0 : Int)))
  else if dv t 0 ≤ 9223372036854775807 then some (dv t 0 : Int) else none
theorem rnum_mag (d : List Int) (h : ¬ d = [48]) : rnum d = if d.head? = some 45 then mag true d.tail else mag false d := by
  unfold rnum mag
  rw [if_neg h]
  simp
end Go.Proofs.YtdfdnjkeiddfjaaDoor
/-
  ref's one.
-/
namespace Go.Proofs.YtdfdnjkeiddfjaaDoor
open Go.RowKit

/-- ref's tables of signs and of their kinds. -/
def qsL : List ByteArray := [⟨#[58, 45]⟩, ⟨#[33, 61]⟩, ⟨#[60, 61]⟩, ⟨#[40]⟩, ⟨#[41]⟩, ⟨#[44]⟩, ⟨#[59]⟩, ⟨#[46]⟩, ⟨#[63]⟩, ⟨#[61]⟩, ⟨#[60]⟩]
def qkL : List Int := [11, 14, 16, 6, 7, 8, 9, 10, 12, 13, 15]
theorem sk_one (a : Int) (ha : 0 ≤ a ∧ a ≤ 255) : sk (ofL [a]) = 0 ∨ a = 40 ∨ a = 41 ∨ a = 44 ∨ a = 59 ∨ a = 46 ∨ a = 63 ∨ a = 61 ∨ a = 60 := by
  by_cases h : ∀ t ∈ signL, ¬ t = ofL [a]
  · exact Or.inl (skG_none _ _ _ h)
  · right
    simp only [Classical.not_forall, Decidable.not_not] at h
    obtain ⟨t, ht, e⟩ := h
    have e2 : blK t = [a] := by rw [e, bl_ofL (by intro x hx; simp at hx; omega)]
    have hl : (blK t).length = 1 := by rw [e2]; rfl
    simp only [signL, List.mem_cons, List.not_mem_nil, or_false] at ht
    rcases ht with rfl | rfl | rfl | rfl | rfl | rfl | rfl | rfl | rfl | rfl | rfl | rfl | rfl | rfl | rfl | rfl | rfl
    all_goals first
      | (exact absurd hl (by decide))
      | (have e3 : ([40] : List Int) = [a] := e2; simp at e3; omega)
      | (have e3 : ([41] : List Int) = [a] := e2; simp at e3; omega)
      | (have e3 : ([44] : List Int) = [a] := e2; simp at e3; omega)
      | (have e3 : ([59] : List Int) = [a] := e2; simp at e3; omega)
      | (have e3 : ([46] : List Int) = [a] := e2; simp at e3; omega)
      | (have e3 : ([63] : List Int) = [a] := e2; simp at e3; omega)
      | (have e3 : ([61] : List Int) = [a] := e2; simp at e3; omega)
      | (have e3 : ([60] : List Int) = [a] := e2; simp at e3; omega)
theorem sgt_one {c : Int} {r : List Int} {k : Nat} (hk : sk (ofL [c]) = k) (hk0 : ¬ k = 0) (hb : byt (c :: r)) (hn : ∀ d r', r = d :: r' → ¬ ((c = 58 ∧ d = 45) ∨ (c = 33 ∧ d = 61) ∨ (c = 60 ∧ d = 61))) : sgt (c :: r) = .ok (k : Int) [] 0 1 := by
  unfold sgt
  have hone : sgF (c :: r) 1 = .ok (k : Int) [] 0 1 := by
    have e : ofL ((c :: r).take (0 + 1)) = ofL [c] := rfl
    rw [sgF_yes (m := 0) (by rw [e, hk]; exact hk0), e, hk]
  cases r with
  | nil => exact hone
  | cons d r =>
    have e : min 2 (c :: d :: r).length = 2 := by simp
    have hz : sk (ofL ((c :: d :: r).take (1 + 1))) = 0 := by
      rcases sk_two c d (hb c (by simp)) (hb d (by simp)) with h | h
      · exact h
      · exact absurd h (hn d r rfl)
    rw [e, sgF_no hz]; exact hone
theorem sgt_two {a b : Int} {y : List Int} {k : Nat} (hk : sk (ofL [a, b]) = k) (hk0 : ¬ k = 0) : sgt (a :: b :: y) = .ok (k : Int) [] 0 2 := by
  unfold sgt
  have e : min 2 (a :: b :: y).length = 2 := by simp
  have e2 : ofL ((a :: b :: y).take (1 + 1)) = ofL [a, b] := rfl
  rw [e, sgF_yes (m := 1) (by rw [e2, hk]; exact hk0), e2, hk]
theorem take_two {l : List Int} {a b : Int} (h : l.take 2 = [a, b]) : ∃ r, l = a :: b :: r := by
  match l, h with
  | [], h => simp at h
  | [x], h => simp at h
  | x :: y :: r, h => simp at h; exact ⟨r, by rw [h.1, h.2]⟩
theorem take_one {l : List Int} {a : Int} (h : l.take 1 = [a]) : ∃ r, l = a :: r := by
  match l, h with
  | [], h => simp at h
  | x :: r, h => simp at h; exact ⟨r, by rw [h]⟩
theorem sgt_first {l : List Int} (hb : byt l) {m : Nat} {t : ByteArray} (ht : qsL[m]? = some t) (hm : l.take t.size = blK t) (hno : ∀ i u, i < m → qsL[i]? = some u → ¬ l.take u.size = blK u) : ∃ k, qkL[m]? = some k ∧ sgt l = .ok k [] 0 t.size := by
  have hlt : m < 11 := (List.getElem?_eq_some_iff.1 ht).1
  have hc : m = 0 ∨ m = 1 ∨ m = 2 ∨ m = 3 ∨ m = 4 ∨ m = 5 ∨ m = 6 ∨ m = 7 ∨ m = 8 ∨ m = 9 ∨ m = 10 := by omega
  rcases hc with rfl | rfl | rfl | rfl | rfl | rfl | rfl | rfl | rfl | rfl | rfl
  · obtain rfl : t = ⟨#[58, 45]⟩ := (Option.some.inj ht).symm
    obtain ⟨r, rfl⟩ := take_two (a := 58) (b := 45) hm
    exact ⟨11, rfl, sgt_two (k := 11) rfl (by decide)⟩
  · obtain rfl : t = ⟨#[33, 61]⟩ := (Option.some.inj ht).symm
    obtain ⟨r, rfl⟩ := take_two (a := 33) (b := 61) hm
    exact ⟨14, rfl, sgt_two (k := 14) rfl (by decide)⟩
  · obtain rfl : t = ⟨#[60, 61]⟩ := (Option.some.inj ht).symm
    obtain ⟨r, rfl⟩ := take_two (a := 60) (b := 61) hm
    exact ⟨16, rfl, sgt_two (k := 16) rfl (by decide)⟩
  · obtain rfl : t = ⟨#[40]⟩ := (Option.some.inj ht).symm
    obtain ⟨r, rfl⟩ := take_one (a := 40) hm
    exact ⟨6, rfl, sgt_one (k := 6) rfl (by decide) hb (fun d r' e h => by omega)⟩
  · obtain rfl : t = ⟨#[41]⟩ := (Option.some.inj ht).symm
    obtain ⟨r, rfl⟩ := take_one (a := 41) hm
    exact ⟨7, rfl, sgt_one (k := 7) rfl (by decide) hb (fun d r' e h => by omega)⟩
  · obtain rfl : t = ⟨#[44]⟩ := (Option.some.inj ht).symm
    obtain ⟨r, rfl⟩ := take_one (a := 44) hm
    exact ⟨8, rfl, sgt_one (k := 8) rfl (by decide) hb (fun d r' e h => by omega)⟩
  · obtain rfl : t = ⟨#[59]⟩ := (Option.some.inj ht).symm
    obtain ⟨r, rfl⟩ := take_one (a := 59) hm
    exact ⟨9, rfl, sgt_one (k := 9) rfl (by decide) hb (fun d r' e h => by omega)⟩
  · obtain rfl : t = ⟨#[46]⟩ := (Option.some.inj ht).symm
    obtain ⟨r, rfl⟩ := take_one (a := 46) hm
    exact ⟨10, rfl, sgt_one (k := 10) rfl (by decide) hb (fun d r' e h => by omega)⟩
  · obtain rfl : t = ⟨#[63]⟩ := (Option.some.inj ht).symm
    obtain ⟨r, rfl⟩ := take_one (a := 63) hm
    exact ⟨12, rfl, sgt_one (k := 12) rfl (by decide) hb (fun d r' e h => by omega)⟩
  · obtain rfl : t = ⟨#[61]⟩ := (Option.some.inj ht).symm
    obtain ⟨r, rfl⟩ := take_one (a := 61) hm
    exact ⟨13, rfl, sgt_one (k := 13) rfl (by decide) hb (fun d r' e h => by omega)⟩
  · obtain rfl : t = ⟨#[60]⟩ := (Option.some.inj ht).symm
    obtain ⟨r, rfl⟩ := take_one (a := 60) hm
    exact ⟨15, rfl, sgt_one (k := 15) rfl (by decide) hb (fun d r' e h => by rcases h with h | h | h; omega; omega; exact hno 2 _ (by omega) rfl (by rw [e, h.2]; rfl))⟩
theorem sgt_none {c : Int} {r : List Int} (hb : byt (c :: r)) (hno : ∀ i u, i < 11 → qsL[i]? = some u → ¬ (c :: r).take u.size = blK u) : sgt (c :: r) = .bad 42 0 := by
  have h1 : ¬ sk (ofL [c]) = 0 → False := fun h => by
    rcases sk_one c (hb c (by simp)) with q | q | q | q | q | q | q | q | q
    · exact h q
    · exact hno 3 _ (by omega) rfl (by rw [q]; rfl)
    · exact hno 4 _ (by omega) rfl (by rw [q]; rfl)
    · exact hno 5 _ (by omega) rfl (by rw [q]; rfl)
    · exact hno 6 _ (by omega) rfl (by rw [q]; rfl)
    · exact hno 7 _ (by omega) rfl (by rw [q]; rfl)
    · exact hno 8 _ (by omega) rfl (by rw [q]; rfl)
    · exact hno 9 _ (by omega) rfl (by rw [q]; rfl)
    · exact hno 10 _ (by omega) rfl (by rw [q]; rfl)
  have hone : sgF (c :: r) 1 = .bad 42 0 := by
    have e : ofL ((c :: r).take (0 + 1)) = ofL [c] := rfl
    rw [sgF_no (m := 0) (by rw [e]; exact Decidable.byContradiction h1)]; rfl
  unfold sgt
  cases r with
  | nil => exact hone
  | cons d r =>
    have e : min 2 (c :: d :: r).length = 2 := by simp
    have hz : sk (ofL ((c :: d :: r).take (1 + 1))) = 0 := by
      rcases sk_two c d (hb c (by simp)) (hb d (by simp)) with h | ⟨h, h'⟩ | ⟨h, h'⟩ | ⟨h, h'⟩
      · exact h
      · exact absurd (by rw [h, h']; rfl) (hno 0 _ (by omega) rfl)
      · exact absurd (by rw [h, h']; rfl) (hno 1 _ (by omega) rfl)
      · exact absurd (by rw [h, h']; rfl) (hno 2 _ (by omega) rfl)
    rw [e, sgF_no hz]; exact hone
end Go.Proofs.YtdfdnjkeiddfjaaDoor
/-
  ref's Cut.
-/
namespace Go.Proofs.YtdfdnjkeiddfjaaDoor
open Go.RowKit

theorem qle_lt : ∀ (l : List Int) (q : Nat), q < le_ l → ∃ d y, l.drop q = d :: y ∧ ¬ d = 10
  | [], q, h => by simp [le_] at h
  | c :: l, q, h => by
    by_cases e : c = 10
    · rw [le_yes e] at h; omega
    · rw [le_no e] at h
      cases q with
      | zero => exact ⟨c, l, rfl, e⟩
      | succ q => exact qle_lt l q (by omega)
theorem qle_next : ∀ (l : List Int), l.drop (le_ l) = [] ∨ ∃ y, l.drop (le_ l) = 10 :: y
  | [] => Or.inl rfl
  | c :: l => by
    by_cases e : c = 10
    · rw [le_yes e]; exact Or.inr ⟨l, by rw [e]; rfl⟩
    · rw [le_no e]; exact qle_next l
theorem ct_count : ∀ (f : Nat) (l : List Int) (off : Nat) (acc : List Tk), (ct f l off acc).1.length ≤ acc.length + l.length
  | 0, l, _, acc => by show acc.length ≤ _; omega
  | _ + 1, [], _, acc => by show acc.length ≤ _; omega
  | f + 1, c :: r, off, acc => by
    rw [ct_cons]
    simp only [List.length_cons]
    by_cases q1 : c = 32 ∨ c = 9 ∨ c = 10 ∨ c = 13
    · rw [if_pos q1]; have := ct_count f r (off + 1) acc; omega
    · rw [if_neg q1]
      by_cases q2 : c = 37
      · rw [if_pos q2]
        have := ct_count f ((c :: r).drop (le_ (c :: r))) (off + le_ (c :: r)) acc
        rw [List.length_drop, List.length_cons] at this; omega
      · rw [if_neg q2]
        cases et : tok (c :: r) with
        | bad e o => show (0 : Nat) ≤ _; omega
        | ok k x n len =>
          have hln := (tok_len c r).1 k x n len et
          have := ct_count f ((c :: r).drop len) (off + len) (acc ++ [⟨k, ofL x, n, off, (off + len : Nat)⟩])
          rw [List.length_drop, List.length_cons, List.length_append, List.length_cons, List.length_nil] at this
          show (ct f ((c :: r).drop len) (off + len) (acc ++ [⟨k, ofL x, n, off, (off + len : Nat)⟩])).1.length ≤ _
          omega
end Go.Proofs.YtdfdnjkeiddfjaaDoor
/-
  A text's Quote, as its bytes are written (plain).
-/
namespace Go.Proofs.YtdfdnjkeiddfjaaDoor

theorem bl_qtB (s : ByteArray) : blK (qtB s) = 34 :: (rpl (fun i => kq (atK_ s i)) 0 (blK s) ++ [34]) := by
  have e : qtB s = ofL (qtl s s.size ++ [34]) := rfl
  rw [e, bl_ofL (fun x hx => ?_), qtl_rpl s s.size (Nat.le_refl _), List.take_of_length_le (by rw [bl_len]; exact Nat.le_refl _)]
  · rfl
  · rcases List.mem_append.1 hx with hx | hx
    · exact qtl_byt s _ x hx
    · simp at hx; omega
end Go.Proofs.YtdfdnjkeiddfjaaDoor
/-
  There and back: every token that has a spelling (plain).
-/
namespace Go.Proofs.YtdfdnjkeiddfjaaDoor

/-- What may stand behind a token's spelling without being read with it. -/
def stp (t : Tk) (y : List Int) : Prop := (enr t.k = true → rl y = 0) ∧ (t.k = 15 → ∀ r, ¬ y = 61 :: r)
/-- The bytes of a token's text. -/
def tbs (t : Tk) : List Int := if t.k = 1 ∨ t.k = 2 ∨ t.k = 3 then blK t.x else []
theorem sgo_rng {k : Int} (h : ¬ sgo k = ⟨#[]⟩) : 5 ≤ k ∧ k ≤ 16 := by
  by_cases h0 : 0 ≤ k
  · by_cases h1 : k < 17
    · by_cases h2 : 5 ≤ k
      · omega
      · have : k = 0 ∨ k = 1 ∨ k = 2 ∨ k = 3 ∨ k = 4 := by omega
        rcases this with rfl | rfl | rfl | rfl | rfl <;> exact absurd rfl h
    · refine absurd ?_ h
      unfold sgo; rw [if_pos h0, List.getElem?_eq_none (by rw [signL_len]; omega)]; rfl
  · refine absurd ?_ h
    unfold sgo; rw [if_neg h0]
theorem tok_spl {t : Tk} {s : ByteArray} {y : List Int} (hs : spl t = some s) (ho : okt t) (hy : stp t y) (hb : byt y) : tok (blK s ++ y) = .ok t.k (tbs t) t.n s.size ∧ t.x = ofL (tbs t) := by
  obtain ⟨k, x, n, a, e⟩ := t
  unfold spl at hs
  simp only at hs hy ⊢
  by_cases q1 : k = 1
  · rw [if_pos q1] at hs
    by_cases q : wrd x = true ∧ n = 0
    · rw [if_pos q] at hs
      cases hs
      subst q1
      obtain ⟨hw, rfl⟩ := q
      exact ⟨tok_word hw (hy.1 rfl), by show s = ofL (blK s); rw [ofL_bl]⟩
    · rw [if_neg q] at hs; cases hs
  · rw [if_neg q1] at hs
    by_cases q2 : k = 2
    · rw [if_pos q2] at hs
      by_cases q : vrb x = true ∧ n = 0
      · rw [if_pos q] at hs
        cases hs
        subst q2
        obtain ⟨hw, rfl⟩ := q
        exact ⟨tok_var hw (hy.1 rfl), by show s = ofL (blK s); rw [ofL_bl]⟩
      · rw [if_neg q] at hs; cases hs
    · rw [if_neg q2] at hs
      by_cases q3 : k = 3
      · rw [if_pos q3] at hs
        by_cases q : n = 0
        · rw [if_pos q] at hs
          cases hs
          subst q3 q
          refine ⟨?_, by show x = ofL (blK x); rw [ofL_bl]⟩
          have hl : (qtB x).size = (rpl (fun i => kq (atK_ x i)) 0 (blK x)).length + 2 := by rw [← bl_len, bl_qtB]; simp
          rw [bl_qtB, tok_quoted, hl]; rfl
        · rw [if_neg q] at hs; cases hs
      · rw [if_neg q3] at hs
        by_cases q4 : k = 4
        · rw [if_pos q4] at hs
          by_cases q : x = ⟨#[]⟩
          · rw [if_pos q] at hs
            cases hs
            subst q4 q
            exact ⟨tok_num ho.2.1 ho.2.2 (hy.1 rfl), rfl⟩
          · rw [if_neg q] at hs; cases hs
        · rw [if_neg q4] at hs
          by_cases q : ¬ sgo k = ⟨#[]⟩ ∧ x = ⟨#[]⟩ ∧ n = 0
          · rw [if_pos q] at hs
            cases hs
            obtain ⟨hg, rfl, rfl⟩ := q
            have hr := sgo_rng hg
            have hk : k = 5 ∨ k = 6 ∨ k = 7 ∨ k = 8 ∨ k = 9 ∨ k = 10 ∨ k = 11 ∨ k = 12 ∨ k = 13 ∨ k = 14 ∨ k = 15 ∨ k = 16 := by omega
            clear hg hr q1 q2 q3 q4
            rcases hk with rfl | rfl | rfl | rfl | rfl | rfl | rfl | rfl | rfl | rfl | rfl | rfl
            · refine ⟨?_, rfl⟩
              have hrl : rl ([115, 97, 121, 115] ++ y) = 4 := by rw [rl_all _ _ (by decide), hy.1 rfl]; rfl
              show tok (115 :: ([97, 121, 115] ++ y)) = _
              have e1 : (115 : Int) :: ([97, 121, 115] ++ y) = [115, 97, 121, 115] ++ y := rfl
              rw [tok_small (by decide), e1, hrl]
              show (if ofL [115, 97, 121, 115] = saysB then TR.ok 5 [] 0 4 else _) = _
              rw [if_pos (by rfl)]; rfl
            · exact ⟨tok_one (a := 40) (k := 6) (by omega) (by decide) (by decide) (by decide) (by decide) (by decide) (by decide) (by decide) hb (fun d r _ => by omega), rfl⟩
            · exact ⟨tok_one (a := 41) (k := 7) (by omega) (by decide) (by decide) (by decide) (by decide) (by decide) (by decide) (by decide) hb (fun d r _ => by omega), rfl⟩
            · exact ⟨tok_one (a := 44) (k := 8) (by omega) (by decide) (by decide) (by decide) (by decide) (by decide) (by decide) (by decide) hb (fun d r _ => by omega), rfl⟩
            · exact ⟨tok_one (a := 59) (k := 9) (by omega) (by decide) (by decide) (by decide) (by decide) (by decide) (by decide) (by decide) hb (fun d r _ => by omega), rfl⟩
            · exact ⟨tok_one (a := 46) (k := 10) (by omega) (by decide) (by decide) (by decide) (by decide) (by decide) (by decide) (by decide) hb (fun d r _ => by omega), rfl⟩
            · exact ⟨tok_two (a := 58) (b := 45) (k := 11) (by decide) (by decide) (by decide) (by decide) (by decide) (by decide) (by decide), rfl⟩
            · exact ⟨tok_one (a := 63) (k := 12) (by omega) (by decide) (by decide) (by decide) (by decide) (by decide) (by decide) (by decide) hb (fun d r _ => by omega), rfl⟩
            · exact ⟨tok_one (a := 61) (k := 13) (by omega) (by decide) (by decide) (by decide) (by decide) (by decide) (by decide) (by decide) hb (fun d r _ => by omega), rfl⟩
            · exact ⟨tok_two (a := 33) (b := 61) (k := 14) (by decide) (by decide) (by decide) (by decide) (by decide) (by decide) (by decide), rfl⟩
            · exact ⟨tok_one (a := 60) (k := 15) (by omega) (by decide) (by decide) (by decide) (by decide) (by decide) (by decide) (by decide) hb (fun d r hd h => by have := hy.2 rfl; rcases h with h | h | h; omega; omega; exact this r (by rw [hd, h.2])), rfl⟩
            · exact ⟨tok_two (a := 60) (b := 61) (k := 16) (by decide) (by decide) (by decide) (by decide) (by decide) (by decide) (by decide), rfl⟩
          · rw [if_neg q] at hs; cases hs
end Go.Proofs.YtdfdnjkeiddfjaaDoor
