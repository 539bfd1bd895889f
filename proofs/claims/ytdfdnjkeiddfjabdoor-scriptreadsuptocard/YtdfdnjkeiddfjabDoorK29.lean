import Derived.Test.YtdfdnjkeiddfjabDoorK16
import Derived.Test.YtdfdnjkeiddfjabDoorK15
import Derived.Lib.ItoaMem
/-
  Faults: their places, what stands ahead of them, and texts that go on.
-/
namespace Go.Proofs.YtdfdnjkeiddfjabDoor

/-- What Cut's loop tells of its fault. -/
theorem ct_fault : ∀ (f : Nat) (l : List Int) (off : Nat) (acc : List Tk), l.length < f →
    ((ct f l off acc).2.1 = 0 ∧ (ct f l off acc).2.2 = 0) ∨
    (∃ p : Nat, ((ct f l off acc).2.2 = ((off + p : Nat) : Int)) ∧ p < l.length ∧
      ((ct f l off acc).2.1 = 42 ∨ (ct f l off acc).2.1 = 43 ∨ (ct f l off acc).2.1 = 44 ∨ (ct f l off acc).2.1 = 45) ∧
      (∀ (f' : Nat) (acc' : List Tk), l.length < f' → (ct f' (l.take p) off acc').2.1 = if (ct f l off acc).2.1 = 44 then 43 else 0) ∧
      (∀ (f' : Nat) (acc' : List Tk) (m : List Int), (l ++ 32 :: m).length < f' → (ct f l off acc).2.1 = 42 ∨ (ct f l off acc).2.1 = 45 → (ct f' (l ++ 32 :: m) off acc').2 = (ct f l off acc).2))
  | 0, _, _, _, h => by omega
  | f + 1, [], off, acc, _ => Or.inl ⟨rfl, rfl⟩
  | f + 1, c :: r, off, acc, h => by
    simp only [List.length_cons] at h
    rw [ct_cons]
    by_cases q1 : c = 32 ∨ c = 9 ∨ c = 10 ∨ c = 13
    · rw [if_pos q1]
      rcases ct_fault f r (off + 1) acc (by omega) with h0 | ⟨p, h1, h2, h3, h4, h5⟩
      · exact Or.inl h0
      · refine Or.inr ⟨p + 1, by rw [h1]; omega, by simp; omega, h3, fun f' acc' hf => ?_, fun f' acc' m hf he => ?_⟩
        · simp only [List.length_cons] at hf
          obtain ⟨f', rfl⟩ : ∃ g, f' = g + 1 := ⟨f' - 1, by omega⟩
          rw [List.take_succ_cons, ct_cons, if_pos q1]
          exact h4 f' acc' (by omega)
        · simp only [List.cons_append, List.length_cons] at hf
          obtain ⟨f', rfl⟩ : ∃ g, f' = g + 1 := ⟨f' - 1, by omega⟩
          rw [List.cons_append, ct_cons, if_pos q1]
          exact h5 f' acc' m (by omega) he
    · rw [if_neg q1]
      by_cases q2 : c = 37
      · rw [if_pos q2]
        have hle := le_le (c :: r)
        have hle1 : le_ (c :: r) = le_ r + 1 := by rw [le_cons, if_neg (by omega)]
        obtain ⟨e, he'⟩ : ∃ e, le_ (c :: r) = e := ⟨_, rfl⟩
        rw [he'] at hle hle1 ⊢
        simp only [List.length_cons] at hle
        have hdl : ((c :: r).drop e).length = r.length + 1 - e := by simp
        rcases ct_fault f ((c :: r).drop e) (off + e) acc (by omega) with h0 | ⟨p, h1, h2, h3, h4, h5⟩
        · exact Or.inl h0
        · rw [hdl] at h2 h4
          refine Or.inr ⟨e + p, by rw [h1]; omega, by simp; omega, h3, fun f' acc' hf => ?_, fun f' acc' m hf he => ?_⟩
          · simp only [List.length_cons] at hf
            obtain ⟨f', rfl⟩ : ∃ g, f' = g + 1 := ⟨f' - 1, by omega⟩
            obtain ⟨n, hn⟩ : ∃ n, e + p = n + 1 := ⟨e + p - 1, by omega⟩
            have el : le_ (c :: r.take n) = e := by
              have := le_take (c :: r) (n + 1)
              rw [List.take_succ_cons, he'] at this
              rw [this]; omega
            rw [hn, List.take_succ_cons, ct_cons, if_neg q1, if_pos q2, el]
            have ed : (c :: r.take n).drop e = ((c :: r).drop e).take p := by
              rw [← List.take_succ_cons, List.drop_take]; congr 1; omega
            rw [ed]
            exact h4 f' acc' (by omega)
          · simp only [List.cons_append, List.length_cons, List.length_append] at hf
            obtain ⟨f', rfl⟩ : ∃ g, f' = g + 1 := ⟨f' - 1, by omega⟩
            have el : le_ ((c :: r) ++ 32 :: m) = e := by
              rw [le_app _ _ (by rw [he']; simp only [List.length_cons]; omega), he']
            rw [List.cons_append, ct_cons, if_neg q1, if_pos q2, ← List.cons_append, el, drop_app_le _ _ _ (by simp only [List.length_cons]; omega)]
            exact h5 f' acc' m (by simp only [List.length_append, List.length_drop, List.length_cons]; omega) he
      · rw [if_neg q2]
        cases et : tok (c :: r) with
        | bad e o =>
          have htb := tok_bad et
          refine Or.inr ⟨o, rfl, ?_, ?_, fun f' acc' hf => ?_, fun f' acc' m hf he => ?_⟩
          · simp only [List.length_cons]; omega
          · show e = 42 ∨ e = 43 ∨ e = 44 ∨ e = 45; omega
          · simp only [List.length_cons] at hf
            obtain ⟨f', rfl⟩ : ∃ g, f' = g + 1 := ⟨f' - 1, by omega⟩
            show _ = if e = 44 then (43 : Int) else 0
            rcases htb with ⟨rfl, he⟩ | ⟨rfl, h1, h2, h3⟩
            · rw [if_neg (by omega), List.take_zero]; rfl
            · obtain ⟨n, rfl⟩ : ∃ n, o = n + 1 := ⟨o - 1, by omega⟩
              rw [if_pos rfl, List.take_succ_cons, ct_cons, if_neg q1, if_neg q2]
              rw [Nat.add_sub_cancel] at h3
              rw [h3]
          · simp only [List.cons_append, List.length_cons] at hf
            obtain ⟨f', rfl⟩ : ∃ g, f' = g + 1 := ⟨f' - 1, by omega⟩
            have he2 : e = 42 ∨ e = 45 := he
            rw [List.cons_append, ct_cons, if_neg q1, if_neg q2, tok_app (fun e' o' h' => by rw [et] at h'; cases h'; exact he2), et]
        | ok k x n len =>
          have htl := (tok_len c r).1 k x n len et
          have hdl : ((c :: r).drop len).length = r.length + 1 - len := by simp
          rcases ct_fault f ((c :: r).drop len) (off + len) (acc ++ [⟨k, ofL x, n, off, (off + len : Nat)⟩]) (by omega) with h0 | ⟨p, h1, h2, h3, h4, h5⟩
          · exact Or.inl h0
          · rw [hdl] at h2 h4
            refine Or.inr ⟨len + p, by show (ct f _ _ _).2.2 = _; rw [h1]; omega, by simp; omega, h3, fun f' acc' hf => ?_, fun f' acc' m hf he => ?_⟩
            · simp only [List.length_cons] at hf
              obtain ⟨f', rfl⟩ : ∃ g, f' = g + 1 := ⟨f' - 1, by omega⟩
              obtain ⟨z, hz⟩ : ∃ z, len + p = z + 1 := ⟨len + p - 1, by omega⟩
              rw [hz, List.take_succ_cons, ct_cons, if_neg q1, if_neg q2, tok_take et z (by omega)]
              have ed : (c :: r.take z).drop len = ((c :: r).drop len).take p := by
                rw [← List.take_succ_cons, List.drop_take]; congr 1; omega
              show (ct f' ((c :: r.take z).drop len) _ _).2.1 = _
              rw [ed]
              exact h4 f' _ (by omega)
            · simp only [List.cons_append, List.length_cons, List.length_append] at hf
              obtain ⟨f', rfl⟩ : ∃ g, f' = g + 1 := ⟨f' - 1, by omega⟩
              rw [List.cons_append, ct_cons, if_neg q1, if_neg q2, tok_app (fun e' o' h' => by rw [et] at h'; cases h'), et]
              show (ct f' ((c :: (r ++ 32 :: m)).drop len) _ _).2 = _
              rw [← List.cons_append, drop_app_le _ _ _ (by simp only [List.length_cons]; omega)]
              exact h5 f' _ m (by simp only [List.length_append, List.length_drop, List.length_cons]; omega) he
end Go.Proofs.YtdfdnjkeiddfjabDoor
/-
  hearsaylaw04.TokensFront: the walk.
-/
namespace Go.Proofs.YtdfdnjkeiddfjabDoor
open Go.RowKit

theorem cutL_all (s : ByteArray) : cutL (blK s) (s.size : Int) = ct (s.size + 1) (blK s) 0 [] := by
  unfold cutL; rw [bl_len, if_neg (by omega)]
theorem run_eql_ft (e p e' p' : Int) (w : World) : (binOp .eql 32 (.agg #[.int .i64 e, .int .i64 p]) (.agg #[.int .i64 e', .int .i64 p'])).run Tryd.prog w = .ok (.bool (decide (e = e' ∧ p = p'))) w := by
  by_cases h1 : e = e'
  · by_cases h2 : p = p'
    · subst h1 h2; go_simp
    · subst h1; go_simp
  · go_simp
end Go.Proofs.YtdfdnjkeiddfjabDoor
/-
  There and back: numbers, runs (plain).
-/
namespace Go.Proofs.YtdfdnjkeiddfjabDoor

theorem pu_app : ∀ (l m : List UInt8) (acc : Nat), Lib.parseUint10 acc (l ++ m) = match Lib.parseUint10 acc l with
    | .ok a => Lib.parseUint10 a m
    | .«syntax» => .«syntax»
    | .range => .range
  | [], m, acc => rfl
  | c :: l, m, acc => by
    simp only [List.cons_append, Lib.parseUint10]
    split
    · split
      · rfl
      · split
        · rfl
        · exact pu_app l m _
    · rfl
theorem dig_toNat (d : Nat) (h : d < 10) : (UInt8.ofNat (48 + d)).toNat = 48 + d := by simp; omega
theorem pu_one (acc d : Nat) (hd : d < 10) (h : acc * 10 + d < 18446744073709551616) : Lib.parseUint10 acc [UInt8.ofNat (48 + d)] = .ok (acc * 10 + d) := by
  simp only [Lib.parseUint10]
  rw [dig_toNat d hd, if_pos (by omega), if_neg (by omega), if_neg (by omega)]
  congr 1; omega
theorem pu_dec (u : Nat) (hu : u < 18446744073709551616) : Lib.parseUint10 0 (Lib.decDigits u) = .ok u := by
  induction u using Nat.strongRecOn with
  | _ u ih =>
    rw [Lib.decDigits]
    by_cases h : u < 10
    · rw [dif_pos h, pu_one 0 u h (by omega)]; congr 1; omega
    · rw [dif_neg h, pu_app, ih (u / 10) (by omega) (by omega)]
      show Lib.parseUint10 (u / 10) [UInt8.ofNat (48 + u % 10)] = _
      rw [pu_one _ _ (by omega) (by omega)]; congr 1; omega
theorem dec_dig (u : Nat) : (∀ b ∈ Lib.decDigits u, 48 ≤ b.toNat ∧ b.toNat ≤ 57) ∧ ¬ Lib.decDigits u = [] := by
  induction u using Nat.strongRecOn with
  | _ u ih =>
    rw [Lib.decDigits]
    by_cases h : u < 10
    · rw [dif_pos h]
      refine ⟨fun b hb => ?_, by simp⟩
      simp only [List.mem_singleton] at hb
      rw [hb, dig_toNat u h]; omega
    · rw [dif_neg h]
      refine ⟨fun b hb => ?_, by simp⟩
      rcases List.mem_append.1 hb with hb | hb
      · exact (ih (u / 10) (by omega)).1 b hb
      · simp only [List.mem_singleton] at hb
        rw [hb, dig_toNat _ (by omega)]; omega
theorem atoi_itoa (n : Int) (h0 : -9223372036854775808 ≤ n) (h1 : n ≤ 9223372036854775807) : Lib.atoiAll (Lib.itoa n) = .ok n := by
  by_cases hn : n < 0
  · obtain ⟨u, rfl⟩ : ∃ u : Nat, n = -(u : Int) := ⟨n.natAbs, by omega⟩
    rw [Lib.itoa_neg u (by omega)]
    have hd := (dec_dig u).2
    have hm : Lib.parseMag (Lib.decDigits u) = .ok u := by unfold Lib.parseMag; rw [if_neg hd]; exact pu_dec u (by omega)
    have e45 : (45 : UInt8).toNat = 45 := rfl
    simp only [Lib.atoiAll, e45, or_true, if_true, hm, not_true, false_and, if_false, true_and]
    rw [if_neg (by omega)]
  · obtain ⟨u, rfl⟩ : ∃ u : Nat, n = (u : Int) := ⟨n.toNat, by omega⟩
    rw [Lib.itoa_nonneg u]
    have hm : Lib.parseMag (Lib.decDigits u) = .ok u := by unfold Lib.parseMag; rw [if_neg (dec_dig u).2]; exact pu_dec u (by omega)
    have hdg := (dec_dig u).1
    have hne := (dec_dig u).2
    cases e : Lib.decDigits u with
    | nil => exact absurd e hne
    | cons c r =>
      have hc := hdg c (by rw [e]; simp)
      rw [e] at hm
      have n1 : ¬ c.toNat = 43 := by omega
      have n2 : ¬ c.toNat = 45 := by omega
      simp only [Lib.atoiAll, n1, n2, or_self, if_false, hm, not_false_eq_true, true_and, false_and]
      rw [if_neg (by omega)]
theorem num_itB (n : Int) (h0 : -9223372036854775808 ≤ n) (h1 : n ≤ 9223372036854775807) : num (blK (itB n)) = some n := by
  unfold num
  have e : i2b (blK (itB n)) = Lib.itoa n := by rw [i2b_bl]; simp [itB]
  rw [e, atoi_itoa n h0 h1]
  exact if_pos rfl
theorem rl_all : ∀ (l y : List Int), (∀ x ∈ l, rnb x = true) → rl (l ++ y) = l.length + rl y
  | [], y, _ => by simp
  | c :: l, y, h => by
    rw [List.cons_append, rl_cons, if_pos (h c (by simp)), rl_all l y (fun x hx => h x (by simp [hx]))]
    simp only [List.length_cons]; omega
end Go.Proofs.YtdfdnjkeiddfjabDoor
/-
  There and back: a token's spelling is read as that token (plain).
-/
namespace Go.Proofs.YtdfdnjkeiddfjabDoor

theorem bl_itB_pos (u : Nat) : blK (itB (u : Int)) = (Lib.decDigits u).map fun b => (b.toNat : Int) := by
  unfold itB blK; rw [Lib.itoa_nonneg]
theorem bl_itB_neg (u : Nat) (h : 1 ≤ u) : blK (itB (-(u : Int))) = 45 :: (Lib.decDigits u).map fun b => (b.toNat : Int) := by
  unfold itB blK; rw [Lib.itoa_neg u h]; rfl
theorem dec_rnb (u : Nat) : ∀ x ∈ (Lib.decDigits u).map (fun b => (b.toNat : Int)), rnb x = true ∧ dig x = true := by
  intro x hx
  simp only [List.mem_map] at hx
  obtain ⟨b, hb, rfl⟩ := hx
  have := (dec_dig u).1 b hb
  have hd : dig (b.toNat : Int) = true := by simp only [dig, Bool.and_eq_true, decide_eq_true_eq]; omega
  exact ⟨by simp [rnb, hd], hd⟩
theorem sk_two (a b : Int) (ha : 0 ≤ a ∧ a ≤ 255) (hb : 0 ≤ b ∧ b ≤ 255) : sk (ofL [a, b]) = 0 ∨ (a = 58 ∧ b = 45) ∨ (a = 33 ∧ b = 61) ∨ (a = 60 ∧ b = 61) := by
  by_cases h : ∀ t ∈ signL, ¬ t = ofL [a, b]
  · exact Or.inl (skG_none _ _ _ h)
  · right
    simp only [Classical.not_forall, Decidable.not_not] at h
    obtain ⟨t, ht, e⟩ := h
    have e2 : blK t = [a, b] := by rw [e, bl_ofL (by intro x hx; simp at hx; omega)]
    have hl : (blK t).length = 2 := by rw [e2]; rfl
    simp only [signL, List.mem_cons, List.not_mem_nil, or_false] at ht
    rcases ht with rfl | rfl | rfl | rfl | rfl | rfl | rfl | rfl | rfl | rfl | rfl | rfl | rfl | rfl | rfl | rfl | rfl
    all_goals first
      | (exact absurd hl (by decide))
      | (have e3 : ([58, 45] : List Int) = [a, b] := e2; simp at e3; omega)
      | (have e3 : ([33, 61] : List Int) = [a, b] := e2; simp at e3; omega)
      | (have e3 : ([60, 61] : List Int) = [a, b] := e2; simp at e3; omega)
end Go.Proofs.YtdfdnjkeiddfjabDoor
