import Derived.Test.YtdfdnjkeiddfjaaDoorK24
import Derived.Test.YtdfdnjkeiddfjaaDoorK13
import Derived.Lib.ItoaMem
/-
  There and back: numbers, runs (plain).
-/
namespace Go.Proofs.YtdfdnjkeiddfjaaDoor

theorem pu_app : ∀ (l m : List UInt8) (acc : Nat), Lib.parseUint10 acc (l ++ m) = match Lib.parseUint10 acc l with
    | .ok a => Lib.parseUint10 a m
    | .«syntax» => .«syntax»
    | .range => .range
  | [], m, acc => rfl
  | c :: l, m, acc => by
    simp only [List.cons_append, Lib.parseUint10]
    split
    · split
      · rfl
      · split
        · rfl
        · exact pu_app l m _
    · rfl
theorem dig_toNat (d : Nat) (h : d < 10) : (UInt8.ofNat (48 + d)).toNat = 48 + d := by simp; omega
theorem pu_one (acc d : Nat) (hd : d < 10) (h : acc * 10 + d < 18446744073709551616) : Lib.parseUint10 acc [UInt8.ofNat (48 + d)] = .ok (acc * 10 + d) := by
  simp only [Lib.parseUint10]
  rw [dig_toNat d hd, if_pos (by omega), if_neg (by omega), if_neg (by omega)]
  congr 1; omega
theorem pu_dec (u : Nat) (hu : u < 18446744073709551616) : Lib.parseUint10 0 (Lib.decDigits u) = .ok u := by
  induction u using Nat.strongRecOn with
  | _ u ih =>
    rw [Lib.decDigits]
    by_cases h : u < 10
    · rw [dif_pos h, pu_one 0 u h (by omega)]; congr 1; omega
    · rw [dif_neg h, pu_app, ih (u / 10) (by omega) (by omega)]
      show Lib.parseUint10 (u / 10) [UInt8.ofNat (48 + u % 10)] = _
      rw [pu_one _ _ (by omega) (by omega)]; congr 1; omega
theorem dec_dig (u : Nat) : (∀ b ∈ Lib.decDigits u, 48 ≤ b.toNat ∧ b.toNat ≤ 57) ∧ ¬ Lib.decDigits u = [] := by
  induction u using Nat.strongRecOn with
  | _ u ih =>
    rw [Lib.decDigits]
    by_cases h : u < 10
    · rw [dif_pos h]
      refine ⟨fun b hb => ?_, by simp⟩
      simp only [List.mem_singleton] at hb
      rw [hb, dig_toNat u h]; omega
    · rw [dif_neg h]
      refine ⟨fun b hb => ?_, by simp⟩
      rcases List.mem_append.1 hb with hb | hb
      · exact (ih (u / 10) (by omega)).1 b hb
      · simp only [List.mem_singleton] at hb
        rw [hb, dig_toNat _ (by omega)]; omega
theorem atoi_itoa (n : Int) (h0 : -9223372036854775808 ≤ n) (h1 : n ≤ 9223372036854775807) : Lib.atoiAll (Lib.itoa n) = .ok n := by
  by_cases hn : n < 0
  · obtain ⟨u, rfl⟩ : ∃ u : Nat, n = -(u : Int) := ⟨n.natAbs, by omega⟩
    rw [Lib.itoa_neg u (by omega)]
    have hd := (dec_dig u).2
    have hm : Lib.parseMag (Lib.decDigits u) = .ok u := by unfold Lib.parseMag; rw [if_neg hd]; exact pu_dec u (by omega)
    have e45 : (45 : UInt8).toNat = 45 := rfl
    simp only [Lib.atoiAll, e45, or_true, if_true, hm, not_true, false_and, if_false, true_and]
    rw [if_neg (by omega)]
  · obtain ⟨u, rfl⟩ : ∃ u : Nat, n = (u : Int) := ⟨n.toNat, by omega⟩
    rw [Lib.itoa_nonneg u]
    have hm : Lib.parseMag (Lib.decDigits u) = .ok u := by unfold Lib.parseMag; rw [if_neg (dec_dig u).2]; exact pu_dec u (by omega)
    have hdg := (dec_dig u).1
    have hne := (dec_dig u).2
    cases e : Lib.decDigits u with
    | nil => exact absurd e hne
    | cons c r =>
      have hc := hdg c (by rw [e]; simp)
      rw [e] at hm
      have n1 : ¬ c.toNat = 43 := by omega
      have n2 : ¬ c.toNat = 45 := by omega
      simp only [Lib.atoiAll, n1, n2, or_self, if_false, hm, not_false_eq_true, true_and, false_and]
      rw [if_neg (by omega)]
theorem num_itB (n : Int) (h0 : -9223372036854775808 ≤ n) (h1 : n ≤ 9223372036854775807) : num (blK (itB n)) = some n := by
  unfold num
  have e : i2b (blK (itB n)) = Lib.itoa n := by rw [i2b_bl]; simp [itB]
  rw [e, atoi_itoa n h0 h1]
  exact if_pos rfl
theorem rl_all : ∀ (l y : List Int), (∀ x ∈ l, rnb x = true) → rl (l ++ y) = l.length + rl y
  | [], y, _ => by simp
  | c :: l, y, h => by
    rw [List.cons_append, rl_cons, if_pos (h c (by simp)), rl_all l y (fun x hx => h x (by simp [hx]))]
    simp only [List.length_cons]; omega
theorem rl_full : ∀ (l : List Int), rl l = l.length → ∀ x ∈ l, rnb x = true
  | [], _, x, hx => by simp at hx
  | c :: l, h, x, hx => by
    rw [rl_cons] at h
    by_cases q : rnb c = true
    · rw [if_pos q] at h
      simp only [List.length_cons] at h
      rcases List.mem_cons.1 hx with rfl | hx
      · exact q
      · exact rl_full l (by omega) x hx
    · rw [if_neg q] at h; simp at h
theorem wrd_run {x : ByteArray} (h : wrd x = true) : ∃ c r, blK x = c :: r ∧ sml c = true ∧ (∀ z ∈ blK x, rnb z = true) ∧ ¬ x = saysB := by
  unfold wrd at h
  simp only [Bool.and_eq_true, Bool.not_eq_true', decide_eq_false_iff_not, decide_eq_true_eq] at h
  obtain ⟨h1, h2, h3, h4⟩ := h
  have hp := size_posK h1
  have e := bl_drop hp
  rw [List.drop_zero] at e
  refine ⟨_, _, e, h2, ?_, h4⟩
  rw [rne_eq x 0 (Nat.zero_le _), List.drop_zero, Nat.zero_add, ← bl_len] at h3
  exact rl_full _ h3
theorem vrb_run {x : ByteArray} (h : vrb x = true) : ∃ c r, blK x = c :: r ∧ grt c = true ∧ (∀ z ∈ blK x, rnb z = true) := by
  unfold vrb at h
  simp only [Bool.and_eq_true, Bool.not_eq_true', decide_eq_false_iff_not, decide_eq_true_eq] at h
  obtain ⟨h1, h2, h3⟩ := h
  have hp := size_posK h1
  have e := bl_drop hp
  rw [List.drop_zero] at e
  refine ⟨_, _, e, h2, ?_⟩
  rw [rne_eq x 0 (Nat.zero_le _), List.drop_zero, Nat.zero_add, ← bl_len] at h3
  exact rl_full _ h3
/-- A word, with what doesn't go on with it, is read as that word. -/
theorem tok_word {x : ByteArray} {y : List Int} (h : wrd x = true) (hy : rl y = 0) : tok (blK x ++ y) = .ok 1 (blK x) 0 x.size := by
  obtain ⟨c, r, e, h1, h2, h3⟩ := wrd_run h
  have hr : rl (blK x ++ y) = x.size := by rw [rl_all _ _ h2, hy, bl_len]; rfl
  have ht : (blK x ++ y).take x.size = blK x := by rw [← bl_len]; exact List.take_left
  rw [e] at hr ht ⊢
  rw [List.cons_append] at hr ht ⊢
  rw [tok_small h1, hr, ht, ← e, ofL_bl, if_neg h3]
theorem tok_var {x : ByteArray} {y : List Int} (h : vrb x = true) (hy : rl y = 0) : tok (blK x ++ y) = .ok 2 (blK x) 0 x.size := by
  obtain ⟨c, r, e, h1, h2⟩ := vrb_run h
  have hr : rl (blK x ++ y) = x.size := by rw [rl_all _ _ h2, hy, bl_len]; rfl
  have ht : (blK x ++ y).take x.size = blK x := by rw [← bl_len]; exact List.take_left
  have hs : sml c = false := by
    simp only [grt, Bool.or_eq_true, Bool.and_eq_true, decide_eq_true_eq] at h1
    simp only [sml, Bool.and_eq_false_iff, decide_eq_false_iff_not]; omega
  rw [e] at hr ht ⊢
  rw [List.cons_append] at hr ht ⊢
  rw [tok_great hs h1, hr, ht, ← e]
theorem tok_quoted (K : Nat → Int) (s : ByteArray) (y : List Int) : tok (34 :: (rpl K 0 (blK s) ++ [34]) ++ y) = .ok 3 (blK s) 0 ((rpl K 0 (blK s)).length + 2) := by
  have hl := (rpl_len K (blK s) 0).1
  rw [List.cons_append, tok_quote (by decide) (by decide) (by decide) (by decide) rfl]
  refine qd_ok (rpl K 0 (blK s) ++ [34]).length.succ (rpl K 0 (blK s) ++ [34]) 1 [] 3 (blK s) 0 ((rpl K 0 (blK s)).length + 2) ?_ _ _ (by simp) ?_
  · rw [qd_rpl K (blK s) 0 _ 1 [] (by simp only [List.length_append, List.length_cons, List.length_nil]; omega) (bl_byt s), List.nil_append]; congr 1; omega
  · exact take_app_le _ _ _ (by simp only [List.length_append, List.length_cons, List.length_nil]; omega)
end Go.Proofs.YtdfdnjkeiddfjaaDoor
/-
  There and back: a token's spelling is read as that token (plain).
-/
namespace Go.Proofs.YtdfdnjkeiddfjaaDoor

theorem bl_itB_pos (u : Nat) : blK (itB (u : Int)) = (Lib.decDigits u).map fun b => (b.toNat : Int) := by
  unfold itB blK; rw [Lib.itoa_nonneg]
theorem bl_itB_neg (u : Nat) (h : 1 ≤ u) : blK (itB (-(u : Int))) = 45 :: (Lib.decDigits u).map fun b => (b.toNat : Int) := by
  unfold itB blK; rw [Lib.itoa_neg u h]; rfl
theorem dec_rnb (u : Nat) : ∀ x ∈ (Lib.decDigits u).map (fun b => (b.toNat : Int)), rnb x = true ∧ dig x = true := by
  intro x hx
  simp only [List.mem_map] at hx
  obtain ⟨b, hb, rfl⟩ := hx
  have := (dec_dig u).1 b hb
  have hd : dig (b.toNat : Int) = true := by simp only [dig, Bool.and_eq_true, decide_eq_true_eq]; omega
  exact ⟨by simp [rnb, hd], hd⟩
theorem dig_not {c : Int} (h : dig c = true) : sml c = false ∧ grt c = false ∧ ¬ c = 45 := by
  simp only [dig, Bool.and_eq_true, decide_eq_true_eq] at h
  refine ⟨?_, ?_, by omega⟩
  · simp only [sml, Bool.and_eq_false_iff, decide_eq_false_iff_not]; omega
  · simp only [grt, Bool.or_eq_false_iff, Bool.and_eq_false_iff, decide_eq_false_iff_not]; omega
theorem tok_num {n : Int} {y : List Int} (h0 : -9223372036854775808 ≤ n) (h1 : n ≤ 9223372036854775807) (hy : rl y = 0) : tok (blK (itB n) ++ y) = .ok 4 [] n (itB n).size := by
  have hnum := num_itB n h0 h1
  have hlen : (blK (itB n)).length = (itB n).size := bl_len _
  have ht : (blK (itB n) ++ y).take (itB n).size = blK (itB n) := by rw [← hlen]; exact List.take_left
  by_cases hn : n < 0
  · obtain ⟨u, rfl⟩ : ∃ u : Nat, n = -(u : Int) := ⟨n.natAbs, by omega⟩
    have e := bl_itB_neg u (by omega)
    have hrl := rl_all ((Lib.decDigits u).map fun b => (b.toNat : Int)) y (fun x hx => (dec_rnb u x hx).1)
    rw [e] at hlen ht hnum ⊢
    simp only [List.length_cons] at hlen
    rw [List.cons_append] at ht ⊢
    rw [tok_minus (by decide) (by decide) rfl, hrl, hy, Nat.add_zero, show 1 + ((Lib.decDigits u).map fun b => (b.toNat : Int)).length = (itB (-(u : Int))).size by omega]
    exact numt_some (by rw [ht]; exact hnum)
  · obtain ⟨u, rfl⟩ : ∃ u : Nat, n = (u : Int) := ⟨n.toNat, by omega⟩
    have e := bl_itB_pos u
    have hall := dec_rnb u
    have hrl := rl_all ((Lib.decDigits u).map fun b => (b.toNat : Int)) y (fun x hx => (hall x hx).1)
    rw [← e] at hrl hall
    have hne : ¬ blK (itB (u : Int)) = [] := by rw [e]; simpa using (dec_dig u).2
    cases ec : blK (itB (u : Int)) with
    | nil => exact absurd ec hne
    | cons c r =>
      have hc := (hall c (by rw [ec]; simp)).2
      obtain ⟨d1, d2, d3⟩ := dig_not hc
      rw [ec] at hlen ht hnum hrl
      rw [List.cons_append] at ht hrl ⊢
      rw [tok_dig d1 d2 d3 hc, hrl, hy, Nat.add_zero, hlen]
      exact numt_some (by rw [ht]; exact hnum)
theorem sk_two (a b : Int) (ha : 0 ≤ a ∧ a ≤ 255) (hb : 0 ≤ b ∧ b ≤ 255) : sk (ofL [a, b]) = 0 ∨ (a = 58 ∧ b = 45) ∨ (a = 33 ∧ b = 61) ∨ (a = 60 ∧ b = 61) := by
  by_cases h : ∀ t ∈ signL, ¬ t = ofL [a, b]
  · exact Or.inl (skG_none _ _ _ h)
  · right
    simp only [Classical.not_forall, Decidable.not_not] at h
    obtain ⟨t, ht, e⟩ := h
    have e2 : blK t = [a, b] := by rw [e, bl_ofL (by intro x hx; simp at hx; omega)]
    have hl : (blK t).length = 2 := by rw [e2]; rfl
    simp only [signL, List.mem_cons, List.not_mem_nil, or_false] at ht
    rcases ht with rfl | rfl | rfl | rfl | rfl | rfl | rfl | rfl | rfl | rfl | rfl | rfl | rfl | rfl | rfl | rfl | rfl
    all_goals first
      | (exact absurd hl (by decide))
      | (have e3 : ([58, 45] : List Int) = [a, b] := e2; simp at e3; omega)
      | (have e3 : ([33, 61] : List Int) = [a, b] := e2; simp at e3; omega)
      | (have e3 : ([60, 61] : List Int) = [a, b] := e2; simp at e3; omega)
/-- A sign of one byte. -/
theorem tok_one {a : Int} {k : Nat} {y : List Int} (ha : 0 ≤ a ∧ a ≤ 255) (h1 : sml a = false) (h2 : grt a = false) (h3 : ¬ a = 45) (h4 : dig a = false) (h5 : ¬ a = 34) (hk : sk (ofL [a]) = k) (hk0 : ¬ k = 0)
    (hy : byt y) (hn : ∀ d r, y = d :: r → ¬ ((a = 58 ∧ d = 45) ∨ (a = 33 ∧ d = 61) ∨ (a = 60 ∧ d = 61))) : tok ([a] ++ y) = .ok (k : Int) [] 0 1 := by
  rw [List.singleton_append, tok_sign h1 h2 h3 h4 h5]
  unfold sgt
  have hone : sgF (a :: y) 1 = .ok (k : Int) [] 0 1 := by
    have e : ofL ((a :: y).take (0 + 1)) = ofL [a] := rfl
    rw [sgF_yes (m := 0) (by rw [e, hk]; exact hk0), e, hk]
  cases y with
  | nil => exact hone
  | cons d r =>
    have e : min 2 (a :: d :: r).length = 2 := by simp
    have hz : sk (ofL ((a :: d :: r).take (1 + 1))) = 0 := by
      rcases sk_two a d ha (hy d (by simp)) with h | h
      · exact h
      · exact absurd h (hn d r rfl)
    rw [e, sgF_no hz]; exact hone
theorem tok_two {a b : Int} {k : Nat} {y : List Int} (h1 : sml a = false) (h2 : grt a = false) (h3 : ¬ a = 45) (h4 : dig a = false) (h5 : ¬ a = 34) (hk : sk (ofL [a, b]) = k) (hk0 : ¬ k = 0) : tok ([a, b] ++ y) = .ok (k : Int) [] 0 2 := by
  show tok (a :: b :: y) = _
  rw [tok_sign h1 h2 h3 h4 h5]
  unfold sgt
  have e : min 2 (a :: b :: y).length = 2 := by simp
  have e2 : ofL ((a :: b :: y).take (1 + 1)) = ofL [a, b] := rfl
  rw [e, sgF_yes (m := 1) (by rw [e2, hk]; exact hk0), e2, hk]
end Go.Proofs.YtdfdnjkeiddfjaaDoor
