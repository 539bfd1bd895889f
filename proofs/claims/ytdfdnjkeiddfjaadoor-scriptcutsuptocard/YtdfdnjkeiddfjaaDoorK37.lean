/-
  Every token that is cut has a spelling (plain).
-/
import Derived.Lib.AtoiAllCases
import Derived.Laws.AppendOwnNone
import Derived.Laws.AppendOwn
import Derived.Test.YtdfdnjkeiddfjaaDoorSC6
namespace Go.Proofs.YtdfdnjkeiddfjaaDoor

theorem run_rl : ∀ (l : List Int), ∀ x ∈ l.take (rl l), rnb x = true
  | [], x, hx => by simp at hx
  | c :: l, x, hx => by
    rw [rl_cons] at hx
    by_cases q : rnb c = true
    · rw [if_pos q, List.take_succ_cons] at hx
      rcases List.mem_cons.1 hx with rfl | hx
      · exact q
      · exact run_rl l x hx
    · rw [if_neg q] at hx; simp at hx
theorem ofL_cons_ne (c : Int) (l : List Int) : ¬ ofL (c :: l) = ⟨#[]⟩ := fun h => by
  have := ofL_size (c :: l)
  rw [h] at this
  have e : (⟨#[]⟩ : ByteArray).size = 0 := rfl
  rw [e] at this; simp at this
theorem at_ofL {c : Int} {l : List Int} (hb : byt (c :: l)) : atK_ (ofL (c :: l)) 0 = c := by
  have := bl_drop (s := ofL (c :: l)) (j := 0) (by rw [ofL_size]; simp)
  rw [List.drop_zero, bl_ofL hb] at this
  exact (List.cons.inj this).1.symm
theorem rne_ofL {c : Int} {l : List Int} (hb : byt (c :: l)) (h2 : ∀ x ∈ c :: l, rnb x = true) : rne (ofL (c :: l)) 0 = (ofL (c :: l)).size := by
  rw [rne_eq _ 0 (Nat.zero_le _), List.drop_zero, bl_ofL hb, Nat.zero_add, ofL_size]
  have := rl_all (c :: l) [] h2
  rw [List.append_nil] at this
  rw [this]; simp [rl]
theorem wrd_of {c : Int} {l : List Int} (hb : byt (c :: l)) (h1 : sml c = true) (h2 : ∀ x ∈ c :: l, rnb x = true) (h3 : ¬ ofL (c :: l) = saysB) : wrd (ofL (c :: l)) = true := by
  unfold wrd
  rw [at_ofL hb, rne_ofL hb h2]
  simp [h1, ofL_cons_ne, h3]
theorem vrb_of {c : Int} {l : List Int} (hb : byt (c :: l)) (h1 : grt c = true) (h2 : ∀ x ∈ c :: l, rnb x = true) : vrb (ofL (c :: l)) = true := by
  unfold vrb
  rw [at_ofL hb, rne_ofL hb h2]
  simp [h1, ofL_cons_ne]
theorem qd_text : ∀ (f : Nat) (r : List Int) (off : Nat) (acc : List Int) (k : Int) (x : List Int) (n : Int) (len : Nat), qd f r off acc = .ok k x n len → k = 3 ∧ n = 0 ∧ x.length + off + 1 ≤ len + acc.length
  | 0, _, _, _, _, _, _, _, h => by cases h
  | _ + 1, [], _, _, _, _, _, _, h => by cases h
  | f + 1, c :: r, off, acc, k, x, n, len, h => by
    rw [qd_cons] at h
    by_cases q1 : c = 34
    · rw [if_pos q1] at h
      cases h
      exact ⟨rfl, rfl, by omega⟩
    · rw [if_neg q1] at h
      by_cases q2 : c = 92
      · rw [if_pos q2] at h
        cases ee : esc r with
        | none => rw [ee] at h; cases h
        | some bk =>
          obtain ⟨b, m⟩ := bk
          rw [ee] at h
          have ih := qd_text f _ _ _ _ _ _ _ h
          simp only [List.length_append, List.length_cons, List.length_nil] at ih
          exact ⟨ih.1, ih.2.1, by omega⟩
      · rw [if_neg q2] at h
        by_cases q3 : c < 32 ∨ c = 127
        · rw [if_pos q3] at h; cases h
        · rw [if_neg q3] at h
          have ih := qd_text f _ _ _ _ _ _ _ h
          simp only [List.length_append, List.length_cons, List.length_nil] at ih
          exact ⟨ih.1, ih.2.1, by omega⟩
theorem skG_at (x : ByteArray) : ∀ (l : List ByteArray) (i : Nat), ¬ skG i l x = 0 → ∃ m, skG i l x = i + m ∧ l[m]? = some x
  | [], i, h => absurd rfl h
  | t :: r, i, h => by
    unfold skG at h ⊢
    by_cases q : t = x
    · rw [if_pos q]; exact ⟨0, rfl, by simp [q]⟩
    · rw [if_neg q] at h ⊢
      obtain ⟨m, hm, hx⟩ := skG_at x r (i + 1) h
      exact ⟨m + 1, by omega, by simpa using hx⟩
theorem sgo_sk {x : ByteArray} (h : ¬ sk x = 0) : sgo (sk x : Nat) = x := by
  obtain ⟨m, hm, hx⟩ := skG_at x signL 0 h
  have e : sk x = m := by unfold sk; omega
  unfold sgo
  rw [if_pos (by omega), e, Int.toNat_natCast, hx]; rfl
theorem sgF_text (l : List Int) : ∀ (m : Nat) (k : Int) (x : List Int) (n : Int) (len : Nat), m ≤ l.length → sgF l m = .ok k x n len → x = [] ∧ n = 0 ∧ sgo k = ofL (l.take len) ∧ 1 ≤ len ∧ len ≤ l.length ∧ ¬ (k = 0)
  | 0, _, _, _, _, _, h => by cases h
  | m + 1, k, x, n, len, hm, h => by
    by_cases q : sk (ofL (l.take (m + 1))) = 0
    · rw [sgF_no q] at h
      exact sgF_text l m k x n len (by omega) h
    · rw [sgF_yes q] at h
      cases h
      exact ⟨rfl, rfl, sgo_sk q, by omega, hm, by omega⟩
/-- What is cut has a spelling. -/
theorem tok_has {c : Int} {r : List Int} {k : Int} {x : List Int} {n : Int} {len : Nat} (h : tok (c :: r) = .ok k x n len) (hb : byt (c :: r)) (a e : Int) :
    ∃ s, spl ⟨k, ofL x, n, a, e⟩ = some s ∧ s.size ≤ 4 * len ∧ x.length ≤ len ∧ -9223372036854775808 ≤ n ∧ n ≤ 9223372036854775807 := by
  have hrl := rl_le (c :: r)
  have htk : ∀ m, byt ((c :: r).take m) := fun m y hy => hb y (List.mem_of_mem_take hy)
  have hrun := run_rl (c :: r)
  have hlen : ((c :: r).take (rl (c :: r))).length = rl (c :: r) := by rw [List.length_take]; omega
  have numc : ∀ m, m ≤ (c :: r).length → numt m (c :: r) = .ok k x n len → ∃ s, spl ⟨k, ofL x, n, a, e⟩ = some s ∧ s.size ≤ 4 * len ∧ x.length ≤ len ∧ -9223372036854775808 ≤ n ∧ n ≤ 9223372036854775807 := by
    intro m hm h
    unfold numt at h
    cases en : num ((c :: r).take m) with
    | none => rw [en] at h; cases h
    | some v =>
      rw [en] at h
      cases h
      unfold num at en
      cases ea : Lib.atoiAll (i2b ((c :: r).take len)) with
      | ok u =>
        rw [ea] at en
        simp only at en
        by_cases q : Lib.itoa u = i2b ((c :: r).take len)
        · rw [if_pos q] at en
          cases en
          have hbd := Lib.atoiAll_bounds ea
          refine ⟨itB n, rfl, ?_, Nat.zero_le _, hbd.1, hbd.2⟩
          have e1 : (itB n).size = (Lib.itoa n).length := by show (Lib.itoa n).toArray.size = _; simp
          rw [e1, q]
          simp only [i2b, List.length_map, List.length_take]; omega
        · rw [if_neg q] at en; cases en
      | «syntax» => rw [ea] at en; cases en
      | range => rw [ea] at en; cases en
  cases h1 : sml c with
  | true =>
    rw [tok_small h1] at h
    have hp := rl_pos (c := c) (r := r) (by simp [rnb, h1])
    by_cases q : ofL ((c :: r).take (rl (c :: r))) = saysB
    · rw [if_pos q] at h
      cases h
      refine ⟨saysB, rfl, ?_, Nat.zero_le _, by decide, by decide⟩
      rw [← q, ofL_size, hlen]; omega
    · rw [if_neg q] at h
      cases h
      have ht : (c :: r).take (rl (c :: r)) = c :: r.take (rl r) := by rw [hp, List.take_succ_cons]
      refine ⟨ofL ((c :: r).take (rl (c :: r))), ?_, by rw [ofL_size, hlen]; omega, by omega, by decide, by decide⟩
      have hw : wrd (ofL ((c :: r).take (rl (c :: r)))) = true := by
        have hb' := htk (rl (c :: r))
        rw [ht] at hb' hrun q ⊢
        exact wrd_of hb' h1 hrun q
      unfold spl
      rw [if_pos rfl, if_pos ⟨hw, rfl⟩]
  | false =>
    cases h2 : grt c with
    | true =>
      rw [tok_great h1 h2] at h
      have hp := rl_pos (c := c) (r := r) (by simp [rnb, h1, h2])
      cases h
      have ht : (c :: r).take (rl (c :: r)) = c :: r.take (rl r) := by rw [hp, List.take_succ_cons]
      refine ⟨ofL ((c :: r).take (rl (c :: r))), ?_, by rw [ofL_size, hlen]; omega, by omega, by decide, by decide⟩
      have hw : vrb (ofL ((c :: r).take (rl (c :: r)))) = true := by
        have hb' := htk (rl (c :: r))
        rw [ht] at hb' hrun ⊢
        exact vrb_of hb' h2 hrun
      unfold spl
      rw [if_neg (show ¬ (2 : Int) = 1 by decide), if_pos rfl, if_pos ⟨hw, rfl⟩]
    | false =>
      by_cases m : c = 45
      · rw [tok_minus h1 h2 m] at h
        exact numc _ (by have := rl_le r; simp only [List.length_cons]; omega) h
      · cases d : dig c with
        | true =>
          rw [tok_dig h1 h2 m d] at h
          exact numc _ hrl h
        | false =>
          by_cases q : c = 34
          · rw [tok_quote h1 h2 m d q] at h
            obtain ⟨rfl, rfl, hl⟩ := qd_text _ _ _ _ _ _ _ _ h
            simp only [List.length_nil] at hl
            refine ⟨qtB (ofL x), rfl, ?_, by omega, by decide, by decide⟩
            have hq := qtl_len (ofL x) (ofL x).size
            have e : (qtB (ofL x)).size = (qtl (ofL x) (ofL x).size).length + 1 := by show (i2b (qtl (ofL x) (ofL x).size ++ [34])).toArray.size = _; simp [i2b]
            rw [ofL_size] at hq e
            omega
          · rw [tok_sign h1 h2 m d q] at h
            unfold sgt at h
            obtain ⟨rfl, rfl, hs, hl1, hl2, hk⟩ := sgF_text _ _ _ _ _ _ (Nat.min_le_right _ _) h
            have hne : ¬ sgo k = ⟨#[]⟩ := by
              rw [hs]
              obtain ⟨z, rfl⟩ : ∃ z, len = z + 1 := ⟨len - 1, by omega⟩
              rw [List.take_succ_cons]; exact ofL_cons_ne _ _
            have hr := sgo_rng hne
            refine ⟨sgo k, ?_, ?_, Nat.zero_le _, by decide, by decide⟩
            · unfold spl
              rw [if_neg (by simp only; omega), if_neg (by simp only; omega), if_neg (by simp only; omega), if_neg (by simp only; omega), if_pos ⟨hne, rfl, rfl⟩]
            · rw [hs, ofL_size, List.length_take]; omega
def spz (t : Tk) : Nat := ((spl t).getD ⟨#[]⟩).size + 1
/-- All tokens of a text have spellings. -/
theorem ct_has : ∀ (f : Nat) (l : List Int) (off : Nat) (acc : List Tk) (B : Nat), byt l → l.length ≤ B → (∀ t ∈ acc, (spl t).isSome = true ∧ t.x.size ≤ B ∧ -9223372036854775808 ≤ t.n ∧ t.n ≤ 9223372036854775807) →
    (∀ t ∈ (ct f l off acc).1, (spl t).isSome = true ∧ t.x.size ≤ B ∧ -9223372036854775808 ≤ t.n ∧ t.n ≤ 9223372036854775807) ∧ ((ct f l off acc).1.map spz).sum ≤ (acc.map spz).sum + 5 * l.length ∧ wts (ct f l off acc).1 ≤ wts acc + 36 * l.length ∧ (ct f l off acc).1.length ≤ acc.length + l.length
  | 0, l, off, acc, B, _, _, ha => ⟨ha, by show (acc.map spz).sum ≤ _; omega, by show wts acc ≤ _; omega, by show acc.length ≤ _; omega⟩
  | f + 1, [], off, acc, B, _, _, ha => ⟨ha, by show (acc.map spz).sum ≤ _; omega, by show wts acc ≤ _; omega, by show acc.length ≤ _; omega⟩
  | f + 1, c :: r, off, acc, B, hb, hl, ha => by
    rw [ct_cons]
    have hbr : byt r := fun x hx => hb x (by simp [hx])
    simp only [List.length_cons] at hl ⊢
    by_cases q1 : c = 32 ∨ c = 9 ∨ c = 10 ∨ c = 13
    · rw [if_pos q1]
      obtain ⟨h1, h2, h3, h4⟩ := ct_has f r (off + 1) acc B hbr (by omega) ha
      exact ⟨h1, by omega, by omega, by omega⟩
    · rw [if_neg q1]
      by_cases q2 : c = 37
      · rw [if_pos q2]
        obtain ⟨h1, h2, h3, h4⟩ := ct_has f ((c :: r).drop (le_ (c :: r))) (off + le_ (c :: r)) acc B (fun x hx => hb x (List.mem_of_mem_drop hx)) (by rw [List.length_drop]; simp only [List.length_cons]; omega) ha
        rw [List.length_drop, List.length_cons] at h2 h3 h4
        exact ⟨h1, by omega, by omega, by omega⟩
      · rw [if_neg q2]
        cases et : tok (c :: r) with
        | bad e o => exact ⟨fun t ht => by simp at ht, by show (0 : Nat) ≤ _; omega, by show (0 : Nat) ≤ _; omega, by show (0 : Nat) ≤ _; omega⟩
        | ok k x n len =>
          simp only
          obtain ⟨s, hs, hsz, hxl, hn0, hn1⟩ := tok_has et hb (off : Int) ((off + len : Nat) : Int)
          have hln := (tok_len c r).1 k x n len et
          obtain ⟨h1, h2, h3, h4⟩ := ct_has f ((c :: r).drop len) (off + len) (acc ++ [⟨k, ofL x, n, off, (off + len : Nat)⟩]) B (fun x hx => hb x (List.mem_of_mem_drop hx)) (by rw [List.length_drop]; simp only [List.length_cons]; omega) (fun t ht => by
            rcases List.mem_append.1 ht with ht | ht
            · exact ha t ht
            · simp only [List.mem_singleton] at ht
              subst ht
              exact ⟨by rw [hs]; rfl, by simp only [ofL_size]; omega, hn0, hn1⟩)
          rw [List.length_drop, List.length_cons] at h2 h3 h4
          have e1 : spz ⟨k, ofL x, n, off, (off + len : Nat)⟩ = s.size + 1 := by unfold spz; rw [hs]; rfl
          have e2 : wt ⟨k, ofL x, n, off, (off + len : Nat)⟩ = 4 * x.length + 32 := by unfold wt; simp only [ofL_size]
          simp only [wts, List.map_append, List.map_cons, List.map_nil, List.sum_append, List.sum_cons, List.sum_nil, List.length_append, List.length_cons, List.length_nil, e1, e2] at h2 h3 h4 ⊢
          exact ⟨h1, by omega, by omega, by omega⟩
/-- Cutting ends with a fault and no token, or with tokens and none. -/
theorem ct_ends : ∀ (f : Nat) (l : List Int) (off : Nat) (acc : List Tk), (∃ e p, ct f l off acc = ([], e, p) ∧ ¬ e = 0) ∨ ∃ T, ct f l off acc = (T, 0, 0)
  | 0, _, _, acc => Or.inr ⟨acc, rfl⟩
  | _ + 1, [], _, acc => Or.inr ⟨acc, rfl⟩
  | f + 1, c :: r, off, acc => by
    rw [ct_cons]
    by_cases q1 : c = 32 ∨ c = 9 ∨ c = 10 ∨ c = 13
    · rw [if_pos q1]; exact ct_ends f _ _ _
    · rw [if_neg q1]
      by_cases q2 : c = 37
      · rw [if_pos q2]; exact ct_ends f _ _ _
      · rw [if_neg q2]
        cases et : tok (c :: r) with
        | bad e o => exact Or.inl ⟨e, _, rfl, (tok_len c r).2 e o et⟩
        | ok k x n len => exact ct_ends f _ _ _
end Go.Proofs.YtdfdnjkeiddfjaaDoor
