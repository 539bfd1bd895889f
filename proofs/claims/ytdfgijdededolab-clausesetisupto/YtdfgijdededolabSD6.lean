/-
  What Set keeps of a sorted list: plain.
-/
import Derived.Test.YtdfgijdededolabSD5
namespace Go.Proofs.Ytdfgijdededolab

abbrev ltC3 (a b : Ck) : Prop := cmpC a b < 0
theorem dkN_mem {l : List Cm} {k : Ck} : ∀ n, k ∈ dkN l n → ∃ i c, i < n ∧ l[i]? = some c ∧ c.key = k
  | 0, h => by simp [dkN] at h
  | n + 1, h => by
    unfold dkN at h
    rcases List.mem_append.1 h with h | h
    · obtain ⟨i, c, h1, h2⟩ := dkN_mem n h
      exact ⟨i, c, by omega, h2⟩
    · cases hc : l[n]? with
      | none => rw [hc] at h; simp at h
      | some c =>
        rw [hc] at h
        simp only at h
        split at h
        · rw [List.mem_singleton] at h; exact ⟨n, c, by omega, hc, h.symm⟩
        · simp at h
theorem dkN_has {l : List Cm} : ∀ n i c, i < n → l[i]? = some c → c.key ∈ dkN l n
  | 0, _, _, h, _ => by omega
  | n + 1, i, c, h, hc => by
    unfold dkN
    by_cases hi : i = n
    · subst hi
      rw [hc]
      simp only
      by_cases hk : kpt l i c = true
      · rw [if_pos hk]; simp
      · have hk' : kpt l i c = false := by simpa using hk
        rw [if_neg hk, List.append_nil]
        unfold kpt prv at hk'
        by_cases h0 : i = 0
        · rw [if_pos h0] at hk'; cases hk'
        · rw [if_neg h0] at hk'
          cases hp : l[i - 1]? with
          | none => rw [hp] at hk'; cases hk'
          | some p =>
            rw [hp] at hk'
            simp only [ne_eq, decide_not, Bool.not_eq_false', decide_eq_true_eq] at hk'
            rw [cmp_key] at hk'
            have := ord_c.zero _ _ hk'
            rw [← this]
            exact dkN_has i (i - 1) p (by omega) hp
    · exact List.mem_append.2 (Or.inl (dkN_has n i c (by omega) hc))
theorem dkN_rise {l : List Cm} (hs : srtC l) : ∀ n, (dkN l n).Pairwise ltC3
  | 0 => List.Pairwise.nil
  | n + 1 => by
    have ih := dkN_rise hs n
    cases hc : l[n]? with
    | none => unfold dkN; rw [hc]; simpa using ih
    | some c =>
      by_cases hk : kpt l n c = true
      · rw [dkN_yes hc hk]
        refine List.pairwise_append.2 ⟨ih, List.pairwise_singleton _ _, fun a ha b hb => ?_⟩
        rw [List.mem_singleton] at hb
        subst hb
        obtain ⟨i, x, hi, hx, rfl⟩ := dkN_mem n ha
        have hsr : ∀ i j (x y : Cm), i < j → l[i]? = some x → l[j]? = some y → cmpC x.key y.key ≤ 0 := fun i j x y hij hx hy => by
          obtain ⟨h1, rfl⟩ := List.getElem?_eq_some_iff.1 hx
          obtain ⟨h2, rfl⟩ := List.getElem?_eq_some_iff.1 hy
          exact List.pairwise_iff_getElem.1 hs i j h1 h2 hij
        unfold kpt prv at hk
        rw [if_neg (by omega)] at hk
        obtain ⟨p, hp⟩ : ∃ p, l[n - 1]? = some p := ⟨_, List.getElem?_eq_getElem (by have := (List.getElem?_eq_some_iff.1 hc).1; omega)⟩
        rw [hp] at hk
        simp only [ne_eq, decide_not, Bool.not_eq_true', decide_eq_false_iff_not] at hk
        rw [cmp_key] at hk
        have h1 := hsr (n - 1) n p c (by omega) hp hc
        have h2 : cmpC p.key c.key < 0 := by omega
        have h3 : cmpC x.key p.key ≤ 0 := by
          by_cases e : i = n - 1
          · subst e; rw [hx] at hp; cases hp; rw [ord_c.refl]; omega
          · exact hsr i (n - 1) x p (by omega) hx hp
        exact (ord_c.tr _ _ _ h3 h1).2 (Or.inr h2)
      · rw [dkN_no hc (by simpa using hk)]; exact ih
theorem rise_uniq : ∀ (a b : List Ck), a.Pairwise ltC3 → b.Pairwise ltC3 → (∀ k, k ∈ a ↔ k ∈ b) → a = b
  | [], [], _, _, _ => rfl
  | [], y :: b, _, _, h => absurd ((h y).2 (List.mem_cons_self ..)) (by simp)
  | x :: a, [], _, _, h => absurd ((h x).1 (List.mem_cons_self ..)) (by simp)
  | x :: a, y :: b, ha, hb, h => by
    obtain ⟨ha1, ha2⟩ := List.pairwise_cons.1 ha
    obtain ⟨hb1, hb2⟩ := List.pairwise_cons.1 hb
    have e : x = y := by
      rcases List.mem_cons.1 ((h x).1 (List.mem_cons_self ..)) with e | hx
      · exact e
      · rcases List.mem_cons.1 ((h y).2 (List.mem_cons_self ..)) with e | hy
        · exact e.symm
        · have h1 : cmpC y x < 0 := hb1 x hx
          have h2 : cmpC x y < 0 := ha1 y hy
          have := ord_c.neg x y
          omega
    subst e
    rw [rise_uniq a b ha2 hb2 fun k => ⟨fun hk => ?_, fun hk => ?_⟩]
    · rcases List.mem_cons.1 ((h k).1 (List.mem_cons_of_mem _ hk)) with e | hk'
      · have h1 : cmpC x k < 0 := ha1 k hk
        rw [e, ord_c.refl] at h1; omega
      · exact hk'
    · rcases List.mem_cons.1 ((h k).2 (List.mem_cons_of_mem _ hk)) with e | hk'
      · have h1 : cmpC x k < 0 := hb1 k hk
        rw [e, ord_c.refl] at h1; omega
      · exact hk'
/-- What Set's answer is: the keys of l, rising. -/
structure SetK (K : List Ck) (l : List Cm) : Prop where
  rise : K.Pairwise ltC3
  mem : ∀ k, k ∈ K ↔ ∃ c ∈ l, c.key = k
theorem SetK.of {l l' : List Cm} (hp : l'.Perm l) (hs : srtC l') : SetK (dkN l' l'.length) l :=
  ⟨dkN_rise hs _, fun k => ⟨fun h => by
      obtain ⟨i, c, -, hc, e⟩ := dkN_mem _ h
      exact ⟨c, hp.mem_iff.1 (List.mem_of_getElem? hc), e⟩, fun ⟨c, hc, e⟩ => by
      obtain ⟨i, hi, hc⟩ := List.mem_iff_getElem.1 (hp.mem_iff.2 hc)
      subst e
      exact dkN_has _ i c hi (by rw [List.getElem?_eq_getElem hi, hc])⟩⟩
theorem SetK.uniq {K K' : List Ck} {l l' : List Cm} (h : SetK K l) (h' : SetK K' l') (hm : ∀ c, c ∈ l ↔ c ∈ l') : K = K' :=
  rise_uniq K K' h.rise h'.rise fun k => by rw [h.mem, h'.mem]; exact ⟨fun ⟨c, hc, e⟩ => ⟨c, (hm c).1 hc, e⟩, fun ⟨c, hc, e⟩ => ⟨c, (hm c).2 hc, e⟩⟩
theorem SetK.step {o l : List Cm} (h : SetK (o.map Cm.key) l) {i : Nat} {a b : Cm} (ha : o[i]? = some a) (hb : o[i + 1]? = some b) : a.cmp b = -1 := by
  rw [cmp_key]
  have h1 : (o.map Cm.key)[i]? = some a.key := by rw [List.getElem?_map, ha]; rfl
  have h2 : (o.map Cm.key)[i + 1]? = some b.key := by rw [List.getElem?_map, hb]; rfl
  obtain ⟨l1, e1⟩ := List.getElem?_eq_some_iff.1 h1
  obtain ⟨l2, e2⟩ := List.getElem?_eq_some_iff.1 h2
  have : cmpC a.key b.key < 0 := by rw [← e1, ← e2]; exact List.pairwise_iff_getElem.1 h.rise i (i + 1) l1 l2 (by omega)
  have := ord_c.rng a.key b.key
  omega
/-- The list turned round, with each twice: so far. -/
def trn (l : List Cm) : Nat → List Cm
  | 0 => []
  | n + 1 => match l[n]? with | some c => c :: c :: trn l n | none => trn l n
end Go.Proofs.Ytdfgijdededolab
