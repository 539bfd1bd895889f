import Derived.Test.YtelcoihmiglceaaGreatSD4
import Derived.Test.YtelcoihmiglceaaGreatCL27
import Derived.Test.YtelcoihmiglceaaGreatCL7
/-
  What Set keeps of a sorted list: plain.
-/
namespace Go.Proofs.YtelcoihmiglceaaGreat

abbrev ltC3 (a b : Ck) : Prop := cmpC a b < 0
theorem dkN_mem {l : List Cm} {k : Ck} : ∀ n, k ∈ dkN l n → ∃ i c, i < n ∧ l[i]? = some c ∧ c.key = k
  | 0, h => by simp [dkN] at h
  | n + 1, h => by
    unfold dkN at h
    rcases List.mem_append.1 h with h | h
    · obtain ⟨i, c, h1, h2⟩ := dkN_mem n h
      exact ⟨i, c, by omega, h2⟩
    · cases hc : l[n]? with
      | none => rw [hc] at h; simp at h
      | some c =>
        rw [hc] at h
        simp only at h
        split at h
        · rw [List.mem_singleton] at h; exact ⟨n, c, by omega, hc, h.symm⟩
        · simp at h
theorem dkN_has {l : List Cm} : ∀ n i c, i < n → l[i]? = some c → c.key ∈ dkN l n
  | 0, _, _, h, _ => by omega
  | n + 1, i, c, h, hc => by
    unfold dkN
    by_cases hi : i = n
    · subst hi
      rw [hc]
      simp only
      by_cases hk : kpt l i c = true
      · rw [if_pos hk]; simp
      · have hk' : kpt l i c = false := by simpa using hk
        rw [if_neg hk, List.append_nil]
        unfold kpt prv at hk'
        by_cases h0 : i = 0
        · rw [if_pos h0] at hk'; cases hk'
        · rw [if_neg h0] at hk'
          cases hp : l[i - 1]? with
          | none => rw [hp] at hk'; cases hk'
          | some p =>
            rw [hp] at hk'
            simp only [ne_eq, decide_not, Bool.not_eq_false', decide_eq_true_eq] at hk'
            rw [cmp_key] at hk'
            have := ord_c.zero _ _ hk'
            rw [← this]
            exact dkN_has i (i - 1) p (by omega) hp
    · exact List.mem_append.2 (Or.inl (dkN_has n i c (by omega) hc))
theorem dkN_rise {l : List Cm} (hs : srtC l) : ∀ n, (dkN l n).Pairwise ltC3
  | 0 => List.Pairwise.nil
  | n + 1 => by
    have ih := dkN_rise hs n
    cases hc : l[n]? with
    | none => unfold dkN; rw [hc]; simpa using ih
    | some c =>
      by_cases hk : kpt l n c = true
      · rw [dkN_yes hc hk]
        refine List.pairwise_append.2 ⟨ih, List.pairwise_singleton _ _, fun a ha b hb => ?_⟩
        rw [List.mem_singleton] at hb
        subst hb
        obtain ⟨i, x, hi, hx, rfl⟩ := dkN_mem n ha
        have hsr : ∀ i j (x y : Cm), i < j → l[i]? = some x → l[j]? = some y → cmpC x.key y.key ≤ 0 := fun i j x y hij hx hy => by
          obtain ⟨h1, rfl⟩ := List.getElem?_eq_some_iff.1 hx
          obtain ⟨h2, rfl⟩ := List.getElem?_eq_some_iff.1 hy
          exact List.pairwise_iff_getElem.1 hs i j h1 h2 hij
        unfold kpt prv at hk
        rw [if_neg (by omega)] at hk
        obtain ⟨p, hp⟩ : ∃ p, l[n - 1]? = some p := ⟨_, List.getElem?_eq_getElem (by have := (List.getElem?_eq_some_iff.1 hc).1; omega)⟩
        rw [hp] at hk
        simp only [ne_eq, decide_not, Bool.not_eq_true', decide_eq_false_iff_not] at hk
        rw [cmp_key] at hk
        have h1 := hsr (n - 1) n p c (by omega) hp hc
        have h2 : cmpC p.key c.key < 0 := by omega
        have h3 : cmpC x.key p.key ≤ 0 := by
          by_cases e : i = n - 1
          · subst e; rw [hx] at hp; cases hp; rw [ord_c.refl]; omega
          · exact hsr i (n - 1) x p (by omega) hx hp
        exact (ord_c.tr _ _ _ h3 h1).2 (Or.inr h2)
      · rw [dkN_no hc (by simpa using hk)]; exact ih
theorem rise_uniq : ∀ (a b : List Ck), a.Pairwise ltC3 → b.Pairwise ltC3 → (∀ k, k ∈ a ↔ k ∈ b) → a = b
  | [], [], _, _, _ => rfl
  | [], y :: b, _, _, h => absurd ((h y).2 (List.mem_cons_self ..)) (by simp)
  | x :: a, [], _, _, h => absurd ((h x).1 (List.mem_cons_self ..)) (by simp)
  | x :: a, y :: b, ha, hb, h => by
    obtain ⟨ha1, ha2⟩ := List.pairwise_cons.1 ha
    obtain ⟨hb1, hb2⟩ := List.pairwise_cons.1 hb
    have e : x = y := by
      rcases List.mem_cons.1 ((h x).1 (List.mem_cons_self ..)) with e | hx
      · exact e
      · rcases List.mem_cons.1 ((h y).2 (List.mem_cons_self ..)) with e | hy
        · exact e.symm
        · have h1 : cmpC y x < 0 := hb1 x hx
          have h2 : cmpC x y < 0 := ha1 y hy
          have := ord_c.neg x y
          omega
    subst e
    rw [rise_uniq a b ha2 hb2 fun k => ⟨fun hk => ?_, fun hk => ?_⟩]
    · rcases List.mem_cons.1 ((h k).1 (List.mem_cons_of_mem _ hk)) with e | hk'
      · have h1 : cmpC x k < 0 := ha1 k hk
        rw [e, ord_c.refl] at h1; omega
      · exact hk'
    · rcases List.mem_cons.1 ((h k).2 (List.mem_cons_of_mem _ hk)) with e | hk'
      · have h1 : cmpC x k < 0 := hb1 k hk
        rw [e, ord_c.refl] at h1; omega
      · exact hk'
/-- What Set's answer is: the keys of l, rising. -/
structure SetK (K : List Ck) (l : List Cm) : Prop where
  rise : K.Pairwise ltC3
  mem : ∀ k, k ∈ K ↔ ∃ c ∈ l, c.key = k
theorem SetK.of {l l' : List Cm} (hp : l'.Perm l) (hs : srtC l') : SetK (dkN l' l'.length) l :=
  ⟨dkN_rise hs _, fun k => ⟨fun h => by
      obtain ⟨i, c, -, hc, e⟩ := dkN_mem _ h
      exact ⟨c, hp.mem_iff.1 (List.mem_of_getElem? hc), e⟩, fun ⟨c, hc, e⟩ => by
      obtain ⟨i, hi, hc⟩ := List.mem_iff_getElem.1 (hp.mem_iff.2 hc)
      subst e
      exact dkN_has _ i c hi (by rw [List.getElem?_eq_getElem hi, hc])⟩⟩
theorem SetK.step {o l : List Cm} (h : SetK (o.map Cm.key) l) {i : Nat} {a b : Cm} (ha : o[i]? = some a) (hb : o[i + 1]? = some b) : a.cmp b = -1 := by
  rw [cmp_key]
  have h1 : (o.map Cm.key)[i]? = some a.key := by rw [List.getElem?_map, ha]; rfl
  have h2 : (o.map Cm.key)[i + 1]? = some b.key := by rw [List.getElem?_map, hb]; rfl
  obtain ⟨l1, e1⟩ := List.getElem?_eq_some_iff.1 h1
  obtain ⟨l2, e2⟩ := List.getElem?_eq_some_iff.1 h2
  have : cmpC a.key b.key < 0 := by rw [← e1, ← e2]; exact List.pairwise_iff_getElem.1 h.rise i (i + 1) l1 l2 (by omega)
  have := ord_c.rng a.key b.key
  omega
end Go.Proofs.YtelcoihmiglceaaGreat
/-
  first: a call whose answer the document fixes. (Written by CL21.py.)
-/
namespace Go.Proofs.YtelcoihmiglceaaGreat
open Go.RowKit
attribute [local go_sem ↓] Go.wp_at_zero Go.wp_at_succ

theorem ts_one {W : World} {b : Nat} {k n : Int} {s : ByteArray} (h : CBlk W b #[.int .i64 k, .int .i64 n, .string s] 23) : Ts W (.slice (some ⟨b, 0, none⟩) 1 1) [⟨k, n, s⟩] := by
  refine ⟨some ⟨b, 0, none⟩, 1, rfl, by simp, Or.inr ⟨b, 0, rfl, h.lt, fun i t ht => ?_⟩⟩
  obtain ⟨h1, h2⟩ := List.getElem?_eq_some_iff.1 ht
  obtain rfl : i = 0 := by simpa using h1
  obtain rfl : (⟨k, n, s⟩ : Tm) = t := h2
  exact ⟨cell_of_row _ _ _ _ _ _ h, cell_of_row _ _ _ _ _ _ h, cell_of_row _ _ _ _ _ _ h⟩
theorem ts_none (W : World) : Ts W (.slice none 0 0) [] := ⟨none, 0, rfl, by simp, Or.inl rfl⟩
theorem as_two {W : World} {b : Nat} {k n k' n' : Int} {s m s' m' : ByteArray} {l l' : List Tm} {v v' : Value} (h : CBlk W b #[.int .i64 k, .int .i64 n, .string s, .string m, v, .int .i64 k', .int .i64 n', .string s', .string m', v'] 26) (h1 : Ts W v l) (h2 : Ts W v' l') :
    As W (.slice (some ⟨b, 0, none⟩) 2 2) [(⟨⟨k, n, s⟩, m, l⟩, v), (⟨⟨k', n', s'⟩, m', l'⟩, v')] := by
  refine ⟨some ⟨b, 0, none⟩, 2, rfl, by simp, Or.inr ⟨b, 0, rfl, h.lt, fun i x hx => ?_⟩, fun x hx => ?_⟩
  · obtain ⟨e1, e2⟩ := List.getElem?_eq_some_iff.1 hx
    have hi : i < 2 := by simpa using e1
    rcases (by omega : i = 0 ∨ i = 1) with rfl | rfl
    · obtain rfl : ((⟨⟨k, n, s⟩, m, l⟩, v) : At × Value) = x := e2
      exact ⟨cell_of_row _ _ _ _ _ _ h, cell_of_row _ _ _ _ _ _ h, cell_of_row _ _ _ _ _ _ h, cell_of_row _ _ _ _ _ _ h, cell_of_row _ _ _ _ _ _ h⟩
    · obtain rfl : ((⟨⟨k', n', s'⟩, m', l'⟩, v') : At × Value) = x := e2
      exact ⟨cell_of_row _ _ _ _ _ _ h, cell_of_row _ _ _ _ _ _ h, cell_of_row _ _ _ _ _ _ h, cell_of_row _ _ _ _ _ _ h, cell_of_row _ _ _ _ _ _ h⟩
  · simp only [List.mem_cons, List.not_mem_nil, or_false] at hx
    rcases hx with rfl | rfl
    · exact h1
    · exact h2
/-- The memory that first lays. -/
structure FS (w X : World) : Prop where
  x : CBlk X (w.heap.size) #[.int .i64 3, .int .i64 0, .string ⟨#[]⟩] 23
  b : CBlk X (w.heap.size + 1) #[.int .i64 2, .int .i64 0, .string ⟨#[97, 108, 105, 99, 101]⟩] 23
  a1 : CBlk X (w.heap.size + 1 + 1) #[.int .i64 3, .int .i64 0, .string ⟨#[]⟩] 23
  a2 : CBlk X (w.heap.size + 1 + 1 + 1) #[.int .i64 3, .int .i64 0, .string ⟨#[]⟩] 23
  at_ : CBlk X (w.heap.size + 1 + 1 + 1 + 1) #[.int .i64 3, .int .i64 0, .string ⟨#[]⟩, .string ⟨#[111, 107]⟩, .slice none 0 0, .int .i64 0, .int .i64 0, .string ⟨#[]⟩, .string ⟨#[102, 114, 105, 101, 110, 100]⟩, .slice (some ⟨w.heap.size + 1 + 1 + 1, 0, none⟩) 1 1] 26
  c : CBlk X (w.heap.size + 1 + 1 + 1 + 1 + 1) #[.int .i64 0, .int .i64 0, .string ⟨#[]⟩, .string ⟨#[103, 111, 111, 100]⟩, .slice (some ⟨w.heap.size + 1 + 1, 0, none⟩) 1 1, .slice (some ⟨w.heap.size + 1 + 1 + 1 + 1, 0, none⟩) 2 2, .slice none 0 0] 30
  bw : Below w.heap.size w X
theorem FS.later {w X X' : World} (h : FS w X) (hb : Below X.heap.size X X') : FS w X' := ⟨h.x.later hb, h.b.later hb, h.a1.later hb, h.a2.later hb, h.at_.later hb, h.c.later hb, below_step h.bw hb⟩
theorem FS.start (w : World) : FS w ((((((w.alloc (.cells #[.int .i64 3, .int .i64 0, .string ⟨#[]⟩] 23)).alloc (.cells #[.int .i64 2, .int .i64 0, .string ⟨#[97, 108, 105, 99, 101]⟩] 23)).alloc (.cells #[.int .i64 3, .int .i64 0, .string ⟨#[]⟩] 23)).alloc (.cells #[.int .i64 3, .int .i64 0, .string ⟨#[]⟩] 23)).alloc (.cells #[.int .i64 3, .int .i64 0, .string ⟨#[]⟩, .string ⟨#[111, 107]⟩, .slice none 0 0, .int .i64 0, .int .i64 0, .string ⟨#[]⟩, .string ⟨#[102, 114, 105, 101, 110, 100]⟩, .slice (some ⟨w.heap.size + 1 + 1 + 1, 0, none⟩) 1 1] 26)).alloc (.cells #[.int .i64 0, .int .i64 0, .string ⟨#[]⟩, .string ⟨#[103, 111, 111, 100]⟩, .slice (some ⟨w.heap.size + 1 + 1, 0, none⟩) 1 1, .slice (some ⟨w.heap.size + 1 + 1 + 1 + 1, 0, none⟩) 2 2, .slice none 0 0] 30)) := by
  have s1 : (w.alloc (.cells #[.int .i64 3, .int .i64 0, .string ⟨#[]⟩] 23)).heap.size = w.heap.size + 1 := by simp
  have s2 : ((w.alloc (.cells #[.int .i64 3, .int .i64 0, .string ⟨#[]⟩] 23)).alloc (.cells #[.int .i64 2, .int .i64 0, .string ⟨#[97, 108, 105, 99, 101]⟩] 23)).heap.size = w.heap.size + 1 + 1 := by simp
  have s3 : (((w.alloc (.cells #[.int .i64 3, .int .i64 0, .string ⟨#[]⟩] 23)).alloc (.cells #[.int .i64 2, .int .i64 0, .string ⟨#[97, 108, 105, 99, 101]⟩] 23)).alloc (.cells #[.int .i64 3, .int .i64 0, .string ⟨#[]⟩] 23)).heap.size = w.heap.size + 1 + 1 + 1 := by simp
  have s4 : ((((w.alloc (.cells #[.int .i64 3, .int .i64 0, .string ⟨#[]⟩] 23)).alloc (.cells #[.int .i64 2, .int .i64 0, .string ⟨#[97, 108, 105, 99, 101]⟩] 23)).alloc (.cells #[.int .i64 3, .int .i64 0, .string ⟨#[]⟩] 23)).alloc (.cells #[.int .i64 3, .int .i64 0, .string ⟨#[]⟩] 23)).heap.size = w.heap.size + 1 + 1 + 1 + 1 := by simp
  have s5 : (((((w.alloc (.cells #[.int .i64 3, .int .i64 0, .string ⟨#[]⟩] 23)).alloc (.cells #[.int .i64 2, .int .i64 0, .string ⟨#[97, 108, 105, 99, 101]⟩] 23)).alloc (.cells #[.int .i64 3, .int .i64 0, .string ⟨#[]⟩] 23)).alloc (.cells #[.int .i64 3, .int .i64 0, .string ⟨#[]⟩] 23)).alloc (.cells #[.int .i64 3, .int .i64 0, .string ⟨#[]⟩, .string ⟨#[111, 107]⟩, .slice none 0 0, .int .i64 0, .int .i64 0, .string ⟨#[]⟩, .string ⟨#[102, 114, 105, 101, 110, 100]⟩, .slice (some ⟨w.heap.size + 1 + 1 + 1, 0, none⟩) 1 1] 26)).heap.size = w.heap.size + 1 + 1 + 1 + 1 + 1 := by simp
  have k1 := CBlk.new w #[.int .i64 3, .int .i64 0, .string ⟨#[]⟩] 23
  have k2 := CBlk.new (w.alloc (.cells #[.int .i64 3, .int .i64 0, .string ⟨#[]⟩] 23)) #[.int .i64 2, .int .i64 0, .string ⟨#[97, 108, 105, 99, 101]⟩] 23
  have k3 := CBlk.new ((w.alloc (.cells #[.int .i64 3, .int .i64 0, .string ⟨#[]⟩] 23)).alloc (.cells #[.int .i64 2, .int .i64 0, .string ⟨#[97, 108, 105, 99, 101]⟩] 23)) #[.int .i64 3, .int .i64 0, .string ⟨#[]⟩] 23
  have k4 := CBlk.new (((w.alloc (.cells #[.int .i64 3, .int .i64 0, .string ⟨#[]⟩] 23)).alloc (.cells #[.int .i64 2, .int .i64 0, .string ⟨#[97, 108, 105, 99, 101]⟩] 23)).alloc (.cells #[.int .i64 3, .int .i64 0, .string ⟨#[]⟩] 23)) #[.int .i64 3, .int .i64 0, .string ⟨#[]⟩] 23
  have k5 := CBlk.new ((((w.alloc (.cells #[.int .i64 3, .int .i64 0, .string ⟨#[]⟩] 23)).alloc (.cells #[.int .i64 2, .int .i64 0, .string ⟨#[97, 108, 105, 99, 101]⟩] 23)).alloc (.cells #[.int .i64 3, .int .i64 0, .string ⟨#[]⟩] 23)).alloc (.cells #[.int .i64 3, .int .i64 0, .string ⟨#[]⟩] 23)) #[.int .i64 3, .int .i64 0, .string ⟨#[]⟩, .string ⟨#[111, 107]⟩, .slice none 0 0, .int .i64 0, .int .i64 0, .string ⟨#[]⟩, .string ⟨#[102, 114, 105, 101, 110, 100]⟩, .slice (some ⟨w.heap.size + 1 + 1 + 1, 0, none⟩) 1 1] 26
  have k6 := CBlk.new (((((w.alloc (.cells #[.int .i64 3, .int .i64 0, .string ⟨#[]⟩] 23)).alloc (.cells #[.int .i64 2, .int .i64 0, .string ⟨#[97, 108, 105, 99, 101]⟩] 23)).alloc (.cells #[.int .i64 3, .int .i64 0, .string ⟨#[]⟩] 23)).alloc (.cells #[.int .i64 3, .int .i64 0, .string ⟨#[]⟩] 23)).alloc (.cells #[.int .i64 3, .int .i64 0, .string ⟨#[]⟩, .string ⟨#[111, 107]⟩, .slice none 0 0, .int .i64 0, .int .i64 0, .string ⟨#[]⟩, .string ⟨#[102, 114, 105, 101, 110, 100]⟩, .slice (some ⟨w.heap.size + 1 + 1 + 1, 0, none⟩) 1 1] 26)) #[.int .i64 0, .int .i64 0, .string ⟨#[]⟩, .string ⟨#[103, 111, 111, 100]⟩, .slice (some ⟨w.heap.size + 1 + 1, 0, none⟩) 1 1, .slice (some ⟨w.heap.size + 1 + 1 + 1 + 1, 0, none⟩) 2 2, .slice none 0 0] 30
  rw [s1] at k2
  rw [s2] at k3
  rw [s3] at k4
  rw [s4] at k5
  rw [s5] at k6
  have b1 := below1 w (.cells #[.int .i64 3, .int .i64 0, .string ⟨#[]⟩] 23)
  have b2 := below1 (w.alloc (.cells #[.int .i64 3, .int .i64 0, .string ⟨#[]⟩] 23)) (.cells #[.int .i64 2, .int .i64 0, .string ⟨#[97, 108, 105, 99, 101]⟩] 23)
  have b3 := below1 ((w.alloc (.cells #[.int .i64 3, .int .i64 0, .string ⟨#[]⟩] 23)).alloc (.cells #[.int .i64 2, .int .i64 0, .string ⟨#[97, 108, 105, 99, 101]⟩] 23)) (.cells #[.int .i64 3, .int .i64 0, .string ⟨#[]⟩] 23)
  have b4 := below1 (((w.alloc (.cells #[.int .i64 3, .int .i64 0, .string ⟨#[]⟩] 23)).alloc (.cells #[.int .i64 2, .int .i64 0, .string ⟨#[97, 108, 105, 99, 101]⟩] 23)).alloc (.cells #[.int .i64 3, .int .i64 0, .string ⟨#[]⟩] 23)) (.cells #[.int .i64 3, .int .i64 0, .string ⟨#[]⟩] 23)
  have b5 := below1 ((((w.alloc (.cells #[.int .i64 3, .int .i64 0, .string ⟨#[]⟩] 23)).alloc (.cells #[.int .i64 2, .int .i64 0, .string ⟨#[97, 108, 105, 99, 101]⟩] 23)).alloc (.cells #[.int .i64 3, .int .i64 0, .string ⟨#[]⟩] 23)).alloc (.cells #[.int .i64 3, .int .i64 0, .string ⟨#[]⟩] 23)) (.cells #[.int .i64 3, .int .i64 0, .string ⟨#[]⟩, .string ⟨#[111, 107]⟩, .slice none 0 0, .int .i64 0, .int .i64 0, .string ⟨#[]⟩, .string ⟨#[102, 114, 105, 101, 110, 100]⟩, .slice (some ⟨w.heap.size + 1 + 1 + 1, 0, none⟩) 1 1] 26)
  have b6 := below1 (((((w.alloc (.cells #[.int .i64 3, .int .i64 0, .string ⟨#[]⟩] 23)).alloc (.cells #[.int .i64 2, .int .i64 0, .string ⟨#[97, 108, 105, 99, 101]⟩] 23)).alloc (.cells #[.int .i64 3, .int .i64 0, .string ⟨#[]⟩] 23)).alloc (.cells #[.int .i64 3, .int .i64 0, .string ⟨#[]⟩] 23)).alloc (.cells #[.int .i64 3, .int .i64 0, .string ⟨#[]⟩, .string ⟨#[111, 107]⟩, .slice none 0 0, .int .i64 0, .int .i64 0, .string ⟨#[]⟩, .string ⟨#[102, 114, 105, 101, 110, 100]⟩, .slice (some ⟨w.heap.size + 1 + 1 + 1, 0, none⟩) 1 1] 26)) (.cells #[.int .i64 0, .int .i64 0, .string ⟨#[]⟩, .string ⟨#[103, 111, 111, 100]⟩, .slice (some ⟨w.heap.size + 1 + 1, 0, none⟩) 1 1, .slice (some ⟨w.heap.size + 1 + 1 + 1 + 1, 0, none⟩) 2 2, .slice none 0 0] 30)
  exact ⟨((((k1.later b2).later b3).later b4).later b5).later b6, (((k2.later b3).later b4).later b5).later b6, ((k3.later b4).later b5).later b6, (k4.later b5).later b6, k5.later b6, k6, below_step (below_step (below_step (below_step (below_step b1 b2) b3) b4) b5) b6⟩
theorem FS.ok {w X : World} (h : FS w X) : Cm.ok X ⟨(⟨⟨0, 0, ⟨#[]⟩⟩, ⟨#[103, 111, 111, 100]⟩, [⟨3, 0, ⟨#[]⟩⟩]⟩, .slice (some ⟨w.heap.size + 1 + 1, 0, none⟩) 1 1), [(⟨⟨3, 0, ⟨#[]⟩⟩, ⟨#[111, 107]⟩, []⟩, .slice none 0 0), (⟨⟨0, 0, ⟨#[]⟩⟩, ⟨#[102, 114, 105, 101, 110, 100]⟩, [⟨3, 0, ⟨#[]⟩⟩]⟩, .slice (some ⟨w.heap.size + 1 + 1 + 1, 0, none⟩) 1 1)], .slice (some ⟨w.heap.size + 1 + 1 + 1 + 1, 0, none⟩) 2 2, [], .slice none 0 0⟩ :=
  ⟨ts_one h.a1, as_two h.at_ (ts_none X) (ts_one h.a2), ⟨none, 0, rfl, by simp, Or.inl rfl⟩⟩
end Go.Proofs.YtelcoihmiglceaaGreat
