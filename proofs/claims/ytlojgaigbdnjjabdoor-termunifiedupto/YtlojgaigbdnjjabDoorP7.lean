/-
  What Unify answers, as it is used; an atom without variables.
-/
import Derived.Test.YtlojgaigbdnjjabDoorP6
import Derived.Test.YtlojgaigbdnjjabDoorP3
namespace Go.Proofs.YtlojgaigbdnjjabDoor
open Go.RowKit

theorem bs_nil' (w : World) : Bs w (.slice none 0 0) [] := ⟨none, 0, rfl, by simp, Or.inl rfl⟩
/-- An answer of Unify as it is used. -/
theorem u_use {w' : World} {base : Nat} {a b : At} {m : Value} {is : Bool}
    (h : (is = false ∧ m = .slice none 0 0 ∧ ∀ f, Fix f → a.mk' f = b.mk' f → FitsB f a.by_ = true → FitsB f b.by_ = true → False) ∨ (is = true ∧ ∃ out, Own w' base m out ∧ Uni a b out)) :
    ∃ L, (∀ X, Below w'.heap.size w' X → Bs X m L) ∧ ((is = false ∧ m = .slice none 0 0 ∧ L = [] ∧ ∀ f, Fix f → a.mk' f = b.mk' f → FitsB f a.by_ = true → FitsB f b.by_ = true → False) ∨ (is = true ∧ Uni a b L)) := by
  rcases h with ⟨h1, rfl, h3⟩ | ⟨h1, out, ho, hu⟩
  · exact ⟨[], fun X _ => bs_nil' X, Or.inl ⟨h1, rfl, rfl, h3⟩⟩
  · exact ⟨out, fun X hb => (ho.later hb).bs (by have := hu.len; omega), Or.inr ⟨h1, hu⟩⟩
/-- The two answers, one way round and the other, are one. -/
theorem u_both {a b : At} {m m' : Value} {is is' : Bool} {L L' : List Bd}
    (h : (is = false ∧ m = .slice none 0 0 ∧ L = [] ∧ ∀ f, Fix f → a.mk' f = b.mk' f → FitsB f a.by_ = true → FitsB f b.by_ = true → False) ∨ (is = true ∧ Uni a b L))
    (h' : (is' = false ∧ m' = .slice none 0 0 ∧ L' = [] ∧ ∀ f, Fix f → b.mk' f = a.mk' f → FitsB f b.by_ = true → FitsB f a.by_ = true → False) ∨ (is' = true ∧ Uni b a L')) : is' = is ∧ L = L' := by
  rcases h with ⟨rfl, -, rfl, h3⟩ | ⟨rfl, hu⟩
  · rcases h' with ⟨rfl, -, rfl, -⟩ | ⟨-, hu'⟩
    · exact ⟨rfl, rfl⟩
    · exact (h3 _ (fix_become L') hu'.one.symm hu'.fb hu'.fa).elim
  · rcases h' with ⟨-, -, -, h3⟩ | ⟨rfl, hu'⟩
    · exact (h3 _ (fix_become L) hu.one.symm hu.fb hu.fa).elim
    · exact ⟨rfl, uni_same hu hu'⟩
theorem mk'_mk' (f g : Tm → Tm) (a : At) (h : ∀ t, g (f t) = g t) : (a.mk' f).mk' g = a.mk' g := by
  unfold At.mk'
  simp only [h, List.map_map]
  congr 1
  exact List.map_congr_left fun t _ => h t
theorem vS_empty {l : List Int} {t : Tm} (h : vS l t = []) : l = [] ∧ t.var = false := by
  cases ht : t.var with
  | false => rw [vS_not _ _ ht] at h; exact ⟨h, rfl⟩
  | true =>
    unfold vS at h
    rw [if_pos ht] at h
    split at h
    · subst h; rename_i hc; simp at hc
    · simp at h
theorem foldl_vS_empty : ∀ (pl : List Tm) (l : List Int), pl.foldl vS l = [] → l = [] ∧ ∀ t ∈ pl, t.var = false := by
  intro pl
  induction pl with
  | nil => intro l h; exact ⟨h, fun t ht => by cases ht⟩
  | cons u pl ih =>
    intro l h
    obtain ⟨h1, h2⟩ := ih _ h
    obtain ⟨h3, h4⟩ := vS_empty h1
    refine ⟨h3, fun t ht => ?_⟩
    rcases List.mem_cons.1 ht with rfl | ht
    · exact h4
    · exact h2 t ht
/-- No variables. -/
def Gr (a : At) : Prop := ∀ t ∈ a.pl, t.var = false
theorem gr_of {a : At} (h : vs a.pl = []) : Gr a := (foldl_vS_empty _ _ h).2
theorem Gr.fix {a : At} (h : Gr a) {f : Tm → Tm} (hf : Fix f) : a.mk' f = a := by
  have h1 : f a.by_ = a.by_ := hf _ (h _ (by simp [At.pl]))
  have h2 : a.args.map f = a.args := by
    refine (List.map_congr_left fun t ht => ?_).trans (List.map_id _)
    exact hf _ (h _ (by simp [At.pl, ht]))
  unfold At.mk'
  rw [h1, h2]
theorem fits_id (t : Tm) : FitsB id t = true := by
  unfold FitsB
  cases h : t.var <;> simp [h]
theorem mGo_vars : ∀ (r : List (Tm × Tm)) (o out : List Bd), mGo o r = some out → ∀ x q, look out x = some q → look o x = some q ∨ ∃ y ∈ r, y.1.var = true ∧ y.1.n = x ∧ y.2 = q := by
  intro r
  induction r with
  | nil => intro o out h x q hq; simp only [mGo, Option.some.injEq] at h; subst h; exact Or.inl hq
  | cons y r ih =>
    intro o out h x q hq
    simp only [mGo] at h
    split at h
    · rename_i hv
      split at h
      · split at h
        · rcases ih _ _ h x q hq with h' | ⟨z, hz, h'⟩
          · exact Or.inl h'
          · exact Or.inr ⟨z, List.mem_cons_of_mem _ hz, h'⟩
        · cases h
      · rcases ih _ _ h x q hq with h' | ⟨z, hz, h'⟩
        · rw [look_append] at h'
          cases e : look o x with
          | some q' => rw [e] at h'; exact Or.inl h'
          | none =>
            rw [e, look_one] at h'
            simp only [Option.none_or] at h'
            split at h'
            · rename_i hx
              simp only [Option.some.injEq] at h'
              exact Or.inr ⟨y, List.mem_cons_self, hv, hx, h'⟩
            · cases h'
        · exact Or.inr ⟨z, List.mem_cons_of_mem _ hz, h'⟩
    · rcases ih _ _ h x q hq with h' | ⟨z, hz, h'⟩
      · exact Or.inl h'
      · exact Or.inr ⟨z, List.mem_cons_of_mem _ hz, h'⟩
theorem mRes_vars {p a : At} {out : List Bd} (h : mRes p a [] = some out) (x : Int) (q : Tm) (hq : look out x = some q) : ∃ y ∈ p.pl.zip a.pl, y.1.var = true ∧ y.1.n = x ∧ y.2 = q := by
  unfold mRes at h
  split at h
  · rcases mGo_vars _ _ _ h x q hq with h' | h'
    · cases h'
    · exact h'
  · cases h
theorem Uni.gr {p a : At} {L : List Bd} (h : Uni p a L) (hg : Gr a) : p.made L = a := h.one.trans (hg.fix (fix_become L))
theorem sided_no {p a : At} {L : List Bd} (hg : Gr a) (hv : p.by_.var = true) (hr : a.by_.prin = false) (h : Uni p a L) : False := by
  have h1 : become L p.by_ = a.by_ := congrArg At.by_ (h.gr hg)
  have h2 := h.fa
  unfold FitsB at h2
  rw [hv, h1, hr, hg a.by_ (by simp [At.pl])] at h2
  cases h2
theorem prin_k {t : Tm} (h : t.prin = true) : ¬ t.k = 0 := by
  simp only [Tm.prin, decide_eq_true_eq] at h
  omega
theorem sided_yes {p a : At} {L : List Bd} (hg : Gr a) (hn : ¬ (p.by_.var = true ∧ a.by_.prin = false)) (h : Uni p a L) : ∃ out, mRes p a [] = some out ∧ ∀ out' : List Bd, out'.Perm out → srt out' → out' = L := by
  have hm := h.gr hg
  have hpl : p.pl.map (become L) = a.pl := by rw [← made_pl, hm]
  have hk : ¬ (p.by_.var = true ∧ (p.made L).by_.k = 0) := by
    rintro ⟨h1, h2⟩
    rw [hm] at h2
    cases e : a.by_.prin with
    | false => exact hn ⟨h1, e⟩
    | true => exact prin_k e h2
  obtain ⟨out, h1, h2, -, -⟩ := made_found L [] p hk (under_nil L)
  rw [hm] at h1
  refine ⟨out, h1, fun out' hp hs => up_eq' out' L (nd_perm h2 hp) hs h.nd h.srt fun x => ?_⟩
  rw [look_perm h2 hp]
  obtain ⟨T, rt, hl, hpp⟩ := h.cls
  cases e : look out x with
  | some q =>
    obtain ⟨y, hy, hv, rfl, rfl⟩ := mRes_vars h1 x q e
    have hb := zip_of_map L _ _ hpl y hy
    have h0 : 0 ≤ y.1.n := by have := hv; simp only [Tm.var, decide_eq_true_eq] at this; exact this.2.1
    refine ((look_of hl hpp y.1.n y.2).2 ⟨h0, by rw [← var_eta hv]; exact hb.symm, fun hc => ?_⟩).symm
    have := hg y.2 (List.of_mem_zip hy).2
    rw [hc, ← var_eta hv, hv] at this
    cases this
  | none =>
    cases e' : look L x with
    | none => rfl
    | some q =>
      obtain ⟨h0, hb, hq⟩ := (look_of hl hpp x q).1 e'
      have hf := mRes_makes p a [] out out h1 (List.Perm.refl _)
      have hfa : p.mk' (become out) = a := (made_iff p a out hf.2.1).2 hf.1
      have ht := h.through (fix_become out) (hfa.trans (hg.fix (fix_become out)).symm) ⟨3, x, ⟨#[]⟩⟩
      rw [hb] at ht
      have hx : become out ⟨3, x, ⟨#[]⟩⟩ = ⟨3, x, ⟨#[]⟩⟩ := by
        unfold become
        rw [e]; split <;> rfl
      rw [hx] at ht
      exfalso
      cases hv : q.var with
      | false => rw [become_not _ _ hv] at ht; exact hq ht
      | true =>
        unfold become at ht
        rw [if_pos hv] at ht
        cases e2 : look out q.n with
        | none => rw [e2] at ht; exact hq ht
        | some z =>
          rw [e2] at ht
          obtain ⟨y, hy, -, -, rfl⟩ := mRes_vars h1 _ _ e2
          have := hg y.2 (List.of_mem_zip hy).2
          rw [show y.2 = _ from ht] at this
          simp [Tm.var] at this
          omega
theorem sided_back {p a : At} {out : List Bd} (hg : Gr a) (hn : ¬ (p.by_.var = true ∧ a.by_.prin = false)) (h : mRes p a [] = some out)
    (h3 : ∀ f, Fix f → p.mk' f = a.mk' f → FitsB f p.by_ = true → FitsB f a.by_ = true → False) : False := by
  have hf := mRes_makes p a [] out out h (List.Perm.refl _)
  have hfa : p.mk' (become out) = a := (made_iff p a out hf.2.1).2 hf.1
  refine h3 (become out) (fix_become out) (hfa.trans (hg.fix (fix_become out)).symm) ?_ ?_
  · unfold FitsB
    rw [show become out p.by_ = a.by_ from congrArg At.by_ hfa]
    cases e : p.by_.var with
    | false => rfl
    | true =>
      cases e2 : a.by_.prin with
      | true => rfl
      | false => exact (hn ⟨e, e2⟩).elim
  · unfold FitsB
    rw [hg a.by_ (by simp [At.pl])]
    rfl
end Go.Proofs.YtlojgaigbdnjjabDoor
