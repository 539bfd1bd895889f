import Derived.Test.YtnaiecemmhioeaaDoorD2
import Derived.Test.YtnaiecemmhioeaaDoorV2
/-
  What Match answers, as plain lists.
-/
namespace Go.Proofs.YtnaiecemmhioeaaDoor
open Go.RowKit

/-- Each number once. -/
def nd (l : List Bd) : Prop := l.Pairwise fun a b => ¬ a.x = b.x
theorem hasX_look (l : List Bd) (x : Int) : hasX l x = (look l x).isSome := by
  induction l with
  | nil => rfl
  | cons d l ih =>
    simp only [hasX, List.any_cons] at ih ⊢
    rw [look]
    by_cases h : d.x = x
    · simp [h]
    · rw [if_neg h, ← ih]; simp [h]
theorem look_none_mem {l : List Bd} {x : Int} (h : look l x = none) : ∀ d ∈ l, ¬ d.x = x := by
  induction l with
  | nil => intro d hd; cases hd
  | cons e l ih =>
    rw [look] at h
    by_cases he : e.x = x
    · rw [if_pos he] at h; cases h
    · rw [if_neg he] at h
      intro d hd
      rcases List.mem_cons.1 hd with rfl | hd
      · exact he
      · exact ih h d hd
theorem look_append (l r : List Bd) (x : Int) : look (l ++ r) x = (look l x).or (look r x) := by
  induction l with
  | nil => simp [look]
  | cons e l ih =>
    rw [List.cons_append, look, look]
    by_cases he : e.x = x
    · rw [if_pos he, if_pos he]; rfl
    · rw [if_neg he, if_neg he, ih]
theorem look_one (d : Bd) (x : Int) : look [d] x = if d.x = x then some d.to else none := rfl
theorem nd_snoc {l : List Bd} {d : Bd} (h : nd l) (hn : look l d.x = none) : nd (l ++ [d]) := by
  unfold nd
  rw [List.pairwise_append]
  exact ⟨h, List.pairwise_singleton _ _, fun a ha b hb => by rw [List.mem_singleton.1 hb]; exact look_none_mem hn a ha⟩
theorem fbS_nd {l : List Bd} {d : Bd} (h : nd l) : nd (fbS l d) := by
  unfold fbS
  split
  · exact h
  · rename_i hh
    rw [hasX_look] at hh
    exact nd_snoc h (by simpa using hh)
theorem foldl_nd (s : List Bd) : ∀ l, nd l → nd (s.foldl fbS l) := by
  induction s with
  | nil => intro l h; exact h
  | cons d s ih => intro l h; exact ih _ (fbS_nd h)
theorem fb_nd (s : List Bd) : nd (fb s) := foldl_nd s [] List.Pairwise.nil
theorem look_mem {l : List Bd} {d : Bd} (h : nd l) (hd : d ∈ l) : look l d.x = some d.to := by
  induction l with
  | nil => cases hd
  | cons e l ih =>
    obtain ⟨h1, h2⟩ := List.pairwise_cons.1 h
    rcases List.mem_cons.1 hd with rfl | hd
    · rw [look, if_pos rfl]
    · rw [look, if_neg (h1 d hd)]; exact ih h2 hd
theorem mem_look {l : List Bd} {x : Int} {q : Tm} (h : look l x = some q) : ⟨x, q⟩ ∈ l := by
  induction l with
  | nil => cases h
  | cons e l ih =>
    rw [look] at h
    by_cases he : e.x = x
    · rw [if_pos he] at h
      obtain ⟨ex, et⟩ := e
      simp only [Option.some.injEq] at h he
      subst h he
      exact List.mem_cons_self
    · rw [if_neg he] at h; exact List.mem_cons_of_mem _ (ih h)
theorem nd_perm {l l' : List Bd} (h : nd l) (hp : l'.Perm l) : nd l' :=
  (hp.pairwise_iff (R := fun a b : Bd => ¬ a.x = b.x) (fun hab e => hab e.symm)).2 h
theorem look_perm {l l' : List Bd} (h : nd l) (hp : l'.Perm l) (x : Int) : look l' x = look l x := by
  cases e : look l x with
  | some q => exact look_mem (d := ⟨x, q⟩) (nd_perm h hp) (hp.mem_iff.2 (mem_look e))
  | none =>
    cases e' : look l' x with
    | none => rfl
    | some q => exact absurd rfl (look_none_mem e _ (hp.mem_iff.1 (mem_look e')))
theorem mGo_nd : ∀ (r : List (Tm × Tm)) (o out : List Bd), nd o → mGo o r = some out → nd out := by
  intro r
  induction r with
  | nil => intro o out h e; simp [mGo] at e; subst e; exact h
  | cons x r ih =>
    intro o out h e
    simp only [mGo] at e
    split at e
    · split at e
      · split at e
        · exact ih _ _ h e
        · cases e
      · rename_i hn; exact ih _ _ (nd_snoc h hn) e
    · exact ih _ _ h e
theorem mGo_keep : ∀ (r : List (Tm × Tm)) (o out : List Bd) (x : Int) (q : Tm), look o x = some q → mGo o r = some out → look out x = some q := by
  intro r
  induction r with
  | nil => intro o out x q h e; simp [mGo] at e; subst e; exact h
  | cons y r ih =>
    intro o out x q h e
    simp only [mGo] at e
    split at e
    · split at e
      · split at e
        · exact ih _ _ _ _ h e
        · cases e
      · exact ih _ _ _ _ (by rw [look_append, h]; rfl) e
    · exact ih _ _ _ _ h e
theorem mGo_makes : ∀ (r : List (Tm × Tm)) (o out : List Bd), mGo o r = some out → ∀ y ∈ r, y.1.var = true → look out y.1.n = some y.2 := by
  intro r
  induction r with
  | nil => intro o out e y hy; cases hy
  | cons z r ih =>
    intro o out e y hy hv
    simp only [mGo] at e
    rcases List.mem_cons.1 hy with rfl | hy
    · rw [if_pos hv] at e
      split at e
      · rename_i q hq
        split at e
        · rename_i h2; rw [← h2]; exact mGo_keep _ _ _ _ _ hq e
        · cases e
      · rename_i hn
        exact mGo_keep _ _ _ _ _ (by rw [look_append, hn, look_one]; simp) e
    · split at e
      · split at e
        · split at e
          · exact ih _ _ e y hy hv
          · cases e
        · exact ih _ _ e y hy hv
      · exact ih _ _ e y hy hv
/-- What Match answers makes the places of p into those of a. -/
theorem map_become (out : List Bd) : ∀ (p a : List Tm), p.length = a.length → fixOk p a = true → (∀ y ∈ p.zip a, y.1.var = true → look out y.1.n = some y.2) → p.map (become out) = a := by
  intro p
  induction p with
  | nil => intro a hl _ _; cases a with
    | nil => rfl
    | cons _ _ => cases hl
  | cons t p ih =>
    intro a hl hf hy
    cases a with
    | nil => cases hl
    | cons u a =>
      simp only [fixOk, List.zip_cons_cons, List.all_cons, Bool.and_eq_true] at hf
      rw [List.map_cons, ih a (by simpa using hl) hf.2 (fun y h => hy y (by rw [List.zip_cons_cons]; exact List.mem_cons_of_mem _ h))]
      congr 1
      unfold become
      cases hv : t.var with
      | true =>
        have := hy (t, u) (by rw [List.zip_cons_cons]; exact List.mem_cons_self) hv
        simp only at this
        rw [if_pos rfl, this]; rfl
      | false =>
        have := hf.1
        simp only [hv, Bool.false_or, decide_eq_true_eq] at this
        simpa using this
theorem become_perm {l l' : List Bd} (h : nd l) (hp : l'.Perm l) : become l' = become l := by
  funext t; unfold become; rw [look_perm h hp]
theorem mRes_makes (p a : At) (s out out' : List Bd) (h : mRes p a s = some out) (hp : out'.Perm out) : p.pl.map (become out') = a.pl ∧ p.name = a.name ∧ nd out' := by
  unfold mRes at h
  split at h
  · rename_i hm
    simp only [mOk, shB, Bool.and_eq_true, beq_iff_eq] at hm
    have h1 := mGo_nd _ _ _ (fb_nd s) h
    refine ⟨?_, toList_inj hm.1.1.1, nd_perm h1 hp⟩
    rw [become_perm h1 hp]
    exact map_become out _ _ (by simp only [At.pl, List.length_cons]; rw [hm.1.1.2]) hm.1.2 (mGo_makes _ _ _ h)
  · cases h
end Go.Proofs.YtnaiecemmhioeaaDoor
/-
  Match finds what a binding made.
-/
namespace Go.Proofs.YtnaiecemmhioeaaDoor
open Go.RowKit

theorem become_not (s : List Bd) (t : Tm) (h : t.var = false) : become s t = t := by
  unfold become; rw [h]; rfl
end Go.Proofs.YtnaiecemmhioeaaDoor
