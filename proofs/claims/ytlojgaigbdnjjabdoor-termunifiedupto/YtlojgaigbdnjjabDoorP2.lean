/-
  Match finds what a binding made.
-/
import Derived.Test.YtlojgaigbdnjjabDoorP1
import Derived.Test.YtlojgaigbdnjjabDoorV1
import Derived.Test.YtlojgaigbdnjjabDoorV2
namespace Go.Proofs.YtlojgaigbdnjjabDoor
open Go.RowKit

theorem become_var (s : List Bd) (t : Tm) (h : t.var = true) (h3 : t = ⟨3, t.n, ⟨#[]⟩⟩) : become s t = sayT s t.n := by
  unfold become sayT; rw [if_pos h, ← h3]
theorem var_become (s : List Bd) (t : Tm) (h : t.var = true) : become s t = sayT s t.n := by
  refine become_var s t h ?_
  obtain ⟨k, n, z⟩ := t
  simp only [Tm.var, decide_eq_true_eq] at h
  obtain ⟨rfl, -, rfl⟩ := h
  rfl
theorem become_not (s : List Bd) (t : Tm) (h : t.var = false) : become s t = t := by
  unfold become; rw [h]; rfl
theorem fix_made (s : List Bd) (pl : List Tm) : fixOk pl (pl.map (become s)) = true := by
  induction pl with
  | nil => rfl
  | cons t pl ih =>
    simp only [fixOk, List.map_cons, List.zip_cons_cons, List.all_cons] at ih ⊢
    rw [ih, Bool.and_true]
    cases h : t.var with
    | true => rfl
    | false => simp [become_not s t h]
/-- All that o says, s says. -/
def Under (s o : List Bd) : Prop := ∀ x q, look o x = some q → q = sayT s x
theorem under_nil (s : List Bd) : Under s [] := fun x q h => by cases h
theorem under_fb (s : List Bd) : Under s (fb s) := fun x q h => by
  rw [fb_look] at h
  unfold sayT; rw [h]; rfl
theorem any_keys (o : List Bd) (x : Int) : (o.map (·.x)).any (fun n => decide (n = x)) = (look o x).isSome := by
  rw [← hasX_look, hasX, List.any_map]; rfl
theorem mGo_made (s : List Bd) : ∀ (pl : List Tm) (o : List Bd), Under s o → (∀ t ∈ pl, t.var = true → become s t = sayT s t.n) →
    ∃ out, mGo o (pl.zip (pl.map (become s))) = some out ∧ Under s out ∧ out.map (·.x) = pl.foldl vS (o.map (·.x)) := by
  intro pl
  induction pl with
  | nil => intro o h _; exact ⟨o, rfl, h, rfl⟩
  | cons t pl ih =>
    intro o h hv
    have hv' : ∀ u ∈ pl, u.var = true → become s u = sayT s u.n := fun u hu => hv u (List.mem_cons_of_mem _ hu)
    simp only [List.map_cons, List.zip_cons_cons, mGo, List.foldl_cons]
    cases ht : t.var with
    | false =>
      rw [if_neg (by simp), show vS (o.map (·.x)) t = o.map (·.x) from vS_not _ _ ht]
      exact ih o h hv'
    | true =>
      rw [if_pos rfl]
      have hb := hv t List.mem_cons_self ht
      cases e : look o t.n with
      | some q =>
        have hq : q = become s t := by rw [hb]; exact h _ _ e
        simp only
        rw [if_pos hq, show vS (o.map (·.x)) t = o.map (·.x) from vS_old _ _ ht (by unfold hasI; rw [any_keys, e]; rfl)]
        exact ih o h hv'
      | none =>
        simp only
        rw [show vS (o.map (·.x)) t = (o ++ [Bd.mk t.n (become s t)]).map (fun d : Bd => d.x) from by
          rw [vS_new _ _ ht (by unfold hasI; rw [any_keys, e]; rfl)]; simp]
        refine ih _ (fun x q hx => ?_) hv'
        rw [look_append] at hx
        cases e2 : look o x with
        | some q2 => rw [e2] at hx; simp at hx; subst hx; exact h _ _ e2
        | none =>
          rw [e2, look_one] at hx
          simp only [Option.none_or] at hx
          split at hx
          · rename_i hxx
            simp only [Option.some.injEq] at hx
            rw [← hx, hb, hxx]
          · cases hx
theorem mem_foldl_vS (x : Int) : ∀ (pl : List Tm) (l : List Int), x ∈ pl.foldl vS l → x ∈ l ∨ ∃ t ∈ pl, t.var = true ∧ t.n = x := by
  intro pl
  induction pl with
  | nil => intro l h; exact Or.inl h
  | cons t pl ih =>
    intro l h
    rcases ih _ h with h | ⟨u, hu, h1, h2⟩
    · unfold vS at h
      split at h
      · rename_i hv
        split at h
        · exact Or.inl h
        · rcases List.mem_append.1 h with h | h
          · exact Or.inl h
          · exact Or.inr ⟨t, List.mem_cons_self, hv, (List.mem_singleton.1 h).symm⟩
      · exact Or.inl h
    · exact Or.inr ⟨u, List.mem_cons_of_mem _ hu, h1, h2⟩
theorem mem_vs {pl : List Tm} {x : Int} (h : x ∈ vs pl) : ∃ t ∈ pl, t.var = true ∧ t.n = x := by
  rcases mem_foldl_vS x pl [] h with h | h
  · cases h
  · exact h
/-- p as s makes it. -/
def At.made (s : List Bd) (p : At) : At := ⟨become s p.by_, p.name, p.args.map (become s)⟩
theorem made_pl (s : List Bd) (p : At) : (p.made s).pl = p.pl.map (become s) := rfl
theorem made_none (s : List Bd) (p : At) (s' : List Bd) (h : p.by_.var = true) (h0 : (p.made s).by_.k = 0) : mRes p (p.made s) s' = none := by
  unfold mRes mOk; rw [h, h0]; simp
theorem made_ok (s : List Bd) (p : At) (h : ¬ (p.by_.var = true ∧ (p.made s).by_.k = 0)) : mOk p (p.made s) = true := by
  unfold mOk shB
  rw [made_pl, fix_made]
  simp only [At.made, List.length_map, beq_self_eq_true, Bool.and_self, Bool.true_and, Bool.not_eq_true', Bool.and_eq_false_iff]
  by_cases hv : p.by_.var = true
  · exact Or.inr (decide_eq_false fun h0 => h ⟨hv, h0⟩)
  · exact Or.inl (by simpa using hv)
theorem zip_map_mem {α β : Type} (f : α → β) : ∀ (l : List α) (t : α), t ∈ l → (t, f t) ∈ l.zip (l.map f) := by
  intro l
  induction l with
  | nil => intro t h; cases h
  | cons a l ih =>
    intro t h
    rw [List.map_cons, List.zip_cons_cons]
    rcases List.mem_cons.1 h with rfl | h
    · exact List.mem_cons_self
    · exact List.mem_cons_of_mem _ (ih t h)
/-- Under whatever s says less (s0: nothing, or s itself), Match finds it. -/
theorem made_found (s s0 : List Bd) (p : At) (h : ¬ (p.by_.var = true ∧ (p.made s).by_.k = 0))  (hu : Under s (fb s0)) :
    ∃ out, mRes p (p.made s) s0 = some out ∧ nd out ∧ out.map (·.x) = p.pl.foldl vS ((fb s0).map (·.x)) ∧ ∀ x ∈ vs p.pl, sayT out x = sayT s x := by
  have hv : ∀ t ∈ p.pl, t.var = true → become s t = sayT s t.n := fun t _ => var_become s t
  obtain ⟨out, h1, h2, h3⟩ := mGo_made s p.pl (fb s0) hu hv
  refine ⟨out, ?_, mGo_nd _ _ _ (fb_nd s0) h1, h3, fun x hx => ?_⟩
  · unfold mRes; rw [if_pos (made_ok s p h), made_pl]; exact h1
  · obtain ⟨t, ht, htv, rfl⟩ := mem_vs hx
    have := mGo_makes _ _ _ h1 (t, become s t) (zip_map_mem _ _ _ ht) htv
    simp only at this
    unfold sayT at *
    rw [this]
    exact hv t ht htv
end Go.Proofs.YtlojgaigbdnjjabDoor
