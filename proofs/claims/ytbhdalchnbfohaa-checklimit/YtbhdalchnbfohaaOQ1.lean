import Derived.Test.YtbhdalchnbfohaaLE2
import Derived.Test.YtbhdalchnbfohaaCL20
import Derived.Test.YtbhdalchnbfohaaMP1
import Derived.Test.YtbhdalchnbfohaaCL29
/-
  What Check answers to clauses broken in one way. (Plain.)
-/
namespace Go.Proofs.Ytbhdalchnbfohaa
open Go.RowKit

/-- What Check answers, one by one. -/
theorem key_len (c : Cm) : c.body.length = c.key.2.1.length ∧ c.tests.length = c.key.2.2.length := by simp [Cm.key, fsts]
theorem unb_key {c : Cm} : unb c = (vrs (c.key.1.pl ++ tls c.key.2.2)).any fun v => !decide (v ∈ vrs (c.key.2.1.flatMap At.pl)) := by
  have e1 : c.restC.vars = vrs c.restC.terms := rfl
  have e2 : c.bodyC.vars = vrs c.bodyC.terms := rfl
  have e3 : flt c.body = c.key.2.1.flatMap At.pl := by simp [flt, Cm.key, fsts, List.flatMap_map]
  unfold unb
  rw [e1, e2, restC_terms, bodyC_terms, e3]
  have e4 : vrs (⟨0, 0, ⟨#[]⟩⟩ :: c.key.2.1.flatMap At.pl) = vrs (c.key.2.1.flatMap At.pl) := by unfold vrs; rw [List.filter_cons_of_neg (by rw [zt_var]; simp)]
  rw [e4]; rfl
theorem mis_key {c : Cm} : mis 0 c.vars = mis 0 (vrs (Ck.terms c.key)) := by
  have : c.vars = vrs c.terms := rfl
  rw [this, key_terms]
end Go.Proofs.Ytbhdalchnbfohaa
/-
  What Made makes of a valid clause is that clause; quotes and what has one quote. (Plain.)
-/
namespace Go.Proofs.Ytbhdalchnbfohaa
open Go.RowKit

theorem var_eqQ {t : Tm} (h : t.var = true) : t = ⟨3, t.n, ⟨#[]⟩⟩ := by
  simp only [Tm.var, decide_eq_true_eq] at h
  obtain ⟨k, n, s⟩ := t
  simp only at h
  obtain ⟨rfl, -, rfl⟩ := h
  rfl
theorem fold_n : ∀ (l acc : List Tm), (∀ t ∈ l, t.var = true) → (∀ t ∈ acc, t.var = true) → (l.foldl dstepT acc).map (·.n) = (l.map (·.n)).foldl dstep (acc.map (·.n))
  | [], acc, _, _ => rfl
  | t :: l, acc, h1, h2 => by
    rw [List.foldl_cons, List.map_cons, List.foldl_cons]
    have ht := h1 t (by simp)
    have hm : t.n ∈ acc.map (·.n) ↔ t ∈ acc := ⟨fun hm => by
      obtain ⟨u, hu, e⟩ := List.mem_map.1 hm
      rw [var_eqQ ht, ← e, ← var_eqQ (h2 u hu)]; exact hu, fun hm => List.mem_map.2 ⟨t, hm, rfl⟩⟩
    have e : (dstepT acc t).map (·.n) = dstep (acc.map (·.n)) t.n := by
      unfold dstepT dstep
      by_cases hc : t ∈ acc
      · rw [if_pos hc, if_pos (hm.2 hc)]
      · rw [if_neg hc, if_neg (fun x => hc (hm.1 x))]; simp
    rw [← e]
    refine fold_n l _ (fun u hu => h1 u (by simp [hu])) fun u hu => ?_
    rcases dstepT_mem.1 hu with hu | rfl
    · exact h2 u hu
    · exact ht
theorem disT_n (l : List Tm) : (disT l).map (·.n) = dis (vrs l) := by
  unfold disT dis vrs
  exact fold_n _ [] (fun t ht => (List.mem_filter.1 ht).2) (by simp)
end Go.Proofs.Ytbhdalchnbfohaa
