/-
  copied: a list of tokens of its own; what Join answers of a list, by its tokens (plain).
-/
import Derived.Test.YtekjicklbgpdcabDoorK32
import Derived.Laws.AppendOwnNone
import Derived.Laws.AppendOwn
namespace Go.Proofs.YtekjicklbgpdcabDoor
open Go.RowKit

/-- Tokens that lie in memory, as they are handed in. -/
def KsO (w : World) (v : Value) (l : List Tk) : Prop := (v = .slice none 0 0 ∧ l = []) ∨ ∃ ad cap, v = .slice (some ad) l.length cap ∧ l.length ≤ 2000000 ∧
  (l = [] ∨ ∃ b o, ad = ⟨b, o, none⟩ ∧ b < w.heap.size ∧ ∀ (i : Nat) (t : Tk), l[i]? = some t → w.cell? ⟨b, o + i * 5, none⟩ = some (.int .i64 t.k) ∧ w.cell? ⟨b, o + i * 5 + 1, none⟩ = some (.string t.x) ∧ w.cell? ⟨b, o + i * 5 + 2, none⟩ = some (.int .i64 t.n) ∧ w.cell? ⟨b, o + i * 5 + 3, none⟩ = some (.int .i64 t.a) ∧ w.cell? ⟨b, o + i * 5 + 4, none⟩ = some (.int .i64 t.e))
theorem KsO.ks {w : World} {v : Value} {l : List Tk} (h : KsO w v l) : Ks w v l := by
  rcases h with ⟨rfl, rfl⟩ | ⟨ad, cap, rfl, -, h⟩
  · exact ⟨none, 0, rfl, Or.inl rfl⟩
  · refine ⟨some ad, cap, rfl, h.imp id ?_⟩
    rintro ⟨b, o, rfl, hlt, hc⟩
    exact ⟨b, o, rfl, hlt, hc⟩
theorem kcs_cell {w : World} {b o : Nat} {l : List Tk} (h : ∀ (i : Nat) (t : Tk), l[i]? = some t → w.cell? ⟨b, o + i * 5, none⟩ = some (.int .i64 t.k) ∧ w.cell? ⟨b, o + i * 5 + 1, none⟩ = some (.string t.x) ∧ w.cell? ⟨b, o + i * 5 + 2, none⟩ = some (.int .i64 t.n) ∧ w.cell? ⟨b, o + i * 5 + 3, none⟩ = some (.int .i64 t.a) ∧ w.cell? ⟨b, o + i * 5 + 4, none⟩ = some (.int .i64 t.e)) (j : Nat) (u : Value) (hj : (kcs l)[j]? = some u) : w.cell? ((⟨b, o, none⟩ : Addr).add j) = some u := by
  rw [Addr.add_mid]
  have hlt := (List.getElem?_eq_some_iff.1 hj).1
  rw [kcs_len] at hlt
  have hi : j / 5 < l.length := by omega
  obtain ⟨t, ht⟩ : ∃ t, l[j / 5]? = some t := ⟨_, List.getElem?_eq_getElem hi⟩
  have hc := h (j / 5) t ht
  have hk := kcs_get l (j / 5) t ht
  have hm : j % 5 = 0 ∨ j % 5 = 1 ∨ j % 5 = 2 ∨ j % 5 = 3 ∨ j % 5 = 4 := by omega
  rcases hm with h5 | h5 | h5 | h5 | h5
  · obtain e : j = j / 5 * 5 := by omega
    rw [e] at hj ⊢; rw [hk.1] at hj; rw [← hj]; exact hc.1
  · obtain e : j = j / 5 * 5 + 1 := by omega
    rw [e] at hj ⊢; rw [hk.2.1] at hj; rw [← hj]; exact hc.2.1
  · obtain e : j = j / 5 * 5 + 2 := by omega
    rw [e] at hj ⊢; rw [hk.2.2.1] at hj; rw [← hj]; exact hc.2.2.1
  · obtain e : j = j / 5 * 5 + 3 := by omega
    rw [e] at hj ⊢; rw [hk.2.2.2.1] at hj; rw [← hj]; exact hc.2.2.2.1
  · obtain e : j = j / 5 * 5 + 4 := by omega
    rw [e] at hj ⊢; rw [hk.2.2.2.2] at hj; rw [← hj]; exact hc.2.2.2.2
theorem kcs_one (l : List Tk) : ∀ u ∈ kcs l, u.oneCell' = true := by
  intro u hu
  simp only [kcs, List.mem_flatMap] at hu
  obtain ⟨t, -, ht⟩ := hu
  simp at ht
  rcases ht with rfl | rfl | rfl | rfl | rfl <;> rfl
/-- Whether all have a spelling is whether the list has a text. -/
theorem jz_some : ∀ (l : List Tk) (p : Option Tk), (jz p l).isSome = l.all (fun t => (spl t).isSome)
  | [], _ => rfl
  | t :: r, p => by
    rw [jz_cons, List.all_cons]
    cases spl t with
    | none => rfl
    | some s => simp only [Option.isSome_map, Option.isSome_some, Bool.true_and]; exact jz_some r (some t)
/-- How long the text is at most. -/
theorem jz_len : ∀ (l : List Tk) (p : Option Tk) (z : List Int), jz p l = some z → z.length ≤ (l.map fun t => ((spl t).getD ⟨#[]⟩).size + 1).sum
  | [], _, z, h => by cases h; simp
  | t :: r, p, z, h => by
    rw [jz_cons] at h
    cases e : spl t with
    | none => rw [e] at h; cases h
    | some s =>
      rw [e] at h
      cases ez : jz (some t) r with
      | none => rw [ez] at h; cases h
      | some z' =>
        rw [ez] at h
        simp only [Option.map_some, Option.some.injEq] at h
        have ih := jz_len r (some t) z' ez
        have hg : (gp p t).length ≤ 1 := by
          unfold gp
          cases p with
          | none => simp
          | some q => simp only; split <;> simp
        rw [← h]
        simp only [List.length_append, bl_len, List.map_cons, List.sum_cons, e, Option.getD_some]
        omega
end Go.Proofs.YtekjicklbgpdcabDoor
