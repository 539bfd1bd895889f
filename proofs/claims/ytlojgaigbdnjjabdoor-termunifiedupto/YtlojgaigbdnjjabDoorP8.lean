/-
  ref's Class, as plain lists.
-/
import Derived.Test.YtlojgaigbdnjjabDoorP7
namespace Go.Proofs.YtlojgaigbdnjjabDoor
open Go.RowKit

theorem nodup_len {α : Type} [DecidableEq α] : ∀ (l m : List α), l.Nodup → (∀ u ∈ l, u ∈ m) → l.length ≤ m.length := by
  intro l
  induction l with
  | nil => intro m _ _; exact Nat.zero_le _
  | cons a l ih =>
    intro m h hs
    rw [List.nodup_cons] at h
    have hm : a ∈ m := hs a List.mem_cons_self
    have := ih (m.erase a) h.2 fun u hu => (List.mem_erase_of_ne (a := u) (b := a) (fun e => h.1 (by rw [← e]; exact hu))).2 (hs u (List.mem_cons_of_mem _ hu))
    rw [List.length_erase_of_mem hm] at this
    have := List.length_pos_of_mem hm
    rw [List.length_cons]
    omega
/-- A part of the class of t. -/
structure Cls (x y : List Tm) (t : Tm) (l : List Tm) : Prop where
  head : l[0]? = some t
  nd : l.Nodup
  sub : ∀ u ∈ l, u = t ∨ u ∈ x ∨ u ∈ y
  con : ∀ f : Tm → Tm, (∀ p ∈ x.zip y, f p.1 = f p.2) → ∀ u ∈ l, f u = f t
theorem Cls.one (x y : List Tm) (t : Tm) : Cls x y t [t] :=
  ⟨rfl, by simp, fun u hu => Or.inl (by simpa using hu), fun f _ u hu => by rw [List.mem_singleton.1 hu]⟩
theorem Cls.len {x y : List Tm} {t : Tm} {l : List Tm} (h : Cls x y t l) : l.length ≤ x.length + y.length + 1 := by
  have := nodup_len l (t :: (x ++ y)) h.nd fun u hu => by
    rcases h.sub u hu with h | h | h
    · rw [h]; exact List.mem_cons_self
    · exact List.mem_cons_of_mem _ (List.mem_append_left _ h)
    · exact List.mem_cons_of_mem _ (List.mem_append_right _ h)
  simp only [List.length_cons, List.length_append] at this
  omega
theorem mem_zip_at {x y : List Tm} {k : Nat} {a b : Tm} (ha : x[k]? = some a) (hb : y[k]? = some b) : (a, b) ∈ x.zip y := by
  refine List.mem_of_getElem? (i := k) ?_
  rw [List.getElem?_zip_eq_some]
  exact ⟨ha, hb⟩
theorem Cls.addR {x y : List Tm} {t a b : Tm} {l : List Tm} {k : Nat} (h : Cls x y t l) (ha : x[k]? = some a) (hb : y[k]? = some b) (hl : a ∈ l) (hn : ¬ b ∈ l) : Cls x y t (l ++ [b]) := by
  refine ⟨?_, ?_, fun u hu => ?_, fun f hf u hu => ?_⟩
  · have h0 := (List.getElem?_eq_some_iff.1 h.head).1
    rw [List.getElem?_append_left h0]; exact h.head
  · rw [List.nodup_append]
    exact ⟨h.nd, by simp, fun u hu v hv e => hn (by rw [← List.mem_singleton.1 hv, ← e]; exact hu)⟩
  · rcases List.mem_append.1 hu with hu | hu
    · exact h.sub u hu
    · rw [List.mem_singleton.1 hu]; exact Or.inr (Or.inr (List.mem_of_getElem? hb))
  · rcases List.mem_append.1 hu with hu | hu
    · exact h.con f hf u hu
    · rw [List.mem_singleton.1 hu, ← h.con f hf a hl]; exact (hf _ (mem_zip_at ha hb)).symm
theorem Cls.addL {x y : List Tm} {t a b : Tm} {l : List Tm} {k : Nat} (h : Cls x y t l) (ha : x[k]? = some a) (hb : y[k]? = some b) (hl : b ∈ l) (hn : ¬ a ∈ l) : Cls x y t (l ++ [a]) := by
  refine ⟨?_, ?_, fun u hu => ?_, fun f hf u hu => ?_⟩
  · have h0 := (List.getElem?_eq_some_iff.1 h.head).1
    rw [List.getElem?_append_left h0]; exact h.head
  · rw [List.nodup_append]
    exact ⟨h.nd, by simp, fun u hu v hv e => hn (by rw [← List.mem_singleton.1 hv, ← e]; exact hu)⟩
  · rcases List.mem_append.1 hu with hu | hu
    · exact h.sub u hu
    · rw [List.mem_singleton.1 hu]; exact Or.inr (Or.inl (List.mem_of_getElem? ha))
  · rcases List.mem_append.1 hu with hu | hu
    · exact h.con f hf u hu
    · rw [List.mem_singleton.1 hu, ← h.con f hf b hl]; exact hf _ (mem_zip_at ha hb)
/-- At place i of l, pair k has been looked at. -/
def Clo (x y l : List Tm) (i k : Nat) : Prop := ∀ u a b, l[i]? = some u → x[k]? = some a → y[k]? = some b → (a = u → b ∈ l) ∧ (b = u → a ∈ l)
theorem Clo.more {x y l m : List Tm} {i k : Nat} (h : Clo x y l i k) (hi : i < l.length) : Clo x y (l ++ m) i k := fun u a b hu ha hb => by
  rw [List.getElem?_append_left hi] at hu
  have := h u a b hu ha hb
  exact ⟨fun e => List.mem_append_left _ (this.1 e), fun e => List.mem_append_left _ (this.2 e)⟩
/-- The whole class. -/
structure Full (x y : List Tm) (t : Tm) (l : List Tm) : Prop where
  cls : Cls x y t l
  clo : ∀ i k, i < l.length → Clo x y l i k
theorem Full.shut {x y : List Tm} {t : Tm} {l : List Tm} (h : Full x y t l) {k : Nat} {a b : Tm} (ha : x[k]? = some a) (hb : y[k]? = some b) : a ∈ l ↔ b ∈ l := by
  constructor
  · intro hl
    obtain ⟨i, hi, rfl⟩ := List.mem_iff_getElem.1 hl
    exact (h.clo i k hi _ _ _ (List.getElem?_eq_getElem hi) ha hb).1 rfl
  · intro hl
    obtain ⟨i, hi, rfl⟩ := List.mem_iff_getElem.1 hl
    exact (h.clo i k hi _ _ _ (List.getElem?_eq_getElem hi) ha hb).2 rfl
/-- Inside the loops: the places below i are done, at place i the pairs below k. -/
structure Part (x y : List Tm) (t : Tm) (l : List Tm) (i k : Nat) : Prop where
  cls : Cls x y t l
  here : i < l.length
  done : ∀ i' k', i' < i → Clo x y l i' k'
  row : ∀ k', k' < k → Clo x y l i k'
theorem Part.step {x y : List Tm} {t a b u : Tm} {l : List Tm} {i k : Nat} (h : Part x y t l i k) (hu : l[i]? = some u) (ha : x[k]? = some a) (hb : y[k]? = some b) (h1 : a = u → b ∈ l) (h2 : b = u → a ∈ l) : Part x y t l i (k + 1) := by
  refine ⟨h.cls, h.here, h.done, fun k' hk => ?_⟩
  by_cases e : k' = k
  · subst e
    intro u' a' b' hu' ha' hb'
    rw [hu] at hu'; rw [ha] at ha'; rw [hb] at hb'
    cases hu'; cases ha'; cases hb'
    exact ⟨h1, h2⟩
  · exact h.row k' (by omega)
theorem Part.addR {x y : List Tm} {t a b : Tm} {l : List Tm} {i k : Nat} (h : Part x y t l i k) (hu : l[i]? = some a) (ha : x[k]? = some a) (hb : y[k]? = some b) (hn : ¬ b ∈ l) : Part x y t (l ++ [b]) i k :=
  ⟨h.cls.addR ha hb (List.mem_of_getElem? hu) hn, by have := h.here; simp; omega, fun i' k' hi => (h.done i' k' hi).more (by have := h.here; omega), fun k' hk => (h.row k' hk).more h.here⟩
theorem Part.addL {x y : List Tm} {t a b : Tm} {l : List Tm} {i k : Nat} (h : Part x y t l i k) (hu : l[i]? = some b) (ha : x[k]? = some a) (hb : y[k]? = some b) (hn : ¬ a ∈ l) : Part x y t (l ++ [a]) i k :=
  ⟨h.cls.addL ha hb (List.mem_of_getElem? hu) hn, by have := h.here; simp; omega, fun i' k' hi => (h.done i' k' hi).more (by have := h.here; omega), fun k' hk => (h.row k' hk).more h.here⟩
theorem Part.next {x y : List Tm} {t : Tm} {l : List Tm} {i : Nat} (h : Part x y t l i x.length) : ∀ i' k', i' < i + 1 → Clo x y l i' k' := fun i' k' hi => by
  by_cases e : i' = i
  · subst e
    by_cases hk : k' < x.length
    · exact h.row k' hk
    · intro u a b _ ha _
      rw [List.getElem?_eq_none (by omega)] at ha; cases ha
  · exact h.done i' k' (by omega)
end Go.Proofs.YtlojgaigbdnjjabDoor
