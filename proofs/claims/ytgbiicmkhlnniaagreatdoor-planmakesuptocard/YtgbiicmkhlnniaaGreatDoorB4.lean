/-
  Lists of terms in memory; atoms; place, places, sameShape.
-/
import Derived.Test.YtgbiicmkhlnniaaGreatDoorB2
namespace Go.Proofs.YtgbiicmkhlnniaaGreatDoor
open Go.RowKit

def TRow (w : World) (b o : Nat) (l : List Tm) : Prop :=
  b < w.heap.size ∧ ∀ i t, l[i]? = some t → w.cell? ⟨b, o + i * 3, none⟩ = some (.int .i64 t.k) ∧ w.cell? ⟨b, o + i * 3 + 1, none⟩ = some (.int .i64 t.n) ∧ w.cell? ⟨b, o + i * 3 + 2, none⟩ = some (.string t.s)
/-- The slice value v holds the terms l. -/
def Ts (w : World) (v : Value) (l : List Tm) : Prop :=
  ∃ a cap, v = .slice a l.length cap ∧ l.length < 1000000000000000000 ∧ (l = [] ∨ ∃ b o, a = some ⟨b, o, none⟩ ∧ TRow w b o l)
theorem TRow.later {w w' : World} {b o l} (h : TRow w b o l) (hb : Below w.heap.size w w') : TRow w' b o l :=
  ⟨Nat.lt_of_lt_of_le h.1 hb.size, fun i t ht => by
    have := h.2 i t ht
    rw [hb.cell (p := ⟨b, _, none⟩) h.1, hb.cell (p := ⟨b, _, none⟩) h.1, hb.cell (p := ⟨b, _, none⟩) h.1]; exact this⟩
theorem Ts.later {w w' : World} {v l} (h : Ts w v l) (hb : Below w.heap.size w w') : Ts w' v l := by
  obtain ⟨a, cap, rfl, hl, h⟩ := h
  refine ⟨a, cap, rfl, hl, ?_⟩
  rcases h with h | ⟨b, o, rfl, h⟩
  · exact Or.inl h
  · exact Or.inr ⟨b, o, rfl, h.later hb⟩
structure At where
  by_ : Tm
  name : ByteArray
  args : List Tm
abbrev At.v (a : At) (x : Value) : Value := .agg #[.int .i64 a.by_.k, .int .i64 a.by_.n, .string a.by_.s, .string a.name, x]
def At.pl (a : At) : List Tm := a.by_ :: a.args
theorem places_any (a : At) (x : Value) (w : World) (h : Ts w x a.args) :
    Calls Tryz.prog 92 #[a.v x] w fun e w' => e = .returned (.int .i64 a.pl.length) ∧ Below w.heap.size w w' := by
  obtain ⟨⟨k, n, s⟩, nm, l⟩ := a
  obtain ⟨ad, cap, rfl, hl, -⟩ := h
  simp only at hl
  go_enter Tryz.func92, Tryz.ntmps92
  go_wp2
  go_ret
  exact ⟨ret_i (by simp [At.pl]; omega), below1 _ _⟩
set_option maxHeartbeats 400000 in
theorem place_any (a : At) (x : Value) (i : Nat) (t : Tm) (ht : a.pl[i]? = some t) (w : World) (h : Ts w x a.args) :
    Calls Tryz.prog 93 #[a.v x, .int .i64 i] w fun e w' => e = .returned t.v ∧ Below w.heap.size w w' := by
  obtain ⟨⟨k, n, s⟩, nm, l⟩ := a
  obtain ⟨ad, cap, rfl, hl, h⟩ := h
  simp only at hl
  cases i with
  | zero =>
    simp only [At.pl, List.getElem?_cons_zero, Option.some.injEq] at ht
    subst ht
    go_enter Tryz.func93, Tryz.ntmps93
    go_wp2
    exact bodyPost_ret (v := Tm.v ⟨k, n, s⟩) (by simp [results, Tryz.results93, go_sem]) rfl ⟨rfl, below2 _ _ _⟩
  | succ i =>
    simp only [At.pl, List.getElem?_cons_succ] at ht
    have hi : i < l.length := (List.getElem?_eq_some_iff.1 ht).1
    rcases h with h | ⟨b, o, rfl, hbs, h⟩
    · subst h; simp at hi
    · obtain ⟨c0, c1, c2⟩ := h i t ht
      obtain ⟨k', n', s'⟩ := t
      simp only at c0 c1 c2
      have TT : Hid (l[i]? = some ⟨k', n', s'⟩) := ht
      clear h ht
      have i1 : (0 : Int) ≤ (i : Int) := by omega
      have i2 : (i : Int) < (l.length : Int) := by omega
      have e1 : ((i + 1 : Nat) : Int) - 1 = i := by omega
      go_enter Tryz.func93, Tryz.ntmps93
      go_wp2
      exact bodyPost_ret (v := Tm.v ⟨k', n', s'⟩) (by simp [results, Tryz.results93, go_sem]) rfl ⟨rfl, below2 _ _ _⟩
theorem three {w : World} {g : Nat} {a b c : Value} {t : TypeId} (h : w.heap[g]? = some (.cells #[a, b, c] t (0, 0))) :
    w.cell? ⟨g, 0, none⟩ = some a ∧ w.cell? ⟨g, 1, none⟩ = some b ∧ w.cell? ⟨g, 2, none⟩ = some c ∧ w.frozen? ⟨g, 0, none⟩ = false ∧ w.frozen? ⟨g, 1, none⟩ = false ∧ w.frozen? ⟨g, 2, none⟩ = false :=
  ⟨cell_of_row _ _ _ _ _ _ h, cell_of_row _ _ _ _ _ _ h, cell_of_row _ _ _ _ _ _ h, frozen_of_row _ _ _ _ _ h, frozen_of_row _ _ _ _ _ h, frozen_of_row _ _ _ _ _ h⟩
def zt : Tm := ⟨0, 0, ⟨#[]⟩⟩
end Go.Proofs.YtgbiicmkhlnniaaGreatDoor
