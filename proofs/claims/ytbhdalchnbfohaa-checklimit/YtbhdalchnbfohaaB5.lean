import Derived.Test.YtbhdalchnbfohaaB2
import Derived.Deep.RegionHeld3
import Derived.Deep.DrawnRows
/-
  Lists of terms in memory; atoms; place, places, sameShape.
-/
namespace Go.Proofs.Ytbhdalchnbfohaa
open Go.RowKit

def TRow (w : World) (b o : Nat) (l : List Tm) : Prop :=
  b < w.heap.size ∧ ∀ i t, l[i]? = some t → w.cell? ⟨b, o + i * 3, none⟩ = some (.int .i64 t.k) ∧ w.cell? ⟨b, o + i * 3 + 1, none⟩ = some (.int .i64 t.n) ∧ w.cell? ⟨b, o + i * 3 + 2, none⟩ = some (.string t.s)
/-- The slice value v holds the terms l. -/
def Ts (w : World) (v : Value) (l : List Tm) : Prop :=
  ∃ a cap, v = .slice a l.length cap ∧ l.length < 1000000000000000000 ∧ (l = [] ∨ ∃ b o, a = some ⟨b, o, none⟩ ∧ TRow w b o l)
theorem TRow.later {w w' : World} {b o l} (h : TRow w b o l) (hb : Below w.heap.size w w') : TRow w' b o l :=
  ⟨Nat.lt_of_lt_of_le h.1 hb.size, fun i t ht => by
    have := h.2 i t ht
    rw [hb.cell (p := ⟨b, _, none⟩) h.1, hb.cell (p := ⟨b, _, none⟩) h.1, hb.cell (p := ⟨b, _, none⟩) h.1]; exact this⟩
theorem Ts.later {w w' : World} {v l} (h : Ts w v l) (hb : Below w.heap.size w w') : Ts w' v l := by
  obtain ⟨a, cap, rfl, hl, h⟩ := h
  refine ⟨a, cap, rfl, hl, ?_⟩
  rcases h with h | ⟨b, o, rfl, h⟩
  · exact Or.inl h
  · exact Or.inr ⟨b, o, rfl, h.later hb⟩
structure At where
  by_ : Tm
  name : ByteArray
  args : List Tm
abbrev At.v (a : At) (x : Value) : Value := .agg #[.int .i64 a.by_.k, .int .i64 a.by_.n, .string a.by_.s, .string a.name, x]
def At.pl (a : At) : List Tm := a.by_ :: a.args
theorem three {w : World} {g : Nat} {a b c : Value} {t : TypeId} (h : w.heap[g]? = some (.cells #[a, b, c] t (0, 0))) :
    w.cell? ⟨g, 0, none⟩ = some a ∧ w.cell? ⟨g, 1, none⟩ = some b ∧ w.cell? ⟨g, 2, none⟩ = some c ∧ w.frozen? ⟨g, 0, none⟩ = false ∧ w.frozen? ⟨g, 1, none⟩ = false ∧ w.frozen? ⟨g, 2, none⟩ = false :=
  ⟨cell_of_row _ _ _ _ _ _ h, cell_of_row _ _ _ _ _ _ h, cell_of_row _ _ _ _ _ _ h, frozen_of_row _ _ _ _ _ h, frozen_of_row _ _ _ _ _ h, frozen_of_row _ _ _ _ _ h⟩
/-- A bind: a variable's number, and what it stands for. -/
structure Bd where
  x : Int
  to : Tm
deriving DecidableEq
def zt : Tm := ⟨0, 0, ⟨#[]⟩⟩
end Go.Proofs.Ytbhdalchnbfohaa
/-
  '==' and '!=' of terms and of binds.
-/
namespace Go.Proofs.Ytbhdalchnbfohaa
open Go.RowKit
theorem run_eql_tm (t u : Tm) (w : World) : (binOp .eql 27 t.v u.v).run Try.prog w = .ok (.bool (decide (t = u))) w := by
  obtain ⟨k, n, s⟩ := t
  obtain ⟨k', n', s'⟩ := u
  by_cases h1 : k = k'
  · by_cases h2 : n = n'
    · by_cases h3 : s = s'
      · subst h1 h2 h3
        go_simp
      · have h4 : ¬ s.toList = s'.toList := fun e => h3 (toList_inj e)
        subst h1 h2
        go_simp
    · subst h1
      go_simp
  · go_simp
theorem run_neq_tm (t u : Tm) (w : World) : (binOp .neq 27 t.v u.v).run Try.prog w = .ok (.bool (!decide (t = u))) w := by
  obtain ⟨k, n, s⟩ := t
  obtain ⟨k', n', s'⟩ := u
  by_cases h1 : k = k'
  · by_cases h2 : n = n'
    · by_cases h3 : s = s'
      · subst h1 h2 h3
        go_simp
      · have h4 : ¬ s.toList = s'.toList := fun e => h3 (toList_inj e)
        subst h1 h2
        go_simp
    · subst h1
      go_simp
  · go_simp
end Go.Proofs.Ytbhdalchnbfohaa
/-
  sameWhereFixed; replace.
-/
namespace Go.Proofs.Ytbhdalchnbfohaa
open Go.RowKit
attribute [local go_sem ↓] Go.wp_at_zero Go.wp_at_succ

theorem five {w : World} {g : Nat} {a b c d f : Value} {t : TypeId} (h : w.heap[g]? = some (.cells #[a, b, c, d, f] t (0, 0))) :
    w.cell? ⟨g, 0, none⟩ = some a ∧ w.cell? ⟨g, 1, none⟩ = some b ∧ w.cell? ⟨g, 2, none⟩ = some c ∧ w.cell? ⟨g, 3, none⟩ = some d ∧ w.cell? ⟨g, 4, none⟩ = some f :=
  ⟨cell_of_row _ _ _ _ _ _ h, cell_of_row _ _ _ _ _ _ h, cell_of_row _ _ _ _ _ _ h, cell_of_row _ _ _ _ _ _ h, cell_of_row _ _ _ _ _ _ h⟩
theorem below_step {W w' w3 : World} (h : Below W.heap.size W w') (h3 : Below w'.heap.size w' w3) : Below W.heap.size W w3 := h.trans (h3.mono h.size)
theorem cell_step {w' w3 : World} {b o : Nat} {v : Value} (h3 : Below w'.heap.size w' w3) (hb : b < w'.heap.size) (hc : w'.cell? ⟨b, o, none⟩ = some v) : w3.cell? ⟨b, o, none⟩ = some v := by
  rw [h3.cell (p := ⟨b, o, none⟩) hb]; exact hc
theorem lt_step {w' w3 : World} {b : Nat} (h3 : Below w'.heap.size w' w3) (hb : b < w'.heap.size) : b < w3.heap.size := Nat.lt_of_lt_of_le hb h3.size
end Go.Proofs.Ytbhdalchnbfohaa
