import GoSem.Op.String
import Derived.Laws.Strings
import Derived.Test.YtjnipcakjoiplaaDoorB1
import Derived.Laws.Cover1
import Derived.Laws.IdiomStrings
import Derived.Deep.QuietTactic
import Derived.BigQuiet
/-
  Texts in their order, as plain mathematics.
-/
namespace Go.Proofs.YtjnipcakjoiplaaDoor
namespace M

def bl := Go.Op.bytesLess
/-- -1, 0 or 1 of two texts. -/
def sgL (x y : List UInt8) : Int := if bl x y then -1 else if x = y then 0 else 1
def sgI (a b : Int) : Int := if a < b then -1 else if b < a then 1 else 0
def at_ (s : ByteArray) (j : Nat) : Int := if h : j < s.size then (s[j].toNat : Int) else 0
end M
end Go.Proofs.YtjnipcakjoiplaaDoor
/-
  cmp.Compare of numbers and of texts; Compare of terms; the same of the reference.
-/
namespace Go.Proofs.YtjnipcakjoiplaaDoor
open Go.RowKit

/-- Of two terms: by kind, number, text. -/
def Tm.cmp (a b : Tm) : Int := if a.k ≠ b.k then M.sgI a.k b.k else if a.n ≠ b.n then M.sgI a.n b.n else M.sgL a.s.toList b.s.toList
theorem toList_inj {a b : ByteArray} (h : a.toList = b.toList) : a = b := by
  rw [ByteArray.toList_eq, ByteArray.toList_eq] at h
  exact ByteArray.ext (Array.toList_inj.1 h)
end Go.Proofs.YtjnipcakjoiplaaDoor
/-
  Lists of terms in memory; atoms; place, places, sameShape.
-/
namespace Go.Proofs.YtjnipcakjoiplaaDoor
open Go.RowKit

def TRow (w : World) (b o : Nat) (l : List Tm) : Prop :=
  b < w.heap.size ∧ ∀ i t, l[i]? = some t → w.cell? ⟨b, o + i * 3, none⟩ = some (.int .i64 t.k) ∧ w.cell? ⟨b, o + i * 3 + 1, none⟩ = some (.int .i64 t.n) ∧ w.cell? ⟨b, o + i * 3 + 2, none⟩ = some (.string t.s)
/-- The slice value v holds the terms l. -/
def Ts (w : World) (v : Value) (l : List Tm) : Prop :=
  ∃ a cap, v = .slice a l.length cap ∧ l.length < 1000000000000000000 ∧ (l = [] ∨ ∃ b o, a = some ⟨b, o, none⟩ ∧ TRow w b o l)
theorem TRow.later {w w' : World} {b o l} (h : TRow w b o l) (hb : Below w.heap.size w w') : TRow w' b o l :=
  ⟨Nat.lt_of_lt_of_le h.1 hb.size, fun i t ht => by
    have := h.2 i t ht
    rw [hb.cell (p := ⟨b, _, none⟩) h.1, hb.cell (p := ⟨b, _, none⟩) h.1, hb.cell (p := ⟨b, _, none⟩) h.1]; exact this⟩
theorem Ts.later {w w' : World} {v l} (h : Ts w v l) (hb : Below w.heap.size w w') : Ts w' v l := by
  obtain ⟨a, cap, rfl, hl, h⟩ := h
  refine ⟨a, cap, rfl, hl, ?_⟩
  rcases h with h | ⟨b, o, rfl, h⟩
  · exact Or.inl h
  · exact Or.inr ⟨b, o, rfl, h.later hb⟩
structure At where
  by_ : Tm
  name : ByteArray
  args : List Tm
abbrev At.v (a : At) (x : Value) : Value := .agg #[.int .i64 a.by_.k, .int .i64 a.by_.n, .string a.by_.s, .string a.name, x]
def At.pl (a : At) : List Tm := a.by_ :: a.args
def At.ok (w : World) (a : At) (x : Value) : Prop := Ts w x a.args
theorem three {w : World} {g : Nat} {a b c : Value} {t : TypeId} (h : w.heap[g]? = some (.cells #[a, b, c] t (0, 0))) :
    w.cell? ⟨g, 0, none⟩ = some a ∧ w.cell? ⟨g, 1, none⟩ = some b ∧ w.cell? ⟨g, 2, none⟩ = some c ∧ w.frozen? ⟨g, 0, none⟩ = false ∧ w.frozen? ⟨g, 1, none⟩ = false ∧ w.frozen? ⟨g, 2, none⟩ = false :=
  ⟨cell_of_row _ _ _ _ _ _ h, cell_of_row _ _ _ _ _ _ h, cell_of_row _ _ _ _ _ _ h, frozen_of_row _ _ _ _ _ h, frozen_of_row _ _ _ _ _ h, frozen_of_row _ _ _ _ _ h⟩
/-- A bind: a variable's number, and what it stands for. -/
structure Bd where
  x : Int
  to : Tm
deriving DecidableEq
abbrev Bd.v (d : Bd) : Value := .agg #[.int .i64 d.x, .int .i64 d.to.k, .int .i64 d.to.n, .string d.to.s]
def BRow (w : World) (b o : Nat) (l : List Bd) : Prop :=
  b < w.heap.size ∧ ∀ i t, l[i]? = some t → w.cell? ⟨b, o + i * 4, none⟩ = some (.int .i64 t.x) ∧ w.cell? ⟨b, o + i * 4 + 1, none⟩ = some (.int .i64 t.to.k) ∧ w.cell? ⟨b, o + i * 4 + 2, none⟩ = some (.int .i64 t.to.n) ∧ w.cell? ⟨b, o + i * 4 + 3, none⟩ = some (.string t.to.s)
def Bs (w : World) (v : Value) (l : List Bd) : Prop :=
  ∃ a cap, v = .slice a l.length cap ∧ l.length < 1000000000000000000 ∧ (l = [] ∨ ∃ b o, a = some ⟨b, o, none⟩ ∧ BRow w b o l)
theorem BRow.later {w w' : World} {b o l} (h : BRow w b o l) (hb : Below w.heap.size w w') : BRow w' b o l :=
  ⟨Nat.lt_of_lt_of_le h.1 hb.size, fun i t ht => by
    have := h.2 i t ht
    rw [hb.cell (p := ⟨b, _, none⟩) h.1, hb.cell (p := ⟨b, _, none⟩) h.1, hb.cell (p := ⟨b, _, none⟩) h.1, hb.cell (p := ⟨b, _, none⟩) h.1]; exact this⟩
theorem Bs.later {w w' : World} {v l} (h : Bs w v l) (hb : Below w.heap.size w w') : Bs w' v l := by
  obtain ⟨a, cap, rfl, hl, h⟩ := h
  refine ⟨a, cap, rfl, hl, ?_⟩
  rcases h with h | ⟨b, o, rfl, h⟩
  · exact Or.inl h
  · exact Or.inr ⟨b, o, rfl, h.later hb⟩
def zt : Tm := ⟨0, 0, ⟨#[]⟩⟩
end Go.Proofs.YtjnipcakjoiplaaDoor
