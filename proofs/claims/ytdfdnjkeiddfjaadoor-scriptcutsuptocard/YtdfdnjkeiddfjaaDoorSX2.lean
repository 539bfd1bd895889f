import Derived.Test.YtdfdnjkeiddfjaaDoorSC7
import Derived.Deep.Cut
import Derived.Test.YtdfdnjkeiddfjaaDoorSC6
import Derived.Test.YtdfdnjkeiddfjaaDoorK37
import Derived.Laws.AppendOwnNone
import Derived.Laws.AppendOwn
/-
  script (stage 25): the document's clean.
-/
namespace Go.Proofs.YtdfdnjkeiddfjaaDoor
open Go.RowKit
attribute [local go_sem ↓] Go.wp_at_zero Go.wp_at_succ

/-- Is a field that isn't zero one of the row's parts? -/
def okS (z : Bool) (ps : ByteArray) (p : Int) : Bool := z || inS ps p
def clS (ps : ByteArray) (d : SdO) (bn : Nat) : Bool :=
  (okS (decide (d.who = ⟨#[]⟩)) ps 119 && okS (decide (d.too = ⟨#[]⟩)) ps 111 && okS (decide (d.tx = ⟨#[]⟩)) ps 116 && okS (decide (bn = 0)) ps 98) && (okS (decide (d.n = 0)) ps 110 && okS (decide (d.m = 0)) ps 109 && okS (decide (d.q = 0)) ps 107)
end Go.Proofs.YtdfdnjkeiddfjaaDoor
/-
  hearsaylaw04.TokensQuoted: the walk.
-/
namespace Go.Proofs.YtdfdnjkeiddfjaaDoor
open Go.RowKit

theorem qt_size (s : ByteArray) : (qtB s).size ≤ 4 * s.size + 2 := by
  have := qtl_len s s.size
  have e : (qtB s).size = (qtl s s.size).length + 1 := by show (i2b (qtl s s.size ++ [34])).toArray.size = _; simp [i2b]
  omega
end Go.Proofs.YtdfdnjkeiddfjaaDoor
/-
  script (stage 25): PLAIN: what is read of a line, what is printed of a step.
-/
namespace Go.Proofs.YtdfdnjkeiddfjaaDoor
open Go.RowKit

/-- What Read answers: a step, its bytes, the fault. -/
structure RsS where
  d : SdO
  b : ByteArray
  e : Int
  p : Int
def zdS : SdO := ⟨0, ⟨#[]⟩, ⟨#[]⟩, ⟨#[]⟩, 0, 0, 0⟩
def noS (e p : Int) : RsS := ⟨zdS, ⟨#[]⟩, e, p⟩
def zrS : RwS := ⟨⟨#[]⟩, 0, ⟨#[]⟩⟩
/-- The last of the first i rows that has this name. -/
def lsS (x : ByteArray) : Nat → RwS
  | 0 => zrS
  | i + 1 => if (rwS.getD i zrS).x = x then rwS.getD i zrS else lsS x i
/-- The row that a token names. -/
def rwT (t : Tk) : RwS := if t.k = 1 then lsS t.x 24 else zrS
def putB (p : Int) (b : ByteArray) (t : Tk) : ByteArray := if p = 98 then t.x else b
/-- The parts, one after the other. -/
def goS (L : Int) : List Int → List Tk → SdO → ByteArray → RsS
  | [], [], d, b => ⟨d, b, 0, 0⟩
  | [], t :: _, _, _ => noS 253 t.a
  | _ :: _, [], _, _ => noS 253 L
  | p :: ps, t :: l, d, b => if ftS p t.k = true then goS L ps l (putS p d t) (putB p b t) else noS 253 t.a
def rlS (L : Int) : List Tk → RsS
  | [] => noS 252 L
  | t :: l => if (rwT t).k = 0 then noS 252 t.a else goS L (blK (rwT t).p) l { zdS with k := (rwT t).k } ⟨#[]⟩
def rdS (s : ByteArray) : RsS :=
  if 65536 < s.size then noS 251 0 else
    if (cutL (blK s) (s.size : Int)).2.1 = 0 then rlS s.size (cutL (blK s) (s.size : Int)).1 else noS (cutL (blK s) (s.size : Int)).2.1 (cutL (blK s) (s.size : Int)).2.2
/-- A part as it is written. -/
def shS (d : SdO) (b : ByteArray) (p : Int) : ByteArray :=
  if p = 119 then nmS d.who else if p = 111 then nmS d.too else if p = 116 then qtB d.tx else if p = 98 then qtB b else if p = 110 then ibS d.n else if p = 109 then ibS d.m else ibS d.q
/-- The parts, a blank ahead of each. -/
def joS (d : SdO) (b : ByteArray) : List Int → ByteArray → ByteArray
  | [], s => s
  | p :: ps, s => joS d b ps (s ++ (⟨#[32]⟩ : ByteArray) ++ shS d b p)
def roK (k : Int) : Option RwS := rwS.find? fun r => decide (r.k = k)
def prS (d : SdO) (b : ByteArray) : Option ByteArray :=
  match roK d.k with
  | none => none
  | some r => if clS r.p d b.size = true then (if (joS d b (blK r.p) r.x).size ≤ 65536 then some (joS d b (blK r.p) r.x) else none) else none
theorem rw_get {i : Nat} (h : i < 24) : rwS[i]? = some (rwS.getD i zrS) := by
  rw [List.getD_eq_getElem?_getD, List.getElem?_eq_getElem (show i < rwS.length from h)]; rfl
theorem rw_k {i : Nat} (h : i < 24) : (rwS.getD i zrS).k = (i : Int) + 1 := by
  have : ∀ i : Nat, i < 24 → (rwS.getD i zrS).k = (i : Int) + 1 := by decide
  exact this i h
theorem rw_le (i : Nat) : (rwS.getD i zrS).x.size ≤ 9 ∧ (rwS.getD i zrS).p.size ≤ 3 := by
  by_cases h : i < 24
  · have : ∀ i : Nat, i < 24 → (rwS.getD i zrS).x.size ≤ 9 ∧ (rwS.getD i zrS).p.size ≤ 3 := by decide
    exact this i h
  · rw [List.getD_eq_getElem?_getD, List.getElem?_eq_none (show rwS.length ≤ i from Nat.le_of_not_lt h)]
    decide
theorem ls_any (x : ByteArray) : ∀ i, lsS x i = zrS ∨ ∃ j, j < i ∧ lsS x i = rwS.getD j zrS ∧ (rwS.getD j zrS).x = x
  | 0 => Or.inl rfl
  | i + 1 => by
    unfold lsS
    split
    · exact Or.inr ⟨i, by omega, rfl, by assumption⟩
    · rcases ls_any x i with h | ⟨j, h1, h2, h3⟩
      · exact Or.inl h
      · exact Or.inr ⟨j, by omega, h2, h3⟩
theorem roK_at {i : Nat} (h : i < 24) : roK ((i : Int) + 1) = some (rwS.getD i zrS) := by
  have h2 : ∀ i : Nat, i < 24 → (rwS.findIdx? fun r => decide (r.k = (i : Int) + 1)) = some i := by decide
  have h3 := h2 i h
  unfold roK
  rw [List.findIdx?_eq_some_iff_getElem] at h3
  obtain ⟨hl, h4, h5⟩ := h3
  rw [List.find?_eq_some_iff_getElem]
  refine ⟨by simpa using rw_k h, i, hl, ?_, fun j hj => ?_⟩
  · have := rw_get h
    rw [List.getElem?_eq_getElem hl] at this
    exact Option.some.inj this
  · have := h5 j hj
    simpa using this
theorem roK_any (k : Int) : (roK k = none ∧ ∀ i : Nat, i < 24 → (rwS.getD i zrS).k ≠ k) ∨ ∃ i : Nat, i < 24 ∧ k = (i : Int) + 1 ∧ roK k = some (rwS.getD i zrS) := by
  by_cases h : 1 ≤ k ∧ k ≤ 24
  · obtain ⟨i, hi⟩ : ∃ i : Nat, k = (i : Int) + 1 := ⟨(k - 1).toNat, by omega⟩
    exact Or.inr ⟨i, by omega, hi, by rw [hi]; exact roK_at (by omega)⟩
  · refine Or.inl ⟨?_, fun i hi => by rw [rw_k hi]; omega⟩
    unfold roK
    rw [List.find?_eq_none]
    intro r hr
    obtain ⟨i, hi, rfl⟩ := List.mem_iff_getElem.1 hr
    have hi2 : i < 24 := hi
    have := rw_get hi2
    rw [List.getElem?_eq_getElem hi] at this
    rw [Option.some.inj this, rw_k hi2]
    simp
    omega
end Go.Proofs.YtdfdnjkeiddfjaaDoor
