import Derived.Test.YtdfdnjkeiddfjaaDoorSX5
import Derived.Lib.ItoaLen
import Derived.Test.YtdfdnjkeiddfjaaDoorSM1
import Derived.Test.YtdfdnjkeiddfjaaDoorK9
import Derived.BigQuiet
import Derived.Test.YtdfdnjkeiddfjaaDoorK30
import Derived.Lib.AtoiAllCases
import Derived.Laws.AppendOwnNone
import Derived.Laws.AppendOwn
import Derived.Test.YtdfdnjkeiddfjaaDoorSC6
/-
  script (stage 25): PLAIN: a step with small fields has a line; blanks and a remark change nothing.
-/
namespace Go.Proofs.YtdfdnjkeiddfjaaDoor
open Go.RowKit

theorem ib_len {n : Int} (h : N64S n) : (ibS n).size ≤ 21 := by
  have := Lib.itoa_length_le n h.1 h.2
  show (Lib.itoa n).toArray.size ≤ 21
  simpa using this
end Go.Proofs.YtdfdnjkeiddfjaaDoor
/-
  script (stage 25): PLAIN: how long a printed line may be; its parts, one after the other.
-/
namespace Go.Proofs.YtdfdnjkeiddfjaaDoor
open Go.RowKit

theorem sh_big {d : SdO} {b : ByteArray} (h : OkS d b) (p : Int) : (shS d b p).size ≤ 8000002 := by
  have h1 := qt_size d.who
  have h2 := qt_size d.too
  have h3 := qt_size d.tx
  have h4 := qt_size b
  have n1 := nm_le d.who
  have n2 := nm_le d.too
  have i1 := ib_len h.n
  have i2 := ib_len h.m
  have i3 := ib_len h.q
  have o1 := h.who
  have o2 := h.too
  have o3 := h.tx
  have o4 := h.b
  unfold shS
  repeat' split
  all_goals omega
theorem jo_big {d : SdO} {b : ByteArray} (h : OkS d b) : ∀ (ps : List Int) (s : ByteArray), (joS d b ps s).size ≤ s.size + ps.length * 8000003
  | [], s => by simp [joS]
  | p :: ps, s => by
    have ih := jo_big h ps (s ++ (⟨#[32]⟩ : ByteArray) ++ shS d b p)
    have h1 := sh_big h p
    simp only [ByteArray.size_append] at ih
    have : (⟨#[32]⟩ : ByteArray).size = 1 := rfl
    rw [List.length_cons, Nat.add_mul]
    show (joS d b ps _).size ≤ _
    omega
end Go.Proofs.YtdfdnjkeiddfjaaDoor
