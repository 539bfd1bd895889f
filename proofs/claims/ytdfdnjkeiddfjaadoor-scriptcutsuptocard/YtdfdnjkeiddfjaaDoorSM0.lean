import Derived.Test.YtdfdnjkeiddfjaaDoorSX2
import Derived.Test.YtdfdnjkeiddfjaaDoorK3
import Derived.Stop.LaidErr
import Derived.Test.YtdfdnjkeiddfjaaDoorSC9
import Derived.Test.YtdfdnjkeiddfjaaDoorSM1
/-
  script (stage 25): PLAIN: a printed line is cut into its parts, and read as the step.
-/
namespace Go.Proofs.YtdfdnjkeiddfjaaDoor
open Go.RowKit

def N64S (n : Int) : Prop := -9223372036854775808 ≤ n ∧ n ≤ 9223372036854775807
/-- A step that can be handed in. -/
structure OkS (d : SdO) (b : ByteArray) : Prop where
  who : d.who.size ≤ 2000000
  too : d.too.size ≤ 2000000
  tx : d.tx.size ≤ 2000000
  b : b.size ≤ 2000000
  k : N64S d.k
  n : N64S d.n
  m : N64S d.m
  q : N64S d.q
theorem jo_app (d : SdO) (b : ByteArray) : ∀ (ps qs : List Int) (s : ByteArray), joS d b (ps ++ qs) s = joS d b qs (joS d b ps s)
  | [], _, _ => rfl
  | _ :: ps, qs, _ => jo_app d b ps qs _
end Go.Proofs.YtdfdnjkeiddfjaaDoor
/-
  What the rows lay, as it is read.
-/
namespace Go.Proofs.YtdfdnjkeiddfjaaDoor
open Go.RowKit

theorem Tryd.gES : Tryd.prog.globalNamed "strconv.ErrSyntax" = some 3 := by kernel_rfl
theorem Tryd.gEST : (Tryd.prog.globals[3]?).map (·.type) = some 104 := by kernel_rfl
theorem Tryd.gER : Tryd.prog.globalNamed "strconv.ErrRange" = some 4 := by kernel_rfl
theorem Tryd.gERT : (Tryd.prog.globals[4]?).map (·.type) = some 104 := by kernel_rfl
theorem Tryd.gPW : Tryd.prog.globalNamed "internal/strconv.uint64pow10" = some 5 := by kernel_rfl
theorem Tryd.gPWT : (Tryd.prog.globals[5]?).map (·.type) = some 142 := by kernel_rfl
theorem Tryd.cellsES : Tryd.prog.cellsOf 139 = 1 := by kernel_rfl
theorem Tryd.cellsU64 : Tryd.prog.cellsOf 124 = 1 := by kernel_rfl
theorem Tryd.cellsPow : Tryd.prog.cellsOf 142 = 20 := by kernel_rfl
theorem Tryd.star : "*" ++ "errors.errorString" = "*errors.errorString" := by decide
theorem Tryd.rowES (u : TypeId) (h : Tryd.prog.typeName? 3 u = some "*errors.errorString") : u = 137 :=
  typeName_ptr_named (nm := "errors.errorString") (by rw [Tryd.star]; kernel_rfl) (by kernel_rfl) (by decide) u (by rw [Tryd.star]; exact h)
abbrev laid6 : List (String × DataW Unit) := [("math/bits.deBruijn32tab", Rows.laid_math_bits_deBruijn32tab), ("math/bits.deBruijn64tab", Rows.laid_math_bits_deBruijn64tab), ("internal/strconv.uint64pow10", Rows.laid_internal_strconv_uint64pow10), ("strconv.ErrRange", Rows.laid_strconv_ErrRange), ("strconv.ErrSyntax", Rows.laid_strconv_ErrSyntax), ("hearsay/tokens.signs", Rows.laid_hearsay_tokens_signs)]
theorem noHandle {W : World} {l : List (String × DataW Unit)} (hl : (l.filter fun x => x.2.handleName?.isSome) = []) (h : laidMetH Tryd.prog l W) : laidMet Tryd.prog l W := by
  unfold laidMetH at h
  rw [hl] at h
  exact h
set_option maxRecDepth 100000 in
theorem env_of_laid {W : World} (h : laidMetH Tryd.prog laid6 W) : EnvOk W := by
  have h0 : laidMet Tryd.prog laid6 W := noHandle rfl h
  have hp : laidMet Tryd.prog (("internal/strconv.uint64pow10", Lib.tabData .u64 Lib.pow10Tab) :: [("strconv.ErrRange", Rows.laid_strconv_ErrRange), ("strconv.ErrSyntax", Rows.laid_strconv_ErrSyntax), ("hearsay/tokens.signs", Rows.laid_hearsay_tokens_signs)]) W := h0.tail.tail
  have hr := hp.tail
  have hs := hr.tail
  have hg := hs.tail
  obtain ⟨a1, s1, hv1, -, -, -⟩ := laid_sentinel hr Tryd.gER Tryd.gERT Tryd.underlying104 Tryd.rowES Tryd.underlying137 Tryd.underlying139 rfl rfl Tryd.underlying9 Tryd.cellsES Tryd.cellsStr
  obtain ⟨a2, s2, hv2, -, -, -⟩ := laid_sentinel hs Tryd.gES Tryd.gEST Tryd.underlying104 Tryd.rowES Tryd.underlying137 Tryd.underlying139 rfl rfl Tryd.underlying9 Tryd.cellsES Tryd.cellsStr
  exact ⟨signs_of_laid hg, ⟨_, _, hv2⟩, ⟨_, _, hv1⟩, Lib.tabIs_of_head Tryd.gPW Tryd.gPWT Tryd.underlying142 Tryd.underlying124 Tryd.cellsU64 Tryd.cellsPow hp⟩
end Go.Proofs.YtdfdnjkeiddfjaaDoor
/-
  script (stage 25): what the program's package variables are; what Read answers, as it is told.
-/
namespace Go.Proofs.YtdfdnjkeiddfjaaDoor
open Go.RowKit

/-- What the program's package variables are. -/
def EnS (w : World) : Prop := EnvOk w ∧ TblOk w
theorem EnS.env {w : World} (h : EnS w) : EnvOk w := h.1
theorem EnS.tbl {w : World} (h : EnS w) : TblOk w := h.2
theorem EnS.later {w w' : World} (h : EnS w) (hb : Below w.heap.size w w') : EnS w' := ⟨h.1.later hb, h.2.later hb⟩
/-- What Read answers, as it is told. -/
def RsS.v (r : RsS) (a : Option Addr) (c : Nat) : Value := .tuple #[r.d.v a r.b.size c, .agg #[.int .i64 r.e, .int .i64 r.p]]
def RdQ (w : World) (r : RsS) (e : Ending) (w' : World) : Prop := ∃ a c, e = .returned (r.v a c) ∧ OwY w' w.heap.size (.slice a r.b.size c) (blK r.b) ∧ Below w.heap.size w w'
/-- A step's cells. -/
abbrev SdO.v0 (d : SdO) (v : Value) : Array Value := #[.int .i64 d.k, .string d.who, .string d.too, .string d.tx, v, .int .i64 d.n, .int .i64 d.m, .int .i64 d.q]
end Go.Proofs.YtdfdnjkeiddfjaaDoor
