import Derived.Test.YtdfdnjkeiddfjaaDoorSC7
import Derived.Deep.Cut
import Derived.Test.YtdfdnjkeiddfjaaDoorSC6
import Derived.Test.YtdfdnjkeiddfjaaDoorK37
import Derived.Laws.AppendOwnNone
import Derived.Laws.AppendOwn
import Derived.Test.YtdfdnjkeiddfjaaDoorK3
import Derived.Stop.LaidErr
import Derived.Test.YtdfdnjkeiddfjaaDoorSC9
import Derived.Test.YtdfdnjkeiddfjaaDoorSM1
/-
  script (stage 25): the document's clean.
-/
namespace Go.Proofs.YtdfdnjkeiddfjaaDoor
open Go.RowKit
attribute [local go_sem ↓] Go.wp_at_zero Go.wp_at_succ

/-- Is a field that isn't zero one of the row's parts? -/
def okS (z : Bool) (ps : ByteArray) (p : Int) : Bool := z || inS ps p
def clS (ps : ByteArray) (d : SdO) (bn : Nat) : Bool :=
  (okS (decide (d.who = ⟨#[]⟩)) ps 119 && okS (decide (d.too = ⟨#[]⟩)) ps 111 && okS (decide (d.tx = ⟨#[]⟩)) ps 116 && okS (decide (bn = 0)) ps 98) && (okS (decide (d.n = 0)) ps 110 && okS (decide (d.m = 0)) ps 109 && okS (decide (d.q = 0)) ps 107)
end Go.Proofs.YtdfdnjkeiddfjaaDoor
/-
  hearsaylaw04.TokensQuoted: the walk.
-/
namespace Go.Proofs.YtdfdnjkeiddfjaaDoor
open Go.RowKit

theorem qt_size (s : ByteArray) : (qtB s).size ≤ 4 * s.size + 2 := by
  have := qtl_len s s.size
  have e : (qtB s).size = (qtl s s.size).length + 1 := by show (i2b (qtl s s.size ++ [34])).toArray.size = _; simp [i2b]
  omega
end Go.Proofs.YtdfdnjkeiddfjaaDoor
/-
  script (stage 25): PLAIN: what is read of a line, what is printed of a step.
-/
namespace Go.Proofs.YtdfdnjkeiddfjaaDoor
open Go.RowKit

/-- What Read answers: a step, its bytes, the fault. -/
structure RsS where
  d : SdO
  b : ByteArray
  e : Int
  p : Int
def zdS : SdO := ⟨0, ⟨#[]⟩, ⟨#[]⟩, ⟨#[]⟩, 0, 0, 0⟩
def noS (e p : Int) : RsS := ⟨zdS, ⟨#[]⟩, e, p⟩
def zrS : RwS := ⟨⟨#[]⟩, 0, ⟨#[]⟩⟩
/-- The last of the first i rows that has this name. -/
def lsS (x : ByteArray) : Nat → RwS
  | 0 => zrS
  | i + 1 => if (rwS.getD i zrS).x = x then rwS.getD i zrS else lsS x i
/-- The row that a token names. -/
def rwT (t : Tk) : RwS := if t.k = 1 then lsS t.x 24 else zrS
def putB (p : Int) (b : ByteArray) (t : Tk) : ByteArray := if p = 98 then t.x else b
/-- The parts, one after the other. -/
def goS (L : Int) : List Int → List Tk → SdO → ByteArray → RsS
  | [], [], d, b => ⟨d, b, 0, 0⟩
  | [], t :: _, _, _ => noS 253 t.a
  | _ :: _, [], _, _ => noS 253 L
  | p :: ps, t :: l, d, b => if ftS p t.k = true then goS L ps l (putS p d t) (putB p b t) else noS 253 t.a
def rlS (L : Int) : List Tk → RsS
  | [] => noS 252 L
  | t :: l => if (rwT t).k = 0 then noS 252 t.a else goS L (blK (rwT t).p) l { zdS with k := (rwT t).k } ⟨#[]⟩
def rdS (s : ByteArray) : RsS :=
  if 65536 < s.size then noS 251 0 else
    if (cutL (blK s) (s.size : Int)).2.1 = 0 then rlS s.size (cutL (blK s) (s.size : Int)).1 else noS (cutL (blK s) (s.size : Int)).2.1 (cutL (blK s) (s.size : Int)).2.2
/-- A part as it is written. -/
def shS (d : SdO) (b : ByteArray) (p : Int) : ByteArray :=
  if p = 119 then nmS d.who else if p = 111 then nmS d.too else if p = 116 then qtB d.tx else if p = 98 then qtB b else if p = 110 then ibS d.n else if p = 109 then ibS d.m else ibS d.q
/-- The parts, a blank ahead of each. -/
def joS (d : SdO) (b : ByteArray) : List Int → ByteArray → ByteArray
  | [], s => s
  | p :: ps, s => joS d b ps (s ++ (⟨#[32]⟩ : ByteArray) ++ shS d b p)
def roK (k : Int) : Option RwS := rwS.find? fun r => decide (r.k = k)
def prS (d : SdO) (b : ByteArray) : Option ByteArray :=
  match roK d.k with
  | none => none
  | some r => if clS r.p d b.size = true then (if (joS d b (blK r.p) r.x).size ≤ 65536 then some (joS d b (blK r.p) r.x) else none) else none
theorem rw_get {i : Nat} (h : i < 24) : rwS[i]? = some (rwS.getD i zrS) := by
  rw [List.getD_eq_getElem?_getD, List.getElem?_eq_getElem (show i < rwS.length from h)]; rfl
theorem rw_k {i : Nat} (h : i < 24) : (rwS.getD i zrS).k = (i : Int) + 1 := by
  have : ∀ i : Nat, i < 24 → (rwS.getD i zrS).k = (i : Int) + 1 := by decide
  exact this i h
theorem rw_le (i : Nat) : (rwS.getD i zrS).x.size ≤ 9 ∧ (rwS.getD i zrS).p.size ≤ 3 := by
  by_cases h : i < 24
  · have : ∀ i : Nat, i < 24 → (rwS.getD i zrS).x.size ≤ 9 ∧ (rwS.getD i zrS).p.size ≤ 3 := by decide
    exact this i h
  · rw [List.getD_eq_getElem?_getD, List.getElem?_eq_none (show rwS.length ≤ i from Nat.le_of_not_lt h)]
    decide
theorem ls_any (x : ByteArray) : ∀ i, lsS x i = zrS ∨ ∃ j, j < i ∧ lsS x i = rwS.getD j zrS ∧ (rwS.getD j zrS).x = x
  | 0 => Or.inl rfl
  | i + 1 => by
    unfold lsS
    split
    · exact Or.inr ⟨i, by omega, rfl, by assumption⟩
    · rcases ls_any x i with h | ⟨j, h1, h2, h3⟩
      · exact Or.inl h
      · exact Or.inr ⟨j, by omega, h2, h3⟩
theorem roK_at {i : Nat} (h : i < 24) : roK ((i : Int) + 1) = some (rwS.getD i zrS) := by
  have h2 : ∀ i : Nat, i < 24 → (rwS.findIdx? fun r => decide (r.k = (i : Int) + 1)) = some i := by decide
  have h3 := h2 i h
  unfold roK
  rw [List.findIdx?_eq_some_iff_getElem] at h3
  obtain ⟨hl, h4, h5⟩ := h3
  rw [List.find?_eq_some_iff_getElem]
  refine ⟨by simpa using rw_k h, i, hl, ?_, fun j hj => ?_⟩
  · have := rw_get h
    rw [List.getElem?_eq_getElem hl] at this
    exact Option.some.inj this
  · have := h5 j hj
    simpa using this
theorem roK_any (k : Int) : (roK k = none ∧ ∀ i : Nat, i < 24 → (rwS.getD i zrS).k ≠ k) ∨ ∃ i : Nat, i < 24 ∧ k = (i : Int) + 1 ∧ roK k = some (rwS.getD i zrS) := by
  by_cases h : 1 ≤ k ∧ k ≤ 24
  · obtain ⟨i, hi⟩ : ∃ i : Nat, k = (i : Int) + 1 := ⟨(k - 1).toNat, by omega⟩
    exact Or.inr ⟨i, by omega, hi, by rw [hi]; exact roK_at (by omega)⟩
  · refine Or.inl ⟨?_, fun i hi => by rw [rw_k hi]; omega⟩
    unfold roK
    rw [List.find?_eq_none]
    intro r hr
    obtain ⟨i, hi, rfl⟩ := List.mem_iff_getElem.1 hr
    have hi2 : i < 24 := hi
    have := rw_get hi2
    rw [List.getElem?_eq_getElem hi] at this
    rw [Option.some.inj this, rw_k hi2]
    simp
    omega
end Go.Proofs.YtdfdnjkeiddfjaaDoor
/-
  script (stage 25): PLAIN: a printed line is cut into its parts, and read as the step.
-/
namespace Go.Proofs.YtdfdnjkeiddfjaaDoor
open Go.RowKit

def N64S (n : Int) : Prop := -9223372036854775808 ≤ n ∧ n ≤ 9223372036854775807
/-- A step that can be handed in. -/
structure OkS (d : SdO) (b : ByteArray) : Prop where
  who : d.who.size ≤ 2000000
  too : d.too.size ≤ 2000000
  tx : d.tx.size ≤ 2000000
  b : b.size ≤ 2000000
  k : N64S d.k
  n : N64S d.n
  m : N64S d.m
  q : N64S d.q
theorem jo_app (d : SdO) (b : ByteArray) : ∀ (ps qs : List Int) (s : ByteArray), joS d b (ps ++ qs) s = joS d b qs (joS d b ps s)
  | [], _, _ => rfl
  | _ :: ps, qs, _ => jo_app d b ps qs _
theorem bz_iff (b : ByteArray) : b.size = 0 ↔ b = ⟨#[]⟩ := by
  constructor
  · intro h
    refine Decidable.byContradiction fun hn => ?_
    have := size_posK hn
    omega
  · rintro rfl; rfl
end Go.Proofs.YtdfdnjkeiddfjaaDoor
/-
  What the rows lay, as it is read.
-/
namespace Go.Proofs.YtdfdnjkeiddfjaaDoor
open Go.RowKit

theorem Tryd.gES : Tryd.prog.globalNamed "strconv.ErrSyntax" = some 3 := by kernel_rfl
theorem Tryd.gEST : (Tryd.prog.globals[3]?).map (·.type) = some 104 := by kernel_rfl
theorem Tryd.gER : Tryd.prog.globalNamed "strconv.ErrRange" = some 4 := by kernel_rfl
theorem Tryd.gERT : (Tryd.prog.globals[4]?).map (·.type) = some 104 := by kernel_rfl
theorem Tryd.gPW : Tryd.prog.globalNamed "internal/strconv.uint64pow10" = some 5 := by kernel_rfl
theorem Tryd.gPWT : (Tryd.prog.globals[5]?).map (·.type) = some 142 := by kernel_rfl
theorem Tryd.cellsES : Tryd.prog.cellsOf 139 = 1 := by kernel_rfl
theorem Tryd.cellsU64 : Tryd.prog.cellsOf 124 = 1 := by kernel_rfl
theorem Tryd.cellsPow : Tryd.prog.cellsOf 142 = 20 := by kernel_rfl
theorem Tryd.star : "*" ++ "errors.errorString" = "*errors.errorString" := by decide
theorem Tryd.rowES (u : TypeId) (h : Tryd.prog.typeName? 3 u = some "*errors.errorString") : u = 137 :=
  typeName_ptr_named (nm := "errors.errorString") (by rw [Tryd.star]; kernel_rfl) (by kernel_rfl) (by decide) u (by rw [Tryd.star]; exact h)
abbrev laid6 : List (String × DataW Unit) := [("math/bits.deBruijn32tab", Rows.laid_math_bits_deBruijn32tab), ("math/bits.deBruijn64tab", Rows.laid_math_bits_deBruijn64tab), ("internal/strconv.uint64pow10", Rows.laid_internal_strconv_uint64pow10), ("strconv.ErrRange", Rows.laid_strconv_ErrRange), ("strconv.ErrSyntax", Rows.laid_strconv_ErrSyntax), ("hearsay/tokens.signs", Rows.laid_hearsay_tokens_signs)]
theorem noHandle {W : World} {l : List (String × DataW Unit)} (hl : (l.filter fun x => x.2.handleName?.isSome) = []) (h : laidMetH Tryd.prog l W) : laidMet Tryd.prog l W := by
  unfold laidMetH at h
  rw [hl] at h
  exact h
set_option maxRecDepth 100000 in
theorem env_of_laid {W : World} (h : laidMetH Tryd.prog laid6 W) : EnvOk W := by
  have h0 : laidMet Tryd.prog laid6 W := noHandle rfl h
  have hp : laidMet Tryd.prog (("internal/strconv.uint64pow10", Lib.tabData .u64 Lib.pow10Tab) :: [("strconv.ErrRange", Rows.laid_strconv_ErrRange), ("strconv.ErrSyntax", Rows.laid_strconv_ErrSyntax), ("hearsay/tokens.signs", Rows.laid_hearsay_tokens_signs)]) W := h0.tail.tail
  have hr := hp.tail
  have hs := hr.tail
  have hg := hs.tail
  obtain ⟨a1, s1, hv1, -, -, -⟩ := laid_sentinel hr Tryd.gER Tryd.gERT Tryd.underlying104 Tryd.rowES Tryd.underlying137 Tryd.underlying139 rfl rfl Tryd.underlying9 Tryd.cellsES Tryd.cellsStr
  obtain ⟨a2, s2, hv2, -, -, -⟩ := laid_sentinel hs Tryd.gES Tryd.gEST Tryd.underlying104 Tryd.rowES Tryd.underlying137 Tryd.underlying139 rfl rfl Tryd.underlying9 Tryd.cellsES Tryd.cellsStr
  exact ⟨signs_of_laid hg, ⟨_, _, hv2⟩, ⟨_, _, hv1⟩, Lib.tabIs_of_head Tryd.gPW Tryd.gPWT Tryd.underlying142 Tryd.underlying124 Tryd.cellsU64 Tryd.cellsPow hp⟩
end Go.Proofs.YtdfdnjkeiddfjaaDoor
/-
  script (stage 25): what the program's package variables are; what Read answers, as it is told.
-/
namespace Go.Proofs.YtdfdnjkeiddfjaaDoor
open Go.RowKit

/-- What the program's package variables are. -/
def EnS (w : World) : Prop := EnvOk w ∧ TblOk w
theorem EnS.env {w : World} (h : EnS w) : EnvOk w := h.1
theorem EnS.tbl {w : World} (h : EnS w) : TblOk w := h.2
theorem EnS.later {w w' : World} (h : EnS w) (hb : Below w.heap.size w w') : EnS w' := ⟨h.1.later hb, h.2.later hb⟩
/-- What Read answers, as it is told. -/
def RsS.v (r : RsS) (a : Option Addr) (c : Nat) : Value := .tuple #[r.d.v a r.b.size c, .agg #[.int .i64 r.e, .int .i64 r.p]]
def RdQ (w : World) (r : RsS) (e : Ending) (w' : World) : Prop := ∃ a c, e = .returned (r.v a c) ∧ OwY w' w.heap.size (.slice a r.b.size c) (blK r.b) ∧ Below w.heap.size w w'
/-- A step's cells. -/
abbrev SdO.v0 (d : SdO) (v : Value) : Array Value := #[.int .i64 d.k, .string d.who, .string d.too, .string d.tx, v, .int .i64 d.n, .int .i64 d.m, .int .i64 d.q]
end Go.Proofs.YtdfdnjkeiddfjaaDoor
