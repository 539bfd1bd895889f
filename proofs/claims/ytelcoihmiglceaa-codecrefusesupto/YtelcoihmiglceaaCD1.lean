import Derived.Test.YtelcoihmiglceaaMD8
import Derived.Test.YtelcoihmiglceaaCL27
import Derived.Deep.RegionHeld3
import Derived.BigQuiet
import Derived.Laws.OwnMore
import Derived.Deep.CutRange
import Derived.Deep.DrawnRows
import Derived.WalkMore
import Derived.WalkSmall
import Derived.Deep.AppendLies
import Derived.Laws.IdiomStrings
import Derived.Lib.AppendStr
import Derived.Laws.BytesArg
/-
  Lists lent, with a term behind them, and looked at: terms, atoms. (Written by LD1.py.)
-/
namespace Go.Proofs.Ytelcoihmiglceaa
open Go.RowKit
attribute [local go_sem ↓] Go.wp_at_zero Go.wp_at_succ

def bN : ByteArray := ⟨#[98, 101, 104, 105, 110, 100]⟩
def bT : Tm := ⟨901, 902, bN⟩
def bE : Te := ⟨903, zt, zt⟩
theorem TsP.form {w : World} {v : Value} {l : List Tm} (h : TsP w v l) : ∃ a cap, v = .slice a l.length cap := by
  rcases h with ⟨rfl, rfl⟩ | ⟨ad, cap, rfl, _⟩
  · exact ⟨none, 0, rfl⟩
  · exact ⟨some ad, cap, rfl⟩
/-- A list of terms lent. -/
def LentT (X : World) (B : Nat) (v : Value) (l : List Tm) : Prop := ∃ g cap, v = .slice (some ⟨g, 0, none⟩) l.length cap ∧ OwnT X B (.slice (some ⟨g, 0, none⟩) (l.length + 1) cap) (l ++ [bT])
theorem LentT.later {X X' : World} {B : Nat} {v : Value} {l : List Tm} (h : LentT X B v l) (hb : Below X.heap.size X X') : LentT X' B v l := by
  obtain ⟨g, cap, e, ho⟩ := h
  exact ⟨g, cap, e, ho.later hb⟩
theorem LentT.mono {X : World} {B B' : Nat} {v : Value} {l : List Tm} (h : LentT X B v l) (hb : B' ≤ B) : LentT X B' v l := by
  obtain ⟨g, cap, e, ho⟩ := h
  exact ⟨g, cap, e, ho.mono hb⟩
theorem LentT.lt {X : World} {B : Nat} {v : Value} {l : List Tm} (h : LentT X B v l) : ∀ k, v.ownBlock = some k → B ≤ k ∧ k < X.heap.size := by
  obtain ⟨g, cap, rfl, ho⟩ := h
  exact fun k hk => ho.lt k hk
theorem LentT.grown {X X' : World} {B : Nat} {v : Value} {l : List Tm} {row : Option Nat} (h : LentT X B v l) (hg : X.grownBy X' row) (hne : ∀ k, v.ownBlock = some k → row ≠ some k) : LentT X' B v l := by
  obtain ⟨g, cap, rfl, ho⟩ := h
  exact ⟨g, cap, rfl, OwnT.grown ho hg fun k hk => hne k hk⟩
theorem LentT.ts {X : World} {B : Nat} {v : Value} {l : List Tm} (h : LentT X B v l) (hl : l.length < 1000000000000000000) : Ts X v l := by
  obtain ⟨g, cap, rfl, ho⟩ := h
  exact ownT_pre ho hl
theorem LentT.off {X : World} {B G i : Nat} {v c : Value} {l : List Tm} (h : LentT X B v l) (hne : ∀ k, v.ownBlock = some k → k ≠ G) : LentT (X.setCell ⟨G, i, none⟩ c) B v l := by
  obtain ⟨g, cap, rfl, ho⟩ := h
  exact ⟨g, cap, rfl, OwnT.off ho hne⟩
end Go.Proofs.Ytelcoihmiglceaa
/-
  Lists of atoms lent, and looked at. (Written by LD2.py.)
-/
namespace Go.Proofs.Ytelcoihmiglceaa
open Go.RowKit
attribute [local go_sem ↓] Go.wp_at_zero Go.wp_at_succ

def bA : At := ⟨zt, bN, []⟩
structure LA (W X : World) (u : Value) (LB : List (At × Value)) : Prop where
  ow : OwnA X W.heap.size u LB
  ts : ∀ x ∈ LB, LentT X W.heap.size x.2 x.1.args
  ap : ∀ x ∈ LB, ∀ k, u.ownBlock = some k → x.2.ownBlock ≠ some k
  bw : Below W.heap.size W X
theorem LA.later {W X X' : World} {u : Value} {LB : List (At × Value)} (h : LA W X u LB) (hb : Below X.heap.size X X') : LA W X' u LB := ⟨h.ow.later hb, fun x hx => (h.ts x hx).later hb, h.ap, below_step h.bw hb⟩
theorem LA.grow {W X X1 X2 X3 : World} {u v' u' : Value} {LB : List (At × Value)} {x : At} (h : LA W X u LB) (hb1 : Below X.heap.size X X1) (hl : LentT X1 X.heap.size u' x.args) (hb2 : Below X1.heap.size X1 X2) (ho : OwnA X3 W.heap.size v' (LB ++ [(x, u')]))
    (hb : Below W.heap.size X2 X3) (hg : X2.grownBy X3 u.ownBlock) (ha : ∀ k, v'.ownBlock = some k → u.ownBlock = some k ∨ X2.heap.size ≤ k) : LA W X3 v' (LB ++ [(x, u')]) := by
  have hsz := h.bw.size
  have h12 : Below X.heap.size X X2 := below_step hb1 hb2
  have hul : ∀ k, u.ownBlock = some k → k < X.heap.size := fun k hk => (h.ow.lt k hk).2
  have h2 := hl.later hb2
  have hs1 := hb1.size
  have hs2 := hb2.size
  refine ⟨ho, fun y hy => ?_, fun y hy k hk => ?_, (h.bw.trans (h12.mono hsz)).trans hb⟩
  · rcases List.mem_append.1 hy with hy | hy
    · exact ((h.ts y hy).later h12).grown hg fun k hk e => h.ap y hy k e hk
    · rw [List.mem_singleton] at hy
      subst hy
      exact (h2.grown hg fun k hk e => by have := (h2.lt k hk).1; have := hul k e; omega).mono hsz
  · rcases List.mem_append.1 hy with hy | hy
    · intro e
      have hlt := ((h.ts y hy).lt k e).2
      rcases ha k hk with hk | hk
      · exact h.ap y hy k hk e
      · omega
    · rw [List.mem_singleton] at hy
      subst hy
      intro e
      have hlt := hl.lt k e
      rcases ha k hk with hk | hk
      · have := hul k hk; omega
      · omega
/-- A list of atoms lent. -/
structure LentA (X : World) (B : Nat) (v : Value) (LB : List (At × Value)) : Prop where
  o : ∃ g cap, v = .slice (some ⟨g, 0, none⟩) LB.length cap ∧ OwnA X B (.slice (some ⟨g, 0, none⟩) (LB.length + 1) cap) (LB ++ [(bA, .slice none 0 0)])
  ts : ∀ x ∈ LB, LentT X B x.2 x.1.args
theorem LentA.later {X X' : World} {B : Nat} {v : Value} {LB : List (At × Value)} (h : LentA X B v LB) (hb : Below X.heap.size X X') : LentA X' B v LB := by
  obtain ⟨⟨g, cap, e, ho⟩, ht⟩ := h
  exact ⟨⟨g, cap, e, ho.later hb⟩, fun x hx => (ht x hx).later hb⟩
theorem LentA.mono {X : World} {B B' : Nat} {v : Value} {LB : List (At × Value)} (h : LentA X B v LB) (hb : B' ≤ B) : LentA X B' v LB := by
  obtain ⟨⟨g, cap, e, ho⟩, ht⟩ := h
  exact ⟨⟨g, cap, e, ho.mono hb⟩, fun x hx => (ht x hx).mono hb⟩
theorem LentA.lt {X : World} {B : Nat} {v : Value} {LB : List (At × Value)} (h : LentA X B v LB) : ∀ k, v.ownBlock = some k → B ≤ k ∧ k < X.heap.size := by
  obtain ⟨⟨g, cap, rfl, ho⟩, ht⟩ := h
  exact fun k hk => ho.lt k hk
theorem LentA.row {X : World} {B g cap n : Nat} {LB : List (At × Value)} (ho : OwnA X B (.slice (some ⟨g, 0, none⟩) n cap) (LB ++ [(bA, .slice none 0 0)])) : ARow X g 0 LB := by
  refine ⟨(ho.lt g rfl).2, fun i x hx => ?_⟩
  have hi := (List.getElem?_eq_some_iff.1 hx).1
  have hx' : (LB ++ [(bA, .slice none 0 0)])[i]? = some x := by rw [List.getElem?_append_left hi]; exact hx
  rw [Nat.zero_add]
  exact ⟨ho.cells i x hx' 0 (by omega), ho.cells i x hx' 1 (by omega), ho.cells i x hx' 2 (by omega), ho.cells i x hx' 3 (by omega), ho.cells i x hx' 4 (by omega)⟩
theorem LentA.as {X : World} {B : Nat} {v : Value} {LB : List (At × Value)} (h : LentA X B v LB) (hl : LB.length < 1000000000000000000) (hx : ∀ x ∈ LB, x.1.args.length < 1000000000000000000) : As X v LB := by
  obtain ⟨⟨g, cap, rfl, ho⟩, ht⟩ := h
  exact ⟨_, cap, rfl, hl, Or.inr ⟨g, 0, rfl, LentA.row ho⟩, fun x hm => (ht x hm).ts (hx x hm)⟩
end Go.Proofs.Ytelcoihmiglceaa
/-
  Bytes that a call lays, in the codec's seat; texts' bytes.
-/
namespace Go.Proofs.Ytelcoihmiglceaa
open Go.RowKit

def ibs (l : List Int) : List Value := l.map (Value.int .u8)
/-- A list of bytes of the call's own. -/
def OwnB (w : World) (base : Nat) (v : Value) (l : List Int) : Prop := w.ownsRow base 5 1 v l.length (ibs l)
theorem OwnB.later {w w' : World} {base : Nat} {v : Value} {l : List Int} (h : OwnB w base v l) (hb : Below w.heap.size w w') : OwnB w' base v l := by
  refine ⟨h.1, ?_⟩
  rcases h.2 with hn | ⟨g, cap, cur, hv, hbb, hg, rest⟩
  · exact Or.inl hn
  · exact Or.inr ⟨g, cap, cur, hv, hbb, (hb.block g (Array.getElem?_eq_some_iff.1 hg).1).trans hg, rest⟩
theorem ownB_nil (w : World) (base : Nat) : OwnB w base (.slice none 0 0) [] := World.ownsRow_nil _ _ _ _
theorem OwnB.mono {w : World} {base B : Nat} {v : Value} {l : List Int} (h : OwnB w base v l) (hb : B ≤ base) : OwnB w B v l := by
  refine ⟨h.1, ?_⟩
  rcases h.2 with hn | ⟨g, cap, cur, hv, hbb, rest⟩
  · exact Or.inl hn
  · exact Or.inr ⟨g, cap, cur, hv, Nat.le_trans hb hbb, rest⟩
theorem OwnB.lit (w : World) (l : List Int) (hl : l.length ≤ 100000000) : OwnB (w.alloc (.cells (ibs l).toArray 5)) w.heap.size (.slice (some ⟨w.heap.size, 0, none⟩) l.length l.length) l :=
  World.ownsRow_lit w (ibs l).toArray l.length (Nat.le_refl _) (by unfold maxLen; omega) (by simp [ibs])
theorem Try.infoU8 : (Try.prog.info? 5).map (fun i => (i.size, i.bytes, i.zero.map (·.cells.size))) = some (1, 1, some 1) := by kernel_rfl
theorem infoU8_parts : ∃ (i : TypeInfo) (z : Value), Try.prog.info? 5 = some i ∧ i.zero = some z ∧ i.size = 1 ∧ i.bytes = 1 ∧ z.cells.size = 1 := by
  have h := Try.infoU8
  cases hi : Try.prog.info? 5 with
  | none => rw [hi] at h; simp at h
  | some i =>
    rw [hi] at h
    simp only [Option.map_some, Option.some.injEq, Prod.mk.injEq] at h
    obtain ⟨h1, h2, h3⟩ := h
    cases hz : i.zero with
    | none => rw [hz] at h3; simp at h3
    | some z => rw [hz] at h3; simp only [Option.map_some, Option.some.injEq] at h3; exact ⟨i, z, rfl, hz, h1, h2, h3⟩
theorem grown_below {w w' : World} {base : Nat} {v : Value} (hg : w.grownBy w' v.ownBlock) (h : ∀ k, v.ownBlock = some k → base ≤ k) (hb : base ≤ w.heap.size) : Below base w w' :=
  ⟨hg.os, hg.tape, hg.output, hg.size, fun k hk => hg.block k (by omega) (fun e => by have := h k e.symm; omega)⟩
/-- Bytes that lie in memory. -/
def Bn (w : World) (v : Value) (l : List Int) : Prop := ∃ a cap, v = .slice a l.length cap ∧ l.length ≤ cap ∧ l.length < 1000000000000000000 ∧ (l = [] ∨ ∃ b o, a = some ⟨b, o, none⟩ ∧ b < w.heap.size ∧ ∀ (i : Nat) (x : Int), l[i]? = some x → w.cell? ⟨b, o + i, none⟩ = some (.int .u8 x))
theorem Bn.later {w w' : World} {v : Value} {l : List Int} (h : Bn w v l) (hb : Below w.heap.size w w') : Bn w' v l := by
  obtain ⟨a, cap, rfl, h0, h1, h⟩ := h
  refine ⟨a, cap, rfl, h0, h1, h.imp id ?_⟩
  rintro ⟨b, o, rfl, hlt, hc⟩
  exact ⟨b, o, rfl, Nat.lt_of_lt_of_le hlt hb.size, fun i x hx => cell_step hb hlt (hc i x hx)⟩
theorem OwnB.bn {w : World} {base : Nat} {v : Value} {l : List Int} (h : OwnB w base v l) (hl : l.length < 1000000000000000000) : Bn w v l := by
  rcases h.2 with ⟨hv, hn⟩ | ⟨g, cap, cur, hv, -, hg, hn, -, -, -⟩
  · have : l = [] := List.eq_nil_of_length_eq_zero hn
    subst this
    exact ⟨none, 0, hv, Nat.le_refl _, hl, Or.inl rfl⟩
  · refine ⟨some ⟨g, 0, none⟩, cap, hv, hn, hl, Or.inr ⟨g, 0, rfl, (Array.getElem?_eq_some_iff.1 hg).1, fun i x hx => ?_⟩⟩
    have := World.ownsRow.cells h (g := g) (by rw [hv]; rfl) i (.int .u8 x) (by simp [ibs, hx])
    rw [Addr.add_mid] at this
    exact this
/-- A text's bytes. -/
def bl (s : ByteArray) : List Int := s.data.toList.map fun b => (b.toNat : Int)
theorem bl_len (s : ByteArray) : (bl s).length = s.size := by simp [bl]
theorem Try.zeroU8 : ∃ i, Try.prog.info? 5 = some i ∧ i.zero = some (.int .u8 0) ∧ i.size = 1 ∧ i.bytes = 1 := by
  obtain ⟨i, z, hi, hz0, hz1, hz2, hz3⟩ := infoU8_parts
  have h : (Try.prog.info? 5).bind (·.zero) = some (.int .u8 0) := by kernel_rfl
  rw [hi] at h
  exact ⟨i, hi, h, hz1, hz2⟩
theorem ibs_bl (s : ByteArray) : ibs (bl s) = Lib.strCells s := by simp [ibs, bl, Lib.strCells]
end Go.Proofs.Ytelcoihmiglceaa
/-
  The codec: the plain mathematics: what is written, what is read.
-/
namespace Go.Proofs.Ytelcoihmiglceaa
open Go.RowKit

/-- A number in so many bytes, the greatest first. -/
def be : Nat → Int → List Int
  | 0, _ => []
  | k + 1, n => (n / (256 : Int) ^ k) % 256 :: be k n
theorem be_len (k : Nat) (n : Int) : (be k n).length = k := by induction k with
  | zero => rfl
  | succ k ih => simp [be, ih]
/-- A text: its length, and its bytes. -/
def sB (s : ByteArray) : List Int := (s.size : Int) :: bl s
/-- A term's bytes. -/
def tB (t : Tm) : List Int := if t.k = 1 ∨ t.k = 3 then t.k :: be 8 (t.n % 18446744073709551616) else if t.k = 2 then 2 :: sB t.s else [0]
/-- An atom's bytes. -/
def aB (a : At) : List Int := tB a.by_ ++ (sB a.name ++ ((a.args.length : Int) :: a.args.flatMap tB))
/-- Kinds of terms. -/
def knd (t : Tm) : Prop := (t.k = 0 ∨ t.k = 1 ∨ t.k = 2 ∨ t.k = 3) ∧ t.s.size ≤ 64
theorem knd_cov {t : Tm} (h : t.cov = true) : knd t := by
  unfold Tm.cov at h
  simp only [Tm.con, Tm.var, Bool.or_eq_true, decide_eq_true_eq] at h
  unfold knd
  rcases h with (h | h) | h
  · exact ⟨by omega, by rw [h.2]; exact Nat.zero_le _⟩
  · exact ⟨by omega, h.2.2⟩
  · exact ⟨by omega, by rw [h.2.2]; exact Nat.zero_le _⟩
theorem knd_qual {t : Tm} (h : qualOk t = true) : knd t := by
  unfold qualOk at h
  simp only [Tm.prin, Tm.var, Bool.or_eq_true, decide_eq_true_eq] at h
  unfold knd
  rcases h with h | h | h
  · subst h; exact ⟨by simp [zt], Nat.zero_le _⟩
  · exact ⟨by omega, h.2.2.1⟩
  · exact ⟨by omega, by rw [h.2.2]; exact Nat.zero_le _⟩
theorem tB_len (t : Tm) : 0 < (tB t).length ∧ (tB t).length ≤ t.s.size + 9 := by
  unfold tB sB
  split
  · simp [be_len]
  · split
    · simp [bl_len]
    · simp
/-- A valid atom: what it is made of. -/
structure Fit (a : At) : Prop where
  by_ : knd a.by_
  nm : a.name.size ≤ 64
  len : a.args.length ≤ 8
  args : ∀ t ∈ a.args, knd t
/-- What is read: the thing and what is left, or the error. -/
abbrev Rd (α : Type) := Except Int (α × List Int)
def Rd.and {α β : Type} (x : Rd α) (f : α → List Int → Rd β) : Rd β := match x with
  | .ok (a, r) => f a r
  | .error e => .error e
end Go.Proofs.Ytelcoihmiglceaa
