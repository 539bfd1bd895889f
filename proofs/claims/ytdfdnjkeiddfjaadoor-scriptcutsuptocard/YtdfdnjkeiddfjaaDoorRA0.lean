import Derived.Test.YtdfdnjkeiddfjaaDoorRows
import Derived.WalkKit
import Derived.WalkSpells
import Derived.KernelRfl
import Derived.WalkSmall
import Derived.WalkMore
import Derived.Laws.AppendOwn
import Derived.Laws.OwnMore
import Derived.Deep.AppendLies
import Derived.Deep.CutRange
import Derived.Deep.DrawnRows
import Derived.Deep.RegionHeld3
import Derived.Laws.IdiomStrings
import Derived.Laws.BytesArg
import Derived.BigQuiet
import Derived.Maps.OwnSet
import Derived.Maps.OwnOps
/-
  Terms: what they are as plain data; Variable, Const, Principal.
-/
namespace Go.Proofs.YtdfdnjkeiddfjaaDoor
open Go.RowKit

structure Tm where
  k : Int
  n : Int
  s : ByteArray
deriving DecidableEq
abbrev Tm.v (t : Tm) : Value := .agg #[.int .i64 t.k, .int .i64 t.n, .string t.s]
def Tm.var (t : Tm) : Bool := decide (t.k = 3 ∧ 0 ≤ t.n ∧ t.s = ⟨#[]⟩)
def Tm.con (t : Tm) : Bool := decide ((t.k = 1 ∧ t.s = ⟨#[]⟩) ∨ (t.k = 2 ∧ t.n = 0 ∧ t.s.size ≤ 64))
def Tm.prin (t : Tm) : Bool := decide (t.k = 2 ∧ t.n = 0 ∧ t.s.size ≤ 64 ∧ t.s ≠ ⟨#[]⟩)
theorem ret_b {a b : Bool} (h : a = b) : Ending.returned (.bool a) = .returned (.bool b) := by rw [h]
theorem ret_i {a b : Int} (h : a = b) : Ending.returned (.int .i64 a) = .returned (.int .i64 b) := by rw [h]
theorem isE (s : ByteArray) : s.toList.isEmpty = decide (s = ⟨#[]⟩) := by
  obtain ⟨a⟩ := s
  rw [ByteArray.toList_eq]
  rcases a with ⟨l⟩
  cases l <;> simp
theorem below1 (w : World) (o : Obj) : Below w.heap.size w (w.alloc o) := (Below.refl _ _).alloc (Nat.le_refl _) _
theorem below2 (w : World) (o p : Obj) : Below w.heap.size w ((w.alloc o).alloc p) := (below1 w o).alloc (by simp) _

theorem bcell {W w1 : World} (hb : Below W.heap.size W w1) : (∀ b o, b < W.heap.size → w1.cell? ⟨b, o, none⟩ = W.cell? ⟨b, o, none⟩) ∧ (∀ b o, b < W.heap.size → w1.frozen? ⟨b, o, none⟩ = W.frozen? ⟨b, o, none⟩) :=
  ⟨fun b o h => hb.cell (p := ⟨b, o, none⟩) h, fun b o h => hb.frozen (p := ⟨b, o, none⟩) h⟩

theorem prin_eq (k n : Int) (s : ByteArray) (h : k = 2) (h' : s ≠ ⟨#[]⟩) : Tm.con ⟨k, n, s⟩ = Tm.prin ⟨k, n, s⟩ := by
  subst h; simp [Tm.con, Tm.prin, h']
theorem prin_no (k n : Int) (s : ByteArray) (h : ¬ (k = 2 ∧ s ≠ ⟨#[]⟩)) : false = Tm.prin ⟨k, n, s⟩ := by
  simp only [Tm.prin, ne_eq, Bool.false_eq, decide_eq_false_iff_not] at *
  exact fun x => h ⟨x.1, x.2.2.2⟩
end Go.Proofs.YtdfdnjkeiddfjaaDoor
/-
  Blocks, frames, lists of numbers that lie in given blocks.
-/
namespace Go.Proofs.YtdfdnjkeiddfjaaDoor
open Go.RowKit

theorem hm7 {p : Prop} (h : p) : Hid p := h
/-- A block of cells. -/
def Bk (w : World) (g : Nat) (c : Array Value) (t : TypeId) : Prop := w.heap[g]? = some (.cells c t (0, 0))
theorem Bk.lt {w : World} {g : Nat} {c : Array Value} {t : TypeId} (h : Bk w g c t) : g < w.heap.size := (Array.getElem?_eq_some_iff.1 h).1
theorem Bk.new (w : World) (c : Array Value) (t : TypeId) : Bk (w.alloc (.cells c t)) w.heap.size c t := heap_alloc_new _ _
theorem Bk.cell {w : World} {g : Nat} {c : Array Value} {t : TypeId} (h : Bk w g c t) {i : Nat} {v : Value} (hv : c[i]? = some v) : w.cell? ⟨g, i, none⟩ = some v := by
  unfold Bk at h
  simp [World.cell?, h, hv]
theorem Bk.froz {w : World} {g : Nat} {c : Array Value} {t : TypeId} (h : Bk w g c t) (i : Nat) : w.frozen? ⟨g, i, none⟩ = false := by
  unfold Bk at h
  simp [World.frozen?, h]
theorem Bk.set {w : World} {g : Nat} {c : Array Value} {t : TypeId} (h : Bk w g c t) (i : Nat) (v : Value) : Bk (w.setCell ⟨g, i, none⟩ v) g (c.setIfInBounds i v) t := heap_setCell_same _ _ _ _ _ _ h
/-- All blocks but those of P stay as they were. -/
structure Fr (P : Nat → Prop) (w w' : World) : Prop where
  os : w'.os = w.os
  tape : w'.tape = w.tape
  output : w'.output = w.output
  size : w.heap.size ≤ w'.heap.size
  block : ∀ k, k < w.heap.size → ¬ P k → w'.heap[k]? = w.heap[k]?
theorem Fr.of {P : Nat → Prop} {w w' : World} (h : Below w.heap.size w w') : Fr P w w' := ⟨h.os, h.tape, h.output, h.size, fun k hk _ => h.block k hk⟩
theorem Fr.refl (P : Nat → Prop) (w : World) : Fr P w w := Fr.of (Below.refl _ _)
theorem Fr.drew {P : Nat → Prop} {w w' : World} (h : Fr P w w') : Fr P w w'.drew := ⟨h.os, h.tape, h.output, h.size, h.block⟩
theorem Fr.trans {P Q : Nat → Prop} {a b c : World} (h : Fr P a b) (k : Fr Q b c) (hq : ∀ x, x < a.heap.size → Q x → P x) : Fr P a c :=
  ⟨k.os.trans h.os, k.tape.trans h.tape, k.output.trans h.output, Nat.le_trans h.size k.size, fun i hi hp => (k.block i (Nat.lt_of_lt_of_le hi h.size) (fun hc => hp (hq i hi hc))).trans (h.block i hi hp)⟩
theorem Fr.tr {P : Nat → Prop} {a b c : World} (h : Fr P a b) (k : Fr P b c) : Fr P a c := h.trans k fun _ _ hc => hc
theorem Fr.then {P : Nat → Prop} {a b c : World} (h : Fr P a b) (k : Below b.heap.size b c) : Fr P a c := h.tr (Fr.of k)
theorem Fr.mono {P Q : Nat → Prop} {w w' : World} (h : Fr P w w') (hq : ∀ x, x < w.heap.size → P x → Q x) : Fr Q w w' := ⟨h.os, h.tape, h.output, h.size, fun k hk hp => h.block k hk fun hc => hp (hq k hk hc)⟩
theorem Fr.below {P : Nat → Prop} {w w' : World} (h : Fr P w w') (hp : ∀ x, x < w.heap.size → ¬ P x) : Below w.heap.size w w' := ⟨h.os, h.tape, h.output, h.size, fun k hk => h.block k hk (hp k hk)⟩
theorem Fr.grown {P : Nat → Prop} {w w' : World} {g : Option Nat} (h : w.grownBy w' g) (hp : ∀ k, g = some k → P k) : Fr P w w' :=
  ⟨h.os, h.tape, h.output, h.size, fun k hk hn => h.block k hk fun e => hn (hp k e.symm)⟩
theorem Fr.low {B : Nat} {w w' : World} (h : Fr (fun b => B ≤ b) w w') (hB : B ≤ w.heap.size) : Below B w w' := ⟨h.os, h.tape, h.output, h.size, fun k hk => h.block k (Nat.lt_of_lt_of_le hk hB) (by omega)⟩
theorem Fr.alloc {P : Nat → Prop} {w w' : World} (h : Fr P w w') (o : Obj) : Fr P w (w'.alloc o) := h.then (below1 _ _)
theorem Fr.set {P : Nat → Prop} {w w' : World} (h : Fr P w w') {g i : Nat} {v : Value} (hg : P g ∨ w.heap.size ≤ g) : Fr P w (w'.setCell ⟨g, i, none⟩ v) := by
  have hb := Below.setCell (Below.refl g w') (p := ⟨g, i, none⟩) (Nat.le_refl _) v
  refine ⟨hb.os.trans h.os, hb.tape.trans h.tape, hb.output.trans h.output, Nat.le_trans h.size hb.size, fun k hk hn => ?_⟩
  rw [heap_setCell_other _ _ _ _ (show k ≠ g from fun e => by subst e; rcases hg with hg | hg; exact hn hg; omega)]
  exact h.block k hk hn
theorem Fr.cell {P : Nat → Prop} {w w' : World} (h : Fr P w w') {b o : Nat} {v : Value} (hb : b < w.heap.size) (hn : ¬ P b) (hc : w.cell? ⟨b, o, none⟩ = some v) : w'.cell? ⟨b, o, none⟩ = some v := by
  rw [World.cell?_of_block (w := w) (a := ⟨b, o, none⟩) (h.block b hb hn)]; exact hc
theorem Bk.fr {P : Nat → Prop} {w w' : World} {g : Nat} {c : Array Value} {t : TypeId} (h : Bk w g c t) (hf : Fr P w w') (hn : ¬ P g) : Bk w' g c t := (hf.block _ h.lt hn).trans h
theorem Bk.off {w : World} {g G i : Nat} {c : Array Value} {t : TypeId} {v : Value} (h : Bk w g c t) (hn : g ≠ G) : Bk (w.setCell ⟨G, i, none⟩ v) g c t := (heap_setCell_other _ _ _ _ hn).trans h
theorem Bk.below {w w' : World} {g : Nat} {c : Array Value} {t : TypeId} (h : Bk w g c t) (hb : Below w.heap.size w w') : Bk w' g c t := (hb.block _ h.lt).trans h
/-- Numbers of 64 bits. -/
def w64 (l : List Int) : Prop := ∀ x ∈ l, (Lit.int .i64 x).wf = true
/-- A list of numbers whose cells lie in a block of F. -/
def Li (F : Nat → Prop) (w : World) (v : Value) (l : List Int) : Prop :=
  ∃ a cap, v = .slice a l.length cap ∧ l.length ≤ cap ∧ cap ≤ 9223372036854775807 ∧ w64 l ∧ ((l = [] ∧ (a = none → cap = 0)) ∨ ∃ b o, a = some ⟨b, o, none⟩ ∧ b < w.heap.size ∧ F b ∧ ∀ (i : Nat) (x : Int), l[i]? = some x → w.cell? ⟨b, o + i, none⟩ = some (.int .i64 x))
theorem Li.mono {F G : Nat → Prop} {w : World} {v : Value} {l : List Int} (h : Li F w v l) (hg : ∀ b, b < w.heap.size → F b → G b) : Li G w v l := by
  obtain ⟨a, cap, rfl, h1, h2, h3, h4⟩ := h
  refine ⟨a, cap, rfl, h1, h2, h3, ?_⟩
  rcases h4 with h4 | ⟨b, o, rfl, h4, h5, h6⟩
  · exact Or.inl h4
  · exact Or.inr ⟨b, o, rfl, h4, hg b h4 h5, h6⟩
theorem Li.fr {F P : Nat → Prop} {w w' : World} {v : Value} {l : List Int} (h : Li F w v l) (hf : Fr P w w') (hn : ∀ b, b < w.heap.size → F b → ¬ P b) : Li F w' v l := by
  obtain ⟨a, cap, rfl, h1, h2, h3, h4⟩ := h
  refine ⟨a, cap, rfl, h1, h2, h3, ?_⟩
  rcases h4 with h4 | ⟨b, o, rfl, h4, h5, h6⟩
  · exact Or.inl h4
  · exact Or.inr ⟨b, o, rfl, Nat.lt_of_lt_of_le h4 hf.size, h5, fun i x hx => hf.cell h4 (hn b h4 h5) (h6 i x hx)⟩
theorem Li.below {F : Nat → Prop} {w w' : World} {v : Value} {l : List Int} (h : Li F w v l) (hb : Below w.heap.size w w') : Li F w' v l := h.fr (P := fun _ => False) (Fr.of hb) fun _ _ _ h => h
theorem Li.nil (F : Nat → Prop) (w : World) : Li F w (.slice none 0 0) [] := ⟨none, 0, rfl, by simp, by simp, (by intro x hx; simp at hx), Or.inl ⟨rfl, fun _ => rfl⟩⟩
def Any (_ : Nat) : Prop := True
theorem Li.any {F : Nat → Prop} {w : World} {v : Value} {l : List Int} (h : Li F w v l) : Li Any w v l := h.mono fun _ _ _ => trivial
theorem Li.w {F : Nat → Prop} {w : World} {v : Value} {l : List Int} (h : Li F w v l) : w64 l := by obtain ⟨a, cap, rfl, h1, h2, h3, -⟩ := h; exact h3
/-- A list that a call makes by append: numbers. -/
def ibs7 (l : List Int) : List Value := l.map (.int .i64)
theorem ibs7_len (l : List Int) : (ibs7 l).length = l.length := by simp [ibs7]
def OwI (w : World) (base : Nat) (v : Value) (l : List Int) : Prop := w.ownsRow base 3 1 v l.length (ibs7 l)
theorem OwI.nil (w : World) (base : Nat) : OwI w base (.slice none 0 0) [] := World.ownsRow_nil _ _ _ _
theorem OwI.li {w : World} {base : Nat} {v : Value} {l : List Int} (h : OwI w base v l) (hw : w64 l) : Li (fun b => base ≤ b ∧ v.ownBlock = some b) w v l := by
  rcases h.2 with ⟨rfl, hn⟩ | ⟨g, cap, cur, rfl, hb, hg, hn, hc, hs, ht⟩
  · have : l = [] := List.eq_nil_of_length_eq_zero hn
    subst this
    exact Li.nil _ _
  · refine ⟨_, cap, rfl, hn, by unfold maxLen at hc; omega, hw, Or.inr ⟨g, 0, rfl, (Array.getElem?_eq_some_iff.1 hg).1, ⟨hb, rfl⟩, fun i x hx => ?_⟩⟩
    rw [cell_of_row _ _ _ _ _ _ hg, Nat.zero_add]
    have hi := (List.getElem?_eq_some_iff.1 hx).1
    have h1 : (cur.toList.take (l.length * 1))[i]? = (ibs7 l)[i]? := by rw [ht]
    rw [List.getElem?_take_of_lt (by omega)] at h1
    rw [← Array.getElem?_toList, h1]
    simp [ibs7, hx]
theorem OwI.mono {w : World} {b b' : Nat} {v : Value} {l : List Int} (h : OwI w b v l) (hb : b' ≤ b) : OwI w b' v l := by
  refine ⟨h.1, ?_⟩
  rcases h.2 with hn | ⟨g, cap, cur, hv, hbb, hg, rest⟩
  · exact Or.inl hn
  · exact Or.inr ⟨g, cap, cur, hv, Nat.le_trans hb hbb, hg, rest⟩
/-- A row that a call owns stays where its block stays. -/
theorem row7 {w w' : World} {base n m : Nat} {e : TypeId} {v : Value} {xs : List Value} (h : w.ownsRow base e n v m xs) (hs : ∀ g, v.ownBlock = some g → w'.heap[g]? = w.heap[g]?) : w'.ownsRow base e n v m xs := by
  refine ⟨h.1, ?_⟩
  rcases h.2 with hn | ⟨g, cap, cur, rfl, hbb, hg, rest⟩
  · exact Or.inl hn
  · exact Or.inr ⟨g, cap, cur, rfl, hbb, (hs g rfl).trans hg, rest⟩
theorem row7_fr {P : Nat → Prop} {w w' : World} {base n m : Nat} {e : TypeId} {v : Value} {xs : List Value} (h : w.ownsRow base e n v m xs) (hf : Fr P w w') (hn : ∀ g, v.ownBlock = some g → ¬ P g) : w'.ownsRow base e n v m xs :=
  row7 h fun g hg => hf.block g (h.lt g hg).2 (hn g hg)
theorem row7_below {w w' : World} {base n m : Nat} {e : TypeId} {v : Value} {xs : List Value} (h : w.ownsRow base e n v m xs) (hb : Below w.heap.size w w') : w'.ownsRow base e n v m xs :=
  row7 h fun g hg => hb.block g (h.lt g hg).2
theorem row7_form {w : World} {base n m : Nat} {e : TypeId} {v : Value} {xs : List Value} (h : w.ownsRow base e n v m xs) : ∃ a cap, v = .slice a m cap ∧ m ≤ cap := by
  rcases h.2 with ⟨rfl, hn⟩ | ⟨g, cap, cur, hv, _, _, hc, _⟩
  · exact ⟨none, 0, by rw [hn], by omega⟩
  · exact ⟨_, cap, hv, hc⟩
theorem row7_at {w : World} {base n m cap i : Nat} {a : Option Addr} {e : TypeId} {xs : List Value} {u : Value} (h : w.ownsRow base e n (.slice a m cap) m xs) (hu : xs[i]? = some u) : ∃ g, a = some ⟨g, 0, none⟩ ∧ base ≤ g ∧ g < w.heap.size ∧ w.cell? ⟨g, i, none⟩ = some u ∧ w.frozen? ⟨g, i, none⟩ = false := by
  rcases h.2 with ⟨hv, hn⟩ | ⟨g, cap', cur, hv, hb, hg, hn, hc, hs, ht⟩
  · have h1 : xs.length = 0 := by rw [h.1, hn, Nat.zero_mul]
    have := (List.getElem?_eq_some_iff.1 hu).1
    omega
  · simp only [Value.slice.injEq] at hv
    obtain ⟨rfl, -, rfl⟩ := hv
    refine ⟨g, rfl, hb, (Array.getElem?_eq_some_iff.1 hg).1, ?_, by simp [World.frozen?, hg]⟩
    rw [cell_of_row _ _ _ _ _ _ hg, ← Array.getElem?_toList]
    have h1 : (cur.toList.take (m * n))[i]? = xs[i]? := by rw [ht]
    rw [List.getElem?_take_of_lt (by have := (List.getElem?_eq_some_iff.1 hu).1; have := h.1; omega)] at h1
    rw [h1, hu]
end Go.Proofs.YtdfdnjkeiddfjaaDoor
