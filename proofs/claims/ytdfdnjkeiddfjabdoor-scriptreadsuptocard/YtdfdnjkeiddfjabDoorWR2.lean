import Derived.Lib.ConvBytes
import Derived.Test.YtdfdnjkeiddfjabDoorK37
import Derived.Laws.AppendOwnNone
import Derived.Laws.AppendOwn
import Derived.Test.YtdfdnjkeiddfjabDoorSC6
import Derived.Test.YtdfdnjkeiddfjabDoorKR5
import Derived.Test.YtdfdnjkeiddfjabDoorK29
import Derived.Deep.RegionWith
import Derived.WalkMore
import Derived.Laws.OwnMore
import Derived.Deep.AppendLies
import Derived.Deep.CutRange
import Derived.Deep.DrawnRows
import Derived.Deep.RegionHeld3
import Derived.Laws.IdiomStrings
import Derived.Laws.BytesArg
import Derived.BigQuiet
import Derived.Maps.OwnSet
import Derived.Maps.OwnOps
import Derived.Test.YtdfdnjkeiddfjabDoorRows
import Derived.WalkKit
import Derived.WalkSpells
import Derived.KernelRfl
import Derived.WalkSmall
import Derived.Maps.AppendAt
/-
  ref's Join.
-/
namespace Go.Proofs.YtdfdnjkeiddfjabDoor
open Go.RowKit

theorem below_conv (W : World) (s : ByteArray) : Below W.heap.size W (Lib.bytesWorld W 5 s) := ⟨rfl, rfl, rfl, by rw [Lib.bytesWorld_size]; omega, fun k hk => Lib.bytesWorld_at_old W _ s k hk⟩
theorem conv_str (W : World) (s : ByteArray) : (convert 9 22 (.string s)).run Tryd.prog W = .ok (.slice (some ⟨W.heap.size, 0, none⟩) s.size (grownCap W s.size 0 5)) (Lib.bytesWorld W 5 s) :=
  Lib.run_convert_string_bytes W 9 22 5 s Tryd.underlying9 Tryd.underlying22 Tryd.underlying5
end Go.Proofs.YtdfdnjkeiddfjabDoor
/-
  Blocks, frames, lists of numbers that lie in given blocks.
-/
namespace Go.Proofs.YtdfdnjkeiddfjabDoor
open Go.RowKit

theorem hm7 {p : Prop} (h : p) : Hid p := h
/-- All blocks but those of P stay as they were. -/
structure Fr (P : Nat → Prop) (w w' : World) : Prop where
  os : w'.os = w.os
  tape : w'.tape = w.tape
  output : w'.output = w.output
  size : w.heap.size ≤ w'.heap.size
  block : ∀ k, k < w.heap.size → ¬ P k → w'.heap[k]? = w.heap[k]?
theorem Fr.of {P : Nat → Prop} {w w' : World} (h : Below w.heap.size w w') : Fr P w w' := ⟨h.os, h.tape, h.output, h.size, fun k hk _ => h.block k hk⟩
theorem Fr.refl (P : Nat → Prop) (w : World) : Fr P w w := Fr.of (Below.refl _ _)
theorem Fr.drew {P : Nat → Prop} {w w' : World} (h : Fr P w w') : Fr P w w'.drew := ⟨h.os, h.tape, h.output, h.size, h.block⟩
theorem Fr.trans {P Q : Nat → Prop} {a b c : World} (h : Fr P a b) (k : Fr Q b c) (hq : ∀ x, x < a.heap.size → Q x → P x) : Fr P a c :=
  ⟨k.os.trans h.os, k.tape.trans h.tape, k.output.trans h.output, Nat.le_trans h.size k.size, fun i hi hp => (k.block i (Nat.lt_of_lt_of_le hi h.size) (fun hc => hp (hq i hi hc))).trans (h.block i hi hp)⟩
theorem Fr.tr {P : Nat → Prop} {a b c : World} (h : Fr P a b) (k : Fr P b c) : Fr P a c := h.trans k fun _ _ hc => hc
theorem Fr.then {P : Nat → Prop} {a b c : World} (h : Fr P a b) (k : Below b.heap.size b c) : Fr P a c := h.tr (Fr.of k)
theorem Fr.mono {P Q : Nat → Prop} {w w' : World} (h : Fr P w w') (hq : ∀ x, x < w.heap.size → P x → Q x) : Fr Q w w' := ⟨h.os, h.tape, h.output, h.size, fun k hk hp => h.block k hk fun hc => hp (hq k hk hc)⟩
theorem Fr.set {P : Nat → Prop} {w w' : World} (h : Fr P w w') {g i : Nat} {v : Value} (hg : P g ∨ w.heap.size ≤ g) : Fr P w (w'.setCell ⟨g, i, none⟩ v) := by
  have hb := Below.setCell (Below.refl g w') (p := ⟨g, i, none⟩) (Nat.le_refl _) v
  refine ⟨hb.os.trans h.os, hb.tape.trans h.tape, hb.output.trans h.output, Nat.le_trans h.size hb.size, fun k hk hn => ?_⟩
  rw [heap_setCell_other _ _ _ _ (show k ≠ g from fun e => by subst e; rcases hg with hg | hg; exact hn hg; omega)]
  exact h.block k hk hn
theorem Fr.cell {P : Nat → Prop} {w w' : World} (h : Fr P w w') {b o : Nat} {v : Value} (hb : b < w.heap.size) (hn : ¬ P b) (hc : w.cell? ⟨b, o, none⟩ = some v) : w'.cell? ⟨b, o, none⟩ = some v := by
  rw [World.cell?_of_block (w := w) (a := ⟨b, o, none⟩) (h.block b hb hn)]; exact hc
def Any (_ : Nat) : Prop := True
end Go.Proofs.YtdfdnjkeiddfjabDoor
/-
  wire: what the document says (plain).
-/
namespace Go.Proofs.YtdfdnjkeiddfjabDoor
open Go.RowKit

def bytW (l : List Int) : Prop := ∀ x ∈ l, 0 ≤ x ∧ x ≤ 255
end Go.Proofs.YtdfdnjkeiddfjabDoor
/-
  wire: bytes in memory; copyBytes, sameBytes.
-/
namespace Go.Proofs.YtdfdnjkeiddfjabDoor
open Go.RowKit
attribute [local go_sem ↓] Go.wp_at_zero Go.wp_at_succ

def ubW (l : List Int) : List Value := l.map (.int .u8)
/-- Bytes that lie in a block of F. -/
def LbW (F : Nat → Prop) (w : World) (v : Value) (l : List Int) : Prop :=
  ∃ a cap, v = .slice a l.length cap ∧ l.length ≤ cap ∧ cap ≤ 9223372036854775807 ∧ bytW l ∧ ((l = [] ∧ (a = none → cap = 0)) ∨ ∃ b o, a = some ⟨b, o, none⟩ ∧ b < w.heap.size ∧ F b ∧ ∀ (i : Nat) (x : Int), l[i]? = some x → w.cell? ⟨b, o + i, none⟩ = some (.int .u8 x))
theorem LbW.mono {F G : Nat → Prop} {w : World} {v : Value} {l : List Int} (h : LbW F w v l) (hg : ∀ b, b < w.heap.size → F b → G b) : LbW G w v l := by
  obtain ⟨a, cap, rfl, h1, h2, h3, h4⟩ := h
  refine ⟨a, cap, rfl, h1, h2, h3, ?_⟩
  rcases h4 with h4 | ⟨b, o, rfl, h4, h5, h6⟩
  · exact Or.inl h4
  · exact Or.inr ⟨b, o, rfl, h4, hg b h4 h5, h6⟩
theorem LbW.same {F : Nat → Prop} {w w' : World} {v : Value} {l : List Int} (h : LbW F w v l) (hz : w.heap.size ≤ w'.heap.size) (hf : ∀ b, b < w.heap.size → F b → w'.heap[b]? = w.heap[b]?) : LbW F w' v l := by
  obtain ⟨a, cap, rfl, h1, h2, h3, h4⟩ := h
  refine ⟨a, cap, rfl, h1, h2, h3, ?_⟩
  rcases h4 with h4 | ⟨b, o, rfl, h4, h5, h6⟩
  · exact Or.inl h4
  · exact Or.inr ⟨b, o, rfl, Nat.lt_of_lt_of_le h4 hz, h5, fun i x hx => by
      rw [World.cell?_of_block (w := w) (a := ⟨b, _, none⟩) (hf b h4 h5)]; exact h6 i x hx⟩
theorem LbW.below {F : Nat → Prop} {w w' : World} {v : Value} {l : List Int} (h : LbW F w v l) (hb : Below w.heap.size w w') : LbW F w' v l := h.same hb.size fun b h1 _ => hb.block b h1
theorem LbW.nil (F : Nat → Prop) (w : World) : LbW F w (.slice none 0 0) [] := ⟨none, 0, rfl, by simp, by simp, (by intro x hx; simp at hx), Or.inl ⟨rfl, fun _ => rfl⟩⟩
end Go.Proofs.YtdfdnjkeiddfjabDoor
