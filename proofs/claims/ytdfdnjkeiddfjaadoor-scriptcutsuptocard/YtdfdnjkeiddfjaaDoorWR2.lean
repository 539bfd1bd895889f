import Derived.Lib.ConvBytes
import Derived.Test.YtdfdnjkeiddfjaaDoorK37
import Derived.Laws.AppendOwnNone
import Derived.Laws.AppendOwn
import Derived.Test.YtdfdnjkeiddfjaaDoorSC6
import Derived.Deep.RegionWith
import Derived.Test.YtdfdnjkeiddfjaaDoorK9
import Derived.BigQuiet
import Derived.Lib.AtoiAllCases
import Derived.Test.YtdfdnjkeiddfjaaDoorK13
import Derived.Test.YtdfdnjkeiddfjaaDoorRA1
import Derived.Maps.AppendAt
import Derived.Laws.OwnMore
/-
  ref's Join.
-/
namespace Go.Proofs.YtdfdnjkeiddfjaaDoor
open Go.RowKit

theorem below_conv (W : World) (s : ByteArray) : Below W.heap.size W (Lib.bytesWorld W 5 s) := ⟨rfl, rfl, rfl, by rw [Lib.bytesWorld_size]; omega, fun k hk => Lib.bytesWorld_at_old W _ s k hk⟩
theorem conv_str (W : World) (s : ByteArray) : (convert 9 22 (.string s)).run Tryd.prog W = .ok (.slice (some ⟨W.heap.size, 0, none⟩) s.size (grownCap W s.size 0 5)) (Lib.bytesWorld W 5 s) :=
  Lib.run_convert_string_bytes W 9 22 5 s Tryd.underlying9 Tryd.underlying22 Tryd.underlying5
end Go.Proofs.YtdfdnjkeiddfjaaDoor
/-
  wire: what the document says (plain).
-/
namespace Go.Proofs.YtdfdnjkeiddfjaaDoor
open Go.RowKit

def bytW (l : List Int) : Prop := ∀ x ∈ l, 0 ≤ x ∧ x ≤ 255
end Go.Proofs.YtdfdnjkeiddfjaaDoor
/-
  wire: bytes in memory; copyBytes, sameBytes.
-/
namespace Go.Proofs.YtdfdnjkeiddfjaaDoor
open Go.RowKit
attribute [local go_sem ↓] Go.wp_at_zero Go.wp_at_succ

def ubW (l : List Int) : List Value := l.map (.int .u8)
/-- Bytes that lie in a block of F. -/
def LbW (F : Nat → Prop) (w : World) (v : Value) (l : List Int) : Prop :=
  ∃ a cap, v = .slice a l.length cap ∧ l.length ≤ cap ∧ cap ≤ 9223372036854775807 ∧ bytW l ∧ ((l = [] ∧ (a = none → cap = 0)) ∨ ∃ b o, a = some ⟨b, o, none⟩ ∧ b < w.heap.size ∧ F b ∧ ∀ (i : Nat) (x : Int), l[i]? = some x → w.cell? ⟨b, o + i, none⟩ = some (.int .u8 x))
theorem LbW.mono {F G : Nat → Prop} {w : World} {v : Value} {l : List Int} (h : LbW F w v l) (hg : ∀ b, b < w.heap.size → F b → G b) : LbW G w v l := by
  obtain ⟨a, cap, rfl, h1, h2, h3, h4⟩ := h
  refine ⟨a, cap, rfl, h1, h2, h3, ?_⟩
  rcases h4 with h4 | ⟨b, o, rfl, h4, h5, h6⟩
  · exact Or.inl h4
  · exact Or.inr ⟨b, o, rfl, h4, hg b h4 h5, h6⟩
theorem LbW.same {F : Nat → Prop} {w w' : World} {v : Value} {l : List Int} (h : LbW F w v l) (hz : w.heap.size ≤ w'.heap.size) (hf : ∀ b, b < w.heap.size → F b → w'.heap[b]? = w.heap[b]?) : LbW F w' v l := by
  obtain ⟨a, cap, rfl, h1, h2, h3, h4⟩ := h
  refine ⟨a, cap, rfl, h1, h2, h3, ?_⟩
  rcases h4 with h4 | ⟨b, o, rfl, h4, h5, h6⟩
  · exact Or.inl h4
  · exact Or.inr ⟨b, o, rfl, Nat.lt_of_lt_of_le h4 hz, h5, fun i x hx => by
      rw [World.cell?_of_block (w := w) (a := ⟨b, _, none⟩) (hf b h4 h5)]; exact h6 i x hx⟩
theorem LbW.below {F : Nat → Prop} {w w' : World} {v : Value} {l : List Int} (h : LbW F w v l) (hb : Below w.heap.size w w') : LbW F w' v l := h.same hb.size fun b h1 _ => hb.block b h1
theorem LbW.nil (F : Nat → Prop) (w : World) : LbW F w (.slice none 0 0) [] := ⟨none, 0, rfl, by simp, by simp, (by intro x hx; simp at hx), Or.inl ⟨rfl, fun _ => rfl⟩⟩
end Go.Proofs.YtdfdnjkeiddfjaaDoor
