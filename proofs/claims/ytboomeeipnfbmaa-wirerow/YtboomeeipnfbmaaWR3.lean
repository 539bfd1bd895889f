/-
  wire: rows of messages in memory; sameRows.
-/
import Derived.Test.YtboomeeipnfbmaaWR2
import Derived.BigQuiet
namespace Go.Proofs.Ytboomeeipnfbmaa
open Go.RowKit
attribute [local go_sem ↓] Go.wp_at_zero Go.wp_at_succ

/-- A row of messages that lies in blocks of F. -/
def LmW (F : Nat → Prop) (w : World) (v : Value) (l : List MsW) : Prop :=
  ∃ a cap, v = .slice a l.length cap ∧ l.length ≤ cap ∧ cap ≤ 9223372036854775807 ∧ ((l = [] ∧ (a = none → cap = 0)) ∨ ∃ b o, a = some ⟨b, o, none⟩ ∧ b < w.heap.size ∧ F b ∧ ∀ (i : Nat) (m : MsW), l[i]? = some m → w.cell? ⟨b, o + i * 2, none⟩ = some (.int .i64 (m.n : Int)) ∧ ∃ u, w.cell? ⟨b, o + i * 2 + 1, none⟩ = some u ∧ LbW F w u m.b)
theorem LmW.same {F : Nat → Prop} {w w' : World} {v : Value} {l : List MsW} (h : LmW F w v l) (hz : w.heap.size ≤ w'.heap.size) (hf : ∀ b, b < w.heap.size → F b → w'.heap[b]? = w.heap[b]?) : LmW F w' v l := by
  obtain ⟨a, cap, rfl, h1, h2, h4⟩ := h
  refine ⟨a, cap, rfl, h1, h2, ?_⟩
  rcases h4 with h4 | ⟨b, o, rfl, h4, h5, h6⟩
  · exact Or.inl h4
  · refine Or.inr ⟨b, o, rfl, Nat.lt_of_lt_of_le h4 hz, h5, fun i m hm => ?_⟩
    obtain ⟨c1, u, c2, c3⟩ := h6 i m hm
    exact ⟨by rw [World.cell?_of_block (w := w) (a := ⟨b, _, none⟩) (hf b h4 h5)]; exact c1, u, by rw [World.cell?_of_block (w := w) (a := ⟨b, _, none⟩) (hf b h4 h5)]; exact c2, c3.same hz hf⟩
theorem LmW.fr {F P : Nat → Prop} {w w' : World} {v : Value} {l : List MsW} (h : LmW F w v l) (hf : Fr P w w') (hn : ∀ b, b < w.heap.size → F b → ¬ P b) : LmW F w' v l :=
  h.same hf.size fun b hb hF => hf.block b hb (hn b hb hF)
theorem LmW.below {F : Nat → Prop} {w w' : World} {v : Value} {l : List MsW} (h : LmW F w v l) (hb : Below w.heap.size w w') : LmW F w' v l := h.same hb.size fun b h1 _ => hb.block b h1
theorem LmW.drewN {F : Nat → Prop} {w : World} {v : Value} {l : List MsW} (h : LmW F w v l) (n : Nat) : LmW F (w.drewN n) v l := h.below ⟨rfl, rfl, rfl, Nat.le_refl _, fun _ _ => rfl⟩
theorem LmW.mono {F G : Nat → Prop} {w : World} {v : Value} {l : List MsW} (h : LmW F w v l) (hg : ∀ b, b < w.heap.size → F b → G b) : LmW G w v l := by
  obtain ⟨a, cap, rfl, h1, h2, h4⟩ := h
  refine ⟨a, cap, rfl, h1, h2, ?_⟩
  rcases h4 with h4 | ⟨b, o, rfl, h4, h5, h6⟩
  · exact Or.inl h4
  · refine Or.inr ⟨b, o, rfl, h4, hg b h4 h5, fun i m hm => ?_⟩
    obtain ⟨c1, u, c2, c3⟩ := h6 i m hm
    exact ⟨c1, u, c2, c3.mono hg⟩
theorem LmW.nil (F : Nat → Prop) (w : World) : LmW F w (.slice none 0 0) [] := ⟨none, 0, rfl, by simp, by simp, Or.inl ⟨rfl, fun _ => rfl⟩⟩
theorem LmW.form {F : Nat → Prop} {w : World} {v : Value} {l : List MsW} (h : LmW F w v l) : ∃ a cap, v = .slice a l.length cap ∧ l.length ≤ cap := by obtain ⟨a, cap, rfl, h1, -⟩ := h; exact ⟨_, _, rfl, h1⟩
end Go.Proofs.Ytboomeeipnfbmaa
