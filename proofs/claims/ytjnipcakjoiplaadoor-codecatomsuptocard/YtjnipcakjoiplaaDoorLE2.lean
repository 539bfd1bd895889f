import Derived.Test.YtjnipcakjoiplaaDoorMD13
import Derived.Deep.RegionHeld3
import Derived.Test.YtjnipcakjoiplaaDoorMP1
import Derived.Test.YtjnipcakjoiplaaDoorCL27
/-
  Made. (Written by MD14.py.)
-/
namespace Go.Proofs.YtjnipcakjoiplaaDoor
open Go.RowKit
attribute [local go_sem ↓] Go.wp_at_zero Go.wp_at_succ

theorem flat_len9 : ∀ (l : List At), (∀ a ∈ l, a.pl.length ≤ 9) → (l.flatMap At.pl).length ≤ l.length * 9
  | [], _ => by simp
  | a :: l, h => by
    rw [List.flatMap_cons, List.length_append, List.length_cons]
    have h1 := h a (by simp)
    have h2 := flat_len9 l fun b hb => h b (by simp [hb])
    omega
end Go.Proofs.YtjnipcakjoiplaaDoor
/-
  consts; Instance, Vars of small clauses.
-/
namespace Go.Proofs.YtjnipcakjoiplaaDoor
open Go.RowKit
attribute [local go_sem ↓] Go.wp_at_zero Go.wp_at_succ

/-- A clause of few and short lists. -/
structure KS (x : Ck) : Prop where
  h : x.1.args.length ≤ 8
  b : x.2.1.length ≤ 8
  t : x.2.2.length ≤ 8
  x : ∀ a ∈ x.2.1, a.args.length ≤ 8
theorem KS.map {x : Ck} (h : KS x) (f : Tm → Tm) : KS (mapC f x) := ⟨by simpa [mapC, mapA] using h.h, by simpa [mapC] using h.b, by simpa [mapC] using h.t, fun a ha => by obtain ⟨b, hb, rfl⟩ := List.mem_map.1 ha; simpa [mapA] using h.x b hb⟩
theorem KS.len {x : Ck} (h : KS x) : (Ck.terms x).length ≤ 100 := by
  have h1 := h.h; have h2 := h.b; have h3 := h.t
  have := flat_len9 x.2.1 fun a ha => by have := h.x a ha; simp [At.pl]; omega
  unfold Ck.terms
  rw [List.length_append, List.length_append, tls_len]
  simp [At.pl] at this ⊢
  omega
end Go.Proofs.YtjnipcakjoiplaaDoor
/-
  Clauses that lie above a block: Instance and Made answer such.
-/
namespace Go.Proofs.YtjnipcakjoiplaaDoor
open Go.RowKit

/-- The clause d lies in the blocks of X from B on: wherever these are as in X, it is there. -/
def Kp (B : Nat) (X : World) (d : Cm) : Prop := ∀ X' : World, X.heap.size ≤ X'.heap.size → (∀ b, B ≤ b → b < X.heap.size → X'.heap[b]? = X.heap[b]?) → d.ok X'
theorem Kp.ok {B : Nat} {X : World} {d : Cm} (h : Kp B X d) : d.ok X := h X (Nat.le_refl _) fun _ _ _ => rfl
theorem Kp.later {B : Nat} {X X' : World} {d : Cm} (h : Kp B X d) (hb : Below X.heap.size X X') : Kp B X' d := fun Y hs ha =>
  h Y (Nat.le_trans hb.size hs) fun b h1 h2 => (ha b h1 (Nat.lt_of_lt_of_le h2 hb.size)).trans (hb.block b h2)
theorem Kp.mono {B B' : Nat} {X : World} {d : Cm} (h : Kp B X d) (hB : B' ≤ B) : Kp B' X d := fun Y hs ha => h Y hs fun b h1 h2 => ha b (Nat.le_trans hB h1) h2
theorem Kp.off {B G i : Nat} {X : World} {d : Cm} {c : Value} (h : Kp B X d) (hG : G < B) : Kp B (X.setCell ⟨G, i, none⟩ c) d := fun Y hs ha =>
  h Y (by simpa [World.setCell] using hs) fun b h1 h2 => (ha b h1 (by simpa [World.setCell] using h2)).trans (heap_setCell_other _ _ _ _ (show b ≠ G by omega))
end Go.Proofs.YtjnipcakjoiplaaDoor
