/-
  law 7: two pairs of relations beside a script; plays and looks of one of them.
-/
import Derived.Test.YtofopfjmcbgfjabRE7
import Derived.Test.YtofopfjmcbgfjabRG2
namespace Go.Proofs.Ytofopfjmcbgfjab
open Go.RowKit

/-- Both pairs, and the boxes in which the law holds them. -/
def UT (w : World) (A B j : Nat) (p1 q1 p2 q2 : Option Addr) (W : World) : Prop :=
  Below w.heap.size w W ∧ Bk W A #[.pointer p1, .pointer q1] 28 ∧ Bk W B #[.pointer p2, .pointer q2] 28 ∧ w.heap.size ≤ A ∧ w.heap.size ≤ B ∧
  ∃ (T1 R1 T2 R2 : Nat → Prop) (m1 m2 : Nat) (s1 s2 : St7), BP w T1 R1 m1 (.agg #[.pointer p1, .pointer q1]) s1 W ∧ BP w T2 R2 m2 (.agg #[.pointer p2, .pointer q2]) s2 W ∧ (∀ b, T1 b ∨ R1 b → ¬ (T2 b ∨ R2 b)) ∧ (∀ b, (T1 b ∨ R1 b) ∨ (T2 b ∨ R2 b) → b ≠ A ∧ b ≠ B) ∧ m1 ≤ 8 * j ∧ m2 ≤ 8 * j ∧ s1.rows.length ≤ j ∧ s2.rows.length ≤ j
theorem UT.swap {w : World} {A B j : Nat} {p1 q1 p2 q2 : Option Addr} {W : World} (h : UT w A B j p1 q1 p2 q2 W) : UT w B A j p2 q2 p1 q1 W := by
  obtain ⟨h1, h2, h3, h4, h5, T1, R1, T2, R2, m1, m2, s1, s2, k1, k2, k3, k4, k5, k6, k7, k8⟩ := h
  exact ⟨h1, h3, h2, h5, h4, T2, R2, T1, R1, m2, m1, s2, s1, k2, k1, fun b h1 h2 => k3 b h2 h1, fun b hb => (k4 b hb.symm).symm, k6, k5, k8, k7⟩
theorem UT.below {w : World} {A B j : Nat} {p1 q1 p2 q2 : Option Addr} {W W' : World} (h : UT w A B j p1 q1 p2 q2 W) (hb : Below W.heap.size W W') : UT w A B j p1 q1 p2 q2 W' := by
  obtain ⟨h1, h2, h3, h4, h5, T1, R1, T2, R2, m1, m2, s1, s2, k1, k2, k3⟩ := h
  exact ⟨h1.trans (hb.mono h1.size), h2.below hb, h3.below hb, h4, h5, T1, R1, T2, R2, m1, m2, s1, s2, k1.below hb, k2.below hb, k3⟩
theorem UT.up {w : World} {A B j j' : Nat} {p1 q1 p2 q2 : Option Addr} {W : World} (h : UT w A B j p1 q1 p2 q2 W) (hj : j ≤ j') : UT w A B j' p1 q1 p2 q2 W := by
  obtain ⟨h1, h2, h3, h4, h5, T1, R1, T2, R2, m1, m2, s1, s2, k1, k2, k3, k4, k5, k6, k7, k8⟩ := h
  exact ⟨h1, h2, h3, h4, h5, T1, R1, T2, R2, m1, m2, s1, s2, k1, k2, k3, k4, by omega, by omega, by omega, by omega⟩
theorem UT.b {w : World} {A B j : Nat} {p1 q1 p2 q2 : Option Addr} {W : World} (h : UT w A B j p1 q1 p2 q2 W) : Below w.heap.size w W := h.1
theorem UT.ka {w : World} {A B j : Nat} {p1 q1 p2 q2 : Option Addr} {W : World} (h : UT w A B j p1 q1 p2 q2 W) : Bk W A #[.pointer p1, .pointer q1] 28 := h.2.1
theorem UT.kb {w : World} {A B j : Nat} {p1 q1 p2 q2 : Option Addr} {W : World} (h : UT w A B j p1 q1 p2 q2 W) : Bk W B #[.pointer p2, .pointer q2] 28 := h.2.2.1
/-- A step of the first pair. -/
theorem UT.step {w : World} {A B j' : Nat} {g h : Nat} {p2 q2 : Option Addr} {W W' : World} {T1 R1 T2 R2 : Nat → Prop} {m1 m2 : Nat} {s1 s2 : St7} (hw : Below w.heap.size w W) (ka : Bk W A #[.pointer (some ⟨g, 0, none⟩), .pointer (some ⟨h, 0, none⟩)] 28) (kb : Bk W B #[.pointer p2, .pointer q2] 28) (hA : w.heap.size ≤ A) (hB : w.heap.size ≤ B)
    (hT : ∀ b, T1 b ∨ R1 b → w.heap.size ≤ b) (k2 : BP w T2 R2 m2 (.agg #[.pointer p2, .pointer q2]) s2 W) (k3 : ∀ b, T1 b ∨ R1 b → ¬ (T2 b ∨ R2 b)) (k4 : ∀ b, (T1 b ∨ R1 b) ∨ (T2 b ∨ R2 b) → b ≠ A ∧ b ≠ B) (hx : BX w T1 R1 g h m1 s1 W W') (q1 : m1 ≤ 8 * j') (q2' : m2 ≤ 8 * j') (q3 : s1.rows.length ≤ j') (q4 : s2.rows.length ≤ j') : UT w A B j' (some ⟨g, 0, none⟩) (some ⟨h, 0, none⟩) p2 q2 W' := by
  obtain ⟨hf, T', R', hbo, hin⟩ := hx
  have hAl := ka.lt
  have hBl := kb.lt
  refine ⟨low7 hw hf hT, ka.fr hf fun hc => (k4 _ (Or.inl hc)).1 rfl, kb.fr hf fun hc => (k4 _ (Or.inl hc)).2 rfl, hA, hB, T', R', T2, R2, m1, m2, s1, s2, Or.inr ⟨g, h, rfl, hbo⟩, k2.fr hf (fun b hb _ => ⟨hT b hb, fun hc => k3 b hb (Or.inl hc), fun hc => k3 b hb (Or.inr hc)⟩), fun b hb hc => ?_, fun b hb => ?_, q1, q2', q3, q4⟩
  · rcases hin b hb with h1 | h1
    · exact k3 b h1 hc
    · have := (k2.t b hc).2; omega
  · rcases hb with hb | hb
    · rcases hin b hb with h1 | h1
      · exact k4 b (Or.inl h1)
      · exact ⟨by omega, by omega⟩
    · exact k4 b (Or.inr hb)
theorem step7_len (s : St7) (k : Int) (row : List Int) : (step7 s k row).rows.length ≤ s.rows.length + 1 := by
  unfold step7
  split
  · exact ad7_len s row
  · split
    · exact Nat.le_succ _
    · exact Nat.le_succ _
/-- One step of the first pair. -/
theorem UT.plays {w : World} {A B j : Nat} {p1 q1 p2 q2 : Option Addr} {W : World} (hu : UT w A B j p1 q1 p2 q2 W) (hp : p1 ≠ none) (k parts stop : Int) (two : Bool) (row cols key : List Int) (rv cv kv : Value) (ho : OpM w W ⟨k, parts, stop, two, row, cols, key⟩ rv cv kv) (hj : j ≤ 1000000000) :
    Calls Try.prog 8 #[.agg #[.pointer p1, .pointer q1], opv ⟨k, parts, stop, two, row, cols, key⟩ rv cv kv] W fun e W' => e = .returned (.bool true) ∧ UT w A B (j + 1) p1 q1 p2 q2 W' := by
  obtain ⟨h1, h2, h3, h4, h5, T1, R1, T2, R2, m1, m2, s1, s2, k1, k2, k3, k4, k5, k6, k7, k8⟩ := hu
  rcases k1 with ⟨hv, -⟩ | ⟨g, h, hv, hbo⟩
  · simp at hv; exact absurd hv.1 hp
  · simp at hv
    obtain ⟨rfl, rfl⟩ := hv
    refine (plays7_any finds7_ok w T1 R1 g h m1 s1 W k parts stop two row cols key rv cv kv hbo ho (by omega) (by omega)).mono ?_
    rintro e W' ⟨rfl, m', hm', hx⟩
    have := step7_len s1 k row
    exact ⟨rfl, UT.step h1 h2 h3 h4 h5 (fun b hb => hb.elim (fun h => (hbo.p.t b h).1) fun h => (hbo.r.t b h).1) k2 k3 k4 hx (by omega) (by omega) (by omega) (by omega)⟩
theorem UT.looks {w : World} {A B j : Nat} {p1 q1 p2 q2 : Option Addr} {W : World} (hu : UT w A B j p1 q1 p2 q2 W) (hp : p1 ≠ none) (hj : j ≤ 1000000000) :
    Calls Try.prog 9 #[.agg #[.pointer p1, .pointer q1]] W fun e W' => e = .returned (.bool true) ∧ UT w A B (j + 1) p1 q1 p2 q2 W' := by
  obtain ⟨h1, h2, h3, h4, h5, T1, R1, T2, R2, m1, m2, s1, s2, k1, k2, k3, k4, k5, k6, k7, k8⟩ := hu
  rcases k1 with ⟨hv, -⟩ | ⟨g, h, hv, hbo⟩
  · simp at hv; exact absurd hv.1 hp
  · simp at hv
    obtain ⟨rfl, rfl⟩ := hv
    refine (looks7_any w T1 R1 g h m1 s1 W hbo (by omega)).mono ?_
    rintro e W' ⟨rfl, hx⟩
    exact ⟨rfl, UT.step h1 h2 h3 h4 h5 (fun b hb => hb.elim (fun h => (hbo.p.t b h).1) fun h => (hbo.r.t b h).1) k2 k3 k4 hx (by omega) (by omega) (by omega) (by omega)⟩
/-- begin, as pointers. -/
theorem begin7_pq (w Y : World) (hb : Below w.heap.size w Y) (n : Int) (hn : n ≤ 9223372036854775807) : Calls Try.prog 6 #[.int .i64 n] Y fun e Y' => ∃ p q T R s, e = .returned (.tuple #[.agg #[.pointer p, .pointer q], .bool true]) ∧ BP w T R 0 (.agg #[.pointer p, .pointer q]) s Y' ∧ s.rows = [] ∧ (∀ b, T b ∨ R b → Y.heap.size ≤ b) ∧ Below Y.heap.size Y Y' := by
  refine (begin7_bp w Y hb n hn).mono ?_
  rintro e Y' ⟨v, T, R, s, rfl, h1, h2, h3, h4⟩
  rcases h1 with ⟨rfl, h⟩ | ⟨g, h, rfl, hbo⟩
  · exact ⟨_, _, T, R, s, rfl, Or.inl ⟨rfl, h⟩, h2, h3, h4⟩
  · exact ⟨_, _, T, R, s, rfl, Or.inr ⟨g, h, rfl, hbo⟩, h2, h3, h4⟩
end Go.Proofs.Ytofopfjmcbgfjab
