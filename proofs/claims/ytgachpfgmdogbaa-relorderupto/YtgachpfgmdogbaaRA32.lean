/-
  law 7: two relations side by side.
-/
import Derived.Test.YtgachpfgmdogbaaRA31
namespace Go.Proofs.Ytgachpfgmdogbaa
open Go.RowKit

/-- Two relations of the call's own. -/
def TW (w : World) (g gs m : Nat) (R s : St7) (wr : World) : Prop :=
  ∃ F S F2 S2 : Nat → Prop, RM wr g F S m R ∧ RM wr gs F2 S2 m s ∧ (∀ b, F b ∨ S b → ¬ (F2 b ∨ S2 b)) ∧ (∀ b, (F b ∨ S b) ∨ (F2 b ∨ S2 b) → w.heap.size ≤ b) ∧ Below w.heap.size w wr
/-- The same between the two calls of Rows. -/
def TM (w : World) (g gs m : Nat) (R s : St7) (u : Value) (Q : List (List Int × Value)) (wr : World) : Prop :=
  ∃ (F S F2 S2 : Nat → Prop) (B : Nat), RM wr g F S (m + 1) R ∧ RM wr gs F2 S2 m s ∧ (∀ b, F b ∨ S b → ¬ (F2 b ∨ S2 b)) ∧ (∀ b, (F b ∨ S b) ∨ (F2 b ∨ S2 b) → w.heap.size ≤ b) ∧ Below w.heap.size w wr ∧ OL wr B u Q ∧ ∀ b, F2 b ∨ S2 b → b < B
theorem RM.lt {w : World} {g : Nat} {F S : Nat → Prop} {m : Nat} {s : St7} (h : RM w g F S m s) {b : Nat} (hb : F b ∨ S b) : b < w.heap.size := hb.elim (fun h' => (h.q b h').2) (h.q2 b)
theorem TW.one {w wr : World} {g gs m : Nat} {R s : St7} (h : TW w g gs m R s wr) (parts : Int) (hm : m ≤ 1000) :
    Calls Try.prog 12 #[.pointer (some ⟨g, 0, none⟩), .int .i64 parts] wr fun e w' => ∃ u, e = .returned u ∧ ∃ Q, Q.map Prod.fst = srt7 (sel7 R parts [] []) ∧ TM w g gs m R s u Q w' := by
  obtain ⟨F, S, F2, S2, h1, h2, h3, h4, h5⟩ := h
  refine (rows8_any g F S m R parts wr h1 (by omega)).mono ?_
  rintro e w' ⟨u, F', P, B, rfl, k1, k2, k3, k4, k5, k6, k7, k8⟩
  have hz := h5.size
  refine ⟨u, rfl, P, k7, F', S, F2, S2, B, k1, h2.fr k2 fun b hb hF => h3 b (Or.inl hF) hb, fun b hb hc => ?_, fun b hb => ?_, low7 h5 k2 fun b hF => h4 b (Or.inl (Or.inl hF)), ⟨k6, k8⟩, fun b hb => Nat.lt_of_lt_of_le (h2.lt hb) k5⟩
  · rcases hb with hb | hb
    · rcases (k4 b hb).1 with hq | hq
      · exact h3 b (Or.inl hq) hc
      · have := h2.lt hc; omega
    · exact h3 b (Or.inr hb) hc
  · rcases hb with (hb | hb) | hb
    · rcases (k4 b hb).1 with hq | hq
      · exact h4 b (Or.inl (Or.inl hq))
      · omega
    · exact h4 b (Or.inl (Or.inr hb))
    · exact h4 b (Or.inr hb)
theorem TM.two {w wr : World} {g gs m : Nat} {R s : St7} {u : Value} {Q : List (List Int × Value)} (h : TM w g gs m R s u Q wr) (parts : Int) (hm : m ≤ 1000) :
    Calls Try.prog 12 #[.pointer (some ⟨gs, 0, none⟩), .int .i64 parts] wr fun e w' => ∃ u2, e = .returned u2 ∧ ∃ Q2, Q2.map Prod.fst = srt7 (sel7 s parts [] []) ∧ Ls7 w' u Q ∧ Ls7 w' u2 Q2 ∧ TW w g gs (m + 1) R s w' := by
  obtain ⟨F, S, F2, S2, B, h1, h2, h3, h4, h5, h6, h7⟩ := h
  refine (rows8_any gs F2 S2 m s parts wr h2 (by omega)).mono ?_
  rintro e w' ⟨u2, F', P, B', rfl, k1, k2, k3, k4, k5, k6, k7, k8⟩
  have hz := h5.size
  refine ⟨u2, rfl, P, k7, (h6.fr k2 fun b hb _ hF => by have := h7 b (Or.inl hF); omega).ls, OL.ls ⟨k6, k8⟩, F, S, F', S2, h1.fr k2 fun b hb hF => h3 b hb (Or.inl hF), k1, fun b hb hc => ?_, fun b hb => ?_, low7 h5 k2 fun b hF => h4 b (Or.inr (Or.inl hF))⟩
  · rcases hc with hc | hc
    · rcases (k4 b hc).1 with hq | hq
      · exact h3 b hb (Or.inl hq)
      · have := h1.lt hb; omega
    · exact h3 b hb (Or.inr hc)
  · rcases hb with hb | hb | hb
    · exact h4 b (Or.inl hb)
    · rcases (k4 b hb).1 with hq | hq
      · exact h4 b (Or.inr (Or.inl hq))
      · omega
    · exact h4 b (Or.inr (Or.inr hb))
theorem below_drewN7 (X : World) (n : Nat) : Below X.heap.size X (X.drewN n) := ⟨rfl, rfl, rfl, Nat.le_refl _, fun _ _ => rfl⟩
theorem TW.below {w wr w' : World} {g gs m : Nat} {R s : St7} (h : TW w g gs m R s wr) (hb : Below wr.heap.size wr w') : TW w g gs m R s w' := by
  obtain ⟨F, S, F2, S2, h1, h2, h3, h4, h5⟩ := h
  exact ⟨F, S, F2, S2, h1.below hb, h2.below hb, h3, h4, h5.trans (hb.mono h5.size)⟩
theorem TW.start {w W2 wr : World} {g gs : Nat} {R s : St7} {F S : Nat → Prop} (h1 : RM W2 g F S 0 R) (hd : ∀ b, F b ∨ S b → w.heap.size ≤ b) (hb : Below w.heap.size w W2) (h2 : HD7 W2 gs 0 s wr) : TW w g gs 0 R s wr := by
  obtain ⟨F2, S2, k1, k2, k3⟩ := h2
  have := hb.size
  exact ⟨F, S, F2, S2, h1.below k3, k1, fun b hb hc => by have q1 := h1.lt hb; have q2 := k2 b hc; omega, fun b hb => hb.elim (hd b) fun h => by have := k2 b h; omega, hb.trans (k3.mono hb.size)⟩
/-- How far the rows of a batch have come into the second relation, from the last one down. -/
structure SI (W2 w3 : World) (gs XB : Nat) (s : St7) (L : List (List Int)) (gg : Nat) (wr : World) (q : List (List Int)) (F S : Nat → Prop) : Prop where
  i : GI W2 w3 gs XB s q wr F S
  a : ∀ x ∈ q, x ∈ L
  b : ∀ i x, gg ≤ i → L[i]? = some x → x ∈ q
  l : q.length + 2 * gg ≤ 2 * L.length
theorem SI.step {W2 w3 : World} {gs XB : Nat} {s : St7} {L : List (List Int)} {gg : Nat} {wr w4 : World} {q : List (List Int)} {F S F3 S3 : Nat → Prop} {x : List Int} (h : SI W2 w3 gs XB s L (gg + 1) wr q F S) (hx : L[gg]? = some x) (hi : GI W2 w3 gs XB s (q ++ [x]) w4 F3 S3) : SI W2 w3 gs XB s L gg w4 (q ++ [x]) F3 S3 := by
  refine ⟨hi, fun y hy => ?_, fun i y hgi hy => ?_, ?_⟩
  · rcases List.mem_append.1 hy with hy | hy
    · exact h.a y hy
    · simp at hy; subst hy; exact List.mem_of_getElem? hx
  · by_cases e : i = gg
    · subst e
      rw [hx] at hy
      cases hy
      simp
    · exact List.mem_append.2 (Or.inl (h.b i y (by omega) hy))
  · have := h.l
    rw [List.length_append, List.length_singleton]
    omega
theorem SI.step2 {W2 w3 : World} {gs XB : Nat} {s : St7} {L : List (List Int)} {gg : Nat} {wr w5 : World} {q : List (List Int)} {F S F4 S4 : Nat → Prop} {x z : List Int} (h : SI W2 w3 gs XB s L (gg + 1) wr q F S) (hx : L[gg]? = some x) (hz : z ∈ L) (hi : GI W2 w3 gs XB s (q ++ [x] ++ [z]) w5 F4 S4) : SI W2 w3 gs XB s L gg w5 (q ++ [x] ++ [z]) F4 S4 := by
  refine ⟨hi, fun y hy => ?_, fun i y hgi hy => ?_, ?_⟩
  · rcases List.mem_append.1 hy with hy | hy
    · rcases List.mem_append.1 hy with hy | hy
      · exact h.a y hy
      · simp at hy; subst hy; exact List.mem_of_getElem? hx
    · simp at hy; subst hy; exact hz
  · by_cases e : i = gg
    · subst e
      rw [hx] at hy
      cases hy
      simp
    · exact List.mem_append.2 (Or.inl (List.mem_append.2 (Or.inl (h.b i y (by omega) hy))))
  · have := h.l
    rw [List.length_append, List.length_append, List.length_singleton, List.length_singleton]
    omega
end Go.Proofs.Ytgachpfgmdogbaa
