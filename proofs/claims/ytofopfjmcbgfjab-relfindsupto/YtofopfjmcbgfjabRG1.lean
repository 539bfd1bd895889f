/-
  law 7: finds: what it carries. (Written by RG1.py.)
-/
import Derived.Test.YtofopfjmcbgfjabRG0
import Derived.Test.YtofopfjmcbgfjabRE60
namespace Go.Proofs.Ytofopfjmcbgfjab
open Go.RowKit Go.Shelf

/-- What finds carries from round to round. -/
structure FV (w Ws : World) (X0 : Nat → Prop) (g m : Nat) (s : St7) (parts : Int) (cols keys : List Int) (b1 b2 b3 b4 b5 : Nat) (rd rb : Nat) (Es : List Nat) (W : World) : Prop where
  k : KF2 w (fun b => X0 b ∨ b ∈ Es ∨ b = rb) g (m + rd) s parts cols keys b1 b2 b3 b4 b5 W
  st : ∀ b, X0 b → W.heap[b]? = Ws.heap[b]?
  z : Ws.heap.size ≤ W.heap.size
  rc : Bk W rb #[.int .i64 (rd : Int)] 3
  rn : Ws.heap.size ≤ rb
  re : rb ∉ Es
  mks : Mk7 W Es
  e : ∀ E ∈ Es, Ws.heap.size ≤ E
  rr : rd ≤ 2
/-- Amid its range. -/
def FI7 (X1 : Nat → Prop) (nb : Nat) (V : World) (nn : Nat) (W : World) : Prop := Bk W nb #[.int .i64 (nn : Int)] 3 ∧ V.heap.size ≤ W.heap.size ∧ ∀ b, X1 b → W.heap[b]? = V.heap[b]?
theorem FI7.only {X1 : Nat → Prop} {nb : Nat} {V : World} {nn : Nat} : Only (fun b => X1 b ∨ b = nb) (FI7 X1 nb V nn) := fun _ _ h hs hb =>
  ⟨h.1.same (hb nb (Or.inr rfl)), Nat.le_trans h.2.1 hs, fun b hx => (hb b (Or.inl hx)).trans (h.2.2 b hx)⟩
def mu11 (ac : Act) (X : World) : Nat := match ac.tmps[11]? with
  | some (Value.pointer (some a)) => (match X.cell? a with | some (Value.int _ k) => 2 - k.toNat | _ => 0)
  | _ => 0
theorem mu11_of {ac : Act} {X : World} {rb rd : Nat} (ha : ac.tmps[11]? = some (.pointer (some ⟨rb, 0, none⟩))) (h : Bk X rb #[.int .i64 (rd : Int)] 3) : mu11 ac X = 2 - rd := by
  unfold mu11
  rw [ha]
  simp only
  rw [show X.cell? ⟨rb, 0, none⟩ = some (.int .i64 (rd : Int)) from h.cell (i := 0) rfl]
  simp
/-- The copy of the loop's variable, one more. -/
theorem bk_copy (V : World) (rd : Nat) : Bk ((V.alloc (.cells #[.int .i64 (rd : Int)] 3)).setCell ⟨V.heap.size, 0, none⟩ (.int .i64 ((rd : Int) + 1))) V.heap.size #[.int .i64 ((rd + 1 : Nat) : Int)] 3 := by
  have := (Bk.new V #[.int .i64 (rd : Int)] 3).set 0 (.int .i64 ((rd : Int) + 1))
  rw [show ((rd + 1 : Nat) : Int) = (rd : Int) + 1 by omega]
  exact this
theorem fr_copy (V : World) (rd : Nat) : Fr (fun b => b = V.heap.size) V ((V.alloc (.cells #[.int .i64 (rd : Int)] 3)).setCell ⟨V.heap.size, 0, none⟩ (.int .i64 ((rd : Int) + 1))) := Fr.set (Fr.of (below1 _ _)) (Or.inl rfl)
theorem bk_copy2 (V : World) (rd : Nat) : Bk (V.alloc (.cells #[.int .i64 ((rd : Int) + 1)] 3)) V.heap.size #[.int .i64 ((rd + 1 : Nat) : Int)] 3 := by
  rw [show ((rd + 1 : Nat) : Int) = (rd : Int) + 1 by omega]
  exact Bk.new _ _ _
theorem fr_copy2 (V : World) (rd : Nat) : Fr (fun b => b = V.heap.size) V (V.alloc (.cells #[.int .i64 ((rd : Int) + 1)] 3)) := Fr.of (below1 _ _)
theorem bk_one (V : World) : Bk (V.alloc (.cells #[.int .i64 1] 3)) V.heap.size #[.int .i64 ((0 + 1 : Nat) : Int)] 3 := Bk.new _ _ _
theorem fr_one (V : World) : Fr (fun b => b = V.heap.size) V (V.alloc (.cells #[.int .i64 1] 3)) := Fr.of (below1 _ _)
theorem FV.next {w Ws : World} {X0 : Nat → Prop} {g m : Nat} {s : St7} {parts : Int} {cols keys : List Int} {b1 b2 b3 b4 b5 : Nat} {rd rb : Nat} {Es : List Nat} {W W' V V' : World} {D nn : Nat} (hX0 : ∀ b, X0 b → w.heap.size ≤ b ∧ b < Ws.heap.size) (h : FV w Ws X0 g m s parts cols keys b1 b2 b3 b4 b5 rd rb Es W)
    (hV : ∀ b, (X0 b ∨ b ∈ Es ∨ b = rb) → W'.heap[b]? = W.heap[b]?) (hw' : W'.heap.size = W.heap.size + 1) (hi : FI7 (fun b => X0 b ∨ b ∈ Es ∨ b = rb) W.heap.size W' nn V)
    (hk : KF2 w (fun b => ((X0 b ∨ b ∈ Es ∨ b = rb) ∨ b = W.heap.size) ∨ b = D ∨ b = D + 1) g (m + rd + 1) s parts cols keys b1 b2 b3 b4 b5 V) (hD : D = W'.heap.size) (hdf : V.heap[D]? = some (.deferred (some []))) (hrd : rd < 2)
    (hf : Fr (fun b => b = V.heap.size) V V') (hrc : Bk V' V.heap.size #[.int .i64 ((rd + 1 : Nat) : Int)] 3) : FV w Ws X0 g m s parts cols keys b1 b2 b3 b4 b5 (rd + 1) V.heap.size (D :: Es) V' := by
  have hz := h.z
  have hsz := hi.2.1
  have hws := h.k.b.size
  have hDl := (Array.getElem?_eq_some_iff.1 hdf).1
  have hfz := hf.size
  have keep : ∀ b, (X0 b ∨ b ∈ Es ∨ b = rb) → V'.heap[b]? = W.heap[b]? := fun b hb => by
    have hl : b < W.heap.size := by
      rcases hb with hb | hb | hb
      · have := (hX0 b hb).2; omega
      · exact h.mks.lt b hb
      · rw [hb]; exact h.rc.lt
    rw [hf.block b (by omega) (by omega), hi.2.2 b hb, hV b hb]
  refine ⟨?_, fun b hb => (keep b (Or.inl hb)).trans (h.st b hb), by omega, hrc, by omega, fun hE => ?_, (h.mks.same fun E hE => keep E (Or.inr (Or.inl hE))).cons (fun hE => by have := h.mks.lt D hE; omega) ?_, fun E hE => ?_, by omega⟩
  · have := hk.fr (Y := fun b => X0 b ∨ b ∈ D :: Es ∨ b = V.heap.size) hf (fun b hb hl => by omega) (fun b hb => ?_)
    · rw [show m + (rd + 1) = m + rd + 1 by omega]; exact this
    · rcases hb with hb | hb | hb
      · exact Or.inl (Or.inl (Or.inl (Or.inl hb)))
      · rcases List.mem_cons.1 hb with hb | hb
        · exact Or.inl (Or.inr (Or.inl hb))
        · exact Or.inl (Or.inl (Or.inl (Or.inr (Or.inl hb))))
      · exact Or.inr (by omega)
  · rcases List.mem_cons.1 hE with hE | hE
    · omega
    · have := h.mks.lt _ hE; omega
  · rw [hf.block D hDl (by omega)]; exact hdf
  · rcases List.mem_cons.1 hE with rfl | hE
    · omega
    · exact h.e E hE
/-- Both relations at the end. -/
theorem KF2.bx {w Y : World} {T R : Nat → Prop} {g h m m0 : Nat} {s : St7} {parts : Int} {cols keys : List Int} {b1 b2 b3 b4 b5 : Nat} {X : Nat → Prop} {W : World} (H : BO w T R g h m0 s Y) (hk : KF2 w X g m s parts cols keys b1 b2 b3 b4 b5 W) (hXX : ∀ b, w.heap.size ≤ b → b < Y.heap.size → ¬ T b → X b) (hw : ∀ b, w.heap.size ≤ b → b < Y.heap.size → ¬ T b → W.heap[b]? = Y.heap[b]?) (hz : Y.heap.size ≤ W.heap.size) : BX w T R g h m s Y W := by
  obtain ⟨F, S, h1, h2, h3, -⟩ := hk
  have hf : Fr T Y W := ⟨by rw [h3.os, H.p.b.os], by rw [h3.tape, H.p.b.tape], by rw [h3.output, H.p.b.output], hz, fun b hb hn => by
    by_cases hl : b < w.heap.size
    · rw [h3.block b hl, H.p.b.block b hl]
    · exact hw b (by omega) hb hn⟩
  refine ⟨hf.mono fun b _ h => Or.inl h, fun b => F b ∨ S b, R, ⟨⟨F, S, h1, fun b hb => hb, fun b hb => ⟨(h2 b hb).1, hb.elim (fun h => (h1.q b h).2) (h1.q2 b)⟩, h3⟩, H.r.fr hf fun b hb _ => ⟨(H.p.t b hb).1, H.d b hb⟩, fun b hb hc => ?_⟩, fun b hb => ?_⟩
  · exact (h2 b hb).2 (hXX b (H.r.t b hc).1 (H.r.t b hc).2 (fun ht => H.d b ht hc))
  · rcases hb with hb | hb
    · by_cases hl : b < Y.heap.size
      · by_cases ht : T b
        · exact Or.inl (Or.inl ht)
        · exact absurd (hXX b (h2 b hb).1 hl ht) (h2 b hb).2
      · exact Or.inr (by omega)
    · exact Or.inl (Or.inr hb)
theorem fr_put (Z : World) (E : Nat) (o : Obj) : Fr (fun b => b = E) Z (Z.putObj E o) := ⟨rfl, rfl, rfl, by simp, fun _ _ hn => World.putObj_heap_other hn⟩
theorem fr_set (Z : World) (E : Nat) (v : Value) : Fr (fun b => b = E) Z (Z.setCell ⟨E, 0, none⟩ v) := (Fr.refl _ _).set (Or.inl rfl)
/-- What is left to do when all rounds are behind. -/
structure FE (w Y : World) (T X : Nat → Prop) (g m : Nat) (s : St7) (parts : Int) (cols keys : List Int) (b1 b2 b3 b4 b5 : Nat) (r : Bool) (Z : World) : Prop where
  k : KF2 w X g m s parts cols keys b1 b2 b3 b4 b5 Z
  o : Bk Z (Y.heap.size + 2) #[.bool r] 4
  y : ∀ b, w.heap.size ≤ b → b < Y.heap.size → ¬ T b → Z.heap[b]? = Y.heap[b]?
  z : Y.heap.size ≤ Z.heap.size
theorem FE.put {w Y : World} {T X : Nat → Prop} {g m : Nat} {s : St7} {parts : Int} {cols keys : List Int} {b1 b2 b3 b4 b5 : Nat} {r : Bool} {Z : World} (h : FE w Y T X g m s parts cols keys b1 b2 b3 b4 b5 r Z) {E : Nat} (hE : X E ∧ Y.heap.size + 3 ≤ E) (hw : w.heap.size ≤ Y.heap.size) (o : Obj) : FE w Y T X g m s parts cols keys b1 b2 b3 b4 b5 r (Z.putObj E o) :=
  ⟨h.k.fr (fr_put Z E o) (fun b hb _ => by subst hb; exact ⟨hE.1, by omega⟩) (fun b hb => Or.inl hb), h.o.fr (fr_put Z E o) (by omega), fun b h1 h2 h3 => ((fr_put Z E o).block b (by have := h.z; omega) (by omega)).trans (h.y b h1 h2 h3), Nat.le_trans h.z (fr_put Z E o).size⟩
theorem FE.set {w Y : World} {T X : Nat → Prop} {g m : Nat} {s : St7} {parts : Int} {cols keys : List Int} {b1 b2 b3 b4 b5 : Nat} {r : Bool} {Z : World} (h : FE w Y T X g m s parts cols keys b1 b2 b3 b4 b5 r Z) (hE : X (Y.heap.size + 2)) (hw : w.heap.size ≤ Y.heap.size) (r' : Bool) : FE w Y T X g m s parts cols keys b1 b2 b3 b4 b5 r' (Z.setCell ⟨Y.heap.size + 2, 0, none⟩ (.bool r')) :=
  ⟨h.k.fr (fr_set Z (Y.heap.size + 2) _) (fun b hb _ => by subst hb; exact ⟨hE, by omega⟩) (fun b hb => Or.inl hb), h.o.set 0 (.bool r'), fun b h1 h2 h3 => ((fr_set Z (Y.heap.size + 2) _).block b (by have := h.z; omega) (by omega)).trans (h.y b h1 h2 h3), Nat.le_trans h.z (fr_set Z (Y.heap.size + 2) _).size⟩
end Go.Proofs.Ytofopfjmcbgfjab
