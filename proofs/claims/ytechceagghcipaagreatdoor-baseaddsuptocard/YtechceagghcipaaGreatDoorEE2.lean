import Derived.Test.YtechceagghcipaaGreatDoorEE0
import Derived.Test.YtechceagghcipaaGreatDoorEE1
namespace Go.Proofs.YtechceagghcipaaGreatDoor
open Go.RowKit Go.Shelf

def postJ (B E : Nat) (J Jx : List (List Int) -> World -> Prop) (xs : List (List Int)) (W : World) : Exit -> Act -> World -> Prop
 | .normal, _, W' => Uq B E W W' /\ J xs W'
 | .ret, _, W' => Uq B E W W' /\ Jx xs W'
 | _, _, _ => False
theorem below_put8 {W0 X : World} {k : Nat} (hb : Below W0.heap.size W0 X) (hk : k < W0.heap.size) (o : Obj) : Below (W0.putObj k o).heap.size (W0.putObj k o) (X.putObj k o) := by
 have hs := hb.size
 refine ⟨hb.os, hb.tape, hb.output, by simpa using hs, fun j hj => ?_⟩
 have hj' : j < W0.heap.size := by simpa using hj
 by_cases e : j = k
 ·subst e
  rw [World.putObj_heap_same (by omega), World.putObj_heap_same hk]
 ·rw [World.putObj_heap_other e, World.putObj_heap_other e]
  exact hb.block j hj'
section
variable {n : Nat}
set_option maxHeartbeats 1000000 in
theorem range_coreJ {gop : Operand} {ps : Array Tmp} {assign body : Code} {Q : Exit -> Act -> World -> Prop} {a : Act} {w W : World} {b1 b2 b3 b4 b5 : Nat}
  (hg : a.eval gop = fnd7 b1 b2 b3 b4 b5) (hps : 1 = ps.size) (hWw : W.heap.size <= w.heap.size)
  {xs : List (List Int)} (hxw : ∀ x ∈ xs, w64 x) {D0 : World -> Prop} {Eff Kp : World -> World -> Prop} (hseq : SeqX Tryz.prog 91 #[.pointer (some ⟨b1, 0, none⟩), .pointer (some ⟨b2, 0, none⟩), .pointer (some ⟨b3, 0, none⟩), .pointer (some ⟨b4, 0, none⟩), .pointer (some ⟨b5, 0, none⟩)] xs D0 Eff Kp)
  (J Jx : Nat -> List (List Int) -> World -> Prop)
  (hD : ∀ W1, Below w.heap.size w W1 -> W1.heap.size = w.heap.size + 2 -> D0 W1 /\ (∀ W2, Eff W1 W2 -> J W2.heap.size [] W2 /\ w.heap.size + 2 <= W2.heap.size /\ ∀ k, W.heap.size <= k -> k < w.heap.size + 2 -> W2.heap[k]? = W1.heap[k]?) /\ ∀ E pre W2, J E pre W2 -> (∀ k, W.heap.size <= k -> k < w.heap.size -> W2.heap[k]? = w.heap[k]?) -> Kp W1 W2)
  (hJ : ∀ E pre W1 k o, k = w.heap.size ∨ k = w.heap.size + 1 -> J E pre W1 -> J E pre (W1.putObj k o)) (hJx : ∀ E pre W1 k o, k = w.heap.size ∨ k = w.heap.size + 1 -> Jx E pre W1 -> Jx E pre (W1.putObj k o)) (A0 : Value -> Act)
  (hassign : ∀ (l mm : Nat) (v : Value) (W : World) (K : Act -> World -> Prop), (∃ a n c, v = .slice a n c) -> K (A0 v) W -> assign.wpIn (Fence.wide.inRound l) mm Tryz.prog (Exit.then K (fun _ _ _ => False)) { tmps := (ps.zip #[v]).foldl (fun t (p, v) => t.setIfInBounds p v) a.tmps, defers := [] } W)
  (hbody : ∀ (l mm E : Nat) (pre : List (List Int)) (x : List Int) (v : Value) (W0 W1 : World), pre ++ [x] <+: xs -> J E pre W0 -> (∀ k, W.heap.size <= k -> k < w.heap.size -> W0.heap[k]? = w.heap[k]?) -> Below W0.heap.size W0 W1 -> w.heap.size + 2 <= E -> w.heap.size + 2 <= W0.heap.size -> Li (fun b => W0.heap.size <= b) W1 v x -> body.wpIn (Fence.wide.inRound l) mm Tryz.prog (postJ W.heap.size E (J E) (Jx E) (pre ++ [x]) W1) (A0 v) W1)
  (hdone : ∀ (E : Nat) (W2 : World), J E xs W2 -> W2.heap[w.heap.size]? = some (.deferred (some [])) -> Q .normal { a with defers := { target := .collected w.heap.size, args := #[] } :: a.defers } W2)
  (hstop : ∀ (E : Nat) (pre : List (List Int)) (W2 : World), pre <+: xs -> Jx E pre W2 -> W2.heap[w.heap.size]? = some (.deferred (some [])) -> Code.ret.wpIn Fence.wide n Tryz.prog Q { a with defers := { target := .collected w.heap.size, args := #[] } :: a.defers } W2) :
  (Code.rangeFunc gop ps assign body).wpIn Fence.wide n Tryz.prog Q a w := by
 refine wpIn_seqX (gf := 91) (lb := #[.pointer (some ⟨b1, 0, none⟩), .pointer (some ⟨b2, 0, none⟩), .pointer (some ⟨b3, 0, none⟩), .pointer (some ⟨b4, 0, none⟩), .pointer (some ⟨b5, 0, none⟩)]) hg (enters_of Tryz.func91 (by kernel_rfl) rfl) hseq hps
  (fun E pre X => J E pre X /\ (∀ k, W.heap.size <= k -> k < w.heap.size -> X.heap[k]? = w.heap[k]?) /\ w.heap.size + 2 <= E /\ w.heap.size + 2 <= X.heap.size)
  (fun E c pre X => c = .ret /\ Jx E pre X) ?ownI ?ownX ?start
  (fun E pre x v act X => (∃ W0, J E pre W0 /\ (∀ k, W.heap.size <= k -> k < w.heap.size -> W0.heap[k]? = w.heap[k]?) /\ Below W0.heap.size W0 X /\ w.heap.size + 2 <= W0.heap.size /\ Li (fun b => W0.heap.size <= b) X v x) /\ w.heap.size + 2 <= E /\ act = A0 v)
  ?ownA ?assign ?body ?done ?stop
 case ownI =>
  rintro E pre X o o' ⟨h1, h2, h3, h4⟩ _ _
  exact ⟨hJ E pre X _ _ (Or.inr rfl) h1, fun k hk hl => (World.putObj_heap_other (by omega)).trans (h2 k hk hl), h3, by simpa using h4⟩
 case ownX =>
  rintro E c pre X o o' ⟨h1, h2⟩ _ _
  exact ⟨h1, hJx E pre X _ _ (Or.inr rfl) h2⟩
 case ownA =>
  rintro E pre x v act _ X o o' ⟨⟨W0, h1, h2, h3, h4, h5⟩, h6, h7⟩ _ _
  refine ⟨⟨W0.putObj (w.heap.size + 1) o', hJ E pre W0 _ _ (Or.inr rfl) h1, fun k hk hl => (World.putObj_heap_other (by omega)).trans (h2 k hk hl), below_put8 h3 (by omega) _, by simpa using h4, ?_⟩, h6, h7⟩
  refine (h5.same (w' := X.putObj (w.heap.size + 1) o') (by simp) fun b hb _ => World.putObj_heap_other (by omega)).mono fun b _ hb => by simpa using hb
 case start =>
  intro W1 hb1 hz1
  obtain ⟨k1, k2, k3⟩ := hD W1 hb1 hz1
  refine ⟨k1, fun W2 h2 => ?_, fun E pre W2 h => ⟨k3 E pre W2 h.1 h.2.1, h.2.2.1⟩⟩
  obtain ⟨q1, q2, q3⟩ := k2 W2 h2
  exact ⟨⟨q1, fun k hk hl => (q3 k hk (by omega)).trans (hb1.block k hl), q2, q2⟩, q2, q3 _ hWw (by omega), q3 _ (by omega) (by omega)⟩
 case assign =>
  rintro l mm E pre x v W0 X K hpre ⟨h1, h2, h3, h4⟩ hb0 hown hle hK
  have hli := (OwI.li hown (hxw x (hpre.subset (by simp)))).mono (G := fun b => W0.heap.size <= b) fun b _ hb => hb.1
  refine hassign l mm v X K ?_ (hK _ _ (Uq.refl _ _ _) ⟨⟨W0, h1, h2, hb0, h4, hli⟩, h3, rfl⟩)
  obtain ⟨a, c, e, -⟩ := hli; exact ⟨_, _, _, e⟩
 case body =>
  rintro l mm E pre x v act X hpre ⟨⟨W0, h1, h2, h3, h4, h5⟩, h6, rfl⟩ hle
  refine wpIn_mono (hbody l mm E pre x v W0 X hpre h1 h2 h3 h6 h4 h5) ?_
  have hX : w.heap.size + 2 <= X.heap.size := Nat.le_trans h4 h3.size
  have hkx : ∀ k, W.heap.size <= k -> k < w.heap.size -> X.heap[k]? = w.heap[k]? := fun k hk hl => (h3.block k (by omega)).trans (h2 k hk hl)
  rintro e a3 W3 hp
  cases e with
  | normal => exact ⟨hp.1.mono hWw, hp.2, fun k hk hl => (hp.1.same k hk (by omega) (by omega)).trans (hkx k hk hl), h6, Nat.le_trans hX hp.1.size⟩
  | ret => exact ⟨hp.1.mono hWw, rfl, hp.2⟩
  | exit id => exact hp.elim
  | goto t => exact hp.elim
  | panic ch => exact hp.elim
  | outgrown => exact hp.elim
 case done =>
  rintro E D X rfl ⟨h1, -⟩ hD
  exact hdone E X h1 hD
 case stop =>
  rintro E D c pre X rfl hpre ⟨rfl, h2⟩ hD
  exact hstop E pre X hpre h2 hD
end
end Go.Proofs.YtechceagghcipaaGreatDoor
