import Derived.Test.YtechceagghcipaaGreatDoorEF4
namespace Go.Proofs.YtechceagghcipaaGreatDoor
open Go.RowKit

def SeqF (P : Program) (g : Nat) (lb : Array Value) (D0 : World -> Prop) (Eff : World -> List (At × Nat) -> World -> Prop) (K : World -> World -> Prop) : Prop :=
 ∀ (n l : Nat) (J Jx : List (At × Nat) -> Nat -> List (At × Nat) -> World -> Prop) (W : World), D0 W -> (∀ D W1, Eff W D W1 -> J D W1.heap.size [] W1) -> (∀ D E pre W1, J D E pre W1 ∨ Jx D E pre W1 -> K W W1) →
  (∀ (m : Nat) (D : List (At × Nat)) (E : Nat) pre x W0 W1, J D E pre W0 -> pre ++ [x] <+: D -> Below W0.heap.size W0 W1 -> YieldAt Fence.wide m P l #[x.1.v (sl8 x)] W1 fun e W' =>
   (e = .returned (.bool true) /\ J D E (pre ++ [x]) W' /\ Uq W.heap.size E W1 W') ∨ (e = .returned (.bool false) /\ Jx D E (pre ++ [x]) W' /\ Uq W.heap.size E W1 W')) →
  CallsIn Fence.wide n P g (#[.func (.yield l) #[] #[]] ++ lb) W fun e W' => (∃ v, e = .returned v) /\ ∃ D E, J D E D W' ∨ ∃ pre, pre <+: D /\ Jx D E pre W'
def seqPostF (B E : Nat) (I : List (At × Nat) -> World -> Prop) (Ix : Code -> List (At × Nat) -> World -> Prop) (xs : List (At × Nat)) (W : World) : Exit -> Act -> World -> Prop
 | .normal, _, W' => Uq B E W W' /\ I xs W'
 | .ret, _, W' => Uq B E W W' /\ Ix .ret xs W'
 | .exit id, _, W' => Uq B E W W' /\ Ix (.exit id) xs W'
 | .goto t, _, W' => Uq B E W W' /\ Ix (.goto t) xs W'
 | .panic _, _, _ => False
 | .outgrown, _, _ => False
variable {n : Nat} {P : Program}
theorem wpIn_seqF {g : Operand} {ps : Array Tmp} {assign body : Code} {Q : Exit -> Act -> World -> Prop} {a : Act} {w : World}
  {gf : Nat} {lb : Array Value} (hg : a.eval g = .func (.func gf) #[] lb) (eg : ∀ args w, (callFunc gf args).run P w = .ok (.enter gf args) w)
  {D0 : World -> Prop} {Eff : World -> List (At × Nat) -> World -> Prop} {Kp : World -> World -> Prop} (hseq : SeqF P gf lb D0 Eff Kp) (hps : 1 = ps.size)
  (I : List (At × Nat) -> Nat -> List (At × Nat) -> World -> Prop) (Ix : List (At × Nat) -> Nat -> Code -> List (At × Nat) -> World -> Prop) (hI : ∀ D E s W o, I D E s W -> I D E s (W.putObj (w.heap.size + 1) o)) (hIx : ∀ D E c s W o, Ix D E c s W -> Ix D E c s (W.putObj (w.heap.size + 1) o))
  (hD : ∀ W1, Below w.heap.size w W1 -> W1.heap.size = w.heap.size + 2 -> D0 W1 /\ (∀ D W2, Eff W1 D W2 -> I D W2.heap.size [] W2 /\ W2.heap[w.heap.size]? = W1.heap[w.heap.size]? /\ W2.heap[w.heap.size + 1]? = W1.heap[w.heap.size + 1]?) /\ (∀ D E pre W2, I D E pre W2 -> Kp W1 W2 /\ w.heap.size + 2 <= E) /\ ∀ D E c pre W2, Ix D E c pre W2 -> Kp W1 W2)
  (Ax : List (At × Nat) -> Nat -> List (At × Nat) -> At × Nat -> Act -> World -> Prop) (hAx : ∀ D E pre x a' W o, Ax D E pre x a' W -> Ax D E pre x a' (W.putObj (w.heap.size + 1) o))
  (hassign : ∀ (l m : Nat) (D : List (At × Nat)) (E : Nat) (pre : List (At × Nat)) (x : At × Nat) (W0 W : World) (K : Act -> World -> Prop), pre ++ [x] <+: D -> I D E pre W0 -> Below W0.heap.size W0 W -> w.heap.size <= W.heap.size -> (∀ a' W', Uq w.heap.size E W W' -> Ax D E pre x a' W' -> K a' W') →
   assign.wpIn (Fence.wide.inRound l) m P (Exit.then K (fun _ _ _ => False)) { tmps := (ps.zip #[x.1.v (sl8 x)]).foldl (fun t (p, v) => t.setIfInBounds p v) a.tmps, defers := [] } W)
  (hbody : ∀ (l m : Nat) (D : List (At × Nat)) (E : Nat) (pre : List (At × Nat)) (x : At × Nat) (a' : Act) (W : World), pre ++ [x] <+: D -> Ax D E pre x a' W -> w.heap.size <= W.heap.size -> body.wpIn (Fence.wide.inRound l) m P (seqPostF w.heap.size E (I D E) (Ix D E) (pre ++ [x]) W) a' W)
  (hdone : ∀ (D0 : List (At × Nat)) (E D : Nat) (W : World), D = w.heap.size -> I D0 E D0 W -> W.heap[D]? = some (.deferred (some [])) -> Q .normal { a with defers := { target := .collected D, args := #[] } :: a.defers } W)
  (hstop : ∀ (D0 : List (At × Nat)) (E D : Nat) (c : Code) (pre : List (At × Nat)) (W : World), D = w.heap.size -> pre <+: D0 -> Ix D0 E c pre W -> W.heap[D]? = some (.deferred (some [])) -> c.wpIn Fence.wide n P Q { a with defers := { target := .collected D, args := #[] } :: a.defers } W) :
  (Code.rangeFunc g ps assign body).wpIn Fence.wide n P Q a w := by
 refine wpIn_rangeFunc fun fn hfn => ?_
 obtain ⟨rec, hrec⟩ : ∃ rec : LoopState -> Option Code -> Loop, rec = fun st pe => { state := st, pending := pe, fn, tmps := a.tmps, params := ps, assign, body, defers := w.heap.size } := ⟨_, rfl⟩
 obtain ⟨W1, hW1⟩ : ∃ W1, (w.alloc (.deferred (some []))).alloc (.loop (rec .ready none)) = W1 := ⟨_, rfl⟩
 have hz1 : W1.heap.size = w.heap.size + 2 := by rw [<- hW1]; simp
 have hL1 : W1.heap[w.heap.size + 1]? = some (.loop (rec .ready none)) := by
  rw [<- hW1]; have := World.alloc_heap_new (w.alloc (.deferred (some []))) (.loop (rec .ready none)); rwa [World.size_alloc] at this
 have hK1 : W1.heap[w.heap.size]? = some (.deferred (some [])) := by
  rw [<- hW1]; exact (Below.heap_alloc _ _ _ (by simp)).trans (World.alloc_heap_new w _)
 have hB1 : Below w.heap.size w W1 := by rw [<- hW1]; exact below2 _ _ _
 obtain ⟨hD0, hEff, hKp, hKx⟩ := hD W1 hB1 hz1
 refine ⟨w.heap.size + 1, [{ target := .collected w.heap.size, args := #[] }], W1, { target := .fn (.func gf) lb, args := #[.func (.yield (w.heap.size + 1)) #[] #[]] }, W1, gf,
  #[.func (.yield (w.heap.size + 1)) #[] #[]] ++ lb, W1, ?_, ?_, ?_, ?_, ?_, ?_⟩
 ·rw [<- hW1, hrec]; exact run_enterLoop_outer _ _ _ _ _
 ·simp only [resolve, hg]
  simp [go_sem]
 ·intro f' _; trivial
 ·simp [invoke, go_sem, eg]
 ·intro h; cases h
 ·refine (hseq (n - 1) (w.heap.size + 1)
   (fun D E pre W => I D E pre W /\ W.heap[w.heap.size + 1]? = some (.loop (rec .ready none)) /\ W.heap[w.heap.size]? = some (.deferred (some [])))
   (fun D E pre W => ∃ c, Ix D E c pre W /\ W.heap[w.heap.size + 1]? = some (.loop (rec .done (some c))) /\ W.heap[w.heap.size]? = some (.deferred (some [])))
   W1 hD0 (fun D W2 h2 => ⟨(hEff D W2 h2).1, (hEff D W2 h2).2.2.trans hL1, (hEff D W2 h2).2.1.trans hK1⟩) (fun D E pre X h => h.elim (fun h => (hKp D E pre X h.1).1) fun ⟨c, h⟩ => hKx D E c pre X h.1)
   ?_).mono ?_
  ·-- a round
   rintro m D E pre x W0 W ⟨hi0, hl0, hk0⟩ hpre hb0
   have hE2 := (hKp D E pre W0 hi0).2
   have hl : W.heap[w.heap.size + 1]? = some (.loop (rec .ready none)) := (hb0.block _ (Array.getElem?_eq_some_iff.1 hl0).1).trans hl0
   have hk : W.heap[w.heap.size]? = some (.deferred (some [])) := (hb0.block _ (Array.getElem?_eq_some_iff.1 hk0).1).trans hk0
   have hy := run_yield (P := P) (args := #[x.1.v (sl8 x)]) hl (by rw [hrec]; exact hps)
   rw [hrec] at hy
   have hlt0 : w.heap.size + 1 < W.heap.size := (Array.getElem?_eq_some_iff.1 hl).1
   refine ⟨fn, _, assign, body, hy, roundIn_of_wpIn hfn (hassign _ _ D E pre x W0 W _ hpre hi0 hb0 (by omega) ?_)⟩
   clear hy
   intro a' Wa hua hax
   have hla := (hua.same _ (by omega) (by omega) (Array.getElem?_eq_some_iff.1 hl).1).trans hl
   have hka := (hua.same _ (Nat.le_refl _) (by omega) (Array.getElem?_eq_some_iff.1 hk).1).trans hk
   have hlt : w.heap.size + 1 < Wa.heap.size := (Array.getElem?_eq_some_iff.1 hla).1
   refine ⟨_, run_beginRound hla (by rw [hrec]), ?_⟩
   obtain ⟨Wb, hWb⟩ : ∃ Wb, Wa.putObj (w.heap.size + 1) (.loop { rec .ready none with state := .busy }) = Wb := ⟨_, rfl⟩
   have hlb : Wb.heap[w.heap.size + 1]? = some (.loop { rec .ready none with state := .busy }) := by rw [<- hWb]; exact World.putObj_heap_same hlt
   have hkb : Wb.heap[w.heap.size]? = some (.deferred (some [])) := by rw [<- hWb]; exact (World.putObj_heap_other (by omega)).trans hka
   have hub : Uq W1.heap.size E Wa Wb := by rw [<- hWb]; exact Uq.putObj _ (by omega)
   have haxb : Ax D E pre x a' Wb := by rw [<- hWb]; exact hAx D E pre x a' _ _ hax
   have hzb : Wb.heap.size = Wa.heap.size := by rw [<- hWb]; simp
   rw [hWb]
   refine wpIn_mono (hbody _ _ D E pre x a' Wb hpre haxb (by omega)) ?_
   have fin : ∀ (jump : Option Code) (W3 : World), Uq w.heap.size E Wb W3 →
     (Instr.endRound (w.heap.size + 1) jump).run P W3 = .ok (.bool jump.isNone) (W3.putObj (w.heap.size + 1) (.loop (rec (if jump.isNone then .ready else .done) jump))) ∧
     W3.heap[w.heap.size + 1]? = some (.loop { rec .ready none with state := .busy }) ∧
     (W3.putObj (w.heap.size + 1) (.loop (rec (if jump.isNone then .ready else .done) jump))).heap[w.heap.size + 1]? = some (.loop (rec (if jump.isNone then .ready else .done) jump)) ∧
     (W3.putObj (w.heap.size + 1) (.loop (rec (if jump.isNone then .ready else .done) jump))).heap[w.heap.size]? = some (.deferred (some [])) := fun jump W3 hu3 => by
    have hl3 := (hu3.same _ (by omega) (by omega) (Array.getElem?_eq_some_iff.1 hlb).1).trans hlb
    have hk3 := (hu3.same _ (Nat.le_refl _) (by omega) (Array.getElem?_eq_some_iff.1 hkb).1).trans hkb
    have := run_endRound (P := P) jump hl3
    rw [hrec] at this ⊢
    exact ⟨this, by rw [hrec] at hl3; exact hl3, World.putObj_heap_same (Array.getElem?_eq_some_iff.1 hl3).1, (World.putObj_heap_other (by omega)).trans hk3⟩
   rintro e a3 W3 hp
   cases e with
   | normal =>
    obtain ⟨hu3, hi3⟩ := hp
    obtain ⟨hr, hl3, hl4, hk4⟩ := fin none W3 hu3
    exact ⟨_, _, hr, .inl ⟨rfl, ⟨hI D E _ _ _ hi3, hl4, hk4⟩, (hua.mono (by omega)).trans (hub.trans ((hu3.mono (by omega)).trans (Uq.putObj _ (by omega))))⟩⟩
   | ret =>
    obtain ⟨hu3, hi3⟩ := hp
    obtain ⟨hr, hl3, hl4, hk4⟩ := fin (some .ret) W3 hu3
    exact ⟨_, _, hr, .inr ⟨rfl, ⟨.ret, hIx D E _ _ _ _ hi3, hl4, hk4⟩, (hua.mono (by omega)).trans (hub.trans ((hu3.mono (by omega)).trans (Uq.putObj _ (by omega))))⟩⟩
   | exit id =>
    obtain ⟨hu3, hi3⟩ := hp
    obtain ⟨hr, hl3, hl4, hk4⟩ := fin (some (.exit id)) W3 hu3
    exact ⟨_, _, hr, .inr ⟨rfl, ⟨.exit id, hIx D E _ _ _ _ hi3, hl4, hk4⟩, (hua.mono (by omega)).trans (hub.trans ((hu3.mono (by omega)).trans (Uq.putObj _ (by omega))))⟩⟩
   | goto t =>
    obtain ⟨hu3, hi3⟩ := hp
    obtain ⟨hr, hl3, hl4, hk4⟩ := fin (some (.goto t)) W3 hu3
    exact ⟨_, _, hr, .inr ⟨rfl, ⟨.goto t, hIx D E _ _ _ _ hi3, hl4, hk4⟩, (hua.mono (by omega)).trans (hub.trans ((hu3.mono (by omega)).trans (Uq.putObj _ (by omega))))⟩⟩
   | panic ch => exact hp.elim
   | outgrown => exact hp.elim
  ·-- behind the iterator
   rintro e W2 ⟨⟨v, rfl⟩, D, E, (⟨hi, hl, hk⟩ | ⟨pre, hpre, c, hi, hl, hk⟩)⟩
   ·exact ⟨none, _, by have := run_endLoop (P := P) hl (by rw [hrec]; simp); rw [hrec] at this; exact this, hdone D E _ _ rfl (hI D E _ _ _ hi) ((World.putObj_heap_other (by omega)).trans hk)⟩
   ·exact ⟨some c, _, by have := run_endLoop (P := P) hl (by rw [hrec]; simp); rw [hrec] at this; exact this, hstop D E _ c pre _ rfl hpre (hIx D E c _ _ _ hi) ((World.putObj_heap_other (by omega)).trans hk)⟩
end Go.Proofs.YtechceagghcipaaGreatDoor
