import Derived.Test.YtechceagghcipaaGreatDoorRA19
import Derived.RangeFuncNested
import Derived.RangeFuncBound
import Derived.RangeFuncLeaves
namespace Go.Proofs.YtechceagghcipaaGreatDoor
open Go.RowKit

structure Uq (B E : Nat) (W W' : World) : Prop where
 size : W.heap.size <= W'.heap.size
 same : ∀ k, B <= k -> k < E -> k < W.heap.size -> W'.heap[k]? = W.heap[k]?
theorem Uq.refl (B E : Nat) (W : World) : Uq B E W W := ⟨Nat.le_refl _, fun _ _ _ _ => rfl⟩
theorem Uq.trans {B E : Nat} {X Y Z : World} (h : Uq B E X Y) (k : Uq B E Y Z) : Uq B E X Z :=
 ⟨Nat.le_trans h.size k.size, fun i hB hE hi => (k.same i hB hE (Nat.lt_of_lt_of_le hi h.size)).trans (h.same i hB hE hi)⟩
theorem Uq.mono {B B' E : Nat} {W W' : World} (h : Uq B E W W') (hB : B <= B') : Uq B' E W W' := ⟨h.size, fun k hk hE hl => h.same k (Nat.le_trans hB hk) hE hl⟩
theorem Uq.below {B E : Nat} {W W' : World} (h : Below W.heap.size W W') : Uq B E W W' := ⟨h.size, fun k _ _ hl => h.block k hl⟩
theorem Uq.putObj {B E : Nat} {W : World} {l : Nat} (o : Obj) (h : l < B) : Uq B E W (W.putObj l o) :=
 ⟨by simp, fun k hB _ _ => World.putObj_heap_other (by omega)⟩
def SeqX (P : Program) (g : Nat) (lb : Array Value) (xs : List (List Int)) (D0 : World -> Prop) (Eff K : World -> World -> Prop) : Prop :=
 ∀ (n l : Nat) (J Jx : Nat -> List (List Int) -> World -> Prop) (W : World), D0 W -> (∀ W1, Eff W W1 -> J W1.heap.size [] W1) -> (∀ E pre W1, J E pre W1 -> K W W1) →
  (∀ (m E : Nat) pre x v W0 W1, J E pre W0 -> pre ++ [x] <+: xs -> Below W0.heap.size W0 W1 -> OwI W1 W0.heap.size v x -> YieldAt Fence.wide m P l #[v] W1 fun e W' =>
   (e = .returned (.bool true) /\ J E (pre ++ [x]) W' /\ Uq W.heap.size E W1 W') ∨ (e = .returned (.bool false) /\ Jx E (pre ++ [x]) W' /\ Uq W.heap.size E W1 W')) →
  CallsIn Fence.wide n P g (#[.func (.yield l) #[] #[]] ++ lb) W fun e W' => (∃ v, e = .returned v) /\ ∃ E, J E xs W' ∨ ∃ pre, pre <+: xs /\ Jx E pre W'
def Pk7 {β : Type} (B : Nat) (I : β -> World -> Prop) : Prop := ∀ (s : β) (W : World) (o o' : Obj), I s W -> W.heap[B + 1]? = some o -> o.isCells = false -> I s (W.putObj (B + 1) o')
theorem Pk7.put {β : Type} {B : Nat} {I : β -> World -> Prop} (h : Pk7 B I) {s : β} {W : World} {o : Obj} (o' : Obj) (hs : I s W) (hl : W.heap[B + 1]? = some o) (ho : o.isCells = false) : I s (W.putObj (B + 1) o') := h s W o o' hs hl ho
def seqPostX (B E : Nat) (I : List (List Int) -> World -> Prop) (Ix : Code -> List (List Int) -> World -> Prop) (xs : List (List Int)) (W : World) : Exit -> Act -> World -> Prop
 | .normal, _, W' => Uq B E W W' /\ I xs W'
 | .ret, _, W' => Uq B E W W' /\ Ix .ret xs W'
 | .exit id, _, W' => Uq B E W W' /\ Ix (.exit id) xs W'
 | .goto t, _, W' => Uq B E W W' /\ Ix (.goto t) xs W'
 | .panic _, _, _ => False
 | .outgrown, _, _ => False
variable {n : Nat} {P : Program}
theorem wpIn_seqX {g : Operand} {ps : Array Tmp} {assign body : Code} {Q : Exit -> Act -> World -> Prop} {a : Act} {w : World}
  {gf : Nat} {lb : Array Value} (hg : a.eval g = .func (.func gf) #[] lb) (eg : ∀ args w, (callFunc gf args).run P w = .ok (.enter gf args) w)
  {xs : List (List Int)} {D0 : World -> Prop} {Eff Kp : World -> World -> Prop} (hseq : SeqX P gf lb xs D0 Eff Kp) (hps : 1 = ps.size)
  (I : Nat -> List (List Int) -> World -> Prop) (Ix : Nat -> Code -> List (List Int) -> World -> Prop) (hI : ∀ E, Pk7 w.heap.size (I E)) (hIx : ∀ E c, Pk7 w.heap.size (Ix E c))
  (hD : ∀ W1, Below w.heap.size w W1 -> W1.heap.size = w.heap.size + 2 -> D0 W1 /\ (∀ W2, Eff W1 W2 -> I W2.heap.size [] W2 /\ w.heap.size + 2 <= W2.heap.size /\ W2.heap[w.heap.size]? = W1.heap[w.heap.size]? /\ W2.heap[w.heap.size + 1]? = W1.heap[w.heap.size + 1]?) /\ ∀ E pre W2, I E pre W2 -> Kp W1 W2 /\ w.heap.size + 2 <= E)
  (Ax : Nat -> List (List Int) -> List Int -> Value -> Act -> World -> Prop) (hAx : ∀ E pre x v a', Pk7 w.heap.size (fun (_ : Unit) W => Ax E pre x v a' W))
  (hassign : ∀ (l m E : Nat) (pre : List (List Int)) (x : List Int) (v : Value) (W0 W : World) (K : Act -> World -> Prop), pre ++ [x] <+: xs -> I E pre W0 -> Below W0.heap.size W0 W -> OwI W W0.heap.size v x -> w.heap.size <= W.heap.size -> (∀ a' W', Uq w.heap.size E W W' -> Ax E pre x v a' W' -> K a' W') →
   assign.wpIn (Fence.wide.inRound l) m P (Exit.then K (fun _ _ _ => False)) { tmps := (ps.zip #[v]).foldl (fun t (p, v) => t.setIfInBounds p v) a.tmps, defers := [] } W)
  (hbody : ∀ (l m E : Nat) (pre : List (List Int)) (x : List Int) (v : Value) (a' : Act) (W : World), pre ++ [x] <+: xs -> Ax E pre x v a' W -> w.heap.size <= W.heap.size -> body.wpIn (Fence.wide.inRound l) m P (seqPostX w.heap.size E (I E) (Ix E) (pre ++ [x]) W) a' W)
  (hdone : ∀ (E D : Nat) (W : World), D = w.heap.size -> I E xs W -> W.heap[D]? = some (.deferred (some [])) -> Q .normal { a with defers := { target := .collected D, args := #[] } :: a.defers } W)
  (hstop : ∀ (E D : Nat) (c : Code) (pre : List (List Int)) (W : World), D = w.heap.size -> pre <+: xs -> Ix E c pre W -> W.heap[D]? = some (.deferred (some [])) -> c.wpIn Fence.wide n P Q { a with defers := { target := .collected D, args := #[] } :: a.defers } W) :
  (Code.rangeFunc g ps assign body).wpIn Fence.wide n P Q a w := by
 refine wpIn_rangeFunc fun fn hfn => ?_
 obtain ⟨rec, hrec⟩ : ∃ rec : LoopState -> Option Code -> Loop, rec = fun st pe => { state := st, pending := pe, fn, tmps := a.tmps, params := ps, assign, body, defers := w.heap.size } := ⟨_, rfl⟩
 obtain ⟨W1, hW1⟩ : ∃ W1, (w.alloc (.deferred (some []))).alloc (.loop (rec .ready none)) = W1 := ⟨_, rfl⟩
 have hz1 : W1.heap.size = w.heap.size + 2 := by rw [<- hW1]; simp
 have hL1 : W1.heap[w.heap.size + 1]? = some (.loop (rec .ready none)) := by
  rw [<- hW1]; have := World.alloc_heap_new (w.alloc (.deferred (some []))) (.loop (rec .ready none)); rwa [World.size_alloc] at this
 have hK1 : W1.heap[w.heap.size]? = some (.deferred (some [])) := by
  rw [<- hW1]; exact (Below.heap_alloc _ _ _ (by simp)).trans (World.alloc_heap_new w _)
 have hB1 : Below w.heap.size w W1 := by rw [<- hW1]; exact below2 _ _ _
 obtain ⟨hD0, hEff, hKp⟩ := hD W1 hB1 hz1
 refine ⟨w.heap.size + 1, [{ target := .collected w.heap.size, args := #[] }], W1, { target := .fn (.func gf) lb, args := #[.func (.yield (w.heap.size + 1)) #[] #[]] }, W1, gf,
  #[.func (.yield (w.heap.size + 1)) #[] #[]] ++ lb, W1, ?_, ?_, ?_, ?_, ?_, ?_⟩
 ·rw [<- hW1, hrec]; exact run_enterLoop_outer _ _ _ _ _
 ·simp only [resolve, hg]
  simp [go_sem]
 ·intro f' _; trivial
 ·simp [invoke, go_sem, eg]
 ·intro h; cases h
 ·refine (hseq (n - 1) (w.heap.size + 1)
   (fun E pre W => I E pre W /\ W.heap[w.heap.size + 1]? = some (.loop (rec .ready none)) /\ W.heap[w.heap.size]? = some (.deferred (some [])))
   (fun E pre W => ∃ c, Ix E c pre W /\ W.heap[w.heap.size + 1]? = some (.loop (rec .done (some c))) /\ W.heap[w.heap.size]? = some (.deferred (some [])))
   W1 hD0 (fun W2 h2 => ⟨(hEff W2 h2).1, (hEff W2 h2).2.2.2.trans hL1, (hEff W2 h2).2.2.1.trans hK1⟩) (fun E pre X h => (hKp E pre X h.1).1)
   ?_).mono ?_
  ·-- a round
   rintro m E pre x v W0 W ⟨hi0, hl0, hk0⟩ hpre hb0 hown
   have hE2 := (hKp E pre W0 hi0).2
   have hl : W.heap[w.heap.size + 1]? = some (.loop (rec .ready none)) := (hb0.block _ (Array.getElem?_eq_some_iff.1 hl0).1).trans hl0
   have hk : W.heap[w.heap.size]? = some (.deferred (some [])) := (hb0.block _ (Array.getElem?_eq_some_iff.1 hk0).1).trans hk0
   have hy := run_yield (P := P) (args := #[v]) hl (by rw [hrec]; exact hps)
   rw [hrec] at hy
   have hlt0 : w.heap.size + 1 < W.heap.size := (Array.getElem?_eq_some_iff.1 hl).1
   refine ⟨fn, _, assign, body, hy, roundIn_of_wpIn hfn (hassign _ _ E pre x v W0 W _ hpre hi0 hb0 hown (by omega) ?_)⟩
   clear hy
   intro a' Wa hua hax
   have hla := (hua.same _ (by omega) (by omega) (Array.getElem?_eq_some_iff.1 hl).1).trans hl
   have hka := (hua.same _ (Nat.le_refl _) (by omega) (Array.getElem?_eq_some_iff.1 hk).1).trans hk
   have hlt : w.heap.size + 1 < Wa.heap.size := (Array.getElem?_eq_some_iff.1 hla).1
   refine ⟨_, run_beginRound hla (by rw [hrec]), ?_⟩
   obtain ⟨Wb, hWb⟩ : ∃ Wb, Wa.putObj (w.heap.size + 1) (.loop { rec .ready none with state := .busy }) = Wb := ⟨_, rfl⟩
   have hlb : Wb.heap[w.heap.size + 1]? = some (.loop { rec .ready none with state := .busy }) := by rw [<- hWb]; exact World.putObj_heap_same hlt
   have hkb : Wb.heap[w.heap.size]? = some (.deferred (some [])) := by rw [<- hWb]; exact (World.putObj_heap_other (by omega)).trans hka
   have hub : Uq W1.heap.size E Wa Wb := by rw [<- hWb]; exact Uq.putObj _ (by omega)
   have haxb : Ax E pre x v a' Wb := by rw [<- hWb]; exact (hAx E pre x v a').put (s := ()) _ hax hla rfl
   have hzb : Wb.heap.size = Wa.heap.size := by rw [<- hWb]; simp
   rw [hWb]
   refine wpIn_mono (hbody _ _ E pre x v a' Wb hpre haxb (by omega)) ?_
   have fin : ∀ (jump : Option Code) (W3 : World), Uq w.heap.size E Wb W3 →
     (Instr.endRound (w.heap.size + 1) jump).run P W3 = .ok (.bool jump.isNone) (W3.putObj (w.heap.size + 1) (.loop (rec (if jump.isNone then .ready else .done) jump))) ∧
     W3.heap[w.heap.size + 1]? = some (.loop { rec .ready none with state := .busy }) ∧
     (W3.putObj (w.heap.size + 1) (.loop (rec (if jump.isNone then .ready else .done) jump))).heap[w.heap.size + 1]? = some (.loop (rec (if jump.isNone then .ready else .done) jump)) ∧
     (W3.putObj (w.heap.size + 1) (.loop (rec (if jump.isNone then .ready else .done) jump))).heap[w.heap.size]? = some (.deferred (some [])) := fun jump W3 hu3 => by
    have hl3 := (hu3.same _ (by omega) (by omega) (Array.getElem?_eq_some_iff.1 hlb).1).trans hlb
    have hk3 := (hu3.same _ (Nat.le_refl _) (by omega) (Array.getElem?_eq_some_iff.1 hkb).1).trans hkb
    have := run_endRound (P := P) jump hl3
    rw [hrec] at this ⊢
    exact ⟨this, by rw [hrec] at hl3; exact hl3, World.putObj_heap_same (Array.getElem?_eq_some_iff.1 hl3).1, (World.putObj_heap_other (by omega)).trans hk3⟩
   rintro e a3 W3 hp
   cases e with
   | normal =>
    obtain ⟨hu3, hi3⟩ := hp
    obtain ⟨hr, hl3, hl4, hk4⟩ := fin none W3 hu3
    exact ⟨_, _, hr, .inl ⟨rfl, ⟨(hI E).put _ hi3 hl3 rfl, hl4, hk4⟩, (hua.mono (by omega)).trans (hub.trans ((hu3.mono (by omega)).trans (Uq.putObj _ (by omega))))⟩⟩
   | ret =>
    obtain ⟨hu3, hi3⟩ := hp
    obtain ⟨hr, hl3, hl4, hk4⟩ := fin (some .ret) W3 hu3
    exact ⟨_, _, hr, .inr ⟨rfl, ⟨.ret, (hIx E _).put _ hi3 hl3 rfl, hl4, hk4⟩, (hua.mono (by omega)).trans (hub.trans ((hu3.mono (by omega)).trans (Uq.putObj _ (by omega))))⟩⟩
   | exit id =>
    obtain ⟨hu3, hi3⟩ := hp
    obtain ⟨hr, hl3, hl4, hk4⟩ := fin (some (.exit id)) W3 hu3
    exact ⟨_, _, hr, .inr ⟨rfl, ⟨.exit id, (hIx E _).put _ hi3 hl3 rfl, hl4, hk4⟩, (hua.mono (by omega)).trans (hub.trans ((hu3.mono (by omega)).trans (Uq.putObj _ (by omega))))⟩⟩
   | goto t =>
    obtain ⟨hu3, hi3⟩ := hp
    obtain ⟨hr, hl3, hl4, hk4⟩ := fin (some (.goto t)) W3 hu3
    exact ⟨_, _, hr, .inr ⟨rfl, ⟨.goto t, (hIx E _).put _ hi3 hl3 rfl, hl4, hk4⟩, (hua.mono (by omega)).trans (hub.trans ((hu3.mono (by omega)).trans (Uq.putObj _ (by omega))))⟩⟩
   | panic ch => exact hp.elim
   | outgrown => exact hp.elim
  ·-- behind the iterator
   rintro e W2 ⟨⟨v, rfl⟩, E, (⟨hi, hl, hk⟩ | ⟨pre, hpre, c, hi, hl, hk⟩)⟩
   ·exact ⟨none, _, by have := run_endLoop (P := P) hl (by rw [hrec]; simp); rw [hrec] at this; exact this, hdone E _ _ rfl ((hI E).put _ hi hl rfl) ((World.putObj_heap_other (by omega)).trans hk)⟩
   ·exact ⟨some c, _, by have := run_endLoop (P := P) hl (by rw [hrec]; simp); rw [hrec] at this; exact this, hstop E _ c pre _ rfl hpre ((hIx E c).put _ hi hl rfl) ((World.putObj_heap_other (by omega)).trans hk)⟩
end Go.Proofs.YtechceagghcipaaGreatDoor
