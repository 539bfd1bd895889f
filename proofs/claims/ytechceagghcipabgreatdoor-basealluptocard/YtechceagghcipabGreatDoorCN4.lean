import Derived.Test.YtechceagghcipabGreatDoorEE8
import Derived.Test.YtechceagghcipabGreatDoorA1
import Derived.Test.YtechceagghcipabGreatDoorEB6
namespace Go.Proofs.YtechceagghcipabGreatDoor
open Go.RowKit
def SeqN {α : Type} (P : Program) (g : Nat) (lb : Array Value) (own : World -> Nat -> Value -> α -> Prop) (ok : List α -> α -> Prop) (fin : List α -> Prop) (D0 : World -> Prop) (Eff : World -> Nat -> World -> Prop) (K : World -> World -> Prop) : Prop :=
 ∀ (n l : Nat) (J Jx : Nat -> Nat -> List α -> World -> Prop) (W : World), D0 W -> (∀ D W1, Eff W D W1 -> J D W1.heap.size [] W1) -> (∀ D E pre W1, J D E pre W1 ∨ Jx D E pre W1 -> K W W1) →
  (∀ D E pre W1 W2, Fr (fun b => b = D) W1 W2 -> J D E pre W1 -> J D E pre W2) -> (∀ D E pre W1 W2, Fr (fun b => b = D) W1 W2 -> Jx D E pre W1 -> Jx D E pre W2) →
  (∀ (m D E : Nat) pre x v W0 W1, J D E pre W0 -> ok pre x -> Below W0.heap.size W0 W1 -> own W1 W0.heap.size v x -> YieldAt Fence.wide m P l #[v] W1 fun e W' =>
   (e = .returned (.bool true) /\ J D E (pre ++ [x]) W' /\ Uq W.heap.size E W1 W') ∨ (e = .returned (.bool false) /\ Jx D E (pre ++ [x]) W' /\ Uq W.heap.size E W1 W')) →
  CallsIn Fence.wide n P g (#[.func (.yield l) #[] #[]] ++ lb) W fun e W' => (∃ v, e = .returned v) /\ ∃ D E, (∃ ss, fin ss /\ J D E ss W') ∨ ∃ pre, Jx D E pre W'
def seqPostN {α : Type} (B E : Nat) (I : List α -> World -> Prop) (Ix : Code -> List α -> World -> Prop) (xs : List α) (W : World) : Exit -> Act -> World -> Prop
 | .normal, _, W' => Uq B E W W' /\ I xs W'
 | .ret, _, W' => Uq B E W W' /\ Ix .ret xs W'
 | .exit id, _, W' => Uq B E W W' /\ Ix (.exit id) xs W'
 | .goto t, _, W' => Uq B E W W' /\ Ix (.goto t) xs W'
 | .panic _, _, _ => False
 | .outgrown, _, _ => False
variable {n : Nat} {P : Program}
theorem wpIn_seqN {α : Type} {g : Operand} {ps : Array Tmp} {assign body : Code} {Q : Exit -> Act -> World -> Prop} {a : Act} {w : World}
  {gf : Nat} {lb : Array Value} (hg : a.eval g = .func (.func gf) #[] lb) (eg : ∀ args w, (callFunc gf args).run P w = .ok (.enter gf args) w)
  {ok : List α -> α -> Prop} {fin : List α -> Prop} {D0 : World -> Prop} {own : World -> Nat -> Value -> α -> Prop} {Eff : World -> Nat -> World -> Prop} {Kp : World -> World -> Prop} (hseq : SeqN P gf lb own ok fin D0 Eff Kp) (hps : 1 = ps.size)
  (I : Nat -> Nat -> List α -> World -> Prop) (Ix : Nat -> Nat -> Code -> List α -> World -> Prop) (hI : ∀ D E s W W2, Fr (fun b => b = D ∨ b = w.heap.size + 1) W W2 -> I D E s W -> I D E s W2) (hIx : ∀ D E c s W W2, Fr (fun b => b = D ∨ b = w.heap.size + 1) W W2 -> Ix D E c s W -> Ix D E c s W2)
  (hD : ∀ W1, Below w.heap.size w W1 -> W1.heap.size = w.heap.size + 2 -> D0 W1 /\ (∀ D W2, Eff W1 D W2 -> I D W2.heap.size [] W2 /\ w.heap.size + 2 <= D /\ W2.heap[w.heap.size]? = W1.heap[w.heap.size]? /\ W2.heap[w.heap.size + 1]? = W1.heap[w.heap.size + 1]?) /\ (∀ D E pre W2, I D E pre W2 -> Kp W1 W2 /\ w.heap.size + 2 <= E) /\ ∀ D E c pre W2, Ix D E c pre W2 -> Kp W1 W2)
  (Ax : Nat -> Nat -> List α -> α -> Value -> Act -> World -> Prop) (hAx : ∀ D E pre x v a' W o, Ax D E pre x v a' W -> Ax D E pre x v a' (W.putObj (w.heap.size + 1) o))
  (hassign : ∀ (l m D E : Nat) (pre : List α) (x : α) (v : Value) (W0 W : World) (K : Act -> World -> Prop), ok pre x -> I D E pre W0 -> Below W0.heap.size W0 W -> own W W0.heap.size v x -> w.heap.size <= W.heap.size -> (∀ a' W', Uq w.heap.size E W W' -> Ax D E pre x v a' W' -> K a' W') →
   assign.wpIn (Fence.wide.inRound l) m P (Exit.then K (fun _ _ _ => False)) { tmps := (ps.zip #[v]).foldl (fun t (p, v) => t.setIfInBounds p v) a.tmps, defers := [] } W)
  (hbody : ∀ (l m D E : Nat) (pre : List α) (x : α) (v : Value) (a' : Act) (W : World), ok pre x -> Ax D E pre x v a' W -> w.heap.size <= W.heap.size -> body.wpIn (Fence.wide.inRound l) m P (seqPostN w.heap.size E (I D E) (Ix D E) (pre ++ [x]) W) a' W)
  (hdone : ∀ (D0 E D : Nat) (ss : List α) (W : World), D = w.heap.size -> fin ss -> I D0 E ss W -> W.heap[D]? = some (.deferred (some [])) -> Q .normal { a with defers := { target := .collected D, args := #[] } :: a.defers } W)
  (hstop : ∀ (D0 E D : Nat) (c : Code) (pre : List α) (W : World), D = w.heap.size -> Ix D0 E c pre W -> W.heap[D]? = some (.deferred (some [])) -> c.wpIn Fence.wide n P Q { a with defers := { target := .collected D, args := #[] } :: a.defers } W) :
  (Code.rangeFunc g ps assign body).wpIn Fence.wide n P Q a w := by
 refine wpIn_rangeFunc fun fn hfn => ?_
 obtain ⟨rec, hrec⟩ : ∃ rec : LoopState -> Option Code -> Loop, rec = fun st pe => { state := st, pending := pe, fn, tmps := a.tmps, params := ps, assign, body, defers := w.heap.size } := ⟨_, rfl⟩
 obtain ⟨W1, hW1⟩ : ∃ W1, (w.alloc (.deferred (some []))).alloc (.loop (rec .ready none)) = W1 := ⟨_, rfl⟩
 have hz1 : W1.heap.size = w.heap.size + 2 := by rw [<- hW1]; simp
 have hL1 : W1.heap[w.heap.size + 1]? = some (.loop (rec .ready none)) := by
  rw [<- hW1]; have := World.alloc_heap_new (w.alloc (.deferred (some []))) (.loop (rec .ready none)); rwa [World.size_alloc] at this
 have hK1 : W1.heap[w.heap.size]? = some (.deferred (some [])) := by
  rw [<- hW1]; exact (Below.heap_alloc _ _ _ (by simp)).trans (World.alloc_heap_new w _)
 have hB1 : Below w.heap.size w W1 := by rw [<- hW1]; exact below2 _ _ _
 obtain ⟨hD0, hEff, hKp, hKx⟩ := hD W1 hB1 hz1
 refine ⟨w.heap.size + 1, [{ target := .collected w.heap.size, args := #[] }], W1, { target := .fn (.func gf) lb, args := #[.func (.yield (w.heap.size + 1)) #[] #[]] }, W1, gf,
  #[.func (.yield (w.heap.size + 1)) #[] #[]] ++ lb, W1, ?_, ?_, ?_, ?_, ?_, ?_⟩
 ·rw [<- hW1, hrec]; exact run_enterLoop_outer _ _ _ _ _
 ·simp only [resolve, hg]
  simp [go_sem]
 ·intro f' _; trivial
 ·simp [invoke, go_sem, eg]
 ·intro h; cases h
 ·refine (hseq (n - 1) (w.heap.size + 1)
   (fun D E pre W => I D E pre W /\ w.heap.size + 2 <= D /\ W.heap[w.heap.size + 1]? = some (.loop (rec .ready none)) /\ W.heap[w.heap.size]? = some (.deferred (some [])))
   (fun D E pre W => ∃ c, Ix D E c pre W /\ w.heap.size + 2 <= D /\ W.heap[w.heap.size + 1]? = some (.loop (rec .done (some c))) /\ W.heap[w.heap.size]? = some (.deferred (some [])))
   W1 hD0 (fun D W2 h2 => ⟨(hEff D W2 h2).1, (hEff D W2 h2).2.1, (hEff D W2 h2).2.2.2.trans hL1, (hEff D W2 h2).2.2.1.trans hK1⟩) (fun D E pre X h => h.elim (fun h => (hKp D E pre X h.1).1) fun ⟨c, h⟩ => hKx D E c pre X h.1)
   (fun D E pre X X2 hk h => ⟨hI D E pre X X2 (hk.mono fun b _ e => Or.inl e) h.1, h.2.1, (hk.block _ (Array.getElem?_eq_some_iff.1 h.2.2.1).1 (by have := h.2.1; omega)).trans h.2.2.1, (hk.block _ (Array.getElem?_eq_some_iff.1 h.2.2.2).1 (by have := h.2.1; omega)).trans h.2.2.2⟩)
   (fun D E pre X X2 hk ⟨c, h⟩ => ⟨c, hIx D E c pre X X2 (hk.mono fun b _ e => Or.inl e) h.1, h.2.1, (hk.block _ (Array.getElem?_eq_some_iff.1 h.2.2.1).1 (by have := h.2.1; omega)).trans h.2.2.1, (hk.block _ (Array.getElem?_eq_some_iff.1 h.2.2.2).1 (by have := h.2.1; omega)).trans h.2.2.2⟩)
   ?_).mono ?_
  ·-- a round
   rintro m D E pre x v W0 W ⟨hi0, hDw, hl0, hk0⟩ hpre hb0 hown
   have hE2 := (hKp D E pre W0 hi0).2
   have hl : W.heap[w.heap.size + 1]? = some (.loop (rec .ready none)) := (hb0.block _ (Array.getElem?_eq_some_iff.1 hl0).1).trans hl0
   have hk : W.heap[w.heap.size]? = some (.deferred (some [])) := (hb0.block _ (Array.getElem?_eq_some_iff.1 hk0).1).trans hk0
   have hy := run_yield (P := P) (args := #[v]) hl (by rw [hrec]; exact hps)
   rw [hrec] at hy
   have hlt0 : w.heap.size + 1 < W.heap.size := (Array.getElem?_eq_some_iff.1 hl).1
   refine ⟨fn, _, assign, body, hy, roundIn_of_wpIn hfn (hassign _ _ D E pre x v W0 W _ hpre hi0 hb0 hown (by omega) ?_)⟩
   clear hy
   intro a' Wa hua hax
   have hla := (hua.same _ (by omega) (by omega) (Array.getElem?_eq_some_iff.1 hl).1).trans hl
   have hka := (hua.same _ (Nat.le_refl _) (by omega) (Array.getElem?_eq_some_iff.1 hk).1).trans hk
   have hlt : w.heap.size + 1 < Wa.heap.size := (Array.getElem?_eq_some_iff.1 hla).1
   refine ⟨_, run_beginRound hla (by rw [hrec]), ?_⟩
   obtain ⟨Wb, hWb⟩ : ∃ Wb, Wa.putObj (w.heap.size + 1) (.loop { rec .ready none with state := .busy }) = Wb := ⟨_, rfl⟩
   have hlb : Wb.heap[w.heap.size + 1]? = some (.loop { rec .ready none with state := .busy }) := by rw [<- hWb]; exact World.putObj_heap_same hlt
   have hkb : Wb.heap[w.heap.size]? = some (.deferred (some [])) := by rw [<- hWb]; exact (World.putObj_heap_other (by omega)).trans hka
   have hub : Uq W1.heap.size E Wa Wb := by rw [<- hWb]; exact Uq.putObj _ (by omega)
   have haxb : Ax D E pre x v a' Wb := by rw [<- hWb]; exact hAx D E pre x v a' _ _ hax
   have hzb : Wb.heap.size = Wa.heap.size := by rw [<- hWb]; simp
   rw [hWb]
   refine wpIn_mono (hbody _ _ D E pre x v a' Wb hpre haxb (by omega)) ?_
   have fin : ∀ (jump : Option Code) (W3 : World), Uq w.heap.size E Wb W3 →
     (Instr.endRound (w.heap.size + 1) jump).run P W3 = .ok (.bool jump.isNone) (W3.putObj (w.heap.size + 1) (.loop (rec (if jump.isNone then .ready else .done) jump))) ∧
     W3.heap[w.heap.size + 1]? = some (.loop { rec .ready none with state := .busy }) ∧
     (W3.putObj (w.heap.size + 1) (.loop (rec (if jump.isNone then .ready else .done) jump))).heap[w.heap.size + 1]? = some (.loop (rec (if jump.isNone then .ready else .done) jump)) ∧
     (W3.putObj (w.heap.size + 1) (.loop (rec (if jump.isNone then .ready else .done) jump))).heap[w.heap.size]? = some (.deferred (some [])) := fun jump W3 hu3 => by
    have hl3 := (hu3.same _ (by omega) (by omega) (Array.getElem?_eq_some_iff.1 hlb).1).trans hlb
    have hk3 := (hu3.same _ (Nat.le_refl _) (by omega) (Array.getElem?_eq_some_iff.1 hkb).1).trans hkb
    have := run_endRound (P := P) jump hl3
    rw [hrec] at this ⊢
    exact ⟨this, by rw [hrec] at hl3; exact hl3, World.putObj_heap_same (Array.getElem?_eq_some_iff.1 hl3).1, (World.putObj_heap_other (by omega)).trans hk3⟩
   rintro e a3 W3 hp
   cases e with
   | normal =>
    obtain ⟨hu3, hi3⟩ := hp
    obtain ⟨hr, hl3, hl4, hk4⟩ := fin none W3 hu3
    exact ⟨_, _, hr, .inl ⟨rfl, ⟨hI D E _ _ _ ((fr_put _ _ _).mono fun b _ e => Or.inr e) hi3, hDw, hl4, hk4⟩, (hua.mono (by omega)).trans (hub.trans ((hu3.mono (by omega)).trans (Uq.putObj _ (by omega))))⟩⟩
   | ret =>
    obtain ⟨hu3, hi3⟩ := hp
    obtain ⟨hr, hl3, hl4, hk4⟩ := fin (some .ret) W3 hu3
    exact ⟨_, _, hr, .inr ⟨rfl, ⟨.ret, hIx D E _ _ _ _ ((fr_put _ _ _).mono fun b _ e => Or.inr e) hi3, hDw, hl4, hk4⟩, (hua.mono (by omega)).trans (hub.trans ((hu3.mono (by omega)).trans (Uq.putObj _ (by omega))))⟩⟩
   | exit id =>
    obtain ⟨hu3, hi3⟩ := hp
    obtain ⟨hr, hl3, hl4, hk4⟩ := fin (some (.exit id)) W3 hu3
    exact ⟨_, _, hr, .inr ⟨rfl, ⟨.exit id, hIx D E _ _ _ _ ((fr_put _ _ _).mono fun b _ e => Or.inr e) hi3, hDw, hl4, hk4⟩, (hua.mono (by omega)).trans (hub.trans ((hu3.mono (by omega)).trans (Uq.putObj _ (by omega))))⟩⟩
   | goto t =>
    obtain ⟨hu3, hi3⟩ := hp
    obtain ⟨hr, hl3, hl4, hk4⟩ := fin (some (.goto t)) W3 hu3
    exact ⟨_, _, hr, .inr ⟨rfl, ⟨.goto t, hIx D E _ _ _ _ ((fr_put _ _ _).mono fun b _ e => Or.inr e) hi3, hDw, hl4, hk4⟩, (hua.mono (by omega)).trans (hub.trans ((hu3.mono (by omega)).trans (Uq.putObj _ (by omega))))⟩⟩
   | panic ch => exact hp.elim
   | outgrown => exact hp.elim
  ·-- behind the iterator
   rintro e W2 ⟨⟨v, rfl⟩, D, E, (⟨ss, hfin, hi, hDw, hl, hk⟩ | ⟨pre, c, hi, hDw, hl, hk⟩)⟩
   ·exact ⟨none, _, by have := run_endLoop (P := P) hl (by rw [hrec]; simp); rw [hrec] at this; exact this, hdone D E _ ss _ rfl hfin (hI D E _ _ _ ((fr_put _ _ _).mono fun b _ e => Or.inr e) hi) ((World.putObj_heap_other (by omega)).trans hk)⟩
   ·exact ⟨some c, _, by have := run_endLoop (P := P) hl (by rw [hrec]; simp); rw [hrec] at this; exact this, hstop D E _ c pre _ rfl (hIx D E c _ _ _ ((fr_put _ _ _).mono fun b _ e => Or.inr e) hi) ((World.putObj_heap_other (by omega)).trans hk)⟩
end Go.Proofs.YtechceagghcipabGreatDoor
namespace Go.Proofs.YtechceagghcipabGreatDoor
open Go.RowKit
def Pd.cs (p : Pd) : List Value := [.string p.nm, .int .i64 p.ar]
def pcs (l : List Pd) : List Value := l.flatMap Pd.cs
def PRow (w : World) (b o : Nat) (l : List Pd) : Prop :=
 b < w.heap.size /\ ∀ i p, l[i]? = some p -> w.cell? ⟨b, o + i * 2, none⟩ = some (.string p.nm) /\ w.cell? ⟨b, o + i * 2 + 1, none⟩ = some (.int .i64 p.ar)
theorem PRow.later {w w' : World} {b o l} (h : PRow w b o l) (hb : Below w.heap.size w w') : PRow w' b o l :=
 ⟨Nat.lt_of_lt_of_le h.1 hb.size, fun i p hp => ⟨cell_step hb h.1 (h.2 i p hp).1, cell_step hb h.1 (h.2 i p hp).2⟩⟩
theorem Tryz.infoPred : (Tryz.prog.info? 72).map (fun i => (i.zero, i.size, i.bytes)) = some (some (.agg #[.string ⟨#[]⟩, .int .i64 0]), 2, 24) := by kernel_rfl
theorem pcs_len (l : List Pd) : (pcs l).length = l.length * 2 := by
 induction l with
 | nil => rfl
 | cons d l ih => simp only [pcs, List.flatMap_cons, List.length_append, List.length_cons] at *; rw [ih]; simp [Pd.cs]; omega
theorem pcs_get (l : List Pd) (j : Nat) (d : Pd) (h : l[j]? = some d) (i : Nat) (hi : i < 2) : (pcs l)[j * 2 + i]? = d.cs[i]? := by
 induction l generalizing j with
 | nil => simp at h
 | cons e l ih =>
  rw [pcs, List.flatMap_cons]
  cases j with
  | zero =>
   simp only [List.getElem?_cons_zero, Option.some.injEq] at h
   subst h
   rw [List.getElem?_append_left (by simp [Pd.cs]; omega)]
   simp
  | succ j =>
   simp only [List.getElem?_cons_succ] at h
   rw [List.getElem?_append_right (by simp [Pd.cs]; omega)]
   have e1 : (j + 1) * 2 + i - (Pd.cs e).length = j * 2 + i := by simp [Pd.cs]; omega
   rw [e1]
   exact ih j h
def OwnP (w : World) (base : Nat) (v : Value) (l : List Pd) : Prop := w.ownsRow base 72 2 v l.length (pcs l)
theorem ownP_cells {w : World} {base g cap n : Nat} {l : List Pd} (h : OwnP w base (.slice (some ⟨g, 0, none⟩) n cap) l) (j : Nat) (d : Pd) (hd : l[j]? = some d) :
  w.cell? ⟨g, j * 2, none⟩ = some (.string d.nm) /\ w.cell? ⟨g, j * 2 + 1, none⟩ = some (.int .i64 d.ar) := by
 rcases h.2 with ⟨h, _⟩ | ⟨g', cap', cur, hv, hb, hg, hn, hc, hs, ht⟩
 ·cases h
 ·simp only [Value.slice.injEq, Option.some.injEq, Addr.mk.injEq] at hv
  obtain ⟨⟨rfl, -⟩, -, rfl⟩ := hv
  have hj := (List.getElem?_eq_some_iff.1 hd).1
  have key : ∀ i, i < 2 -> w.cell? ⟨g, j * 2 + i, none⟩ = d.cs[i]? := fun i hi => by
   rw [cell_of_row _ _ _ _ _ _ hg, <- pcs_get l j d hd i hi, <- ht, List.getElem?_take_of_lt (by omega)]
   simp
  exact ⟨key 0 (by omega), key 1 (by omega)⟩
theorem OwnP.lt {w : World} {base : Nat} {v : Value} {l : List Pd} (h : OwnP w base v l) : ∀ k, v.ownBlock = some k -> base <= k /\ k < w.heap.size := World.ownsRow.lt h
theorem OwnP.mono {w : World} {b b' : Nat} {v : Value} {l : List Pd} (h : OwnP w b v l) (hb : b' <= b) : OwnP w b' v l := by
 refine ⟨h.1, ?_⟩
 rcases h.2 with hn | ⟨g, cap, cur, hv, hbb, rest⟩
 ·exact Or.inl hn
 ·exact Or.inr ⟨g, cap, cur, hv, Nat.le_trans hb hbb, rest⟩
theorem OwnP.later {w w' : World} {base : Nat} {v : Value} {l : List Pd} (h : OwnP w base v l) (hb : Below w.heap.size w w') : OwnP w' base v l := by
 refine ⟨h.1, ?_⟩
 rcases h.2 with hn | ⟨g, cap, cur, hv, hbb, hg, rest⟩
 ·exact Or.inl hn
 ·exact Or.inr ⟨g, cap, cur, hv, hbb, (hb.block _ (Array.getElem?_eq_some_iff.1 hg).1).trans hg, rest⟩
theorem pcs_mem {l : List Pd} {u : Value} (h : u ∈ pcs l) : u.oneCell' = true := by
 simp only [pcs, List.mem_flatMap] at h
 obtain ⟨d, -, hu⟩ := h
 simp [Pd.cs] at hu
 rcases hu with rfl | rfl <;> rfl
theorem prow_get {w : World} {b o : Nat} {l : List Pd} (h : PRow w b o l) : ∀ j u, (pcs l)[j]? = some u -> w.cell? ((⟨b, o, none⟩ : Addr).add j) = some u := fun j u hu => by
 have hj : j < l.length * 2 := by rw [<- pcs_len]; exact (List.getElem?_eq_some_iff.1 hu).1
 have hq : j / 2 < l.length := by omega
 obtain ⟨d, hd⟩ : ∃ d, l[j / 2]? = some d := ⟨_, List.getElem?_eq_getElem hq⟩
 have hg := pcs_get l (j / 2) d hd (j % 2) (by omega)
 rw [show j / 2 * 2 + j % 2 = j by omega, hu] at hg
 have hc := h.2 _ _ hd
 have ha : (⟨b, o, none⟩ : Addr).add j = ⟨b, o + j / 2 * 2 + j % 2, none⟩ := by
  rw [Go.WideShapes.add_plain]; congr 1; omega
 rw [ha]
 have h4 : j % 2 = 0 ∨ j % 2 = 1 := by omega
 rcases h4 with e | e <;> rw [e] at hg ⊢ <;> simp [Pd.cs] at hg <;> subst hg
 ·exact hc.1
 ·exact hc.2
def PsP (w : World) (v : Value) (l : List Pd) : Prop := (v = .slice none 0 0 /\ l = []) ∨ ∃ ad cap, v = .slice (some ad) l.length cap /\ (l = [] ∨ ∃ b o, ad = ⟨b, o, none⟩ /\ PRow w b o l)
theorem OwnP.tsP {w : World} {base : Nat} {v : Value} {l : List Pd} (h : OwnP w base v l) : PsP w v l := by
 have hh := h
 rcases h.2 with ⟨rfl, hn⟩ | ⟨g, cap, cur, rfl, hb, hg, -⟩
 ·exact Or.inl ⟨rfl, List.length_eq_zero_iff.1 hn⟩
 ·refine Or.inr ⟨_, cap, rfl, Or.inr ⟨g, 0, rfl, (Array.getElem?_eq_some_iff.1 hg).1, fun i t ht => ?_⟩⟩
  simpa using ownP_cells hh i t ht
theorem pcs_app (l m : List Pd) : pcs (l ++ m) = pcs l ++ pcs m := by simp [pcs]
theorem ownP_nil (w : World) (base : Nat) : OwnP w base (.slice none 0 0) [] := World.ownsRow_nil _ _ _ _
theorem app_preds {ops : Array Oper} {rest : List Oper} {o : Oper} {a : Act} {Q : Exit -> Act -> World -> Prop} {w : World} (hgd : o.guard = none) (s x : Operand)
  (ho : o.op = .call { callee := .builtin .append, args := #[s, x], argTypes := #[59, 59] }) (base : Nat) (v : Value) (l : List Pd) (hs : a.eval s = v) (hown : OwnP w base v l)
  (y : Value) (m : List Pd) (hx : a.eval x = y) (hy : PsP w y m) (hlen : l.length + m.length <= 4000000000000) (hbase : base <= w.heap.size)
  (h : ∀ v' w', OwnP w' base v' (l ++ m) -> Below base w w' -> w.grownBy w' v.ownBlock -> wpList Tryz.prog ops Q rest (a.put o.dst v') w') : wpList Tryz.prog ops Q (o :: rest) a w := by
 obtain ⟨i0, hi0, hz0, hz1, hz2⟩ := info_parts Tryz.infoPred
 rcases hy with ⟨rfl, rfl⟩ | ⟨ad, cap, rfl, hm⟩
 ·refine wpList_append_own_none hgd s x 59 ho base 72 i0 2 Tryz.underlying59 hi0 v l.length (pcs l) hs hown hx ?_
  refine h v w (by rw [List.append_nil]; exact hown) (Below.refl _ _) ?_
  exact World.grownBy.refl _ _
 ·refine wpList_append_own _ hgd s x 59 ho base 72 i0 _ 2 24 Tryz.underlying59 hi0 hz0 hz1 hz2 rfl (by omega) v l.length (pcs l) hs hown ad m.length cap (pcs m) hx (pcs_len m) ?_ (fun u hu => pcs_mem hu) (by unfold maxLen; omega) (by omega) hbase ?_
  ·rcases hm with rfl | ⟨b, o', rfl, hm⟩
   ·intro j u hu; simp [pcs] at hu
   ·exact prow_get hm
  ·intro v' w' h1 h2 _
   refine h v' w' ?_ (grown_below3 h2 (fun k hk => (World.ownsRow.lt hown k hk).1) hbase) h2
   unfold OwnP
   rw [List.length_append, pcs_app]
   exact h1
theorem PsP.one {w : World} {b : Nat} {t : Pd} (h : CBlk w b #[.string t.nm, .int .i64 t.ar] 72) : PsP w (.slice (some ⟨b, 0, none⟩) 1 1) [t] := by
 refine Or.inr ⟨_, 1, rfl, Or.inr ⟨b, 0, rfl, h.lt, fun i u hu => ?_⟩⟩
 have c0 : w.cell? ⟨b, 0, none⟩ = some (.string t.nm) := cell_of_row _ _ _ _ _ _ h
 have c1 : w.cell? ⟨b, 1, none⟩ = some (.int .i64 t.ar) := cell_of_row _ _ _ _ _ _ h
 cases i with
 | zero => simp at hu; subst hu; exact ⟨c0, c1⟩
 | succ i => simp at hu
theorem PsP.get {w : World} {a : Option Addr} {n cap j : Nat} {l : List Pd} {c : Pd} (h : PsP w (.slice a n cap) l) (hc : l[j]? = some c) : ∃ b o, a = some ⟨b, o, none⟩ /\ PRow w b o l := by
 rcases h with ⟨e, rfl⟩ | ⟨ad, cap', e, h2⟩
 ·simp at hc
 ·simp only [Value.slice.injEq] at e
  obtain ⟨rfl, -, -⟩ := e
  rcases h2 with rfl | ⟨b, o, rfl, h2⟩
  ·simp at hc
  ·exact ⟨b, o, rfl, h2⟩
theorem PsP.form {w : World} {v : Value} {l : List Pd} (h : PsP w v l) : ∃ a cap, v = .slice a l.length cap := by
 rcases h with ⟨rfl, rfl⟩ | ⟨ad, cap, rfl, -⟩
 ·exact ⟨none, 0, rfl⟩
 ·exact ⟨_, _, rfl⟩
end Go.Proofs.YtechceagghcipabGreatDoor
