import Derived.Test.YtechceagghcipabGreatDoorEF4
namespace Go.Proofs.YtechceagghcipabGreatDoor
open Go.RowKit
def SeqF (P : Program) (g : Nat) (lb : Array Value) (D0 : World -> Prop) (Eff : World -> List (At × Nat) -> World -> Prop) (K : World -> World -> Prop) : Prop :=
 ∀ (n l : Nat) (J Jx : List (At × Nat) -> Nat -> List (At × Nat) -> World -> Prop) (W : World), D0 W -> (∀ D W1, Eff W D W1 -> J D W1.heap.size [] W1) -> (∀ D E pre W1, J D E pre W1 ∨ Jx D E pre W1 -> K W W1) →
  (∀ (m : Nat) (D : List (At × Nat)) (E : Nat) pre x W0 W1, J D E pre W0 -> pre ++ [x] <+: D -> Below W0.heap.size W0 W1 -> YieldAt Fence.wide m P l #[x.1.v (sl8 x)] W1 fun e W' =>
   (e = .returned (.bool true) /\ J D E (pre ++ [x]) W' /\ Uq W.heap.size E W1 W') ∨ (e = .returned (.bool false) /\ Jx D E (pre ++ [x]) W' /\ Uq W.heap.size E W1 W')) →
  CallsIn Fence.wide n P g (#[.func (.yield l) #[] #[]] ++ lb) W fun e W' => (∃ v, e = .returned v) /\ ∃ D E, J D E D W' ∨ ∃ pre, pre <+: D /\ Jx D E pre W'
def seqPostF (B E : Nat) (I : List (At × Nat) -> World -> Prop) (Ix : Code -> List (At × Nat) -> World -> Prop) (xs : List (At × Nat)) (W : World) : Exit -> Act -> World -> Prop
 | .normal, _, W' => Uq B E W W' /\ I xs W'
 | .ret, _, W' => Uq B E W W' /\ Ix .ret xs W'
 | .exit id, _, W' => Uq B E W W' /\ Ix (.exit id) xs W'
 | .goto t, _, W' => Uq B E W W' /\ Ix (.goto t) xs W'
 | .panic _, _, _ => False
 | .outgrown, _, _ => False
variable {n : Nat} {P : Program}
theorem wpIn_seqF {g : Operand} {ps : Array Tmp} {assign body : Code} {Q : Exit -> Act -> World -> Prop} {a : Act} {w : World}
  {gf : Nat} {lb : Array Value} (hg : a.eval g = .func (.func gf) #[] lb) (eg : ∀ args w, (callFunc gf args).run P w = .ok (.enter gf args) w)
  {D0 : World -> Prop} {Eff : World -> List (At × Nat) -> World -> Prop} {Kp : World -> World -> Prop} (hseq : SeqF P gf lb D0 Eff Kp) (hps : 1 = ps.size)
  (I : List (At × Nat) -> Nat -> List (At × Nat) -> World -> Prop) (Ix : List (At × Nat) -> Nat -> Code -> List (At × Nat) -> World -> Prop) (hI : ∀ D E s W o, I D E s W -> I D E s (W.putObj (w.heap.size + 1) o)) (hIx : ∀ D E c s W o, Ix D E c s W -> Ix D E c s (W.putObj (w.heap.size + 1) o))
  (hD : ∀ W1, Below w.heap.size w W1 -> W1.heap.size = w.heap.size + 2 -> D0 W1 /\ (∀ D W2, Eff W1 D W2 -> I D W2.heap.size [] W2 /\ W2.heap[w.heap.size]? = W1.heap[w.heap.size]? /\ W2.heap[w.heap.size + 1]? = W1.heap[w.heap.size + 1]?) /\ (∀ D E pre W2, I D E pre W2 -> Kp W1 W2 /\ w.heap.size + 2 <= E) /\ ∀ D E c pre W2, Ix D E c pre W2 -> Kp W1 W2)
  (Ax : List (At × Nat) -> Nat -> List (At × Nat) -> At × Nat -> Act -> World -> Prop) (hAx : ∀ D E pre x a' W o, Ax D E pre x a' W -> Ax D E pre x a' (W.putObj (w.heap.size + 1) o))
  (hassign : ∀ (l m : Nat) (D : List (At × Nat)) (E : Nat) (pre : List (At × Nat)) (x : At × Nat) (W0 W : World) (K : Act -> World -> Prop), pre ++ [x] <+: D -> I D E pre W0 -> Below W0.heap.size W0 W -> w.heap.size <= W.heap.size -> (∀ a' W', Uq w.heap.size E W W' -> Ax D E pre x a' W' -> K a' W') →
   assign.wpIn (Fence.wide.inRound l) m P (Exit.then K (fun _ _ _ => False)) { tmps := (ps.zip #[x.1.v (sl8 x)]).foldl (fun t (p, v) => t.setIfInBounds p v) a.tmps, defers := [] } W)
  (hbody : ∀ (l m : Nat) (D : List (At × Nat)) (E : Nat) (pre : List (At × Nat)) (x : At × Nat) (a' : Act) (W : World), pre ++ [x] <+: D -> Ax D E pre x a' W -> w.heap.size <= W.heap.size -> body.wpIn (Fence.wide.inRound l) m P (seqPostF w.heap.size E (I D E) (Ix D E) (pre ++ [x]) W) a' W)
  (hdone : ∀ (D0 : List (At × Nat)) (E D : Nat) (W : World), D = w.heap.size -> I D0 E D0 W -> W.heap[D]? = some (.deferred (some [])) -> Q .normal { a with defers := { target := .collected D, args := #[] } :: a.defers } W)
  (hstop : ∀ (D0 : List (At × Nat)) (E D : Nat) (c : Code) (pre : List (At × Nat)) (W : World), D = w.heap.size -> pre <+: D0 -> Ix D0 E c pre W -> W.heap[D]? = some (.deferred (some [])) -> c.wpIn Fence.wide n P Q { a with defers := { target := .collected D, args := #[] } :: a.defers } W) :
  (Code.rangeFunc g ps assign body).wpIn Fence.wide n P Q a w := by
 refine wpIn_rangeFunc fun fn hfn => ?_
 obtain ⟨rec, hrec⟩ : ∃ rec : LoopState -> Option Code -> Loop, rec = fun st pe => { state := st, pending := pe, fn, tmps := a.tmps, params := ps, assign, body, defers := w.heap.size } := ⟨_, rfl⟩
 obtain ⟨W1, hW1⟩ : ∃ W1, (w.alloc (.deferred (some []))).alloc (.loop (rec .ready none)) = W1 := ⟨_, rfl⟩
 have hz1 : W1.heap.size = w.heap.size + 2 := by rw [<- hW1]; simp
 have hL1 : W1.heap[w.heap.size + 1]? = some (.loop (rec .ready none)) := by
  rw [<- hW1]; have := World.alloc_heap_new (w.alloc (.deferred (some []))) (.loop (rec .ready none)); rwa [World.size_alloc] at this
 have hK1 : W1.heap[w.heap.size]? = some (.deferred (some [])) := by
  rw [<- hW1]; exact (Below.heap_alloc _ _ _ (by simp)).trans (World.alloc_heap_new w _)
 have hB1 : Below w.heap.size w W1 := by rw [<- hW1]; exact below2 _ _ _
 obtain ⟨hD0, hEff, hKp, hKx⟩ := hD W1 hB1 hz1
 refine ⟨w.heap.size + 1, [{ target := .collected w.heap.size, args := #[] }], W1, { target := .fn (.func gf) lb, args := #[.func (.yield (w.heap.size + 1)) #[] #[]] }, W1, gf,
  #[.func (.yield (w.heap.size + 1)) #[] #[]] ++ lb, W1, ?_, ?_, ?_, ?_, ?_, ?_⟩
 ·rw [<- hW1, hrec]; exact run_enterLoop_outer _ _ _ _ _
 ·simp only [resolve, hg]
  simp [go_sem]
 ·intro f' _; trivial
 ·simp [invoke, go_sem, eg]
 ·intro h; cases h
 ·refine (hseq (n - 1) (w.heap.size + 1)
   (fun D E pre W => I D E pre W /\ W.heap[w.heap.size + 1]? = some (.loop (rec .ready none)) /\ W.heap[w.heap.size]? = some (.deferred (some [])))
   (fun D E pre W => ∃ c, Ix D E c pre W /\ W.heap[w.heap.size + 1]? = some (.loop (rec .done (some c))) /\ W.heap[w.heap.size]? = some (.deferred (some [])))
   W1 hD0 (fun D W2 h2 => ⟨(hEff D W2 h2).1, (hEff D W2 h2).2.2.trans hL1, (hEff D W2 h2).2.1.trans hK1⟩) (fun D E pre X h => h.elim (fun h => (hKp D E pre X h.1).1) fun ⟨c, h⟩ => hKx D E c pre X h.1)
   ?_).mono ?_
  ·-- a round
   rintro m D E pre x W0 W ⟨hi0, hl0, hk0⟩ hpre hb0
   have hE2 := (hKp D E pre W0 hi0).2
   have hl : W.heap[w.heap.size + 1]? = some (.loop (rec .ready none)) := (hb0.block _ (Array.getElem?_eq_some_iff.1 hl0).1).trans hl0
   have hk : W.heap[w.heap.size]? = some (.deferred (some [])) := (hb0.block _ (Array.getElem?_eq_some_iff.1 hk0).1).trans hk0
   have hy := run_yield (P := P) (args := #[x.1.v (sl8 x)]) hl (by rw [hrec]; exact hps)
   rw [hrec] at hy
   have hlt0 : w.heap.size + 1 < W.heap.size := (Array.getElem?_eq_some_iff.1 hl).1
   refine ⟨fn, _, assign, body, hy, roundIn_of_wpIn hfn (hassign _ _ D E pre x W0 W _ hpre hi0 hb0 (by omega) ?_)⟩
   clear hy
   intro a' Wa hua hax
   have hla := (hua.same _ (by omega) (by omega) (Array.getElem?_eq_some_iff.1 hl).1).trans hl
   have hka := (hua.same _ (Nat.le_refl _) (by omega) (Array.getElem?_eq_some_iff.1 hk).1).trans hk
   have hlt : w.heap.size + 1 < Wa.heap.size := (Array.getElem?_eq_some_iff.1 hla).1
   refine ⟨_, run_beginRound hla (by rw [hrec]), ?_⟩
   obtain ⟨Wb, hWb⟩ : ∃ Wb, Wa.putObj (w.heap.size + 1) (.loop { rec .ready none with state := .busy }) = Wb := ⟨_, rfl⟩
   have hlb : Wb.heap[w.heap.size + 1]? = some (.loop { rec .ready none with state := .busy }) := by rw [<- hWb]; exact World.putObj_heap_same hlt
   have hkb : Wb.heap[w.heap.size]? = some (.deferred (some [])) := by rw [<- hWb]; exact (World.putObj_heap_other (by omega)).trans hka
   have hub : Uq W1.heap.size E Wa Wb := by rw [<- hWb]; exact Uq.putObj _ (by omega)
   have haxb : Ax D E pre x a' Wb := by rw [<- hWb]; exact hAx D E pre x a' _ _ hax
   have hzb : Wb.heap.size = Wa.heap.size := by rw [<- hWb]; simp
   rw [hWb]
   refine wpIn_mono (hbody _ _ D E pre x a' Wb hpre haxb (by omega)) ?_
   have fin : ∀ (jump : Option Code) (W3 : World), Uq w.heap.size E Wb W3 →
     (Instr.endRound (w.heap.size + 1) jump).run P W3 = .ok (.bool jump.isNone) (W3.putObj (w.heap.size + 1) (.loop (rec (if jump.isNone then .ready else .done) jump))) ∧
     W3.heap[w.heap.size + 1]? = some (.loop { rec .ready none with state := .busy }) ∧
     (W3.putObj (w.heap.size + 1) (.loop (rec (if jump.isNone then .ready else .done) jump))).heap[w.heap.size + 1]? = some (.loop (rec (if jump.isNone then .ready else .done) jump)) ∧
     (W3.putObj (w.heap.size + 1) (.loop (rec (if jump.isNone then .ready else .done) jump))).heap[w.heap.size]? = some (.deferred (some [])) := fun jump W3 hu3 => by
    have hl3 := (hu3.same _ (by omega) (by omega) (Array.getElem?_eq_some_iff.1 hlb).1).trans hlb
    have hk3 := (hu3.same _ (Nat.le_refl _) (by omega) (Array.getElem?_eq_some_iff.1 hkb).1).trans hkb
    have := run_endRound (P := P) jump hl3
    rw [hrec] at this ⊢
    exact ⟨this, by rw [hrec] at hl3; exact hl3, World.putObj_heap_same (Array.getElem?_eq_some_iff.1 hl3).1, (World.putObj_heap_other (by omega)).trans hk3⟩
   rintro e a3 W3 hp
   cases e with
   | normal =>
    obtain ⟨hu3, hi3⟩ := hp
    obtain ⟨hr, hl3, hl4, hk4⟩ := fin none W3 hu3
    exact ⟨_, _, hr, .inl ⟨rfl, ⟨hI D E _ _ _ hi3, hl4, hk4⟩, (hua.mono (by omega)).trans (hub.trans ((hu3.mono (by omega)).trans (Uq.putObj _ (by omega))))⟩⟩
   | ret =>
    obtain ⟨hu3, hi3⟩ := hp
    obtain ⟨hr, hl3, hl4, hk4⟩ := fin (some .ret) W3 hu3
    exact ⟨_, _, hr, .inr ⟨rfl, ⟨.ret, hIx D E _ _ _ _ hi3, hl4, hk4⟩, (hua.mono (by omega)).trans (hub.trans ((hu3.mono (by omega)).trans (Uq.putObj _ (by omega))))⟩⟩
   | exit id =>
    obtain ⟨hu3, hi3⟩ := hp
    obtain ⟨hr, hl3, hl4, hk4⟩ := fin (some (.exit id)) W3 hu3
    exact ⟨_, _, hr, .inr ⟨rfl, ⟨.exit id, hIx D E _ _ _ _ hi3, hl4, hk4⟩, (hua.mono (by omega)).trans (hub.trans ((hu3.mono (by omega)).trans (Uq.putObj _ (by omega))))⟩⟩
   | goto t =>
    obtain ⟨hu3, hi3⟩ := hp
    obtain ⟨hr, hl3, hl4, hk4⟩ := fin (some (.goto t)) W3 hu3
    exact ⟨_, _, hr, .inr ⟨rfl, ⟨.goto t, hIx D E _ _ _ _ hi3, hl4, hk4⟩, (hua.mono (by omega)).trans (hub.trans ((hu3.mono (by omega)).trans (Uq.putObj _ (by omega))))⟩⟩
   | panic ch => exact hp.elim
   | outgrown => exact hp.elim
  ·-- behind the iterator
   rintro e W2 ⟨⟨v, rfl⟩, D, E, (⟨hi, hl, hk⟩ | ⟨pre, hpre, c, hi, hl, hk⟩)⟩
   ·exact ⟨none, _, by have := run_endLoop (P := P) hl (by rw [hrec]; simp); rw [hrec] at this; exact this, hdone D E _ _ rfl (hI D E _ _ _ hi) ((World.putObj_heap_other (by omega)).trans hk)⟩
   ·exact ⟨some c, _, by have := run_endLoop (P := P) hl (by rw [hrec]; simp); rw [hrec] at this; exact this, hstop D E _ c pre _ rfl hpre (hIx D E c _ _ _ hi) ((World.putObj_heap_other (by omega)).trans hk)⟩
end Go.Proofs.YtechceagghcipabGreatDoor
namespace Go.Proofs.YtechceagghcipabGreatDoor
open Go.RowKit Go.Shelf
attribute [local go_sem] Oper.semAt_some
structure FD8 (w0 : World) (g : Nat) (tv : Value) (mn mr : Nat) (ga : Pd -> Nat) (B : Pd -> Nat -> Prop) (m : Nat) (T : List Tm) (K : List Pd) (s : Pd -> St7) (parts : Int) (a : At) (x : Value) (bb : Nat) (W : World) : Prop where
 b0 : Bk W bb #[.pointer (some ⟨g, 0, none⟩)] 25
 b1 : Bk W (bb + 1) #[.int .i64 parts] 3
 b2 : Bk W (bb + 2) #[.int .i64 a.by_.k, .int .i64 a.by_.n, .string a.by_.s, .string a.name, x] 33
 bs : BS w0 g tv mn mr ga B m T K s W
 x : ∀ X : World, Fr (PA8 g tv mn mr B K) W X -> TsP X x a.args
def FE8 (w0 : World) (g : Nat) (tv : Value) (mn mr : Nat) (ga : Pd -> Nat) (B : Pd -> Nat -> Prop) (m : Nat) (T : List Tm) (K : List Pd) (s : Pd -> St7) (L : List At) (W : World) (Q : List (At × Nat)) (W1 : World) : Prop :=
 ∃ fv B', AL8 W1 W.heap.size fv Q /\ srtC8 Q /\ (Q.map Prod.fst).Perm L /\ BS w0 g tv mn mr ga B' m T K s W1 /\ Fr (PA8 g tv mn mr B K) W W1 /\ (∀ b, PA8 g tv mn mr B' K b -> PA8 g tv mn mr B K b ∨ W.heap.size <= b) /\ ∀ b, (fv.ownBlock = some b ∨ ∃ x ∈ Q, x.2 = b) -> ¬ PA8 g tv mn mr B' K b
set_option maxRecDepth 100000 in
set_option maxHeartbeats 1000000 in
theorem find8_seq (w0 : World) (g : Nat) (tv : Value) (mn mr : Nat) (ga : Pd -> Nat) (B : Pd -> Nat -> Prop) (m : Nat) (T : List Tm) (K : List Pd) (s : Pd -> St7) (parts : Int) (a : At) (x : Value) (bb : Nat) (hk : ∀ t ∈ a.pl, t.var = false -> KeyT t) (hkp : KeyP a.pd8) (hl : a.pl.length <= 1000000000) (hm : m <= 100000000000000)
  (hrow : a.pd8 ∈ K -> ∀ r ∈ (s a.pd8).rows, RowOf T a.name a.args.length r) (hfl : (fo8 T K s parts a).length <= 1000000000000) :
  SeqF Tryz.prog 88 #[.pointer (some ⟨bb, 0, none⟩), .pointer (some ⟨bb + 1, 0, none⟩), .pointer (some ⟨bb + 2, 0, none⟩)] (FD8 w0 g tv mn mr ga B m T K s parts a x bb) (FE8 w0 g tv mn mr ga B (m + 1) T K s (fo8 T K s parts a)) (fun _ _ => True) := by
 intro nn l J Jx W hd hEff hK hY
 have HFO := hm7 (callsIn_wide (n := nn - 1).2 (found8_any w0 g tv mn mr ga B m T K s parts a x W hd.bs hd.x hk hkp hl hm hrow))
 have c0 := hd.b0.cell (i := 0) rfl
 have c1 := hd.b1.cell (i := 0) rfl
 obtain ⟨⟨q0, q1⟩, q2, q3, q4⟩ := five8 hd.b2
 obtain ⟨ax, cx, rfl⟩ := (hd.x W (Fr.refl _ _)).shape
 obtain ⟨n, hn⟩ : ∃ n, a.args.length = n := ⟨_, rfl⟩
 rw [hn] at q4 HFO
 have HEff := hm7 hEff
 have HY := hm7 hY
 have HFL := hm7 hfl
 obtain ⟨L, hL⟩ : ∃ L, fo8 T K s parts a = L := ⟨_, rfl⟩
 rw [hL] at HFO HEff HFL
 clear hd hEff hK hY hk hkp hl hm hrow hfl hL hn
 obtain ⟨⟨k, i, z⟩, nm, al⟩ := a
 simp only at q0 q1 q2 q3 HFO
 refine callsIn_of_wp Tryz.func88 rfl trivial ?_ rfl
 simp only [Tryz.ntmps88, List.size_toArray, List.length_cons, List.length_nil, Nat.reduceAdd, Nat.reduceSub, Array.replicate_succ, Array.replicate_zero, List.push_toArray, List.append_toArray, List.nil_append, List.cons_append]
 gi_wp2
 refine ⟨trivial, fun h => (by cases h), HFO.out.mono ?_⟩
 rintro e W1 ⟨fv, Q, B', rfl, h1, h2, h3, h4, h5, h6, h7⟩
 obtain ⟨fa, fc, efv, -⟩ := row7_form h1.o
 subst efv
 have hqn : Q.length <= 1000000000000 := by
  have := h3.length_eq
  rw [List.length_map] at this
  have := HFL.out
  omega
 have HJ0 := hm7 (HEff.out Q W1 ⟨_, B', h1, h2, h3, h4, h5, h6, h7⟩)
 have HA := hm7 h1
 have hsW := h5.size
 clear c0 c1 q0 q1 q2 q3 q4 HFO h1 h2 h3 h4 h5 h6 h7 HEff
 obtain ⟨N, hN⟩ : ∃ N, Q.length = N := ⟨_, rfl⟩
 rw [hN]
 have HN := hm7 hN
 rw [hN] at hqn
 clear hN
 gi_wp2
 gi_loopw [12] (fun p wr => ∃ (q : Nat), p = .int .i64 (q : Int) /\ q <= N /\ J Q W1.heap.size (Q.take q) wr /\ Uq W.heap.size W1.heap.size W1 wr) (fun p _ => N - (intOf p).toNat)
 case atStart => exact ⟨0, rfl, Nat.zero_le _, HJ0.out, Uq.refl _ _ _⟩
 case round =>
  obtain ⟨q, rfl, hq, hJr, huq⟩ := hrel
  have HJr := hm7 hJr
  have HUQ := hm7 huq
  clear hJr HJ0 huq
  by_cases hlt : q < N
  ·have i0 : (0 : Int) <= (q : Int) := by omega
   have i1 : (q : Int) < (N : Int) := by omega
   obtain ⟨y, hyq⟩ : ∃ y, Q[q]? = some y := ⟨_, List.getElem?_eq_getElem (by rw [HN.out]; exact hlt)⟩
   have hAw := HA.out.same (V' := wr) fun b hb => HUQ.out.same b (HA.out.lt hb).1 (HA.out.lt hb).2 (HA.out.lt hb).2
   obtain ⟨gb, rfl, hgw⟩ : ∃ gb, fa = some ⟨gb, 0, none⟩ /\ gb < wr.heap.size := by
    rcases hAw.o.2 with ⟨e, hn0⟩ | ⟨gb, cap, cur, e, hb, hg, -⟩
    ·rw [HN.out] at hn0; omega
    ·simp only [Value.slice.injEq] at e
     exact ⟨gb, e.1, (Array.getElem?_eq_some_iff.1 hg).1⟩
   have hcell := OwnA.cells hAw.o.a q (enc8 y) (by rw [List.getElem?_map, hyq]; rfl)
   have k0 := hcell 0 (by omega)
   have k1 := hcell 1 (by omega)
   have k2 := hcell 2 (by omega)
   have k3 := hcell 3 (by omega)
   have k4 := hcell 4 (by omega)
   have HQQ := hm7 hyq
   obtain ⟨⟨⟨yk, yi, yz⟩, ynm, yl⟩, A⟩ := y
   simp only [acell, enc8, sl8, List.getElem?_cons_zero, List.getElem?_cons_succ, Nat.add_zero] at k0 k1 k2 k3 k4
   obtain ⟨yn, hyn⟩ : ∃ yn, yl.length = yn := ⟨_, rfl⟩
   rw [hyn] at k4
   obtain ⟨W2, hW2⟩ : ∃ W2, wr.alloc (.cells #[.int .i64 yk, .int .i64 yi, .string yz, .string ynm, .slice (some ⟨A, 0, none⟩) yn yn] 33) = W2 := ⟨_, rfl⟩
   have hb2 : Below wr.heap.size wr W2 := by rw [<- hW2]; exact below1 _ _
   have HB2 := hm7 hb2
   have HFB : Hid (Bk W2 wr.heap.size #[.int .i64 yk, .int .i64 yi, .string yz, .string ynm, .slice (some ⟨A, 0, none⟩) yn yn] 33) := by show Bk _ _ _ _; rw [<- hW2]; exact Bk.new _ _ _
   obtain ⟨⟨d0, d1⟩, d2, d3, d4⟩ := five8 HFB.out
   obtain ⟨fn, tmps, assign, bd, hy, hR⟩ := HY.out (nn - 1) _ _ _ (⟨⟨yk, yi, yz⟩, ynm, yl⟩, A) wr W2 HJr.out (pre_take0 HQQ.out) hb2
   simp only [sl8] at hy
   rw [hyn] at hy
   clear hcell hAw hyq hb2 hyn
   gi_wp2
   try rw [hW2]
   refine ⟨fun h => (by cases h), hR.mono ?_⟩
   clear hR hy hW2 k0 k1 k2 k3 k4 d0 d1 d2 d3 d4
   rintro e W3 (⟨rfl, hJ3, hu3⟩ | ⟨rfl, hx3, -⟩)
   ·have HJ3 : Hid (J Q W1.heap.size (Q.take (q + 1)) W3) := by
     show J _ _ _ W3; rw [take_next0 HQQ.out]; exact hJ3
    have HU3 : Hid (Uq W.heap.size W1.heap.size W1 W3) := HUQ.out.trans ((Uq.below HB2.out).trans hu3)
    clear hJ3 hu3
    gi_wp2
    go_roundw
    case rel => exact ⟨q + 1, by go_num, by omega, HJ3.out, HU3.out⟩
    case measure => simp [intOf]; omega
   ·have HX3 := hm7 hx3
    clear hx3
    gi_wp2
    refine bodyPost_ret (results_none rfl _ _ _) rfl ?_
    exact ⟨⟨_, rfl⟩, _, _, .inr ⟨_, pre_take0 HQQ.out, HX3.out⟩⟩
  ·obtain rfl : N = q := by omega
   have i1 : ¬ ((N : Int) < (N : Int)) := by omega
   gi_wp2
   go_end0
   have := HJr.out
   rw [<- HN.out, List.take_length] at this
   exact ⟨⟨_, rfl⟩, _, _, .inl this⟩
end Go.Proofs.YtechceagghcipabGreatDoor
namespace Go.Proofs.YtechceagghcipabGreatDoor
open Go.RowKit Go.Shelf
attribute [local go_sem] Oper.semAt_some
structure LI8 (w0 : World) (g : Nat) (tv : Value) (mn mr : Nat) (ga : Pd -> Nat) (B : Pd -> Nat -> Prop) (m : Nat) (T : List Tm) (K : List Pd) (s : Pd -> St7) (L : List At) (lb : Nat) (w : World) (D : List (At × Nat)) (E : Nat) (pre : List (At × Nat)) (V : World) : Prop where
 ex : ∃ lv fv B', Bk V lb #[lv] 56 /\ OwnA8 V E lv pre /\ AL8 V (w.heap.size + 2) fv D /\ (∀ b, (fv.ownBlock = some b ∨ ∃ x ∈ D, x.2 = b) -> b < E) /\ srtC8 D /\ (D.map Prod.fst).Perm L /\ BS w0 g tv mn mr ga B' m T K s V /\ (∀ b, PA8 g tv mn mr B' K b -> PA8 g tv mn mr B K b ∨ (w.heap.size + 2 <= b /\ b < E)) /\ ∀ b, (fv.ownBlock = some b ∨ ∃ x ∈ D, x.2 = b) -> ¬ PA8 g tv mn mr B' K b
 fr : Fr (fun b => PA8 g tv mn mr B K b ∨ b = lb) w V
 e : w.heap.size + 2 <= E
 z : E <= V.heap.size
theorem LI8.stay {w0 : World} {g : Nat} {tv : Value} {mn mr : Nat} {ga : Pd -> Nat} {B : Pd -> Nat -> Prop} {m : Nat} {T : List Tm} {K : List Pd} {s : Pd -> St7} {L : List At} {lb : Nat} {w : World} {D : List (At × Nat)} {E : Nat} {pre : List (At × Nat)} {V V' : World} (h : LI8 w0 g tv mn mr ga B m T K s L lb w D E pre V) (hP : ∀ b, PA8 g tv mn mr B K b -> b < w.heap.size) (hw : w0.heap.size <= w.heap.size) (hlb : lb < w.heap.size) (hf : Fr (fun b => w.heap.size <= b /\ b < w.heap.size + 2) V V') : LI8 w0 g tv mn mr ga B m T K s L lb w D E pre V' := by
 obtain ⟨lv, fv, B', h1, h2, h3, h4, h5, h6, h7, h8, h9⟩ := h.ex
 have he := h.e
 refine ⟨⟨lv, fv, B', h1.fr hf (by omega), row7_fr h2 hf fun b hb hc => by have := (h2.lt b hb).1; omega, h3.same fun b hb => hf.block b (h3.lt hb).2 fun hc => by have := (h3.lt hb).1; omega, h4, h5, h6, h7.fr hf (fun b hc _ hb => ?_) (fun b hc _ => by omega), h8, h9⟩, h.fr.trans hf fun b hl hc => by omega, h.e, Nat.le_trans h.z hf.size⟩
 rcases h8 b hb with q | q
 ·have := hP b q; omega
 ·omega
theorem LI8.below {w0 : World} {g : Nat} {tv : Value} {mn mr : Nat} {ga : Pd -> Nat} {B : Pd -> Nat -> Prop} {m : Nat} {T : List Tm} {K : List Pd} {s : Pd -> St7} {L : List At} {lb : Nat} {w : World} {D : List (At × Nat)} {E : Nat} {pre : List (At × Nat)} {V V' : World} (h : LI8 w0 g tv mn mr ga B m T K s L lb w D E pre V) (hP : ∀ b, PA8 g tv mn mr B K b -> b < w.heap.size) (hw : w0.heap.size <= w.heap.size) (hlb : lb < w.heap.size) (hb : Below V.heap.size V V') : LI8 w0 g tv mn mr ga B m T K s L lb w D E pre V' := h.stay hP hw hlb (Fr.of hb)
set_option maxRecDepth 100000 in
set_option maxHeartbeats 1000000 in
theorem lfound8_go (w0 : World) (g : Nat) (tv : Value) (mn mr : Nat) (ga : Pd -> Nat) (B : Pd -> Nat -> Prop) (m : Nat) (T : List Tm) (K : List Pd) (s : Pd -> St7) (parts : Int) (a : At) (k i : Int) (z nm : ByteArray) (n : Nat) (hk1 : a.by_.k = k) (hk2 : a.by_.n = i) (hk3 : a.by_.s = z) (hk4 : a.name = nm) (hk5 : a.args.length = n) (ax : Option Addr) (cx : Nat) (Y : World) (h : BS w0 g tv mn mr ga B m T K s Y) (hx : TsP Y (.slice ax n cx) a.args) (hk : ∀ t ∈ a.pl, t.var = false -> KeyT t) (hkp : KeyP a.pd8) (hl : a.pl.length <= 1000000000) (hm : m <= 100000000000000)
  (hrow : a.pd8 ∈ K -> ∀ r ∈ (s a.pd8).rows, RowOf T a.name a.args.length r) (hfl : (fo8 T K s parts a).length <= 1000000000000) :
  Calls Tryz.prog 26 #[.pointer (some ⟨g, 0, none⟩), .int .i64 parts, .agg #[.int .i64 k, .int .i64 i, .string z, .string nm, .slice ax n cx]] Y (FQ8 w0 g tv mn mr ga B (m + 1) T K s (fo8 T K s parts a) Y) := by
 have ev : a.v (.slice ax n cx) = .agg #[.int .i64 k, .int .i64 i, .string z, .string nm, .slice ax n cx] := by rw [<- hk1, <- hk2, <- hk3, <- hk4]
 obtain ⟨nn, -⟩ : ∃ n : Nat, True := ⟨0, trivial⟩
 refine (callsIn_wide (n := nn)).1 ?_
 obtain ⟨W2, hW2⟩ : ∃ W2, (Y.alloc (.cells #[.int .i64 k, .int .i64 i, .string z, .string nm, .slice ax n cx] 33)).alloc (.cells #[.slice none 0 0] 56) = W2 := ⟨_, rfl⟩
 have hb2 : Below Y.heap.size Y W2 := by rw [<- hW2]; exact below2 _ _ _
 have hz2 : W2.heap.size = Y.heap.size + 2 := by rw [<- hW2]; simp
 have HLB : Hid (Bk W2 (Y.heap.size + 1) #[.slice none 0 0] 56) := by
  show Bk _ _ _ _
  have := Bk.new (Y.alloc (.cells #[.int .i64 k, .int .i64 i, .string z, .string nm, .slice ax n cx] 33)) #[.slice none 0 0] 56
  rw [World.size_alloc, hW2] at this
  exact this
 have HPB : Hid (Bk W2 Y.heap.size #[.int .i64 k, .int .i64 i, .string z, .string nm, .slice ax n cx] 33) := by show Bk _ _ _ _; rw [<- hW2]; exact (Bk.new _ _ _).below (below1 _ _)
 have HB2 := hm7 hb2
 have HFD : Hid (Calls Tryz.prog 55 #[.pointer (some ⟨g, 0, none⟩), .int .i64 parts, .agg #[.int .i64 k, .int .i64 i, .string z, .string nm, .slice ax n cx]] W2 fun e Y' => e = .returned (.func (.func 88) #[] #[.pointer (some ⟨W2.heap.size, 0, none⟩), .pointer (some ⟨W2.heap.size + 1, 0, none⟩), .pointer (some ⟨W2.heap.size + 2, 0, none⟩)]) /\ FB8 g parts a W2 Y') := by
  have := bfind8_any g parts a (.slice ax n cx) W2 (hx.later hb2) (by have : a.pl.length = a.args.length + 1 := rfl; omega)
  rw [ev] at this
  exact this
 have HSQ : Hid (∀ (x : Value) (bb : Nat), SeqF Tryz.prog 88 #[.pointer (some ⟨bb, 0, none⟩), .pointer (some ⟨bb + 1, 0, none⟩), .pointer (some ⟨bb + 2, 0, none⟩)] (FD8 w0 g tv mn mr ga B m T K s parts a x bb) (FE8 w0 g tv mn mr ga B (m + 1) T K s (fo8 T K s parts a)) (fun _ _ => True)) := fun x bb => find8_seq w0 g tv mn mr ga B m T K s parts a x bb hk hkp hl hm hrow hfl
 have HS := hm7 h
 have HFL := hm7 hfl
 obtain ⟨L, hL⟩ : ∃ L, fo8 T K s parts a = L := ⟨_, rfl⟩
 rw [hL] at HSQ HFL ⊢
 obtain ⟨⟨q0, q1⟩, q2, q3, q4⟩ := five8 HPB.out
 clear h hx hk hkp hl hm hrow hfl hL ev hk1 hk2 hk3 hk4 hk5 hb2
 refine callsIn_of_wp_marks Tryz.func26 rfl trivial ?_ rfl
 simp only [Tryz.ntmps26, List.size_toArray, List.length_cons, List.length_nil, Nat.reduceAdd, Nat.reduceSub, Array.replicate_succ, Array.replicate_zero, List.push_toArray, List.append_toArray, List.nil_append, List.cons_append]
 gi_wp2
 try rw [hW2]
 refine ⟨trivial, fun h => (by cases h), (callsIn_wide.2 HFD.out).mono ?_⟩
 rintro e W3 ⟨rfl, hfb⟩
 have HFB := hm7 hfb
 have hz3 := hfb.b.size
 clear q0 q1 q2 q3 q4 hfb hW2 HFD
 have qF : ∀ (w : World) (b1 b2 b3 : Nat), (binOp .eql 82 (.func (.func 88) #[] #[.pointer (some ⟨b1, 0, none⟩), .pointer (some ⟨b2, 0, none⟩), .pointer (some ⟨b3, 0, none⟩)]) .nilFunc).run Tryz.prog w = .ok (.bool false) w := by intro w b1 b2 b3; rfl
 have qG : ∀ (w : World) (x y : Operand) (b1 b2 b3 : Nat), (eqGuard .eql 82 x y (.func (.func 88) #[] #[.pointer (some ⟨b1, 0, none⟩), .pointer (some ⟨b2, 0, none⟩), .pointer (some ⟨b3, 0, none⟩)]) .nilFunc).run Tryz.prog w = .ok () w := by intro w x y b1 b2 b3; rfl
 gi_wp2
 clear qF qG
 have hb3 := HFB.out.b
 rw [hz2] at hb3
 have HB3 : Hid (Below Y.heap.size Y W3) := below_step HB2.out (by rw [hz2]; exact hb3)
 have HLB3 : Hid (Bk W3 (Y.heap.size + 1) #[.slice none 0 0] 56) := HLB.out.below (by rw [hz2]; exact hb3)
 obtain ⟨pv, hp2, hpo⟩ := HFB.out.b2
 rw [hz2] at hp2 hpo
 have hp0 := HFB.out.b0
 have hp1 := HFB.out.b1
 rw [hz2] at hp0 hp1
 have hPl : ∀ b, PA8 g tv mn mr B K b -> b < Y.heap.size := fun b hb => (HS.out.lt hb).2
 have hw0 := HS.out.bl.size
 have HPP := hm7 (And.intro hp0 (And.intro hp1 (And.intro hp2 hpo)))
 clear hb3 hp0 hp1 hp2 hpo HLB HFB HPB
 have hz4 : Y.heap.size + 2 <= W3.heap.size := by rw [<- hz2]; exact hz3
 have hPw : ∀ b, PA8 g tv mn mr B K b -> b < W3.heap.size := fun b hb => by have := hPl b hb; omega
 refine wpIn_seqF (gf := 88) (lb := #[.pointer (some ⟨Y.heap.size + 2, 0, none⟩), .pointer (some ⟨Y.heap.size + 2 + 1, 0, none⟩), .pointer (some ⟨Y.heap.size + 2 + 2, 0, none⟩)]) rfl (enters_of Tryz.func88 (by kernel_rfl) rfl) (HSQ.out pv (Y.heap.size + 2)) rfl
  (fun D E pre V => LI8 w0 g tv mn mr ga B (m + 1) T K s L (Y.heap.size + 1) W3 D E pre V) (fun _ _ _ _ _ => False) ?ownI (fun _ _ _ _ _ _ h => h) ?start
  (fun D E pre x act V => ∃ C, LI8 w0 g tv mn mr ga B (m + 1) T K s L (Y.heap.size + 1) W3 D E pre V /\ Bk V C (acell (enc8 x)).toArray 33 /\ E <= C /\ act = { tmps := #[.pointer (some ⟨g, 0, none⟩), .int .i64 parts, .agg #[.int .i64 k, .int .i64 i, .string z, .string nm, .slice ax n cx], undef, undef, .pointer (some ⟨Y.heap.size, 0, none⟩), .slice none 0 0, .pointer (some ⟨Y.heap.size + 1, 0, none⟩), .func (.func 88) #[] #[.pointer (some ⟨Y.heap.size + 2, 0, none⟩), .pointer (some ⟨Y.heap.size + 2 + 1, 0, none⟩), .pointer (some ⟨Y.heap.size + 2 + 2, 0, none⟩)], .pointer (some ⟨C, 0, none⟩), .pointer (some ⟨g, 0, none⟩), .int .i64 parts, .agg #[.int .i64 k, .int .i64 i, .string z, .string nm, .slice ax n cx], .func (.func 88) #[] #[.pointer (some ⟨Y.heap.size + 2, 0, none⟩), .pointer (some ⟨Y.heap.size + 2 + 1, 0, none⟩), .pointer (some ⟨Y.heap.size + 2 + 2, 0, none⟩)], .func (.func 88) #[] #[.pointer (some ⟨Y.heap.size + 2, 0, none⟩), .pointer (some ⟨Y.heap.size + 2 + 1, 0, none⟩), .pointer (some ⟨Y.heap.size + 2 + 2, 0, none⟩)], .bool false, undef, undef, undef, .func (.func 88) #[] #[.pointer (some ⟨Y.heap.size + 2, 0, none⟩), .pointer (some ⟨Y.heap.size + 2 + 1, 0, none⟩), .pointer (some ⟨Y.heap.size + 2 + 2, 0, none⟩)], x.1.v (sl8 x), undef, undef, undef, undef, undef], defers := [] })
  ?ownA ?assign ?body ?done (fun _ _ _ _ _ _ _ _ h => h.elim)
 case ownI =>
  rintro D E pre V o h
  exact h.stay hPw (by omega) (by omega) ((fr_put _ _ _).mono fun b _ e => by omega)
 case ownA =>
  rintro D E pre x act V o ⟨C, h1, h2, h3, h4⟩
  have := h1.e
  exact ⟨C, h1.stay hPw (by omega) (by omega) ((fr_put _ _ _).mono fun b _ e => by omega), (World.putObj_heap_other (by omega)).trans h2, h3, h4⟩
 case start =>
  intro V1 hb1 hz1
  have hbY := below_step HB3.out hb1
  obtain ⟨hp0, hp1, hp2, hpo⟩ := HPP.out
  refine ⟨⟨hp0.below hb1, hp1.below hb1, hp2.below hb1, HS.out.below hbY, fun X hX => OwnT.tsP (row7_fr (row7_below hpo hb1) hX fun b hb hc => ?_)⟩, fun D V2 h2 => ?_, fun D E pre V h => ⟨trivial, h.e⟩, fun _ _ _ _ _ h => h.elim⟩
  ·have := hPl b hc
   have := (OwnT.lt hpo b hb).1
   omega
  ·obtain ⟨fv, B', k1, k2, k3, k4, k5, k6, k7⟩ := h2
   have hs5 := k5.size
   have hnP : ∀ b, Y.heap.size <= b -> ¬ PA8 g tv mn mr B K b := fun b hb hc => by have := hPl b hc; omega
   refine ⟨⟨⟨_, fv, B', (HLB3.out.below hb1).fr k5 (hnP _ (by omega)), World.ownsRow_nil _ _ _ _, by rw [hz1] at k1; exact k1, fun b hb => (k1.lt hb).2, k2, k3, k4, fun b hb => ?_, k7⟩, (Fr.of hb1).trans k5 fun b _ h => Or.inl h, by omega, Nat.le_refl _⟩, k5.block _ (by omega) (hnP _ (by omega)), k5.block _ (by omega) (hnP _ (by omega))⟩
   have := (k4.lt hb).2
   exact (k6 b hb).imp id fun h => ⟨by omega, this⟩
 case assign =>
  rintro l mm D E pre ⟨⟨⟨xk, xi, xz⟩, xnm, xl⟩, A⟩ V0 V KK hpre h hb hle hK
  have he := h.z
  have hs := hb.size
  simp only [sl8, At.v]
  gi_wp2
  exact hK _ _ (Uq.below (below1 _ _)) ⟨V.heap.size, (h.below hPw (by omega) (by omega) hb).below hPw (by omega) (by omega) (below1 _ _), Bk.new _ _ _, by omega, rfl⟩
 case body =>
  rintro l mm D E pre x act V hpre ⟨C, hL, hC, hCE, rfl⟩ hle
  obtain ⟨lv, fv, B', h1, h2, h3, h4, h5, h6, h7, h8, h9⟩ := hL.ex
  have f0 := h1.cell (i := 0) rfl
  have fl := h1.lt
  have HLL := hm7 hL
  have HG := hm7 (And.intro h1 (And.intro h2 (And.intro h3 (And.intro h4 (And.intro h5 (And.intro h6 (And.intro h7 (And.intro h8 h9))))))))
  have hpl : pre.length <= 1000000000000 := by
   have e1 := List.IsPrefix.length_le hpre
   rw [List.length_append] at e1
   have e2 := h6.length_eq
   rw [List.length_map] at e2
   have := HFL.out
   omega
  obtain ⟨fa, fc, efv, -⟩ := row7_form h2
  subst efv
  have hE := hL.e
  have hz := hL.z
  have hCl := hC.lt
  have HCC := hm7 hC
  obtain ⟨⟨⟨xk, xi, xz⟩, xnm, xl⟩, A⟩ := x
  obtain ⟨xm, hxm⟩ : ∃ xm, xl.length = xm := ⟨_, rfl⟩
  have hC2 : Bk V C #[.int .i64 xk, .int .i64 xi, .string xz, .string xnm, .slice (some ⟨A, 0, none⟩) xm xm] 33 := by rw [<- hxm]; exact hC
  obtain ⟨⟨c0, c1⟩, c2, c3, c4⟩ := five8 hC2
  have HXM := hm7 hxm
  simp only [sl8, At.v]
  rw [hxm]
  clear hL hC hC2 h1 h2 h3 h4 h5 h6 h7 h8 h9 hxm
  gi_wp2_with (gi_at_builtin; (refine aappIn rfl _ _ rfl E (.slice fa pre.length fc) (pre.map enc8) rfl (OwnA8.a (row7_below HG.out.2.1 (below1 _ _))) V.heap.size (⟨⟨xk, xi, xz⟩, xnm, xl⟩, .slice (some ⟨A, 0, none⟩) xm xm) rfl (Bk.new _ _ _) (one8 _ _ _ _) (by rw [List.length_map]; omega) (by simp; omega) ?_); intro v2 w7 ho7 hg7 hv7; (have hk7 : Bk w7 (Y.heap.size + 1) #[.slice fa pre.length fc] 56 := (hg7.block _ (by simp; omega) (fun e => by have := (HG.out.2.1.lt _ e.symm).1; omega)).trans (HG.out.1.below (below1 _ _))); have f7 := hk7.cell (i := 0) rfl; have z7 := hk7.froz 0; have l7 := hk7.lt; have HK7 := hm7 hk7; have HH7 := hm7 (And.intro ho7 (And.intro hg7 hv7)); obtain ⟨a7, n7, e7⟩ := OwnA.form ho7; rw [List.length_append, List.length_map, List.length_singleton] at e7; subst e7; clear ho7 hg7 hv7 hk7)
  obtain ⟨ho7, hg7, hv7⟩ := HH7.out
  obtain ⟨h1, h2, h3, h4, h5, h6, h7, h8, h9⟩ := HG.out
  have hf8 : Fr (fun b => b = Y.heap.size + 1 ∨ E <= b) V w7 := ((Fr.of (below1 _ _)).trans (Q := fun b => (Value.slice fa pre.length fc).ownBlock = some b) (Fr.grown hg7 fun b e => e) fun b _ e => Or.inr (h2.lt b e).1)
  have hset : Fr (fun b => b = Y.heap.size + 1 ∨ E <= b) V (w7.setCell ⟨Y.heap.size + 1, 0, none⟩ (.slice a7 (pre.length + 1) n7)) := hf8.set (Or.inl (Or.inl rfl))
  have hnew : ∀ b, (Value.slice a7 (pre.length + 1) n7).ownBlock = some b -> E <= b := fun b hb => by
   rcases hv7 with hv | hv
   ·exact (h2.lt b (hv ▸ hb)).1
   ·rw [hv] at hb; cases hb; simp; omega
  have hPE : ∀ b, PA8 g tv mn mr B' K b -> b ≠ Y.heap.size + 1 /\ b < E := fun b hb => by
   rcases h8 b hb with q | q
   ·have := hPl b q; omega
   ·omega
  refine ⟨⟨hset.size, fun b q1 q2 q3 => hset.block b q3 (by omega)⟩, ⟨⟨_, fv, B', HK7.out.set 0 _, ?_, h3.same fun b hb => hset.block b (h3.lt hb).2 fun hc => ?_, h4, h5, h6, h7.fr hset (fun b hc _ hb => ?_) (fun b hc _ => by omega), h8, h9⟩, HLL.out.fr.trans hset fun b hl hc => ?_, hE, ?_⟩⟩
  ·have ho8 : OwnA8 w7 E (.slice a7 (pre.length + 1) n7) (pre ++ [(⟨⟨xk, xi, xz⟩, xnm, xl⟩, A)]) := by
    unfold OwnA at ho7
    unfold OwnA8 acs8
    rw [List.map_append]
    rw [<- HXM.out] at ho7
    simp only [List.length_append, List.length_map] at ho7 ⊢
    exact ho7
   exact row7 ho8 fun b hb => heap_setCell_other _ _ _ _ fun e => by
    have e' : b = Y.heap.size + 1 := e
    have := hnew b hb
    omega
  ·have := (h3.lt hb).1
   have := h4 b hb
   omega
  ·have := hPE b hb
   omega
  ·rcases hc with hc | hc
   ·exact Or.inr hc
   ·omega
  ·have := hset.size; omega
 case done =>
  rintro D E D' V rfl hL hD
  obtain ⟨lv, fv, B', h1, h2, h3, h4, h5, h6, h7, h8, h9⟩ := hL.ex
  have f0 := h1.cell (i := 0) rfl
  obtain ⟨fa, fc, efv, -⟩ := row7_form h2
  subst efv
  have HLL := hm7 hL
  have HG := hm7 (And.intro h2 (And.intro h3 (And.intro h4 (And.intro h5 (And.intro h6 (And.intro h7 (And.intro h8 h9)))))))
  have HD := hm7 hD
  have hE := hL.e
  clear h1 h2 h3 h4 h5 h6 h7 h8 h9 hL hD
  gi_wp2
  obtain ⟨h2, h3, h4, h5, h6, h7, h8, h9⟩ := HG.out
  have hfp := fr_put V W3.heap.size (.deferred none)
  have hPE : ∀ b, PA8 g tv mn mr B' K b -> b ≠ W3.heap.size /\ b < E := fun b hb => by
   rcases h8 b hb with q | q
   ·have := hPl b q; omega
   ·omega
  refine ⟨by simp, .inl ⟨_, _, rfl, run_takeDeferred HD.out, ⟨_, results_tmp rfl _ _ _, .slice fa D.length fc, D, B', rfl, ⟨row7_mono (row7 h2 fun b hb => World.putObj_heap_other (by have := (h2.lt b hb).1; omega)) (by omega), fun x hx => ?_, h3.nd⟩, h5, h6, h7.fr hfp (fun b e _ hb => (hPE b hb).1 e) (fun b e _ => by omega), ?_, fun b hb => (h8 b hb).imp id fun h => by omega, fun b hb hc => ?_⟩⟩⟩
  ·have := h3.lt (Or.inr ⟨x, hx, rfl⟩)
   exact ⟨(h3.t x hx).1.same8 (World.putObj_heap_other (by omega)), by omega, (h3.t x hx).2.2⟩
  ·refine (((Fr.of HB3.out).trans HLL.out.fr fun b hl hb => ?_).trans hfp fun b hl e => by omega)
   rcases hb with hb | hb
   ·exact hb
   ·omega
  ·rcases hb with hb | hb
   ·have := (h2.lt b hb).1
    have := (hPE b hc).2
    omega
   ·exact h9 b (Or.inr hb) hc
theorem lfound8_any (w0 : World) (g : Nat) (tv : Value) (mn mr : Nat) (ga : Pd -> Nat) (B : Pd -> Nat -> Prop) (m : Nat) (T : List Tm) (K : List Pd) (s : Pd -> St7) (parts : Int) (a : At) (x : Value) (Y : World) (h : BS w0 g tv mn mr ga B m T K s Y) (hx : TsP Y x a.args) (hk : ∀ t ∈ a.pl, t.var = false -> KeyT t) (hkp : KeyP a.pd8) (hl : a.pl.length <= 1000000000) (hm : m <= 100000000000000)
  (hrow : a.pd8 ∈ K -> ∀ r ∈ (s a.pd8).rows, RowOf T a.name a.args.length r) (hfl : (fo8 T K s parts a).length <= 1000000000000) :
  Calls Tryz.prog 26 #[.pointer (some ⟨g, 0, none⟩), .int .i64 parts, a.v x] Y (FQ8 w0 g tv mn mr ga B (m + 1) T K s (fo8 T K s parts a) Y) := by
 obtain ⟨ax, cx, rfl⟩ := hx.shape
 exact lfound8_go w0 g tv mn mr ga B m T K s parts a _ _ _ _ _ rfl rfl rfl rfl rfl ax cx Y h hx hk hkp hl hm hrow hfl
end Go.Proofs.YtechceagghcipabGreatDoor
