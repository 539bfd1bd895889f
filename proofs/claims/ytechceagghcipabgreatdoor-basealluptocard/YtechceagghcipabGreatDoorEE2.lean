import Derived.Test.YtechceagghcipabGreatDoorEC9
import Derived.Test.YtechceagghcipabGreatDoorEB8
import Derived.Test.YtechceagghcipabGreatDoorB2
namespace Go.Proofs.YtechceagghcipabGreatDoor
open Go.RowKit
attribute [local go_sem ↓] Go.wp_at_zero Go.wp_at_succ
theorem lit8 (w : World) : OwnT (w.alloc (.cells #[] 30)) w.heap.size (.slice (some ⟨w.heap.size, 0, none⟩) 0 0) [] :=
 ⟨rfl, Or.inr ⟨w.heap.size, 0, #[], rfl, Nat.le_refl _, heap_alloc_new _ _, Nat.le_refl _, by simp [maxLen], by simp, by simp [tcs]⟩⟩
set_option maxRecDepth 20000 in
set_option maxHeartbeats 1000000 in
theorem clone8_any (v : Value) (l : List Tm) (w : World) (h : TsP w v l) (hl : l.length <= 100000000000) :
  Calls Tryz.prog 87 #[v] w fun e w' => ∃ v', e = .returned v' /\ OwnT w' w.heap.size v' l /\ Below w.heap.size w w' := by
 have H := hm7 h
 have qT : ∀ (w : World) (a : Option Addr) (n c n' c' : Nat), (binOp .eql 31 (.slice a n c) (.slice none n' c')).run Tryz.prog w = .ok (.bool a.isNone) w := fun w a n c n' c' => Go.Lib.run_eql_slice_nil w 31 30 a n c n' c' Tryz.underlying31
 rcases h with ⟨rfl, rfl⟩ | ⟨ad, cap, rfl, -⟩
 ·go_enter Tryz.func87, Tryz.ntmps87
  go_wp2
  go_ret
  exact ⟨.slice none 0 0, rfl, World.ownsRow_nil _ _ _ _, Below.refl _ _⟩
 ·obtain ⟨n, hn⟩ : ∃ n, n = l.length := ⟨_, rfl⟩
  have HN := hm7 hn
  rw [<- hn] at H ⊢
  clear hn
  go_enter Tryz.func87, Tryz.ntmps87
  go_wp2_with (at_builtin; refine app_terms rfl _ _ rfl w.heap.size (.slice (some ⟨w.heap.size, 0, none⟩) 0 0) [] rfl (lit8 w) _ l rfl (H.out.later (below1 _ _)) (by simp; omega) (by simp) ?_; intro v' w' ho hb hg; have HO := hm7 ho; have HB := hm7 hb; clear ho hb hg)
  go_ret
  exact ⟨v', rfl, by have := HO.out; rw [List.nil_append] at this; exact this, (below1 _ _).trans HB.out⟩
end Go.Proofs.YtechceagghcipabGreatDoor
namespace Go.Proofs.YtechceagghcipabGreatDoor
open Go.RowKit
attribute [local go_sem ↓] Go.wp_at_zero Go.wp_at_succ
structure FB8 (g : Nat) (parts : Int) (a : At) (Y Y' : World) : Prop where
 b0 : Bk Y' Y.heap.size #[.pointer (some ⟨g, 0, none⟩)] 25
 b1 : Bk Y' (Y.heap.size + 1) #[.int .i64 parts] 3
 b2 : ∃ v, Bk Y' (Y.heap.size + 2) #[.int .i64 a.by_.k, .int .i64 a.by_.n, .string a.by_.s, .string a.name, v] 33 /\ OwnT Y' Y.heap.size v a.args
 b : Below Y.heap.size Y Y'
theorem three9 (w : World) (c0 c1 c2 : Array Value) (t0 t1 t2 : TypeId) : Bk (((w.alloc (.cells c0 t0)).alloc (.cells c1 t1)).alloc (.cells c2 t2)) w.heap.size c0 t0 /\ Bk (((w.alloc (.cells c0 t0)).alloc (.cells c1 t1)).alloc (.cells c2 t2)) (w.heap.size + 1) c1 t1 /\ Bk (((w.alloc (.cells c0 t0)).alloc (.cells c1 t1)).alloc (.cells c2 t2)) (w.heap.size + 2) c2 t2 /\ Below w.heap.size w (((w.alloc (.cells c0 t0)).alloc (.cells c1 t1)).alloc (.cells c2 t2)) := by
 obtain ⟨h1, h2, h3⟩ := three8 w c0 c1 c2 t0 t1 t2
 exact ⟨((Bk.new _ _ _).below (below1 _ _)).below (below1 _ _), h2, h1, h3⟩
set_option maxRecDepth 20000 in
set_option maxHeartbeats 1000000 in
theorem bfind8_any (g : Nat) (parts : Int) (a : At) (x : Value) (Y : World) (hx : TsP Y x a.args) (hl : a.args.length <= 100000000000) :
  Calls Tryz.prog 55 #[.pointer (some ⟨g, 0, none⟩), .int .i64 parts, a.v x] Y fun e Y' => e = .returned (.func (.func 88) #[] #[.pointer (some ⟨Y.heap.size, 0, none⟩), .pointer (some ⟨Y.heap.size + 1, 0, none⟩), .pointer (some ⟨Y.heap.size + 2, 0, none⟩)]) /\ FB8 g parts a Y Y' := by
 obtain ⟨ax, cx, rfl⟩ := hx.shape
 have HT : Hid (Bk _ _ _ _ /\ Bk _ _ _ _ /\ Bk _ _ _ _ /\ Below _ _ _) := three9 Y #[.pointer (some ⟨g, 0, none⟩)] #[.int .i64 parts] #[.int .i64 a.by_.k, .int .i64 a.by_.n, .string a.by_.s, .string a.name, .slice ax a.args.length cx] 25 3 33
 have HC : Hid (∀ X : World, Below Y.heap.size Y X -> Calls Tryz.prog 87 #[.slice ax a.args.length cx] X fun e w' => ∃ v', e = .returned v' /\ OwnT w' X.heap.size v' a.args /\ Below X.heap.size X w') := fun X hX => clone8_any _ _ X (hx.later hX) hl
 obtain ⟨⟨q0, q1⟩, q2, q3, q4⟩ := five8 HT.out.2.2.1
 clear hx
 obtain ⟨⟨k, i, z⟩, nm, l⟩ := a
 go_enter Tryz.func55, Tryz.ntmps55
 go_wp2_with (go_at_call 87; refine (HC.out _ HT.out.2.2.2).mono ?_; clear HC; rintro e w1 ⟨v, rfl, ho, hb⟩; have HO := hm7 ho; have HB := hm7 hb; obtain ⟨⟨q0, q1⟩, q2, q3, q4⟩ := five8 (HT.out.2.2.1.below hb); have f4 := (HT.out.2.2.1.below hb).froz 4; have xl := (HT.out.2.2.1.below hb).lt; obtain ⟨va, vc, ev, -⟩ := row7_form ho; subst ev; clear ho hb)
 go_ret
 refine ⟨rfl, ⟨(HT.out.1.below HB.out).off (by omega), (HT.out.2.1.below HB.out).off (by omega), ⟨_, (HT.out.2.2.1.below HB.out).set 4 _, ?_⟩, (below_step HT.out.2.2.2 HB.out).setCell (p := ⟨Y.heap.size + 2, 4, none⟩) (by simp) _⟩⟩
 refine row7_mono (row7 HO.out fun b hb => heap_setCell_other _ _ _ _ fun e => ?_) (by simp; omega)
 have := (HO.out.lt b hb).1
 have e' : b = Y.heap.size + 1 + 1 := e
 simp at this
 omega
end Go.Proofs.YtechceagghcipabGreatDoor
namespace Go.Proofs.YtechceagghcipabGreatDoor
open Go.RowKit
attribute [local go_sem ↓] Go.wp_at_zero Go.wp_at_succ
structure HV8 (g : Nat) (nm : ByteArray) (n : Nat) (parts : Int) (cv kv : Value) (b : Nat) (Y' : World) : Prop where
 b0 : Bk Y' b #[.pointer (some ⟨g, 0, none⟩)] 25
 b1 : Bk Y' (b + 1) #[.string nm, .int .i64 (n : Int)] 72
 b2 : Bk Y' (b + 2) #[.int .i64 parts] 3
 b3 : Bk Y' (b + 3) #[cv] 67
 b4 : Bk Y' (b + 4) #[kv] 67
theorem HV8.below {g : Nat} {nm : ByteArray} {n : Nat} {parts : Int} {cv kv : Value} {b : Nat} {Y Y' : World} (h : HV8 g nm n parts cv kv b Y) (hb : Below Y.heap.size Y Y') : HV8 g nm n parts cv kv b Y' := ⟨h.b0.below hb, h.b1.below hb, h.b2.below hb, h.b3.below hb, h.b4.below hb⟩
def hav8 (b : Nat) : Value := .func (.func 76) #[] #[.pointer (some ⟨b, 0, none⟩), .pointer (some ⟨b + 1, 0, none⟩), .pointer (some ⟨b + 2, 0, none⟩), .pointer (some ⟨b + 3, 0, none⟩), .pointer (some ⟨b + 4, 0, none⟩)]
set_option maxRecDepth 20000 in
set_option maxHeartbeats 1000000 in
theorem having8_any (g : Nat) (nm : ByteArray) (n : Nat) (parts : Int) (ca ka : Option Addr) (cn cc kn kc : Nat) (Y : World) :
  Calls Tryz.prog 45 #[.pointer (some ⟨g, 0, none⟩), .agg #[.string nm, .int .i64 (n : Int)], .int .i64 parts, .slice ca cn cc, .slice ka kn kc] Y fun e Y' => e = .returned (hav8 Y.heap.size) /\ HV8 g nm n parts (.slice ca cn cc) (.slice ka kn kc) Y.heap.size Y' /\ Below Y.heap.size Y Y' := by
 go_enter Tryz.func45, Tryz.ntmps45
 go_wp2
 go_ret
 obtain ⟨h0, h1, h2, hb⟩ := three9 Y #[.pointer (some ⟨g, 0, none⟩)] #[.string nm, .int .i64 (n : Int)] #[.int .i64 parts] 25 72 3
 generalize hW : (((Y.alloc (.cells #[.pointer (some ⟨g, 0, none⟩)] 25)).alloc (.cells #[.string nm, .int .i64 (n : Int)] 72)).alloc (.cells #[.int .i64 parts] 3)) = W at *
 have hz : W.heap.size = Y.heap.size + 3 := by rw [<- hW]; simp
 obtain ⟨h4, h3, hb2⟩ := two8 W #[.slice ca cn cc] #[.slice ka kn kc] 67 67
 rw [hz] at h3 h4
 exact ⟨rfl, ⟨h0.below hb2, h1.below hb2, h2.below hb2, h3, h4⟩, below_step hb hb2⟩
end Go.Proofs.YtechceagghcipabGreatDoor
namespace Go.Proofs.YtechceagghcipabGreatDoor
open Go.RowKit
def SeqG {α : Type} (P : Program) (g : Nat) (lb : Array Value) (own : World -> Nat -> Value -> α -> Prop) (xs : List α) (D0 : World -> Prop) (Eff : World -> Nat -> World -> Prop) (K : World -> World -> Prop) : Prop :=
 ∀ (n l : Nat) (J Jx : Nat -> Nat -> List α -> World -> Prop) (W : World), D0 W -> (∀ D W1, Eff W D W1 -> J D W1.heap.size [] W1) -> (∀ D E pre W1, J D E pre W1 ∨ Jx D E pre W1 -> K W W1) →
  (∀ D E pre W1 k o, k = D ∨ k = D + 1 -> J D E pre W1 -> J D E pre (W1.putObj k o)) -> (∀ D E pre W1 k o, k = D ∨ k = D + 1 -> Jx D E pre W1 -> Jx D E pre (W1.putObj k o)) →
  (∀ (m D E : Nat) pre x v W0 W1, J D E pre W0 -> pre ++ [x] <+: xs -> Below W0.heap.size W0 W1 -> own W1 W0.heap.size v x -> YieldAt Fence.wide m P l #[v] W1 fun e W' =>
   (e = .returned (.bool true) /\ J D E (pre ++ [x]) W' /\ Uq W.heap.size E W1 W') ∨ (e = .returned (.bool false) /\ Jx D E (pre ++ [x]) W' /\ Uq W.heap.size E W1 W')) →
  CallsIn Fence.wide n P g (#[.func (.yield l) #[] #[]] ++ lb) W fun e W' => (∃ v, e = .returned v) /\ ∃ D E, J D E xs W' ∨ ∃ pre, pre <+: xs /\ Jx D E pre W'
def seqPostG {α : Type} (B E : Nat) (I : List α -> World -> Prop) (Ix : Code -> List α -> World -> Prop) (xs : List α) (W : World) : Exit -> Act -> World -> Prop
 | .normal, _, W' => Uq B E W W' /\ I xs W'
 | .ret, _, W' => Uq B E W W' /\ Ix .ret xs W'
 | .exit id, _, W' => Uq B E W W' /\ Ix (.exit id) xs W'
 | .goto t, _, W' => Uq B E W W' /\ Ix (.goto t) xs W'
 | .panic _, _, _ => False
 | .outgrown, _, _ => False
variable {n : Nat} {P : Program}
theorem wpIn_seqG {α : Type} {g : Operand} {ps : Array Tmp} {assign body : Code} {Q : Exit -> Act -> World -> Prop} {a : Act} {w : World}
  {gf : Nat} {lb : Array Value} (hg : a.eval g = .func (.func gf) #[] lb) (eg : ∀ args w, (callFunc gf args).run P w = .ok (.enter gf args) w)
  {xs : List α} {D0 : World -> Prop} {own : World -> Nat -> Value -> α -> Prop} {Eff : World -> Nat -> World -> Prop} {Kp : World -> World -> Prop} (hseq : SeqG P gf lb own xs D0 Eff Kp) (hps : 1 = ps.size)
  (I : Nat -> Nat -> List α -> World -> Prop) (Ix : Nat -> Nat -> Code -> List α -> World -> Prop) (hI : ∀ D E s W k o, k = D ∨ k = D + 1 ∨ k = w.heap.size + 1 -> I D E s W -> I D E s (W.putObj k o)) (hIx : ∀ D E c s W k o, k = D ∨ k = D + 1 ∨ k = w.heap.size + 1 -> Ix D E c s W -> Ix D E c s (W.putObj k o))
  (hD : ∀ W1, Below w.heap.size w W1 -> W1.heap.size = w.heap.size + 2 -> D0 W1 /\ (∀ D W2, Eff W1 D W2 -> I D W2.heap.size [] W2 /\ w.heap.size + 2 <= D /\ W2.heap[w.heap.size]? = W1.heap[w.heap.size]? /\ W2.heap[w.heap.size + 1]? = W1.heap[w.heap.size + 1]?) /\ (∀ D E pre W2, I D E pre W2 -> Kp W1 W2 /\ w.heap.size + 2 <= E) /\ ∀ D E c pre W2, Ix D E c pre W2 -> Kp W1 W2)
  (Ax : Nat -> Nat -> List α -> α -> Value -> Act -> World -> Prop) (hAx : ∀ D E pre x v a' W o, Ax D E pre x v a' W -> Ax D E pre x v a' (W.putObj (w.heap.size + 1) o))
  (hassign : ∀ (l m D E : Nat) (pre : List α) (x : α) (v : Value) (W0 W : World) (K : Act -> World -> Prop), pre ++ [x] <+: xs -> I D E pre W0 -> Below W0.heap.size W0 W -> own W W0.heap.size v x -> w.heap.size <= W.heap.size -> (∀ a' W', Uq w.heap.size E W W' -> Ax D E pre x v a' W' -> K a' W') →
   assign.wpIn (Fence.wide.inRound l) m P (Exit.then K (fun _ _ _ => False)) { tmps := (ps.zip #[v]).foldl (fun t (p, v) => t.setIfInBounds p v) a.tmps, defers := [] } W)
  (hbody : ∀ (l m D E : Nat) (pre : List α) (x : α) (v : Value) (a' : Act) (W : World), pre ++ [x] <+: xs -> Ax D E pre x v a' W -> w.heap.size <= W.heap.size -> body.wpIn (Fence.wide.inRound l) m P (seqPostG w.heap.size E (I D E) (Ix D E) (pre ++ [x]) W) a' W)
  (hdone : ∀ (D0 E D : Nat) (W : World), D = w.heap.size -> I D0 E xs W -> W.heap[D]? = some (.deferred (some [])) -> Q .normal { a with defers := { target := .collected D, args := #[] } :: a.defers } W)
  (hstop : ∀ (D0 E D : Nat) (c : Code) (pre : List α) (W : World), D = w.heap.size -> pre <+: xs -> Ix D0 E c pre W -> W.heap[D]? = some (.deferred (some [])) -> c.wpIn Fence.wide n P Q { a with defers := { target := .collected D, args := #[] } :: a.defers } W) :
  (Code.rangeFunc g ps assign body).wpIn Fence.wide n P Q a w := by
 refine wpIn_rangeFunc fun fn hfn => ?_
 obtain ⟨rec, hrec⟩ : ∃ rec : LoopState -> Option Code -> Loop, rec = fun st pe => { state := st, pending := pe, fn, tmps := a.tmps, params := ps, assign, body, defers := w.heap.size } := ⟨_, rfl⟩
 obtain ⟨W1, hW1⟩ : ∃ W1, (w.alloc (.deferred (some []))).alloc (.loop (rec .ready none)) = W1 := ⟨_, rfl⟩
 have hz1 : W1.heap.size = w.heap.size + 2 := by rw [<- hW1]; simp
 have hL1 : W1.heap[w.heap.size + 1]? = some (.loop (rec .ready none)) := by
  rw [<- hW1]; have := World.alloc_heap_new (w.alloc (.deferred (some []))) (.loop (rec .ready none)); rwa [World.size_alloc] at this
 have hK1 : W1.heap[w.heap.size]? = some (.deferred (some [])) := by
  rw [<- hW1]; exact (Below.heap_alloc _ _ _ (by simp)).trans (World.alloc_heap_new w _)
 have hB1 : Below w.heap.size w W1 := by rw [<- hW1]; exact below2 _ _ _
 obtain ⟨hD0, hEff, hKp, hKx⟩ := hD W1 hB1 hz1
 refine ⟨w.heap.size + 1, [{ target := .collected w.heap.size, args := #[] }], W1, { target := .fn (.func gf) lb, args := #[.func (.yield (w.heap.size + 1)) #[] #[]] }, W1, gf,
  #[.func (.yield (w.heap.size + 1)) #[] #[]] ++ lb, W1, ?_, ?_, ?_, ?_, ?_, ?_⟩
 ·rw [<- hW1, hrec]; exact run_enterLoop_outer _ _ _ _ _
 ·simp only [resolve, hg]
  simp [go_sem]
 ·intro f' _; trivial
 ·simp [invoke, go_sem, eg]
 ·intro h; cases h
 ·refine (hseq (n - 1) (w.heap.size + 1)
   (fun D E pre W => I D E pre W /\ w.heap.size + 2 <= D /\ W.heap[w.heap.size + 1]? = some (.loop (rec .ready none)) /\ W.heap[w.heap.size]? = some (.deferred (some [])))
   (fun D E pre W => ∃ c, Ix D E c pre W /\ w.heap.size + 2 <= D /\ W.heap[w.heap.size + 1]? = some (.loop (rec .done (some c))) /\ W.heap[w.heap.size]? = some (.deferred (some [])))
   W1 hD0 (fun D W2 h2 => ⟨(hEff D W2 h2).1, (hEff D W2 h2).2.1, (hEff D W2 h2).2.2.2.trans hL1, (hEff D W2 h2).2.2.1.trans hK1⟩) (fun D E pre X h => h.elim (fun h => (hKp D E pre X h.1).1) fun ⟨c, h⟩ => hKx D E c pre X h.1)
   (fun D E pre X k o hk h => ⟨hI D E pre X k o (by omega) h.1, h.2.1, (World.putObj_heap_other (by have := h.2.1; omega)).trans h.2.2.1, (World.putObj_heap_other (by have := h.2.1; omega)).trans h.2.2.2⟩)
   (fun D E pre X k o hk ⟨c, h⟩ => ⟨c, hIx D E c pre X k o (by omega) h.1, h.2.1, (World.putObj_heap_other (by have := h.2.1; omega)).trans h.2.2.1, (World.putObj_heap_other (by have := h.2.1; omega)).trans h.2.2.2⟩)
   ?_).mono ?_
  ·-- a round
   rintro m D E pre x v W0 W ⟨hi0, hDw, hl0, hk0⟩ hpre hb0 hown
   have hE2 := (hKp D E pre W0 hi0).2
   have hl : W.heap[w.heap.size + 1]? = some (.loop (rec .ready none)) := (hb0.block _ (Array.getElem?_eq_some_iff.1 hl0).1).trans hl0
   have hk : W.heap[w.heap.size]? = some (.deferred (some [])) := (hb0.block _ (Array.getElem?_eq_some_iff.1 hk0).1).trans hk0
   have hy := run_yield (P := P) (args := #[v]) hl (by rw [hrec]; exact hps)
   rw [hrec] at hy
   have hlt0 : w.heap.size + 1 < W.heap.size := (Array.getElem?_eq_some_iff.1 hl).1
   refine ⟨fn, _, assign, body, hy, roundIn_of_wpIn hfn (hassign _ _ D E pre x v W0 W _ hpre hi0 hb0 hown (by omega) ?_)⟩
   clear hy
   intro a' Wa hua hax
   have hla := (hua.same _ (by omega) (by omega) (Array.getElem?_eq_some_iff.1 hl).1).trans hl
   have hka := (hua.same _ (Nat.le_refl _) (by omega) (Array.getElem?_eq_some_iff.1 hk).1).trans hk
   have hlt : w.heap.size + 1 < Wa.heap.size := (Array.getElem?_eq_some_iff.1 hla).1
   refine ⟨_, run_beginRound hla (by rw [hrec]), ?_⟩
   obtain ⟨Wb, hWb⟩ : ∃ Wb, Wa.putObj (w.heap.size + 1) (.loop { rec .ready none with state := .busy }) = Wb := ⟨_, rfl⟩
   have hlb : Wb.heap[w.heap.size + 1]? = some (.loop { rec .ready none with state := .busy }) := by rw [<- hWb]; exact World.putObj_heap_same hlt
   have hkb : Wb.heap[w.heap.size]? = some (.deferred (some [])) := by rw [<- hWb]; exact (World.putObj_heap_other (by omega)).trans hka
   have hub : Uq W1.heap.size E Wa Wb := by rw [<- hWb]; exact Uq.putObj _ (by omega)
   have haxb : Ax D E pre x v a' Wb := by rw [<- hWb]; exact hAx D E pre x v a' _ _ hax
   have hzb : Wb.heap.size = Wa.heap.size := by rw [<- hWb]; simp
   rw [hWb]
   refine wpIn_mono (hbody _ _ D E pre x v a' Wb hpre haxb (by omega)) ?_
   have fin : ∀ (jump : Option Code) (W3 : World), Uq w.heap.size E Wb W3 →
     (Instr.endRound (w.heap.size + 1) jump).run P W3 = .ok (.bool jump.isNone) (W3.putObj (w.heap.size + 1) (.loop (rec (if jump.isNone then .ready else .done) jump))) ∧
     W3.heap[w.heap.size + 1]? = some (.loop { rec .ready none with state := .busy }) ∧
     (W3.putObj (w.heap.size + 1) (.loop (rec (if jump.isNone then .ready else .done) jump))).heap[w.heap.size + 1]? = some (.loop (rec (if jump.isNone then .ready else .done) jump)) ∧
     (W3.putObj (w.heap.size + 1) (.loop (rec (if jump.isNone then .ready else .done) jump))).heap[w.heap.size]? = some (.deferred (some [])) := fun jump W3 hu3 => by
    have hl3 := (hu3.same _ (by omega) (by omega) (Array.getElem?_eq_some_iff.1 hlb).1).trans hlb
    have hk3 := (hu3.same _ (Nat.le_refl _) (by omega) (Array.getElem?_eq_some_iff.1 hkb).1).trans hkb
    have := run_endRound (P := P) jump hl3
    rw [hrec] at this ⊢
    exact ⟨this, by rw [hrec] at hl3; exact hl3, World.putObj_heap_same (Array.getElem?_eq_some_iff.1 hl3).1, (World.putObj_heap_other (by omega)).trans hk3⟩
   rintro e a3 W3 hp
   cases e with
   | normal =>
    obtain ⟨hu3, hi3⟩ := hp
    obtain ⟨hr, hl3, hl4, hk4⟩ := fin none W3 hu3
    exact ⟨_, _, hr, .inl ⟨rfl, ⟨hI D E _ _ _ _ (Or.inr (Or.inr rfl)) hi3, hDw, hl4, hk4⟩, (hua.mono (by omega)).trans (hub.trans ((hu3.mono (by omega)).trans (Uq.putObj _ (by omega))))⟩⟩
   | ret =>
    obtain ⟨hu3, hi3⟩ := hp
    obtain ⟨hr, hl3, hl4, hk4⟩ := fin (some .ret) W3 hu3
    exact ⟨_, _, hr, .inr ⟨rfl, ⟨.ret, hIx D E _ _ _ _ _ (Or.inr (Or.inr rfl)) hi3, hDw, hl4, hk4⟩, (hua.mono (by omega)).trans (hub.trans ((hu3.mono (by omega)).trans (Uq.putObj _ (by omega))))⟩⟩
   | exit id =>
    obtain ⟨hu3, hi3⟩ := hp
    obtain ⟨hr, hl3, hl4, hk4⟩ := fin (some (.exit id)) W3 hu3
    exact ⟨_, _, hr, .inr ⟨rfl, ⟨.exit id, hIx D E _ _ _ _ _ (Or.inr (Or.inr rfl)) hi3, hDw, hl4, hk4⟩, (hua.mono (by omega)).trans (hub.trans ((hu3.mono (by omega)).trans (Uq.putObj _ (by omega))))⟩⟩
   | goto t =>
    obtain ⟨hu3, hi3⟩ := hp
    obtain ⟨hr, hl3, hl4, hk4⟩ := fin (some (.goto t)) W3 hu3
    exact ⟨_, _, hr, .inr ⟨rfl, ⟨.goto t, hIx D E _ _ _ _ _ (Or.inr (Or.inr rfl)) hi3, hDw, hl4, hk4⟩, (hua.mono (by omega)).trans (hub.trans ((hu3.mono (by omega)).trans (Uq.putObj _ (by omega))))⟩⟩
   | panic ch => exact hp.elim
   | outgrown => exact hp.elim
  ·-- behind the iterator
   rintro e W2 ⟨⟨v, rfl⟩, D, E, (⟨hi, hDw, hl, hk⟩ | ⟨pre, hpre, c, hi, hDw, hl, hk⟩)⟩
   ·exact ⟨none, _, by have := run_endLoop (P := P) hl (by rw [hrec]; simp); rw [hrec] at this; exact this, hdone D E _ _ rfl (hI D E _ _ _ _ (Or.inr (Or.inr rfl)) hi) ((World.putObj_heap_other (by omega)).trans hk)⟩
   ·exact ⟨some c, _, by have := run_endLoop (P := P) hl (by rw [hrec]; simp); rw [hrec] at this; exact this, hstop D E _ c pre _ rfl hpre (hIx D E c _ _ _ _ (Or.inr (Or.inr rfl)) hi) ((World.putObj_heap_other (by omega)).trans hk)⟩
end Go.Proofs.YtechceagghcipabGreatDoor
namespace Go.Proofs.YtechceagghcipabGreatDoor
open Go.RowKit Go.Shelf
def postJ (B E : Nat) (J Jx : List (List Int) -> World -> Prop) (xs : List (List Int)) (W : World) : Exit -> Act -> World -> Prop
 | .normal, _, W' => Uq B E W W' /\ J xs W'
 | .ret, _, W' => Uq B E W W' /\ Jx xs W'
 | _, _, _ => False
theorem below_put8 {W0 X : World} {k : Nat} (hb : Below W0.heap.size W0 X) (hk : k < W0.heap.size) (o : Obj) : Below (W0.putObj k o).heap.size (W0.putObj k o) (X.putObj k o) := by
 have hs := hb.size
 refine ⟨hb.os, hb.tape, hb.output, by simpa using hs, fun j hj => ?_⟩
 have hj' : j < W0.heap.size := by simpa using hj
 by_cases e : j = k
 ·subst e
  rw [World.putObj_heap_same (by omega), World.putObj_heap_same hk]
 ·rw [World.putObj_heap_other e, World.putObj_heap_other e]
  exact hb.block j hj'
section
variable {n : Nat}
set_option maxHeartbeats 1000000 in
theorem range_coreJ {gop : Operand} {ps : Array Tmp} {assign body : Code} {Q : Exit -> Act -> World -> Prop} {a : Act} {w W : World} {b1 b2 b3 b4 b5 : Nat}
  (hg : a.eval gop = fnd7 b1 b2 b3 b4 b5) (hps : 1 = ps.size) (hWw : W.heap.size <= w.heap.size)
  {xs : List (List Int)} (hxw : ∀ x ∈ xs, w64 x) {D0 : World -> Prop} {Eff Kp : World -> World -> Prop} (hseq : SeqX Tryz.prog 104 #[.pointer (some ⟨b1, 0, none⟩), .pointer (some ⟨b2, 0, none⟩), .pointer (some ⟨b3, 0, none⟩), .pointer (some ⟨b4, 0, none⟩), .pointer (some ⟨b5, 0, none⟩)] xs D0 Eff Kp)
  (J Jx : Nat -> List (List Int) -> World -> Prop)
  (hD : ∀ W1, Below w.heap.size w W1 -> W1.heap.size = w.heap.size + 2 -> D0 W1 /\ (∀ W2, Eff W1 W2 -> J W2.heap.size [] W2 /\ w.heap.size + 2 <= W2.heap.size /\ ∀ k, W.heap.size <= k -> k < w.heap.size + 2 -> W2.heap[k]? = W1.heap[k]?) /\ ∀ E pre W2, J E pre W2 -> (∀ k, W.heap.size <= k -> k < w.heap.size -> W2.heap[k]? = w.heap[k]?) -> Kp W1 W2)
  (hJ : ∀ E pre W1 k o, k = w.heap.size ∨ k = w.heap.size + 1 -> J E pre W1 -> J E pre (W1.putObj k o)) (hJx : ∀ E pre W1 k o, k = w.heap.size ∨ k = w.heap.size + 1 -> Jx E pre W1 -> Jx E pre (W1.putObj k o)) (A0 : Value -> Act)
  (hassign : ∀ (l mm : Nat) (v : Value) (W : World) (K : Act -> World -> Prop), (∃ a n c, v = .slice a n c) -> K (A0 v) W -> assign.wpIn (Fence.wide.inRound l) mm Tryz.prog (Exit.then K (fun _ _ _ => False)) { tmps := (ps.zip #[v]).foldl (fun t (p, v) => t.setIfInBounds p v) a.tmps, defers := [] } W)
  (hbody : ∀ (l mm E : Nat) (pre : List (List Int)) (x : List Int) (v : Value) (W0 W1 : World), pre ++ [x] <+: xs -> J E pre W0 -> (∀ k, W.heap.size <= k -> k < w.heap.size -> W0.heap[k]? = w.heap[k]?) -> Below W0.heap.size W0 W1 -> w.heap.size + 2 <= E -> w.heap.size + 2 <= W0.heap.size -> Li (fun b => W0.heap.size <= b) W1 v x -> body.wpIn (Fence.wide.inRound l) mm Tryz.prog (postJ W.heap.size E (J E) (Jx E) (pre ++ [x]) W1) (A0 v) W1)
  (hdone : ∀ (E : Nat) (W2 : World), J E xs W2 -> W2.heap[w.heap.size]? = some (.deferred (some [])) -> Q .normal { a with defers := { target := .collected w.heap.size, args := #[] } :: a.defers } W2)
  (hstop : ∀ (E : Nat) (pre : List (List Int)) (W2 : World), pre <+: xs -> Jx E pre W2 -> W2.heap[w.heap.size]? = some (.deferred (some [])) -> Code.ret.wpIn Fence.wide n Tryz.prog Q { a with defers := { target := .collected w.heap.size, args := #[] } :: a.defers } W2) :
  (Code.rangeFunc gop ps assign body).wpIn Fence.wide n Tryz.prog Q a w := by
 refine wpIn_seqX (gf := 104) (lb := #[.pointer (some ⟨b1, 0, none⟩), .pointer (some ⟨b2, 0, none⟩), .pointer (some ⟨b3, 0, none⟩), .pointer (some ⟨b4, 0, none⟩), .pointer (some ⟨b5, 0, none⟩)]) hg (enters_of Tryz.func104 (by kernel_rfl) rfl) hseq hps
  (fun E pre X => J E pre X /\ (∀ k, W.heap.size <= k -> k < w.heap.size -> X.heap[k]? = w.heap[k]?) /\ w.heap.size + 2 <= E /\ w.heap.size + 2 <= X.heap.size)
  (fun E c pre X => c = .ret /\ Jx E pre X) ?ownI ?ownX ?start
  (fun E pre x v act X => (∃ W0, J E pre W0 /\ (∀ k, W.heap.size <= k -> k < w.heap.size -> W0.heap[k]? = w.heap[k]?) /\ Below W0.heap.size W0 X /\ w.heap.size + 2 <= W0.heap.size /\ Li (fun b => W0.heap.size <= b) X v x) /\ w.heap.size + 2 <= E /\ act = A0 v)
  ?ownA ?assign ?body ?done ?stop
 case ownI =>
  rintro E pre X o o' ⟨h1, h2, h3, h4⟩ _ _
  exact ⟨hJ E pre X _ _ (Or.inr rfl) h1, fun k hk hl => (World.putObj_heap_other (by omega)).trans (h2 k hk hl), h3, by simpa using h4⟩
 case ownX =>
  rintro E c pre X o o' ⟨h1, h2⟩ _ _
  exact ⟨h1, hJx E pre X _ _ (Or.inr rfl) h2⟩
 case ownA =>
  rintro E pre x v act _ X o o' ⟨⟨W0, h1, h2, h3, h4, h5⟩, h6, h7⟩ _ _
  refine ⟨⟨W0.putObj (w.heap.size + 1) o', hJ E pre W0 _ _ (Or.inr rfl) h1, fun k hk hl => (World.putObj_heap_other (by omega)).trans (h2 k hk hl), below_put8 h3 (by omega) _, by simpa using h4, ?_⟩, h6, h7⟩
  refine (h5.same (w' := X.putObj (w.heap.size + 1) o') (by simp) fun b hb _ => World.putObj_heap_other (by omega)).mono fun b _ hb => by simpa using hb
 case start =>
  intro W1 hb1 hz1
  obtain ⟨k1, k2, k3⟩ := hD W1 hb1 hz1
  refine ⟨k1, fun W2 h2 => ?_, fun E pre W2 h => ⟨k3 E pre W2 h.1 h.2.1, h.2.2.1⟩⟩
  obtain ⟨q1, q2, q3⟩ := k2 W2 h2
  exact ⟨⟨q1, fun k hk hl => (q3 k hk (by omega)).trans (hb1.block k hl), q2, q2⟩, q2, q3 _ hWw (by omega), q3 _ (by omega) (by omega)⟩
 case assign =>
  rintro l mm E pre x v W0 X K hpre ⟨h1, h2, h3, h4⟩ hb0 hown hle hK
  have hli := (OwI.li hown (hxw x (hpre.subset (by simp)))).mono (G := fun b => W0.heap.size <= b) fun b _ hb => hb.1
  refine hassign l mm v X K ?_ (hK _ _ (Uq.refl _ _ _) ⟨⟨W0, h1, h2, hb0, h4, hli⟩, h3, rfl⟩)
  obtain ⟨a, c, e, -⟩ := hli; exact ⟨_, _, _, e⟩
 case body =>
  rintro l mm E pre x v act X hpre ⟨⟨W0, h1, h2, h3, h4, h5⟩, h6, rfl⟩ hle
  refine wpIn_mono (hbody l mm E pre x v W0 X hpre h1 h2 h3 h6 h4 h5) ?_
  have hX : w.heap.size + 2 <= X.heap.size := Nat.le_trans h4 h3.size
  have hkx : ∀ k, W.heap.size <= k -> k < w.heap.size -> X.heap[k]? = w.heap[k]? := fun k hk hl => (h3.block k (by omega)).trans (h2 k hk hl)
  rintro e a3 W3 hp
  cases e with
  | normal => exact ⟨hp.1.mono hWw, hp.2, fun k hk hl => (hp.1.same k hk (by omega) (by omega)).trans (hkx k hk hl), h6, Nat.le_trans hX hp.1.size⟩
  | ret => exact ⟨hp.1.mono hWw, rfl, hp.2⟩
  | exit id => exact hp.elim
  | goto t => exact hp.elim
  | panic ch => exact hp.elim
  | outgrown => exact hp.elim
 case done =>
  rintro E D X rfl ⟨h1, -⟩ hD
  exact hdone E X h1 hD
 case stop =>
  rintro E D c pre X rfl hpre ⟨rfl, h2⟩ hD
  exact hstop E pre X hpre h2 hD
end
end Go.Proofs.YtechceagghcipabGreatDoor
