import Derived.Test.YtechceagghcipabGreatDoorRA19
import Derived.RangeFuncNested
import Derived.RangeFuncBound
import Derived.RangeFuncLeaves
import Derived.Test.YtechceagghcipabGreatDoorRA38
import Derived.RangeFuncCalls
import Derived.Shelf.Abstract
import Derived.Shelf.RegionOpen
import Derived.WalkKit
import Derived.OwnWalkIn
import Derived.TacticsInMore
import Derived.LoopNIn
import Derived.LoopIn
import Derived.Test.YtechceagghcipabGreatDoorShelf
import Derived.Test.YtechceagghcipabGreatDoorRA41
import Derived.Laws.CopyOwn
import Derived.Laws.Cover1
import Derived.Deep.QuietTactic
import Derived.BigQuiet
namespace Go.Proofs.YtechceagghcipabGreatDoor
open Go.RowKit
structure Uq (B E : Nat) (W W' : World) : Prop where
 size : W.heap.size <= W'.heap.size
 same : ∀ k, B <= k -> k < E -> k < W.heap.size -> W'.heap[k]? = W.heap[k]?
theorem Uq.refl (B E : Nat) (W : World) : Uq B E W W := ⟨Nat.le_refl _, fun _ _ _ _ => rfl⟩
theorem Uq.trans {B E : Nat} {X Y Z : World} (h : Uq B E X Y) (k : Uq B E Y Z) : Uq B E X Z :=
 ⟨Nat.le_trans h.size k.size, fun i hB hE hi => (k.same i hB hE (Nat.lt_of_lt_of_le hi h.size)).trans (h.same i hB hE hi)⟩
theorem Uq.mono {B B' E : Nat} {W W' : World} (h : Uq B E W W') (hB : B <= B') : Uq B' E W W' := ⟨h.size, fun k hk hE hl => h.same k (Nat.le_trans hB hk) hE hl⟩
theorem Uq.below {B E : Nat} {W W' : World} (h : Below W.heap.size W W') : Uq B E W W' := ⟨h.size, fun k _ _ hl => h.block k hl⟩
theorem Uq.putObj {B E : Nat} {W : World} {l : Nat} (o : Obj) (h : l < B) : Uq B E W (W.putObj l o) :=
 ⟨by simp, fun k hB _ _ => World.putObj_heap_other (by omega)⟩
def SeqX (P : Program) (g : Nat) (lb : Array Value) (xs : List (List Int)) (D0 : World -> Prop) (Eff K : World -> World -> Prop) : Prop :=
 ∀ (n l : Nat) (J Jx : Nat -> List (List Int) -> World -> Prop) (W : World), D0 W -> (∀ W1, Eff W W1 -> J W1.heap.size [] W1) -> (∀ E pre W1, J E pre W1 -> K W W1) →
  (∀ (m E : Nat) pre x v W0 W1, J E pre W0 -> pre ++ [x] <+: xs -> Below W0.heap.size W0 W1 -> OwI W1 W0.heap.size v x -> YieldAt Fence.wide m P l #[v] W1 fun e W' =>
   (e = .returned (.bool true) /\ J E (pre ++ [x]) W' /\ Uq W.heap.size E W1 W') ∨ (e = .returned (.bool false) /\ Jx E (pre ++ [x]) W' /\ Uq W.heap.size E W1 W')) →
  CallsIn Fence.wide n P g (#[.func (.yield l) #[] #[]] ++ lb) W fun e W' => (∃ v, e = .returned v) /\ ∃ E, J E xs W' ∨ ∃ pre, pre <+: xs /\ Jx E pre W'
def Pk7 {β : Type} (B : Nat) (I : β -> World -> Prop) : Prop := ∀ (s : β) (W : World) (o o' : Obj), I s W -> W.heap[B + 1]? = some o -> o.isCells = false -> I s (W.putObj (B + 1) o')
theorem Pk7.put {β : Type} {B : Nat} {I : β -> World -> Prop} (h : Pk7 B I) {s : β} {W : World} {o : Obj} (o' : Obj) (hs : I s W) (hl : W.heap[B + 1]? = some o) (ho : o.isCells = false) : I s (W.putObj (B + 1) o') := h s W o o' hs hl ho
def seqPostX (B E : Nat) (I : List (List Int) -> World -> Prop) (Ix : Code -> List (List Int) -> World -> Prop) (xs : List (List Int)) (W : World) : Exit -> Act -> World -> Prop
 | .normal, _, W' => Uq B E W W' /\ I xs W'
 | .ret, _, W' => Uq B E W W' /\ Ix .ret xs W'
 | .exit id, _, W' => Uq B E W W' /\ Ix (.exit id) xs W'
 | .goto t, _, W' => Uq B E W W' /\ Ix (.goto t) xs W'
 | .panic _, _, _ => False
 | .outgrown, _, _ => False
variable {n : Nat} {P : Program}
theorem wpIn_seqX {g : Operand} {ps : Array Tmp} {assign body : Code} {Q : Exit -> Act -> World -> Prop} {a : Act} {w : World}
  {gf : Nat} {lb : Array Value} (hg : a.eval g = .func (.func gf) #[] lb) (eg : ∀ args w, (callFunc gf args).run P w = .ok (.enter gf args) w)
  {xs : List (List Int)} {D0 : World -> Prop} {Eff Kp : World -> World -> Prop} (hseq : SeqX P gf lb xs D0 Eff Kp) (hps : 1 = ps.size)
  (I : Nat -> List (List Int) -> World -> Prop) (Ix : Nat -> Code -> List (List Int) -> World -> Prop) (hI : ∀ E, Pk7 w.heap.size (I E)) (hIx : ∀ E c, Pk7 w.heap.size (Ix E c))
  (hD : ∀ W1, Below w.heap.size w W1 -> W1.heap.size = w.heap.size + 2 -> D0 W1 /\ (∀ W2, Eff W1 W2 -> I W2.heap.size [] W2 /\ w.heap.size + 2 <= W2.heap.size /\ W2.heap[w.heap.size]? = W1.heap[w.heap.size]? /\ W2.heap[w.heap.size + 1]? = W1.heap[w.heap.size + 1]?) /\ ∀ E pre W2, I E pre W2 -> Kp W1 W2 /\ w.heap.size + 2 <= E)
  (Ax : Nat -> List (List Int) -> List Int -> Value -> Act -> World -> Prop) (hAx : ∀ E pre x v a', Pk7 w.heap.size (fun (_ : Unit) W => Ax E pre x v a' W))
  (hassign : ∀ (l m E : Nat) (pre : List (List Int)) (x : List Int) (v : Value) (W0 W : World) (K : Act -> World -> Prop), pre ++ [x] <+: xs -> I E pre W0 -> Below W0.heap.size W0 W -> OwI W W0.heap.size v x -> w.heap.size <= W.heap.size -> (∀ a' W', Uq w.heap.size E W W' -> Ax E pre x v a' W' -> K a' W') →
   assign.wpIn (Fence.wide.inRound l) m P (Exit.then K (fun _ _ _ => False)) { tmps := (ps.zip #[v]).foldl (fun t (p, v) => t.setIfInBounds p v) a.tmps, defers := [] } W)
  (hbody : ∀ (l m E : Nat) (pre : List (List Int)) (x : List Int) (v : Value) (a' : Act) (W : World), pre ++ [x] <+: xs -> Ax E pre x v a' W -> w.heap.size <= W.heap.size -> body.wpIn (Fence.wide.inRound l) m P (seqPostX w.heap.size E (I E) (Ix E) (pre ++ [x]) W) a' W)
  (hdone : ∀ (E D : Nat) (W : World), D = w.heap.size -> I E xs W -> W.heap[D]? = some (.deferred (some [])) -> Q .normal { a with defers := { target := .collected D, args := #[] } :: a.defers } W)
  (hstop : ∀ (E D : Nat) (c : Code) (pre : List (List Int)) (W : World), D = w.heap.size -> pre <+: xs -> Ix E c pre W -> W.heap[D]? = some (.deferred (some [])) -> c.wpIn Fence.wide n P Q { a with defers := { target := .collected D, args := #[] } :: a.defers } W) :
  (Code.rangeFunc g ps assign body).wpIn Fence.wide n P Q a w := by
 refine wpIn_rangeFunc fun fn hfn => ?_
 obtain ⟨rec, hrec⟩ : ∃ rec : LoopState -> Option Code -> Loop, rec = fun st pe => { state := st, pending := pe, fn, tmps := a.tmps, params := ps, assign, body, defers := w.heap.size } := ⟨_, rfl⟩
 obtain ⟨W1, hW1⟩ : ∃ W1, (w.alloc (.deferred (some []))).alloc (.loop (rec .ready none)) = W1 := ⟨_, rfl⟩
 have hz1 : W1.heap.size = w.heap.size + 2 := by rw [<- hW1]; simp
 have hL1 : W1.heap[w.heap.size + 1]? = some (.loop (rec .ready none)) := by
  rw [<- hW1]; have := World.alloc_heap_new (w.alloc (.deferred (some []))) (.loop (rec .ready none)); rwa [World.size_alloc] at this
 have hK1 : W1.heap[w.heap.size]? = some (.deferred (some [])) := by
  rw [<- hW1]; exact (Below.heap_alloc _ _ _ (by simp)).trans (World.alloc_heap_new w _)
 have hB1 : Below w.heap.size w W1 := by rw [<- hW1]; exact below2 _ _ _
 obtain ⟨hD0, hEff, hKp⟩ := hD W1 hB1 hz1
 refine ⟨w.heap.size + 1, [{ target := .collected w.heap.size, args := #[] }], W1, { target := .fn (.func gf) lb, args := #[.func (.yield (w.heap.size + 1)) #[] #[]] }, W1, gf,
  #[.func (.yield (w.heap.size + 1)) #[] #[]] ++ lb, W1, ?_, ?_, ?_, ?_, ?_, ?_⟩
 ·rw [<- hW1, hrec]; exact run_enterLoop_outer _ _ _ _ _
 ·simp only [resolve, hg]
  simp [go_sem]
 ·intro f' _; trivial
 ·simp [invoke, go_sem, eg]
 ·intro h; cases h
 ·refine (hseq (n - 1) (w.heap.size + 1)
   (fun E pre W => I E pre W /\ W.heap[w.heap.size + 1]? = some (.loop (rec .ready none)) /\ W.heap[w.heap.size]? = some (.deferred (some [])))
   (fun E pre W => ∃ c, Ix E c pre W /\ W.heap[w.heap.size + 1]? = some (.loop (rec .done (some c))) /\ W.heap[w.heap.size]? = some (.deferred (some [])))
   W1 hD0 (fun W2 h2 => ⟨(hEff W2 h2).1, (hEff W2 h2).2.2.2.trans hL1, (hEff W2 h2).2.2.1.trans hK1⟩) (fun E pre X h => (hKp E pre X h.1).1)
   ?_).mono ?_
  ·-- a round
   rintro m E pre x v W0 W ⟨hi0, hl0, hk0⟩ hpre hb0 hown
   have hE2 := (hKp E pre W0 hi0).2
   have hl : W.heap[w.heap.size + 1]? = some (.loop (rec .ready none)) := (hb0.block _ (Array.getElem?_eq_some_iff.1 hl0).1).trans hl0
   have hk : W.heap[w.heap.size]? = some (.deferred (some [])) := (hb0.block _ (Array.getElem?_eq_some_iff.1 hk0).1).trans hk0
   have hy := run_yield (P := P) (args := #[v]) hl (by rw [hrec]; exact hps)
   rw [hrec] at hy
   have hlt0 : w.heap.size + 1 < W.heap.size := (Array.getElem?_eq_some_iff.1 hl).1
   refine ⟨fn, _, assign, body, hy, roundIn_of_wpIn hfn (hassign _ _ E pre x v W0 W _ hpre hi0 hb0 hown (by omega) ?_)⟩
   clear hy
   intro a' Wa hua hax
   have hla := (hua.same _ (by omega) (by omega) (Array.getElem?_eq_some_iff.1 hl).1).trans hl
   have hka := (hua.same _ (Nat.le_refl _) (by omega) (Array.getElem?_eq_some_iff.1 hk).1).trans hk
   have hlt : w.heap.size + 1 < Wa.heap.size := (Array.getElem?_eq_some_iff.1 hla).1
   refine ⟨_, run_beginRound hla (by rw [hrec]), ?_⟩
   obtain ⟨Wb, hWb⟩ : ∃ Wb, Wa.putObj (w.heap.size + 1) (.loop { rec .ready none with state := .busy }) = Wb := ⟨_, rfl⟩
   have hlb : Wb.heap[w.heap.size + 1]? = some (.loop { rec .ready none with state := .busy }) := by rw [<- hWb]; exact World.putObj_heap_same hlt
   have hkb : Wb.heap[w.heap.size]? = some (.deferred (some [])) := by rw [<- hWb]; exact (World.putObj_heap_other (by omega)).trans hka
   have hub : Uq W1.heap.size E Wa Wb := by rw [<- hWb]; exact Uq.putObj _ (by omega)
   have haxb : Ax E pre x v a' Wb := by rw [<- hWb]; exact (hAx E pre x v a').put (s := ()) _ hax hla rfl
   have hzb : Wb.heap.size = Wa.heap.size := by rw [<- hWb]; simp
   rw [hWb]
   refine wpIn_mono (hbody _ _ E pre x v a' Wb hpre haxb (by omega)) ?_
   have fin : ∀ (jump : Option Code) (W3 : World), Uq w.heap.size E Wb W3 →
     (Instr.endRound (w.heap.size + 1) jump).run P W3 = .ok (.bool jump.isNone) (W3.putObj (w.heap.size + 1) (.loop (rec (if jump.isNone then .ready else .done) jump))) ∧
     W3.heap[w.heap.size + 1]? = some (.loop { rec .ready none with state := .busy }) ∧
     (W3.putObj (w.heap.size + 1) (.loop (rec (if jump.isNone then .ready else .done) jump))).heap[w.heap.size + 1]? = some (.loop (rec (if jump.isNone then .ready else .done) jump)) ∧
     (W3.putObj (w.heap.size + 1) (.loop (rec (if jump.isNone then .ready else .done) jump))).heap[w.heap.size]? = some (.deferred (some [])) := fun jump W3 hu3 => by
    have hl3 := (hu3.same _ (by omega) (by omega) (Array.getElem?_eq_some_iff.1 hlb).1).trans hlb
    have hk3 := (hu3.same _ (Nat.le_refl _) (by omega) (Array.getElem?_eq_some_iff.1 hkb).1).trans hkb
    have := run_endRound (P := P) jump hl3
    rw [hrec] at this ⊢
    exact ⟨this, by rw [hrec] at hl3; exact hl3, World.putObj_heap_same (Array.getElem?_eq_some_iff.1 hl3).1, (World.putObj_heap_other (by omega)).trans hk3⟩
   rintro e a3 W3 hp
   cases e with
   | normal =>
    obtain ⟨hu3, hi3⟩ := hp
    obtain ⟨hr, hl3, hl4, hk4⟩ := fin none W3 hu3
    exact ⟨_, _, hr, .inl ⟨rfl, ⟨(hI E).put _ hi3 hl3 rfl, hl4, hk4⟩, (hua.mono (by omega)).trans (hub.trans ((hu3.mono (by omega)).trans (Uq.putObj _ (by omega))))⟩⟩
   | ret =>
    obtain ⟨hu3, hi3⟩ := hp
    obtain ⟨hr, hl3, hl4, hk4⟩ := fin (some .ret) W3 hu3
    exact ⟨_, _, hr, .inr ⟨rfl, ⟨.ret, (hIx E _).put _ hi3 hl3 rfl, hl4, hk4⟩, (hua.mono (by omega)).trans (hub.trans ((hu3.mono (by omega)).trans (Uq.putObj _ (by omega))))⟩⟩
   | exit id =>
    obtain ⟨hu3, hi3⟩ := hp
    obtain ⟨hr, hl3, hl4, hk4⟩ := fin (some (.exit id)) W3 hu3
    exact ⟨_, _, hr, .inr ⟨rfl, ⟨.exit id, (hIx E _).put _ hi3 hl3 rfl, hl4, hk4⟩, (hua.mono (by omega)).trans (hub.trans ((hu3.mono (by omega)).trans (Uq.putObj _ (by omega))))⟩⟩
   | goto t =>
    obtain ⟨hu3, hi3⟩ := hp
    obtain ⟨hr, hl3, hl4, hk4⟩ := fin (some (.goto t)) W3 hu3
    exact ⟨_, _, hr, .inr ⟨rfl, ⟨.goto t, (hIx E _).put _ hi3 hl3 rfl, hl4, hk4⟩, (hua.mono (by omega)).trans (hub.trans ((hu3.mono (by omega)).trans (Uq.putObj _ (by omega))))⟩⟩
   | panic ch => exact hp.elim
   | outgrown => exact hp.elim
  ·-- behind the iterator
   rintro e W2 ⟨⟨v, rfl⟩, E, (⟨hi, hl, hk⟩ | ⟨pre, hpre, c, hi, hl, hk⟩)⟩
   ·exact ⟨none, _, by have := run_endLoop (P := P) hl (by rw [hrec]; simp); rw [hrec] at this; exact this, hdone E _ _ rfl ((hI E).put _ hi hl rfl) ((World.putObj_heap_other (by omega)).trans hk)⟩
   ·exact ⟨some c, _, by have := run_endLoop (P := P) hl (by rw [hrec]; simp); rw [hrec] at this; exact this, hstop E _ c pre _ rfl hpre ((hIx E c).put _ hi hl rfl) ((World.putObj_heap_other (by omega)).trans hk)⟩
end Go.Proofs.YtechceagghcipabGreatDoor
namespace Go.Proofs.YtechceagghcipabGreatDoor
open Go.RowKit Go.Shelf
structure FB (w : World) (g : Nat) (parts : Int) (sv nv : Value) (b1 b2 b3 b4 b5 : Nat) : Prop where
 p : Bk w b1 #[.bool true] 4
 r : Bk w b2 #[.pointer (some ⟨g, 0, none⟩)] 69
 q : Bk w b3 #[.int .i64 parts] 3
 s : Bk w b4 #[sv] 67
 n : Bk w b5 #[nv] 67
theorem FB.below {w w' : World} {g : Nat} {parts : Int} {sv nv : Value} {b1 b2 b3 b4 b5 : Nat} (h : FB w g parts sv nv b1 b2 b3 b4 b5) (hb : Below w.heap.size w w') : FB w' g parts sv nv b1 b2 b3 b4 b5 := ⟨h.p.below hb, h.r.below hb, h.q.below hb, h.s.below hb, h.n.below hb⟩
def fnd7 (b1 b2 b3 b4 b5 : Nat) : Value := .func (.func 104) #[] #[.pointer (some ⟨b1, 0, none⟩), .pointer (some ⟨b2, 0, none⟩), .pointer (some ⟨b3, 0, none⟩), .pointer (some ⟨b4, 0, none⟩), .pointer (some ⟨b5, 0, none⟩)]
section
attribute [local go_sem ↓] Go.wp_at_zero Go.wp_at_succ
end
attribute [local go_sem] Oper.semAt_some
theorem pre_take0 {α : Type} {y : α} {l : List α} {k : Nat} (h : l[k]? = some y) : l.take k ++ [y] <+: l := by
 refine ⟨l.drop (k + 1), ?_⟩
 obtain ⟨hk, rfl⟩ := List.getElem?_eq_some_iff.1 h
 rw [List.append_assoc, List.singleton_append, List.getElem_cons_drop, List.take_append_drop]
theorem take_next0 {α : Type} {y : α} {l : List α} {k : Nat} (h : l[k]? = some y) : l.take (k + 1) = l.take k ++ [y] := by
 obtain ⟨hk, rfl⟩ := List.getElem?_eq_some_iff.1 h
 rw [List.take_succ_eq_append_getElem hk]
theorem srtR_uniq {a b : List (List Int)} (ha : srtR a) (hb : srtR b) (h : a.Perm b) : a = b :=
 List.Perm.eq_of_pairwise (fun x y _ _ h1 h2 => cmpR_eq (by have := cmpR_neg x y; omega)) ha hb h
structure FD0 (g : Nat) (F S G N : Nat -> Prop) (m : Nat) (s : St7) (parts : Int) (cols : List Nat) (nums : List Int) (sv nv : Value) (b1 b2 b3 b4 b5 : Nat) (W : World) : Prop where
 b : FB W g parts sv nv b1 b2 b3 b4 b5
 r : RM W g F S m s
 s : Li G W sv (nat7 cols)
 g : ∀ b, G b -> ¬ F b /\ b < W.heap.size
 n : Li N W nv nums
 f : ∀ b, N b -> ¬ F b
def FEff (g : Nat) (F S G : Nat -> Prop) (m : Nat) (s : St7) (W W1 : World) : Prop :=
 ∃ F' : Nat -> Prop, RM W1 g F' (fun b => S b ∨ G b) (m + 1) s /\ Fr F W W1 /\ (∀ b, F b -> F' b) /\ ∀ b, F' b -> (F b ∨ W.heap.size <= b) /\ b < W1.heap.size
def FK (S G : Nat -> Prop) (W W1 : World) : Prop := ∀ b, S b ∨ G b -> W1.heap[b]? = W.heap[b]?
theorem RM.q2 {w : World} {g : Nat} {F S : Nat -> Prop} {m : Nat} {s : St7} (h : RM w g F S m s) : ∀ b, S b -> b < w.heap.size := by obtain ⟨rv, rvs, mp, mx, nx, t, f, hn, h⟩ := h; exact h.q2
theorem RM.q {w : World} {g : Nat} {F S : Nat -> Prop} {m : Nat} {s : St7} (h : RM w g F S m s) : ∀ b, F b -> ¬ S b /\ b < w.heap.size := by obtain ⟨rv, rvs, mp, mx, nx, t, f, hn, h⟩ := h; exact h.q
set_option maxRecDepth 100000 in
set_option maxHeartbeats 1000000 in
theorem find_seq (g : Nat) (F S G N : Nat -> Prop) (m : Nat) (s : St7) (parts : Int) (cols : List Nat) (nums : List Int) (sv nv : Value) (b1 b2 b3 b4 b5 : Nat) (xs : List (List Int)) (hx : srtR xs) (hxp : xs.Perm (sel7 s parts cols nums)) (hxl : ∀ x ∈ xs, x.length <= 100000000000) (hxn : xs.length <= 100000000000)
  (hcl : cols.length <= 10000000000) (hcw : ∀ c ∈ cols, c < s.wd) (hnl : nums.length <= 10000000000) (hm : m <= 100000000000000) :
  SeqX Tryz.prog 104 #[.pointer (some ⟨b1, 0, none⟩), .pointer (some ⟨b2, 0, none⟩), .pointer (some ⟨b3, 0, none⟩), .pointer (some ⟨b4, 0, none⟩), .pointer (some ⟨b5, 0, none⟩)] xs (FD0 g F S G N m s parts cols nums sv nv b1 b2 b3 b4 b5) (FEff g F S G m s) (FK S G) := by
 intro n l J Jx W hd hEff hK hY
 have HFO := hm7 (callsIn_wide (n := n - 1).2 (found7_any sort_ok7 g F S G N m s parts cols nums sv nv W hd.r hd.s hd.g hcl hcw hd.n hd.f hnl hm))
 have c1 := hd.b.p.cell (i := 0) rfl
 have c2 := hd.b.r.cell (i := 0) rfl
 have c3 := hd.b.q.cell (i := 0) rfl
 have c4 := hd.b.s.cell (i := 0) rfl
 have c5 := hd.b.n.cell (i := 0) rfl
 obtain ⟨na, nn, nc, rfl⟩ : ∃ a n c, nv = .slice a n c := by obtain ⟨a, c, e, -⟩ := hd.n; exact ⟨_, _, _, e⟩
 obtain ⟨sa, sn, sc, rfl⟩ : ∃ a n c, sv = .slice a n c := by obtain ⟨a, c, e, -⟩ := hd.s; exact ⟨_, _, _, e⟩
 have HD := hm7 hd
 have HEff := hm7 hEff
 have HK := hm7 hK
 have HY := hm7 hY
 have HXL := hm7 hxl
 have HX := hm7 (And.intro hx hxp)
 clear hd hEff hK hY hcw hxl hx hxp
 refine callsIn_of_wp Tryz.func104 rfl trivial ?_ rfl
 simp only [Tryz.ntmps104, List.size_toArray, List.length_cons, List.length_nil, Nat.reduceAdd, Nat.reduceSub, Array.replicate_succ, Array.replicate_zero, List.push_toArray, List.append_toArray, List.nil_append, List.cons_append]
 gi_wp2
 refine ⟨trivial, fun h => (by cases h), HFO.out.mono ?_⟩
 rintro e w2 ⟨v, F', P, B, rfl, hrm, hfr, ha, hd, hB1, hB2, ho, hp, hpp, hps⟩
 obtain ⟨a, cap, hv, -⟩ := row7_form ho
 obtain ⟨k, hk⟩ : ∃ k, P.length = k := ⟨_, rfl⟩
 rw [hk] at hv ho
 subst hv
 have HRM := hm7 (And.intro hrm (And.intro hfr (And.intro ha hd)))
 have HO := hm7 ho
 have HP := hm7 hp
 have HPX := hm7 (srtR_uniq hps HX.out.1 (hpp.trans HX.out.2.symm))
 have HPK := hm7 hk
 clear hrm hfr ha hd ho hp hpp hps hk
 gi_wp2
 have HJ0 : Hid (J w2.heap.size [] w2) := HEff.out w2 ⟨F', HRM.out.1, HRM.out.2.1, HRM.out.2.2.1, fun b hb => ⟨(HRM.out.2.2.2 b hb).1, Nat.lt_of_lt_of_le (HRM.out.2.2.2 b hb).2 hB2⟩⟩
 have hkx : xs.length = k := by rw [<- HPX.out, List.length_map, HPK.out]
 clear HEff HFO c1 c2 c3 c4 c5
 gi_loopw [17] (fun p wr => ∃ (q : Nat), p = .int .i64 (q : Int) /\ q <= k /\ J w2.heap.size (xs.take q) wr /\ Uq W.heap.size w2.heap.size w2 wr) (fun p _ => k - (intOf p).toNat)
 case atStart => exact ⟨0, rfl, Nat.zero_le _, HJ0.out, Uq.refl _ _ _⟩
 case round =>
  obtain ⟨q, rfl, hq, hJr, huq⟩ := hrel
  have HJr := hm7 hJr
  have HUQ := hm7 huq
  clear hJr HJ0 huq
  by_cases hlt : q < k
  ·have i0 : (0 : Int) <= (q : Int) := by omega
   have i1 : (q : Int) < (k : Int) := by omega
   obtain ⟨x, hxq⟩ : ∃ x, P[q]? = some x := ⟨_, List.getElem?_eq_getElem (by rw [HPK.out]; exact hlt)⟩
   have hxx : xs[q]? = some x.1 := by rw [<- HPX.out, List.getElem?_map, hxq]; rfl
   obtain ⟨bg, rfl, hbg, hbl, hc, -⟩ := row7_at HO.out (i := q) (u := x.2) (by rw [List.getElem?_map, hxq]; rfl)
   rw [<- World.cell?_of_block (w := w2) (w' := wr) (a := ⟨bg, q, none⟩) (HUQ.out.same bg (by omega) hbl hbl)] at hc
   have hli : Li (fun b => S b ∨ G b) wr x.2 x.1 := (HP.out x (List.mem_of_getElem? hxq)).same HUQ.out.size fun b hb hl => by
    have hbW : b < W.heap.size := hb.elim (HD.out.r.q2 b) fun hg => (HD.out.g b hg).2
    rw [HK.out _ _ _ HJr.out b hb, HRM.out.2.1.block b hbW fun hF => hb.elim (HD.out.r.q b hF).1 fun hg => (HD.out.g b hg).1 hF]
   have HCL := hm7 (callsIn_wide (n := n - 1).2 (clone7_any _ x.2 x.1 wr hli (HXL.out _ (List.mem_of_getElem? hxx))))
   obtain ⟨xa, xc, hxv, -⟩ := hli
   obtain ⟨x, xv⟩ := x
   simp only at hxv hxx hc HCL
   subst hxv
   clear hxq
   have HXX := hm7 hxx
   clear hxx
   gi_wp2
   refine ⟨trivial, fun h => (by cases h), HCL.out.mono ?_⟩
   rintro e w3 ⟨v3, rfl, ho3, hb3⟩
   obtain ⟨a3, c3, hv3, -⟩ := row7_form ho3
   subst hv3
   obtain ⟨fn, tmps, assign, bd, hy, hR⟩ := HY.out (n - 1) _ _ x _ wr w3 HJr.out (pre_take0 HXX.out) hb3 ho3
   have HB3 := hm7 hb3
   clear hb3 ho3
   gi_wp2
   refine ⟨fun h => (by cases h), hR.mono ?_⟩
   clear hR hy
   rintro e W3 (⟨rfl, hJ3, hu3⟩ | ⟨rfl, hx3, -⟩)
   ·have HJ3 : Hid (J w2.heap.size (xs.take (q + 1)) W3) := by
     show J _ _ W3; rw [take_next0 HXX.out]; exact hJ3
    have HU3 : Hid (Uq W.heap.size w2.heap.size w2 W3) := HUQ.out.trans ((Uq.below HB3.out).trans hu3)
    clear hJ3 hu3
    gi_wp2
    go_roundw
    case rel => exact ⟨q + 1, by go_num, by omega, HJ3.out, HU3.out⟩
    case measure => simp [intOf]; omega
   ·have HX3 := hm7 hx3
    clear hx3
    gi_wp2
    refine bodyPost_ret (results_none rfl _ _ _) rfl ?_
    exact ⟨⟨_, rfl⟩, _, .inr ⟨_, pre_take0 HXX.out, HX3.out⟩⟩
  ·obtain rfl : q = k := by omega
   have i1 : ¬ ((q : Int) < (q : Int)) := by omega
   gi_wp2
   go_end0
   have := HJr.out
   rw [<- hkx, List.take_length] at this
   exact ⟨⟨_, rfl⟩, _, .inl this⟩
end Go.Proofs.YtechceagghcipabGreatDoor
namespace Go.Proofs.YtechceagghcipabGreatDoor
open Go.RowKit Go.Shelf
def bad7 (wd : Nat) (cols keys : List Int) : Prop := cols.length ≠ keys.length ∨ (∃ c ∈ cols, col7 wd c = false) ∨ ∃ l, unq7 (cols.zip keys) l /\ ∃ j p q, l[j]? = some p /\ l[j + 1]? = some q /\ p.1 = q.1
def FI (w : World) (g : Nat) (parts : Int) (wd : Nat) (cols keys : List Int) (e : Ending) (w' : World) : Prop :=
 Below w.heap.size w w' /\ ∃ b1 b2 b3 b4 b5, e = .returned (fnd7 b1 b2 b3 b4 b5) /\ (w.heap.size <= b1 /\ w.heap.size <= b2 /\ w.heap.size <= b3 /\ w.heap.size <= b4 /\ w.heap.size <= b5) ∧
  ((Bk w' b1 #[.bool false] 4 /\ bad7 wd cols keys) ∨ ∃ sv nv l, FB w' g parts sv nv b1 b2 b3 b4 b5 /\ cols.length = keys.length /\ (∀ c ∈ cols, col7 wd c = true) /\ unq7 (cols.zip keys) l /\ (∀ j p q, l[j]? = some p -> l[j + 1]? = some q -> p.1 ≠ q.1) /\ OwI w' w.heap.size sv (l.map Prod.fst) /\ OwI w' w.heap.size nv (l.map Prod.snd))
theorem SE.form {w w' : World} {wd : Nat} {cols keys : List Int} {e : Ending} (h : SE w wd cols keys e w') : ∃ a1 n1 c1 a2 n2 c2 ok, e = .returned (.tuple #[.slice a1 n1 c1, .slice a2 n2 c2, .bool ok]) /\ Below w.heap.size w w' /\ (ok = false -> bad7 wd cols keys) /\ (ok = true -> cols.length = keys.length /\ (∀ c ∈ cols, col7 wd c = true) /\ ∃ l, unq7 (cols.zip keys) l /\ (∀ j p q, l[j]? = some p -> l[j + 1]? = some q -> p.1 ≠ q.1) /\ OwI w' w.heap.size (.slice a1 n1 c1) (l.map Prod.fst) /\ OwI w' w.heap.size (.slice a2 n2 c2) (l.map Prod.snd)) := by
 obtain ⟨hb, ⟨rfl, h⟩ | ⟨sv, nv, rfl, h1, h2, l, h3, h4, h5, h6⟩⟩ := h
 ·exact ⟨none, 0, 0, none, 0, 0, false, rfl, hb, fun _ => h, (fun e => by cases e)⟩
 ·obtain ⟨a1, c1, rfl, -⟩ := row7_form h5
  obtain ⟨a2, c2, rfl, -⟩ := row7_form h6
  exact ⟨a1, _, c1, a2, _, c2, true, rfl, hb, (fun e => by cases e), fun _ => ⟨h1, h2, l, h3, h4, h5, h6⟩⟩
attribute [local go_sem ↓] Go.wp_at_zero Go.wp_at_succ
set_option maxRecDepth 20000 in
set_option maxHeartbeats 1000000 in
theorem find8_any (g : Nat) (F S G N : Nat -> Prop) (m : Nat) (s : St7) (parts : Int) (cols keys : List Int) (cv kv : Value) (w : World) (h : RM w g F S m s) (hc : Li G w cv cols) (hk : Li N w kv keys) (hl : cols.length <= 1000000000) :
  Calls Tryz.prog 77 #[.pointer (some ⟨g, 0, none⟩), .int .i64 parts, cv, kv] w (FI w g parts s.wd cols keys) := by
 obtain ⟨W2, hW2⟩ : ∃ W2, (w.alloc (.cells #[.pointer (some ⟨g, 0, none⟩)] 69)).alloc (.cells #[.int .i64 parts] 3) = W2 := ⟨_, rfl⟩
 have hz : W2.heap.size = w.heap.size + 2 := by rw [<- hW2]; simp
 have hbw : Below w.heap.size w W2 := by rw [<- hW2]; exact below2 _ _ _
 have k1 : Bk W2 w.heap.size #[.pointer (some ⟨g, 0, none⟩)] 69 := by rw [<- hW2]; exact (Bk.new _ _ _).below (below1 _ _)
 have k2 : Bk W2 (w.heap.size + 1) #[.int .i64 parts] 3 := by
  have := Bk.new (w.alloc (.cells #[.pointer (some ⟨g, 0, none⟩)] 69)) #[.int .i64 parts] 3
  rw [World.size_alloc, hW2] at this
  exact this
 have c1 := k1.cell (i := 0) rfl
 have HS := hm7 (settle7_any g F S G N m s cols keys cv kv W2 (h.below hbw) (hc.below hbw) (hk.below hbw) hl)
 obtain ⟨ca, cn, cc, rfl⟩ : ∃ a n c, cv = .slice a n c := by obtain ⟨a, c, e, -⟩ := hc; exact ⟨_, _, _, e⟩
 obtain ⟨ka, kn, kc, rfl⟩ : ∃ a n c, kv = .slice a n c := by obtain ⟨a, c, e, -⟩ := hk; exact ⟨_, _, _, e⟩
 have HKK := hm7 (And.intro k1 (And.intro k2 hbw))
 clear h hc hk k1 k2 hbw
 go_enter Tryz.func77, Tryz.ntmps77
 go_upto_region 1 with fail
 clear hW2
 go_wp2_with (go_at_call 103; refine HS.out.mono ?_; rintro e w1 hse; obtain ⟨a1, n1, c1, a2, n2, c2, ok, rfl, hb, hbad, hgood⟩ := hse.form; have HB := hm7 hb; have HBAD := hm7 hbad; have HGOOD := hm7 hgood; clear hb hbad hgood hse)
 have hs1 := HB.out.size
 obtain ⟨x2, hx2⟩ : ∃ x, w1.alloc (.cells #[.slice a1 n1 c1] 67) = x := ⟨_, rfl⟩
 obtain ⟨x3, hx3⟩ : ∃ x, x2.alloc (.cells #[.slice a2 n2 c2] 67) = x := ⟨_, rfl⟩
 obtain ⟨x4, hx4⟩ : ∃ x, x3.alloc (.cells #[.bool ok] 4) = x := ⟨_, rfl⟩
 have b2 : Below w1.heap.size w1 x2 := by rw [<- hx2]; exact below1 _ _
 have b3 : Below x2.heap.size x2 x3 := by rw [<- hx3]; exact below1 _ _
 have b4 : Below x3.heap.size x3 x4 := by rw [<- hx4]; exact below1 _ _
 have z2 : x2.heap.size = w1.heap.size + 1 := by rw [<- hx2]; simp
 have z3 : x3.heap.size = x2.heap.size + 1 := by rw [<- hx3]; simp
 have e2 : Bk x2 w1.heap.size #[.slice a1 n1 c1] 67 := by rw [<- hx2]; exact Bk.new _ _ _
 have e3 : Bk x3 x2.heap.size #[.slice a2 n2 c2] 67 := by rw [<- hx3]; exact Bk.new _ _ _
 have e4 : Bk x4 x3.heap.size #[.bool ok] 4 := by rw [<- hx4]; exact Bk.new _ _ _
 have b14 : Below w1.heap.size w1 x4 := b2.trans ((b3.mono (by omega)).trans (b4.mono (by omega)))
 have hbw := HKK.out.2.2
 have HFB : ok = true -> FB x4 g parts (.slice a1 n1 c1) (.slice a2 n2 c2) (w1.heap.size + 1 + 1) w.heap.size (w.heap.size + 1) w1.heap.size (w1.heap.size + 1) := fun hok => by
  refine ⟨?_, (HKK.out.1.below HB.out).below b14, (HKK.out.2.1.below HB.out).below b14, (e2.below b3).below b4, ?_⟩
  ·rw [<- z2, <- z3, <- hok]; exact e4
  ·rw [<- z2]; exact e3.below b4
 rw [hx2, hx3, hx4]
 go_ret
 refine ⟨hbw.trans ((HB.out.mono (by omega)).trans (b14.mono (by omega))), w1.heap.size + 1 + 1, w.heap.size, w.heap.size + 1, w1.heap.size, w1.heap.size + 1, rfl, by omega, ?_⟩
 cases ok with
 | false => exact Or.inl ⟨by rw [<- z2, <- z3]; exact e4, HBAD.out rfl⟩
 | true =>
  obtain ⟨h1, h2, l, h3, h4, h5, h6⟩ := HGOOD.out rfl
  exact Or.inr ⟨_, _, l, HFB rfl, h1, h2, h3, h4, (OwI.mono (row7_below h5 b14) (by omega)), (OwI.mono (row7_below h6 b14) (by omega))⟩
end Go.Proofs.YtechceagghcipabGreatDoor
namespace Go.Proofs.YtechceagghcipabGreatDoor
open Go.RowKit
def srt7 (l : List (List Int)) : List (List Int) := l.mergeSort fun a b => decide (cmpR a b <= 0)
theorem srt7_srt (l : List (List Int)) : srtR (srt7 l) := by
 have h := List.pairwise_mergeSort (le := fun a b => decide (cmpR a b <= 0)) (fun a b c h1 h2 => by simp only [decide_eq_true_eq] at *; exact cmpR_le h1 h2) (fun a b => by
  have := cmpR_neg a b
  simp only [Bool.or_eq_true, decide_eq_true_eq]
  omega) l
 exact h.imp fun h => by simpa using h
theorem srt7_perm (l : List (List Int)) : (srt7 l).Perm l := List.mergeSort_perm _ _
theorem rws_mem {rows : List (List Int)} {l : List Int} (h : ∀ i ∈ l, 0 <= i /\ i < (rows.length : Int)) : ∀ x ∈ rws7 rows l, x ∈ rows := by
 intro x hx
 simp only [rws7, List.mem_map] at hx
 obtain ⟨i, hi, rfl⟩ := hx
 obtain ⟨h0, h1⟩ := h i hi
 rw [List.getElem?_eq_getElem (by omega : i.toNat < rows.length)]
 exact List.getElem_mem _
theorem sel_mem {s : St7} {parts : Int} {cols : List Nat} {nums : List Int} : ∀ x ∈ sel7 s parts cols nums, x ∈ s.rows := by
 intro x hx
 simp only [sel7, List.mem_flatMap] at hx
 obtain ⟨p, -, hx⟩ := hx
 exact rws_mem (fun i hi => pls7_lt i (List.mem_filter.1 hi).1) x hx
theorem pls7_all (s : St7) : pls7 s [] [] = nat7 (List.range s.rows.length) := by
 unfold pls7 grp
 rw [List.filter_eq_self.2]
 intro i _
 simp [nums7]
theorem range_split (a b n : Nat) (hab : a <= b) (hbn : b <= n) : (nat7 (List.range n)).filter (fun x => decide ((a : Int) <= x /\ x < (b : Int))) = nat7 (List.range' a (b - a)) := by
 have e : List.range n = List.range' 0 a ++ (List.range' a (b - a) ++ List.range' b (n - b)) := by
  rw [List.range_eq_range']
  have h1 : List.range' 0 n = List.range' 0 a ++ List.range' a (n - a) := by
   have := List.range'_append_1 (s := 0) (m := a) (n := n - a)
   rw [Nat.zero_add] at this
   rw [this]; congr 1; omega
  have h2 : List.range' a (n - a) = List.range' a (b - a) ++ List.range' b (n - b) := by
   have := List.range'_append_1 (s := a) (m := b - a) (n := n - b)
   rw [show a + (b - a) = b by omega] at this
   rw [this]; congr 1; omega
  rw [h1, h2]
 rw [e]
 unfold nat7
 rw [List.map_append, List.map_append, List.filter_append, List.filter_append]
 have q1 : ((List.range' 0 a).map fun (i : Nat) => (i : Int)).filter (fun x => decide ((a : Int) <= x /\ x < (b : Int))) = [] := by
  rw [List.filter_eq_nil_iff]
  intro x hx
  simp only [List.mem_map, List.mem_range'_1] at hx
  obtain ⟨i, hi, rfl⟩ := hx
  simp only [decide_eq_true_eq]; omega
 have q2 : ((List.range' a (b - a)).map fun (i : Nat) => (i : Int)).filter (fun x => decide ((a : Int) <= x /\ x < (b : Int))) = (List.range' a (b - a)).map fun (i : Nat) => (i : Int) := by
  rw [List.filter_eq_self]
  intro x hx
  simp only [List.mem_map, List.mem_range'_1] at hx
  obtain ⟨i, hi, rfl⟩ := hx
  simp only [decide_eq_true_eq]; omega
 have q3 : ((List.range' b (n - b)).map fun (i : Nat) => (i : Int)).filter (fun x => decide ((a : Int) <= x /\ x < (b : Int))) = [] := by
  rw [List.filter_eq_nil_iff]
  intro x hx
  simp only [List.mem_map, List.mem_range'_1] at hx
  obtain ⟨i, hi, rfl⟩ := hx
  simp only [decide_eq_true_eq]; omega
 rw [q1, q2, q3]
 simp
theorem rws_range (rows : List (List Int)) (a b : Nat) (hab : a <= b) (hbn : b <= rows.length) : rws7 rows (wn7 (a : Int) (b : Int) (nat7 (List.range rows.length))) = (rows.take b).drop a := by
 unfold wn7
 rw [range_split a b _ hab hbn]
 unfold rws7 nat7
 rw [List.map_map]
 apply List.ext_getElem?
 intro i
 rw [List.getElem?_map, List.getElem?_drop, List.getElem?_take]
 by_cases hi : i < b - a
 ·rw [List.getElem?_range' hi, if_pos (by omega)]
  simp [List.getElem?_eq_getElem (by omega : a + i < rows.length)]
  rw [show ((a : Int) + (i : Int)).toNat = a + i by omega, List.getElem?_eq_getElem (by omega : a + i < rows.length)]
  rfl
 ·rw [if_neg (by omega), List.getElem?_eq_none (by simp; omega)]
  rfl
def ad7 (s : St7) (r : List Int) : St7 := if r ∈ s.rows then s else Add7 s r
theorem ad7_wd (s : St7) (r : List Int) : (ad7 s r).wd = s.wd /\ (ad7 s r).nf = s.nf /\ (ad7 s r).xf = s.xf := by unfold ad7; split <;> exact ⟨rfl, rfl, rfl⟩
theorem ad7_mem (s : St7) (r x : List Int) : x ∈ (ad7 s r).rows ↔ x ∈ s.rows ∨ x = r := by
 unfold ad7; split
 ·rename_i h
  exact ⟨Or.inl, fun h' => h'.elim id fun e => by rw [e]; exact h⟩
 ·simp [Add7]
end Go.Proofs.YtechceagghcipabGreatDoor
namespace Go.Proofs.YtechceagghcipabGreatDoor
open Go.RowKit Go.Lib
theorem compact_mem (l : List (Int × Int)) (x : Int × Int) : x ∈ compact l ↔ x ∈ l := by
 unfold compact compactUpTo
 constructor
 ·intro h
  simp only [List.mem_map, List.mem_filter, List.mem_range] at h
  obtain ⟨j, ⟨hj, -⟩, rfl⟩ := h
  rw [getElem!_pos l.toArray j (by simpa using hj)]
  simp
 ·intro h
  obtain ⟨j, hj⟩ := List.getElem?_of_mem h
  have hjl := (List.getElem?_eq_some_iff.1 hj).1
  have hx : l.toArray[j]! = x := arr7 hj
  clear h hj
  have key : ∀ n j, j <= n -> j < l.length -> ∃ i, i < l.length /\ keeps l.toArray i = true /\ l.toArray[i]! = l.toArray[j]! := by
   intro n
   induction n with
   | zero => intro j hj hl; exact ⟨j, hl, keeps_lt_one _ j (by omega), rfl⟩
   | succ n ih =>
    intro j hj hl
    by_cases hk : keeps l.toArray j = true
    ·exact ⟨j, hl, hk, rfl⟩
    ·have h0 : ¬ (j = 0 ∨ l.toArray[j]! ≠ l.toArray[j - 1]!) := by simpa [keeps] using hk
     have h1 : j ≠ 0 := fun e => h0 (Or.inl e)
     have h2 : l.toArray[j]! = l.toArray[j - 1]! := Classical.byContradiction fun e => h0 (Or.inr e)
     obtain ⟨i, a, b, c⟩ := ih (j - 1) (by omega) (by omega)
     exact ⟨i, a, b, by rw [c, h2]⟩
  obtain ⟨i, a, b, c⟩ := key j j (Nat.le_refl _) hjl
  simp only [List.mem_map, List.mem_filter, List.mem_range]
  exact ⟨i, ⟨a, b⟩, by rw [c, hx]⟩
theorem unq7_mem {z l : List (Int × Int)} (h : unq7 z l) (x : Int × Int) : x ∈ l ↔ x ∈ z := by
 obtain ⟨l', hp, -, rfl⟩ := h
 rw [compact_mem, hp.mem_iff]
def fit7 (z : List (Int × Int)) (r : List Int) : Bool := z.all fun p => decide (r[p.1.toNat]?.getD 0 = p.2)
theorem fit7_mem {z l : List (Int × Int)} (h : ∀ x, x ∈ l ↔ x ∈ z) (r : List Int) : fit7 l r = fit7 z r := by
 unfold fit7
 rw [Bool.eq_iff_iff, List.all_eq_true, List.all_eq_true]
 exact ⟨fun k x hx => k x ((h x).2 hx), fun k x hx => k x ((h x).1 hx)⟩
theorem nums7_fit (l : List (Int × Int)) (r : List Int) : nums7 (l.map fun p => p.1.toNat) r = l.map Prod.snd ↔ fit7 l r = true := by
 induction l with
 | nil => simp [nums7, fit7]
 | cons p l ih =>
  have e : nums7 ((p :: l).map fun p => p.1.toNat) r = r[p.1.toNat]?.getD 0 :: nums7 (l.map fun p => p.1.toNat) r := rfl
  have e2 : fit7 (p :: l) r = (decide (r[p.1.toNat]?.getD 0 = p.2) && fit7 l r) := rfl
  rw [e, e2, List.map_cons, List.cons.injEq, ih]
  simp
theorem sel7_sift (s : St7) (parts : Int) (cols : List Nat) (nums : List Int) : sel7 s parts cols nums = (sel7 s parts [] []).filter fun r => decide (tx (nums7 cols r) = tx nums) := by
 unfold sel7
 rw [List.filter_flatMap]
 congr 1
 funext p
 unfold rws7
 rw [List.filter_map]
 congr 1
 rw [pls7_all]
 unfold wn7 pls7 grp nat7
 rw [List.filter_filter, List.filter_map, List.filter_map, List.filter_filter]
 congr 1
 apply List.filter_congr
 intro i _
 simp [Function.comp, Bool.and_comm]
theorem srt7_filter (P : List Int -> Bool) (l : List (List Int)) : srt7 (l.filter P) = (srt7 l).filter P :=
 srtR_uniq (srt7_srt _) ((srt7_srt l).filter _) ((srt7_perm _).trans ((srt7_perm l).filter P).symm)
end Go.Proofs.YtechceagghcipabGreatDoor
namespace Go.Proofs.YtechceagghcipabGreatDoor
open Go.RowKit Go.Shelf Go.Lib
attribute [local go_sem] Oper.semAt_some
set_option maxRecDepth 100000 in
theorem find_none (b1 b2 b3 b4 b5 : Nat) :
  SeqX Tryz.prog 104 #[.pointer (some ⟨b1, 0, none⟩), .pointer (some ⟨b2, 0, none⟩), .pointer (some ⟨b3, 0, none⟩), .pointer (some ⟨b4, 0, none⟩), .pointer (some ⟨b5, 0, none⟩)] [] (fun W => Bk W b1 #[.bool false] 4) (fun W W1 => W1 = W) (fun _ _ => True) := by
 intro n l J Jx W hd hEff hK hY
 have c1 := hd.cell (i := 0) rfl
 have HE := hm7 (hEff W rfl)
 clear hd hEff hK hY
 refine callsIn_of_wp Tryz.func104 rfl trivial ?_ rfl
 simp only [Tryz.ntmps104, List.size_toArray, List.length_cons, List.length_nil, Nat.reduceAdd, Nat.reduceSub, Array.replicate_succ, Array.replicate_zero, List.push_toArray, List.append_toArray, List.nil_append, List.cons_append]
 gi_wp2
 refine bodyPost_ret (results_none rfl _ _ _) rfl ?_
 exact ⟨⟨_, rfl⟩, _, .inl HE.out⟩
theorem compact_rise {l : List (Int × Int)} (h : srtZ7 l) : (compact l).Pairwise fun a b => a.1 < b.1 ∨ (a.1 = b.1 /\ a.2 < b.2) := by
 unfold compact compactUpTo
 rw [List.pairwise_map]
 have h0 : ((List.range l.length).filter (keeps l.toArray)).Pairwise (· < ·) := List.Pairwise.filter _ List.pairwise_lt_range
 refine List.Pairwise.imp_of_mem ?_ h0
 intro i j hi hj hij
 simp only [List.mem_filter, List.mem_range] at hi hj
 have gi : l.toArray[i]! = l[i]'hi.1 := by rw [getElem!_pos l.toArray i (by simpa using hi.1)]; simp
 have gj : l.toArray[j]! = l[j]'hj.1 := by rw [getElem!_pos l.toArray j (by simpa using hj.1)]; simp
 have gp : l.toArray[j - 1]! = l[j - 1]'(by omega) := by rw [getElem!_pos l.toArray (j - 1) (by simp; omega)]; simp
 have hk : j = 0 ∨ l.toArray[j]! ≠ l.toArray[j - 1]! := by simpa [keeps] using hj.2
 have hne : l[j]'hj.1 ≠ l[j - 1]'(by omega) := by
  rcases hk with hk | hk
  ·omega
  ·rw [gj, gp] at hk; exact hk
 have hs := List.pairwise_iff_getElem.1 h
 have h1 := hs (j - 1) j (by omega) hj.1 (by omega)
 have h2 : l[i]'hi.1 = l[j - 1]'(by omega) ∨ ((l[i]'hi.1).1 < (l[j - 1]'(by omega)).1 ∨ ((l[i]'hi.1).1 = (l[j - 1]'(by omega)).1 /\ (l[i]'hi.1).2 <= (l[j - 1]'(by omega)).2)) := by
  by_cases e : i = j - 1
  ·left; subst e; rfl
  ·exact Or.inr (hs i (j - 1) hi.1 (by omega) (by omega))
 rw [gi, gj]
 have h3 : (l[j]'hj.1).1 = (l[j - 1]'(by omega)).1 -> (l[j]'hj.1).2 ≠ (l[j - 1]'(by omega)).2 := fun e1 e2 => hne (Prod.ext e1 e2)
 rcases h2 with h2 | h2
 ·rw [h2]; omega
 ·omega
end Go.Proofs.YtechceagghcipabGreatDoor
