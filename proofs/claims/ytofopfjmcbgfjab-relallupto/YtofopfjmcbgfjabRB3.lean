/-
  A region that draws its order and only reads, inside a round of a range over a function; marks of ranges that are behind.
-/
import Derived.Test.YtofopfjmcbgfjabRB0
import Derived.Sort.QuietIn
namespace Go.Proofs.Ytofopfjmcbgfjab
open Go.RowKit Go.Shelf
section
variable {F : Fence} {n : Nat} {P : Program} {ops : Array Oper} {C : World → Prop} {md : Region.Mode}
/-- No operation of it is a defer statement. -/
def plainOps (ops : Array Oper) : Bool := ops.toList.all fun o => match o.op with | .defer _ => false | _ => true
theorem plainOps_get {i : Nat} {o : Oper} (h : plainOps ops = true) (ho : ops[i]? = some o) : ∀ c, o.op ≠ .defer c := by
  intro c hc
  have h1 := List.all_eq_true.1 h o (by rw [← Array.getElem?_toList] at ho; exact List.mem_of_getElem? ho)
  rw [hc] at h1
  cases h1
theorem wpIn_of_quiet8 {o : Oper} {a : Act} {K : Act → Prop} {K' : Act → World → Prop} {Q' : Exit → Act → World → Prop} {w : World} (hnd : ∀ c, o.op ≠ .defer c) (hw : C w) (h : ∀ a w', C w' → K a → K' a w')
    (ha : o.askedIn F P a C) (hh : o.quietIn F n P a C K) : o.wpIn F n P a w K' Q' := by
  obtain ⟨v, h1, h2⟩ := hh
  have h3 := h1 w hw
  unfold Oper.quietAtIn at h3
  unfold Oper.wpIn
  refine ⟨ha w hw, ?_⟩
  rw [Oper.semAt_eq _ _ _ hnd]
  generalize (execOp a.eval o).run P w = r at *
  cases r with
  | ok x w' =>
    cases x <;> simp only [Oper.quietUponIn] at h3 <;> simp only [Oper.uponIn]
    case value u =>
      obtain ⟨e1, e2⟩ := h3
      rw [e1, e2]
      exact h _ _ hw h2
    case skip =>
      obtain ⟨e1, e2⟩ := h3
      rw [e1, ← e2]
      exact h _ _ hw h2
    case enter f args =>
      obtain ⟨e1, hd, hc⟩ := h3
      rw [e1]
      exact ⟨hd, hc.mono fun e w'' ⟨he, hw''⟩ => by subst he; exact h _ _ hw'' h2⟩
  | halt x w' => simp only [Oper.quietUponIn] at h3
theorem wpOpIn_of_q8 {i : Nat} {a : Act} {K : Act → Prop} {K' : Act → World → Prop} {Q' : Exit → Act → World → Prop} {w : World} (hnd : plainOps ops = true) (hC : C w) (h : ∀ a w', C w' → K a → K' a w')
    (hh : qOpIn F n P ops C i K a) : wpOpIn F n P ops Q' i K' a w := by
  unfold qOpIn at hh
  unfold wpOpIn
  split
  · rename_i ho; simp only [ho] at hh; exact h _ _ hC hh
  · rename_i o ho
    simp only [ho] at hh
    obtain ⟨ha, hh⟩ := hh
    split
    · rename_i hw; simp only [hw, if_true] at hh; exact wpIn_of_quiet8 (plainOps_get hnd ho) hC h ha hh
    · rename_i hw; simp only [hw] at hh; exact ⟨ha w hC, h _ _ hC hh⟩
theorem wpAnyIn_of_quiet8 {Q : Act → Prop} {Q' : Exit → Act → World → Prop} (hnd : plainOps ops = true) (hQ : ∀ a w, C w → Q a → Q' .normal a w) : ∀ (fuel : Nat) (listed : Array Bool) (a : Act) (w : World), C w →
    wpAnyQIn F n P md ops C Q fuel listed a → wpAnyIn F n P md ops Q' fuel listed a w
  | 0, _, _, _, hw, h => ⟨h.1, hQ _ _ hw h.2⟩
  | fuel + 1, _, _, _, hw, h => ⟨fun h0 => hQ _ _ hw (h.1 h0), fun i hi => wpOpIn_of_q8 hnd hw (fun a' w' hw' => wpAnyIn_of_quiet8 hnd hQ fuel _ a' w' hw') (h.2 i hi)⟩
theorem wpIn_region_quiet8 {id : Nat} {Q : Exit → Act → World → Prop} {a : Act} {w : World} {l : List Oper} (hnd : plainOps l.toArray = true) (hm : P.follows .mixedOrders = true) (hB : Region.lexB .any l.toArray = true)
    (h : wpQuietIn F n P l.toArray (fun w' => ∃ n, w' = w.drewN n) (fun a' => ∀ w', (∃ n, w' = w.drewN n) → Q .normal a' w') l a) : (Code.region id l.toArray true).wpIn F n P Q a w := by
  simp only [Region.lexB, Bool.and_eq_true] at hB
  refine wpIn_region_any hm (wpAnyIn_of_quiet8 (C := fun w' => ∃ n, w' = w.drewN n) (Q := fun a' => ∀ w', (∃ n, w' = w.drewN n) → Q .normal a' w') hnd (fun _ w' hw' h => h w' hw') _ _ _ _ ⟨1, rfl⟩ ?_)
  have := wpAnyQIn_lex (F := F) (n := n) (C := fun w' => ∃ n, w' = w.drewN n) (md := .any) hB.1 l 0 (Array.replicate l.toArray.size false) a (by simp) (by simpa using hB.2) h
  simpa using this
end
/-- The marks that a function has laid: each in a block of its own, with no call in it. -/
def mk7 (Es : List Nat) : List Deferred := Es.map fun E => { target := .collected E, args := #[] }
structure Mk7 (X : World) (Es : List Nat) : Prop where
  nd : Es.Nodup
  bl : ∀ E ∈ Es, X.heap[E]? = some (.deferred (some []))
theorem Mk7.lt {X : World} {Es : List Nat} (h : Mk7 X Es) : ∀ E ∈ Es, E < X.heap.size := fun E hE => (Array.getElem?_eq_some_iff.1 (h.bl E hE)).1
theorem Mk7.same {X Y : World} {Es : List Nat} (h : Mk7 X Es) (hs : ∀ E ∈ Es, Y.heap[E]? = X.heap[E]?) : Mk7 Y Es := ⟨h.nd, fun E hE => (hs E hE).trans (h.bl E hE)⟩
theorem Mk7.cons {E : Nat} {X : World} {Es : List Nat} (h : Mk7 X Es) (hn : E ∉ Es) (hE : X.heap[E]? = some (.deferred (some []))) : Mk7 X (E :: Es) :=
  ⟨List.nodup_cons.2 ⟨hn, h.nd⟩, fun e he => by rcases List.mem_cons.1 he with rfl | he; exact hE; exact h.bl e he⟩
theorem leaves7 {F : Fence} {n : Nat} {P : Program} {fn : Func} {tmps : Array Value} {R : Ending → World → Prop} {B : Nat} (G : World → Prop)
    (hG : ∀ X E, G X → B ≤ E → X.heap[E]? = some (.deferred (some [])) → G (X.putObj E (.deferred none)))
    (hR : ∀ X, G X → LeavesIn F n P fn tmps R [] .returning X) : ∀ (Es : List Nat) (X : World), Mk7 X Es → (∀ E ∈ Es, B ≤ E) → G X → LeavesInM F n P fn tmps R (mk7 Es) .returning X
  | [], X, _, _, h => hR X h
  | E :: Es, X, hm, hl, h => by
    have hE := hm.bl E (List.mem_cons_self ..)
    refine ⟨by simp, .inl ⟨E, _, rfl, run_takeDeferred hE, ?_⟩⟩
    have hnd := List.nodup_cons.1 hm.nd
    refine leaves7 G hG hR Es _ ⟨hnd.2, fun e he => ?_⟩ (fun e he => hl e (List.mem_cons_of_mem _ he)) (hG X E h (hl E (List.mem_cons_self ..)) hE)
    rw [World.putObj_heap_other (fun e' => by subst e'; exact hnd.1 he)]
    exact hm.bl e (List.mem_cons_of_mem _ he)
/-- Left as it should be, or not at all. -/
def NQ (R : Act → World → Prop) : Exit → Act → World → Prop
  | .normal, a, w => R a w
  | _, _, _ => False
/-- A frame of so many slots, written out. -/
theorem arr_of (n : Nat) (tmps : Array Value) (h : tmps.size = n) : ∃ f : Nat → Value, tmps = ((List.range n).map f).toArray ∧ ∀ i, i < n → tmps[i]? = some (f i) := by
  refine ⟨fun i => tmps[i]?.getD undef, ?_, fun i hi => ?_⟩
  · apply Array.ext
    · simp [h]
    · intro i h1 h2
      simp [h1]
  · have h1 : tmps[i]? = some (tmps[i]'(by omega)) := Array.getElem?_eq_getElem (by omega)
    simp only [h1, Option.getD_some]
/-- What a cell of the call's own holds, told by a result. -/
theorem ret_bc7 {fn : Func} {i : Nat} (hf : fn.results = #[.cell i 4]) (tmps : Array Value) (w : World) (g : Nat) (v : Bool)
    (h4 : tmps[i]?.getD undef = .pointer (some ⟨g, 0, none⟩)) (hg : w.cell? ⟨g, 0, none⟩ = some (.bool v)) : (results fn tmps).run Try.prog w = .ok (.bool v) w := by
  simp [results, hf, h4, go_sem, hg]
/-- A list of rows that lies in blocks of X. -/
def LX (X : Nat → Prop) (w : World) (v : Value) (P : List (List Int × Value)) : Prop :=
  ∃ a cap, v = .slice a P.length cap ∧ (P = [] ∨ ∃ b o, a = some ⟨b, o, none⟩ ∧ X b ∧ b < w.heap.size ∧ ∀ (i : Nat) p, P[i]? = some p → w.cell? ⟨b, o + i, none⟩ = some p.2) ∧ ∀ p ∈ P, Li X w p.2 p.1
theorem LX.same {X : Nat → Prop} {w w' : World} {v : Value} {P : List (List Int × Value)} (h : LX X w v P) (hs : w.heap.size ≤ w'.heap.size) (hx : ∀ b, X b → b < w.heap.size → w'.heap[b]? = w.heap[b]?) : LX X w' v P := by
  obtain ⟨a, cap, rfl, h1, h2⟩ := h
  refine ⟨a, cap, rfl, h1.imp id ?_, fun p hp => (h2 p hp).same hs hx⟩
  rintro ⟨b, o, rfl, hX, hl, hc⟩
  exact ⟨b, o, rfl, hX, by omega, fun i p hp => by rw [World.cell?_of_block (w := w) (a := ⟨b, o + i, none⟩) (hx b hX hl)]; exact hc i p hp⟩
theorem LX.mono {X Y : Nat → Prop} {w : World} {v : Value} {P : List (List Int × Value)} (h : LX X w v P) (hx : ∀ b, b < w.heap.size → X b → Y b) : LX Y w v P := by
  obtain ⟨a, cap, rfl, h1, h2⟩ := h
  refine ⟨a, cap, rfl, h1.imp id ?_, fun p hp => (h2 p hp).mono hx⟩
  rintro ⟨b, o, rfl, hX, hl, hc⟩
  exact ⟨b, o, rfl, hx b hl hX, hl, hc⟩
theorem LX.rn {X : Nat → Prop} {w : World} {v : Value} {P : List (List Int × Value)} (h : LX X w v P) : Rn7 w v P := by
  obtain ⟨a, cap, rfl, h1, h2⟩ := h
  refine ⟨a, cap, rfl, h1.imp id ?_, fun p hp => (h2 p hp).any⟩
  rintro ⟨b, o, rfl, -, hl, hc⟩
  exact ⟨b, o, rfl, hl, hc⟩
theorem OL.lx {w : World} {B : Nat} {v : Value} {P : List (List Int × Value)} (h : OL w B v P) : LX (fun b => B ≤ b ∧ b < w.heap.size) w v P := by
  obtain ⟨a, cap, e, h1, h2⟩ := h.rn
  refine ⟨a, cap, e, h1.imp id ?_, fun p hp => (h.l p hp).mono fun b hl hb => ⟨hb.1, hl⟩⟩
  rintro ⟨b, o, rfl, hl, hc⟩
  subst e
  refine ⟨b, o, rfl, ⟨?_, hl⟩, hl, hc⟩
  cases P with
  | nil =>
    rcases h.o.2 with ⟨hv, -⟩ | ⟨g, cap', cur, hv, hb, hg, hn, hc', hs, ht⟩
    · simp at hv
    · simp at hv; omega
  | cons p P' =>
    obtain ⟨b', e, hb', -⟩ := row7_at h.o (i := 0) (u := p.2) rfl
    cases e
    exact hb'
end Go.Proofs.Ytofopfjmcbgfjab
