import Derived.Test.YtechceagghcipaaGreatDoorRB0
import Derived.Sort.QuietIn
namespace Go.Proofs.YtechceagghcipaaGreatDoor
open Go.RowKit Go.Shelf
section
variable {F : Fence} {n : Nat} {P : Program} {ops : Array Oper} {C : World -> Prop} {md : Region.Mode}
def plainOps (ops : Array Oper) : Bool := ops.toList.all fun o => match o.op with | .defer _ => false | _ => true
theorem plainOps_get {i : Nat} {o : Oper} (h : plainOps ops = true) (ho : ops[i]? = some o) : ∀ c, o.op ≠ .defer c := by
 intro c hc
 have h1 := List.all_eq_true.1 h o (by rw [<- Array.getElem?_toList] at ho; exact List.mem_of_getElem? ho)
 rw [hc] at h1
 cases h1
end
def mk7 (Es : List Nat) : List Deferred := Es.map fun E => { target := .collected E, args := #[] }
structure Mk7 (X : World) (Es : List Nat) : Prop where
 nd : Es.Nodup
 bl : ∀ E ∈ Es, X.heap[E]? = some (.deferred (some []))
theorem Mk7.lt {X : World} {Es : List Nat} (h : Mk7 X Es) : ∀ E ∈ Es, E < X.heap.size := fun E hE => (Array.getElem?_eq_some_iff.1 (h.bl E hE)).1
theorem Mk7.same {X Y : World} {Es : List Nat} (h : Mk7 X Es) (hs : ∀ E ∈ Es, Y.heap[E]? = X.heap[E]?) : Mk7 Y Es := ⟨h.nd, fun E hE => (hs E hE).trans (h.bl E hE)⟩
theorem Mk7.cons {E : Nat} {X : World} {Es : List Nat} (h : Mk7 X Es) (hn : E ∉ Es) (hE : X.heap[E]? = some (.deferred (some []))) : Mk7 X (E :: Es) :=
 ⟨List.nodup_cons.2 ⟨hn, h.nd⟩, fun e he => by rcases List.mem_cons.1 he with rfl | he; exact hE; exact h.bl e he⟩
def NQ (R : Act -> World -> Prop) : Exit -> Act -> World -> Prop
 | .normal, a, w => R a w
 | _, _, _ => False
theorem arr_of (n : Nat) (tmps : Array Value) (h : tmps.size = n) : ∃ f : Nat -> Value, tmps = ((List.range n).map f).toArray /\ ∀ i, i < n -> tmps[i]? = some (f i) := by
 refine ⟨fun i => tmps[i]?.getD undef, ?_, fun i hi => ?_⟩
 ·apply Array.ext
  ·simp [h]
  ·intro i h1 h2
   simp [h1]
 ·have h1 : tmps[i]? = some (tmps[i]'(by omega)) := Array.getElem?_eq_getElem (by omega)
  simp only [h1, Option.getD_some]
end Go.Proofs.YtechceagghcipaaGreatDoor
