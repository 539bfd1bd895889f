import Derived.Test.YtechceagghcipaaGreatDoorRA1
import Derived.Test.YtechceagghcipaaGreatDoorCN2
namespace Go.Proofs.YtechceagghcipaaGreatDoor
open Go.RowKit

structure Ky (P : Program) (k : TypeId) (κ : Type) where
 v : κ -> Value
 l : κ -> Lit
 ok : κ -> Prop
 kd : Maps.Keyed P k
 of : ∀ x, ok x -> keyOf P k (v x) = some (l x)
 inv : ∀ u kl, keyOf P k u = some kl -> ∃ x, u = v x /\ kl = l x /\ ok x
 inj : ∀ x y, ok x -> ok y -> l x = l y -> x = y
 key : ∀ x, WideAt.IsKeyLit (l x)
def kyT : Ky Tryz.prog 24 Tm := ⟨fun t => t.v, kT, KeyT, Tryz.lawTerm, fun _ h => keyOf_tm h, fun _ _ h => keyOf_tm_inv h, fun _ _ h1 h2 h => kT_inj h1 h2 h, fun _ => trivial⟩
def kyP : Ky Tryz.prog 60 Pd := ⟨fun t => t.v, kP, KeyP, Tryz.lawPred, fun _ h => keyOf_pd h, fun _ _ h => keyOf_pd_inv h, fun _ _ h1 h2 h => kP_inj h1 h2 h, fun _ => trivial⟩
structure Mq {P : Program} {k : TypeId} {κ : Type} (K : Ky P k κ) (w : World) (b n : Nat) (f : κ -> Option Value) : Prop where
 ex : ∃ D : DataW Value, w.ownsMap P k rawE b n D /\ Maps.Tidy D /\ Maps.size D = n /\ ∀ x, K.ok x -> Maps.has D (K.l x) = (f x).isSome /\ ∀ v, f x = some v -> ∀ z, D.atKey (K.l x) z = .held v
section
variable {P : Program} {k : TypeId} {κ : Type} {K : Ky P k κ} {w w' : World} {b n : Nat} {f : κ -> Option Value}
theorem Mq.lt (h : Mq K w b n f) : b < w.heap.size := by
 obtain ⟨D, h1, -⟩ := h.ex
 exact h1.lt
theorem Mq.made (K : Ky P k κ) (w : World) : Mq K (w.alloc (.map #[] 0)) w.heap.size 0 fun _ => none :=
 ⟨.map [], World.ownsMap_made w P k rawE, Maps.tidy_empty, rfl, fun _ _ => ⟨rfl, fun v hv => by cases hv⟩⟩
theorem Mq.same (h : Mq K w b n f) (hb : w'.heap[b]? = w.heap[b]?) : Mq K w' b n f := by
 obtain ⟨D, ⟨es, clock, h1, r⟩, h2⟩ := h.ex
 exact ⟨D, ⟨es, clock, hb.trans h1, r⟩, h2⟩
theorem Mq.fr {Q : Nat -> Prop} (h : Mq K w b n f) (hf : Fr Q w w') (hn : ¬ Q b) : Mq K w' b n f := h.same (hf.block b h.lt hn)
theorem Mq.at0 {T E : TypeId} (h : Mq K w b n f) (hT : P.underlying T = some (.map k E)) {z : Value} (hz : (zeroValue E).run P w = .ok z w) {x : κ} (hx : K.ok x) :
  (Instr.lookup T (.map (some b)) (K.v x) true).run P w = .ok (.tuple #[(f x).getD z, .bool (f x).isSome]) w /\ (Instr.lookup T (.map (some b)) (K.v x) false).run P w = .ok ((f x).getD z) w := by
 obtain ⟨D, h1, h2, h3, h4⟩ := h.ex
 have h5 := h4 x hx
 have key : ∀ v : Value, DataW.held v = D.atKey (K.l x) (.held z) -> v = (f x).getD z := fun v e => by
  cases hf : f x with
  | some u => rw [h5.2 u hf] at e; injection e
  | none =>
   have hh := h5.1
   rw [hf] at hh
   rw [Maps.atKey_of_not_has hh] at e
   injection e
 constructor
 ·obtain ⟨v, ps, hr, hv⟩ := h1.look_ok K.kd hT hz (show rawE z = some (.held z, []) from rfl) (key := K.v x) (kl := K.l x) (K.of x hx)
  rw [hr, h5.1, key v (by have := congrArg (Option.map Prod.fst) hv; simpa [rawE] using this)]
 ·obtain ⟨v, ps, hr, hv⟩ := h1.lookup K.kd hT hz (show rawE z = some (.held z, []) from rfl) (key := K.v x) (kl := K.l x) (K.of x hx)
  rw [hr, key v (by have := congrArg (Option.map Prod.fst) hv; simpa [rawE] using this)]
open Classical in
noncomputable def qput (f : κ -> Option Value) (s : κ) (v : Value) : κ -> Option Value := fun x => if x = s then some v else f x
theorem qput_same (f : κ -> Option Value) (s : κ) (v : Value) : qput f s v s = some v := if_pos rfl
theorem qput_other (f : κ -> Option Value) {s x : κ} (v : Value) (h : x ≠ s) : qput f s v x = f x := if_neg h
theorem Mq.store {T E : TypeId} (h : Mq K w b n f) (hT : P.underlying T = some (.map k E)) (hn : n < maxLen) {s : κ} (hs : K.ok s) (v : Value) :
  ∃ w', (Instr.mapUpdate T (.map (some b)) (K.v s) v).run P w = .ok () w' /\ Mq K w' b (if (f s).isSome then n else n + 1) (qput f s v) /\ w.grownBy w' (some b) := by
 obtain ⟨D, h1, h2, h3, h4⟩ := h.ex
 obtain ⟨w', hr, ho, ht⟩ := h1.store K.kd hT hn (key := K.v s) (kl := K.l s) (K.of s hs) (show rawE v = some (.held v, []) from rfl)
 have hsz : Maps.size (D.put (K.l s) (.held v)) = if (f s).isSome then n else n + 1 := by rw [Maps.size_put h2, (h4 s hs).1, h3]
 have ho' := owns_tight ho
 rw [hsz] at ho'
 refine ⟨w', hr, ⟨_, ho', h2.put (K.key s) _, hsz, fun x hx => ?_⟩, ht.grown⟩
 by_cases e : x = s
 ·subst e
  refine ⟨by rw [Maps.has_put_same h2.isMap (K.key _), qput_same]; rfl, fun u hu z => ?_⟩
  rw [qput_same] at hu
  cases hu
  exact Maps.atKey_put_same h2.isMap (K.key _) _ _
 ·have hne : K.l x ≠ K.l s := fun h => e (K.inj x s hx hs h)
  rw [qput_other _ _ e]
  refine ⟨by rw [Maps.has_put_other hne]; exact (h4 x hx).1, fun u hu z => ?_⟩
  rw [Maps.atKey_put_other hne]
  exact (h4 x hx).2 u hu z
end
end Go.Proofs.YtechceagghcipaaGreatDoor
