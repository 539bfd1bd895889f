import Derived.Test.YtechceagghcipaaGreatDoorRA0
namespace Go.Proofs.YtechceagghcipaaGreatDoor
open Go.RowKit

def rawE (v : Value) : Option (DataW Value × List MemPlace) := some (.held v, [])
def kS (s : ByteArray) : Lit := .string s.data.toList
theorem kS_inj {s t : ByteArray} (h : kS s = kS t) : s = t := by
 unfold kS at h
 injection h with h
 obtain ⟨⟨a⟩⟩ := s
 obtain ⟨⟨b⟩⟩ := t
 simp at h
 rw [h]
theorem kS_key (s : ByteArray) : WideAt.IsKeyLit (kS s) := by trivial
theorem owns_tight {w : World} {b n : Nat} {D : DataW Value} {P : Program} {k : TypeId} (h : w.ownsMap P k rawE b n D) : w.ownsMap P k rawE b (Maps.size D) D := by
 obtain ⟨es, clock, hb, F, hs, hD⟩ := h
 exact ⟨es, clock, hb, F, by rw [hD]; simp [Maps.size, length_sorted], hD⟩
structure Mp (P : Program) (k : TypeId) (w : World) (b n : Nat) (f : ByteArray -> Option Value) : Prop where
 ex : ∃ D : DataW Value, w.ownsMap P k rawE b n D /\ Maps.Tidy D /\ Maps.size D = n /\ ∀ s, Maps.has D (kS s) = (f s).isSome /\ ∀ v, f s = some v -> ∀ z, D.atKey (kS s) z = .held v
theorem Mp.lt {P : Program} {k : TypeId} {w : World} {b n : Nat} {f : ByteArray -> Option Value} (h : Mp P k w b n f) : b < w.heap.size := by
 obtain ⟨D, h1, -⟩ := h.ex
 exact h1.lt
theorem Mp.made (P : Program) (k : TypeId) (w : World) : Mp P k (w.alloc (.map #[] 0)) w.heap.size 0 fun _ => none :=
 ⟨.map [], World.ownsMap_made w P k rawE, Maps.tidy_empty, rfl, fun s => ⟨rfl, fun v hv => by cases hv⟩⟩
theorem Mp.same {P : Program} {k : TypeId} {w w' : World} {b n : Nat} {f : ByteArray -> Option Value} (h : Mp P k w b n f) (hb : w'.heap[b]? = w.heap[b]?) : Mp P k w' b n f := by
 obtain ⟨D, ⟨es, clock, h1, r⟩, h2⟩ := h.ex
 exact ⟨D, ⟨es, clock, hb.trans h1, r⟩, h2⟩
theorem Mp.fr {P : Program} {k : TypeId} {Q : Nat -> Prop} {w w' : World} {b n : Nat} {f : ByteArray -> Option Value} (h : Mp P k w b n f) (hf : Fr Q w w') (hn : ¬ Q b) : Mp P k w' b n f := h.same (hf.block b h.lt hn)
theorem Mp.has {P : Program} {k T E : TypeId} {w : World} {b n : Nat} {f : ByteArray -> Option Value} (h : Mp P k w b n f) (hk : P.underlying k = some .string) (hT : P.underlying T = some (.map k E)) {z : Value} (hz : (zeroValue E).run P w = .ok z w) {s : ByteArray} (hs : s.size <= maxLen) :
  (Instr.lookup T (.map (some b)) (.string s) true).run P w = .ok (.tuple #[(f s).getD z, .bool (f s).isSome]) w := by
 obtain ⟨D, h1, h2, h3, h4⟩ := h.ex
 obtain ⟨v, ps, hr, hv⟩ := h1.look_ok (Maps.string_keyed hk) hT hz (show rawE z = some (.held z, []) from rfl) (key := .string s) (kl := kS s) (WideMaps.keyOf_string_mk hk hs)
 rw [hr, (h4 s).1]
 have e : DataW.held v = D.atKey (kS s) (.held z) := by
  have := congrArg (Option.map Prod.fst) hv
  simpa [rawE] using this
 have e2 : v = (f s).getD z := by
  cases hf : f s with
  | some u => rw [(h4 s).2 u hf] at e; injection e
  | none =>
   have hh := (h4 s).1
   rw [hf] at hh
   rw [Maps.atKey_of_not_has hh] at e
   injection e
 rw [e2]
theorem Mp.at_ {P : Program} {k T E : TypeId} {w : World} {b n : Nat} {f : ByteArray -> Option Value} (h : Mp P k w b n f) (hk : P.underlying k = some .string) (hT : P.underlying T = some (.map k E)) {z : Value} (hz : (zeroValue E).run P w = .ok z w) {s : ByteArray} (hs : s.size <= maxLen) :
  (Instr.lookup T (.map (some b)) (.string s) false).run P w = .ok ((f s).getD z) w := by
 obtain ⟨D, h1, h2, h3, h4⟩ := h.ex
 obtain ⟨v, ps, hr, hv⟩ := h1.lookup (Maps.string_keyed hk) hT hz (show rawE z = some (.held z, []) from rfl) (key := .string s) (kl := kS s) (WideMaps.keyOf_string_mk hk hs)
 rw [hr]
 have e : DataW.held v = D.atKey (kS s) (.held z) := by
  have := congrArg (Option.map Prod.fst) hv
  simpa [rawE] using this
 have e2 : v = (f s).getD z := by
  cases hf : f s with
  | some u => rw [(h4 s).2 u hf] at e; injection e
  | none =>
   have hh := (h4 s).1
   rw [hf] at hh
   rw [Maps.atKey_of_not_has hh] at e
   injection e
 rw [e2]
def mput (f : ByteArray -> Option Value) (s : ByteArray) (v : Value) : ByteArray -> Option Value := fun x => if x = s then some v else f x
theorem Mp.store {P : Program} {k T E : TypeId} {w : World} {b n : Nat} {f : ByteArray -> Option Value} (h : Mp P k w b n f) (hk : P.underlying k = some .string) (hT : P.underlying T = some (.map k E)) (hn : n < maxLen) {s : ByteArray} (hs : s.size <= maxLen) (v : Value) :
  ∃ w', (Instr.mapUpdate T (.map (some b)) (.string s) v).run P w = .ok () w' /\ Mp P k w' b (if (f s).isSome then n else n + 1) (mput f s v) /\ w.grownBy w' (some b) := by
 obtain ⟨D, h1, h2, h3, h4⟩ := h.ex
 obtain ⟨w', hr, ho, ht⟩ := h1.store (Maps.string_keyed hk) hT hn (key := .string s) (kl := kS s) (WideMaps.keyOf_string_mk hk hs) (show rawE v = some (.held v, []) from rfl)
 have hsz : Maps.size (D.put (kS s) (.held v)) = if (f s).isSome then n else n + 1 := by rw [Maps.size_put h2, (h4 s).1, h3]
 have ho' := owns_tight ho
 rw [hsz] at ho'
 refine ⟨w', hr, ⟨_, ho', h2.put (kS_key s) _, hsz, fun x => ?_⟩, ht.grown⟩
 by_cases e : x = s
 ·subst e
  refine ⟨by rw [Maps.has_put_same h2.isMap (kS_key _)]; simp [mput], fun u hu z => ?_⟩
  have hu : some v = some u := by simpa [mput] using hu
  cases hu
  exact Maps.atKey_put_same h2.isMap (kS_key _) _ _
 ·have hne : kS x ≠ kS s := fun h => e (kS_inj h)
  refine ⟨by rw [Maps.has_put_other hne, (h4 x).1]; simp [mput, e], fun u hu z => ?_⟩
  simp only [mput, if_neg e] at hu
  rw [Maps.atKey_put_other hne]
  exact (h4 x).2 u hu z
end Go.Proofs.YtechceagghcipaaGreatDoor
