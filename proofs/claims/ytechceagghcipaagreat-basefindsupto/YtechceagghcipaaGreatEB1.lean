import Derived.Test.YtechceagghcipaaGreatB4
import Derived.ProofKit
import Derived.OpenShut
import Derived.ShutString
import Derived.ChangeOld
import Derived.Below
import Derived.Lib.SmallJoins
import Derived.Test.YtechceagghcipaaGreatCL6
import Derived.DeepKeys4
import Derived.Test.YtechceagghcipaaGreatM2
import Derived.Test.YtechceagghcipaaGreatRA1
/-
  Arguments opened: a term, a list of terms, an atom, a binding.
-/
namespace Go.Proofs.YtechceagghcipaaGreat
open Go.ChangeShapes Go.WideShapes Go.ChangeAt Go.RowKit Go.Joins
open Go.ChangeMaps (open_string shut_string)

theorem Tryz.own : ownKnob Tryz.prog.godebug = none := by kernel_rfl
theorem Tryz.laidOut : laidOutB Tryz.prog = true := by kernel_rfl
theorem Tryz.cellsTerm : Tryz.prog.cellsOf 31 = 3 := by kernel_rfl

end Go.Proofs.YtechceagghcipaaGreat
/-
  Terms and predicates as keys of maps.
-/
namespace Go.Proofs.YtechceagghcipaaGreat
open Go.RowKit

/-- A predicate. -/
structure Pd where
  nm : ByteArray
  ar : Int
abbrev Pd.v (p : Pd) : Value := .agg #[.string p.nm, .int .i64 p.ar]
structure KeyT (t : Tm) : Prop where
  k : (Lit.int .i64 t.k).wf = true
  n : (Lit.int .i64 t.n).wf = true
  s : t.s.size ≤ maxLen
structure KeyP (p : Pd) : Prop where
  n : p.nm.size ≤ maxLen
  a : (Lit.int .i64 p.ar).wf = true
def kT (t : Tm) : Lit := .string (keyBytes [.int .i64 t.k, .int .i64 t.n, .string t.s.data.toList])
def kP (p : Pd) : Lit := .string (keyBytes [.string p.nm.data.toList, .int .i64 p.ar])
theorem Tryz.rowTerm : (31 : TypeId) < Tryz.prog.types.size := of_decide_eq_true (by kernel_rfl)
theorem Tryz.wideTerm : (match Tryz.prog.underlying 31 with | some (.array _ _) | some (.struct _) => true | _ => false) = true := by kernel_rfl
theorem Tryz.keyTypeTerm : Tryz.prog.keyType 31 = true := by kernel_rfl
set_option maxRecDepth 100000 in
theorem Tryz.lawTerm : Maps.Keyed Tryz.prog 31 := Maps.Keyed.of_law (deep_law_laid Tryz.laidOut (m := 2) (by omega) Tryz.rowTerm (by kernel_rfl) Tryz.wideTerm)
theorem Tryz.rowPred : (43 : TypeId) < Tryz.prog.types.size := of_decide_eq_true (by kernel_rfl)
theorem Tryz.widePred : (match Tryz.prog.underlying 43 with | some (.array _ _) | some (.struct _) => true | _ => false) = true := by kernel_rfl
theorem Tryz.keyTypePred : Tryz.prog.keyType 43 = true := by kernel_rfl
set_option maxRecDepth 100000 in
theorem Tryz.lawPred : Maps.Keyed Tryz.prog 43 := Maps.Keyed.of_law (deep_law_laid Tryz.laidOut (m := 2) (by omega) Tryz.rowPred (by kernel_rfl) Tryz.widePred)
theorem Tryz.cellsOfTerm : Tryz.prog.cellsOf 31 = 3 := by kernel_rfl
theorem Tryz.cellsOfPred : Tryz.prog.cellsOf 43 = 2 := by kernel_rfl
theorem Tryz.cellsOfInt : Tryz.prog.cellsOf 3 = 1 := by kernel_rfl
theorem Tryz.cellsOfString : Tryz.prog.cellsOf 9 = 1 := by kernel_rfl
theorem lits_int {d : Nat} (c : Value) : Tryz.prog.keyLits (d + 1) 3 [c] = match c with | .int .i64 n => if (Lit.int .i64 n).wf = true then some [Lit.int .i64 n] else none | _ => none := by
  unfold Program.keyLits
  rw [Tryz.underlying3]
  cases c with
  | int q n => 
    by_cases h : q = .i64
    · subst h; simp
    · cases q <;> first | (exact absurd rfl h) | simp
  | _ => rfl
theorem lits_string {d : Nat} (c : Value) : Tryz.prog.keyLits (d + 1) 9 [c] = match c with | .string s => if s.size ≤ maxLen then some [Lit.string s.data.toList] else none | _ => none := by
  unfold Program.keyLits
  rw [Tryz.underlying9]
  cases c <;> rfl
theorem pos_succ {n k : Nat} (h : k < n) : ∃ d, n = d + 1 := ⟨n - 1, by omega⟩
theorem types_pos : ∃ d, Tryz.prog.types.size = d + 1 := pos_succ Tryz.rowTerm
theorem lits_term (c0 c1 c2 : Value) (d : Nat) : Tryz.prog.keyLits (d + 1 + 1) 31 [c0, c1, c2] = (Tryz.prog.keyLits (d + 1) 3 [c0]).bind fun x => (Tryz.prog.keyLits (d + 1) 3 [c1]).bind fun y => (Tryz.prog.keyLits (d + 1) 9 [c2]).bind fun z => some (x ++ (y ++ z)) := by
  have hc := Tryz.cellsOfTerm
  have hi := Tryz.cellsOfInt
  have hs := Tryz.cellsOfString
  conv => lhs; unfold Program.keyLits
  rw [Tryz.underlying31]
  generalize Tryz.prog.keyLits (d + 1) = F at *
  simp [hc, hi, hs, List.mapM_cons, List.mapM_nil]
  cases F 3 [c0] <;> cases F 3 [c1] <;> cases F 9 [c2] <;> simp
theorem lits_pred (c0 c1 : Value) (d : Nat) : Tryz.prog.keyLits (d + 1 + 1) 43 [c0, c1] = (Tryz.prog.keyLits (d + 1) 9 [c0]).bind fun x => (Tryz.prog.keyLits (d + 1) 3 [c1]).bind fun y => some (x ++ y) := by
  have hc := Tryz.cellsOfPred
  have hi := Tryz.cellsOfInt
  have hs := Tryz.cellsOfString
  conv => lhs; unfold Program.keyLits
  rw [Tryz.underlying43]
  generalize Tryz.prog.keyLits (d + 1) = F at *
  simp [hc, hi, hs, List.mapM_cons, List.mapM_nil]
  cases F 9 [c0] <;> cases F 3 [c1] <;> simp
theorem keyOf_term_eq (v : Value) : keyOf Tryz.prog 31 v = if v.formed Tryz.prog 31 = true then (Tryz.prog.keyLits (Tryz.prog.types.size + 1) 31 v.cells.toList).map (fun ls => Lit.string (keyBytes ls)) else none := by
  unfold keyOf
  rw [Tryz.underlying31, Tryz.keyTypeTerm]
  simp only [Bool.true_and]
theorem keyOf_pred_eq (v : Value) : keyOf Tryz.prog 43 v = if v.formed Tryz.prog 43 = true then (Tryz.prog.keyLits (Tryz.prog.types.size + 1) 43 v.cells.toList).map (fun ls => Lit.string (keyBytes ls)) else none := by
  unfold keyOf
  rw [Tryz.underlying43, Tryz.keyTypePred]
  simp only [Bool.true_and]
set_option maxRecDepth 100000 in
theorem formed_term (v : Value) : v.formed Tryz.prog 31 = true ↔ ∃ c0 c1 c2, v = .agg #[c0, c1, c2] := by
  constructor
  · intro h
    cases v with
    | agg cs =>
      have hs : cs.size = 3 := by simpa [Value.formed, Tryz.underlying31, Tryz.cellsOfTerm] using h
      obtain ⟨l⟩ := cs
      match l, hs with
      | [a, b, c], _ => exact ⟨a, b, c, rfl⟩
    | _ => simp [Value.formed, Tryz.underlying31] at h
  · rintro ⟨c0, c1, c2, rfl⟩
    simp [Value.formed, Tryz.underlying31, Tryz.cellsOfTerm]
set_option maxRecDepth 100000 in
theorem formed_pred (v : Value) : v.formed Tryz.prog 43 = true ↔ ∃ c0 c1, v = .agg #[c0, c1] := by
  constructor
  · intro h
    cases v with
    | agg cs =>
      have hs : cs.size = 2 := by simpa [Value.formed, Tryz.underlying43, Tryz.cellsOfPred] using h
      obtain ⟨l⟩ := cs
      match l, hs with
      | [a, b], _ => exact ⟨a, b, rfl⟩
    | _ => simp [Value.formed, Tryz.underlying43] at h
  · rintro ⟨c0, c1, rfl⟩
    simp [Value.formed, Tryz.underlying43, Tryz.cellsOfPred]
theorem keyOf_tm {t : Tm} (h : KeyT t) : keyOf Tryz.prog 31 t.v = some (kT t) := by
  obtain ⟨d, hd⟩ := types_pos
  rw [keyOf_term_eq, if_pos ((formed_term _).2 ⟨_, _, _, rfl⟩), hd]
  show Option.map _ (Tryz.prog.keyLits (d + 1 + 1) 31 [_, _, _]) = _
  rw [lits_term, lits_int, lits_int, lits_string]
  simp [h.k, h.n, h.s, kT]
theorem keyOf_pd {p : Pd} (h : KeyP p) : keyOf Tryz.prog 43 p.v = some (kP p) := by
  obtain ⟨d, hd⟩ := types_pos
  rw [keyOf_pred_eq, if_pos ((formed_pred _).2 ⟨_, _, rfl⟩), hd]
  show Option.map _ (Tryz.prog.keyLits (d + 1 + 1) 43 [_, _]) = _
  rw [lits_pred, lits_int, lits_string]
  simp [h.n, h.a, kP]
theorem keyOf_tm_inv {v : Value} {kl : Lit} (h : keyOf Tryz.prog 31 v = some kl) : ∃ t : Tm, v = t.v ∧ kl = kT t ∧ KeyT t := by
  obtain ⟨d, hd⟩ := types_pos
  rw [keyOf_term_eq] at h
  by_cases hf : v.formed Tryz.prog 31 = true
  · rw [if_pos hf, hd] at h
    obtain ⟨c0, c1, c2, rfl⟩ := (formed_term _).1 hf
    replace h : Option.map (fun ls => Lit.string (keyBytes ls)) (Tryz.prog.keyLits (d + 1 + 1) 31 [c0, c1, c2]) = some kl := h
    rw [lits_term, lits_int, lits_int, lits_string] at h
    cases c0 with
    | int q0 n0 => 
      cases c1 with
      | int q1 n1 =>
        cases c2 with
        | string s =>
          cases q0 <;> try (simp at h; done)
          cases q1 <;> try (simp at h; done)
          by_cases h0 : (Lit.int .i64 n0).wf = true
          · by_cases h1 : (Lit.int .i64 n1).wf = true
            · by_cases h2 : s.size ≤ maxLen
              · simp only [h0, h1, h2, if_true, Option.bind_some, Option.map_some, Option.some.injEq] at h
                exact ⟨⟨n0, n1, s⟩, rfl, h.symm, ⟨h0, h1, h2⟩⟩
              · simp [h0, h1, h2] at h
            · simp [h0, h1] at h
          · simp [h0] at h
        | _ => simp at h
      | _ => simp at h
    | _ => simp at h
  · rw [if_neg hf] at h; cases h
theorem keyOf_pd_inv {v : Value} {kl : Lit} (h : keyOf Tryz.prog 43 v = some kl) : ∃ p : Pd, v = p.v ∧ kl = kP p ∧ KeyP p := by
  obtain ⟨d, hd⟩ := types_pos
  rw [keyOf_pred_eq] at h
  by_cases hf : v.formed Tryz.prog 43 = true
  · rw [if_pos hf, hd] at h
    obtain ⟨c0, c1, rfl⟩ := (formed_pred _).1 hf
    replace h : Option.map (fun ls => Lit.string (keyBytes ls)) (Tryz.prog.keyLits (d + 1 + 1) 43 [c0, c1]) = some kl := h
    rw [lits_pred, lits_int, lits_string] at h
    cases c0 with
    | string s =>
      cases c1 with
      | int q1 n1 =>
        cases q1 <;> try (simp at h; done)
        by_cases h0 : s.size ≤ maxLen
        · by_cases h1 : (Lit.int .i64 n1).wf = true
          · simp only [h0, h1, if_true, Option.bind_some, Option.map_some, Option.some.injEq] at h
            exact ⟨⟨s, n1⟩, rfl, h.symm, ⟨h0, h1⟩⟩
          · simp [h0, h1] at h
        · simp [h0] at h
      | _ => simp at h
    | _ => simp at h
  · rw [if_neg hf] at h; cases h
theorem kT_inj {t u : Tm} (ht : KeyT t) (hu : KeyT u) (h : kT t = kT u) : t = u := by
  have := Tryz.lawTerm.inj (keyOf_tm ht) (h ▸ keyOf_tm hu)
  cases t; cases u
  simpa [Tm.v] using this
theorem kP_inj {t u : Pd} (ht : KeyP t) (hu : KeyP u) (h : kP t = kP u) : t = u := by
  have := Tryz.lawPred.inj (keyOf_pd ht) (h ▸ keyOf_pd hu)
  cases t; cases u
  simpa [Pd.v] using this
end Go.Proofs.YtechceagghcipaaGreat
/-
  Maps whose keys are structs: what they hold, value by value.
-/
namespace Go.Proofs.YtechceagghcipaaGreat
open Go.RowKit

/-- How things of a kind are keys of a map. -/
structure Ky (P : Program) (k : TypeId) (κ : Type) where
  v : κ → Value
  l : κ → Lit
  ok : κ → Prop
  kd : Maps.Keyed P k
  of : ∀ x, ok x → keyOf P k (v x) = some (l x)
  inv : ∀ u kl, keyOf P k u = some kl → ∃ x, u = v x ∧ kl = l x ∧ ok x
  inj : ∀ x y, ok x → ok y → l x = l y → x = y
  key : ∀ x, WideAt.IsKeyLit (l x)
def kyT : Ky Tryz.prog 31 Tm := ⟨fun t => t.v, kT, KeyT, Tryz.lawTerm, fun _ h => keyOf_tm h, fun _ _ h => keyOf_tm_inv h, fun _ _ h1 h2 h => kT_inj h1 h2 h, fun _ => trivial⟩
def kyP : Ky Tryz.prog 43 Pd := ⟨fun t => t.v, kP, KeyP, Tryz.lawPred, fun _ h => keyOf_pd h, fun _ _ h => keyOf_pd_inv h, fun _ _ h1 h2 h => kP_inj h1 h2 h, fun _ => trivial⟩
/-- A map, and what it holds. -/
structure Mq {P : Program} {k : TypeId} {κ : Type} (K : Ky P k κ) (w : World) (b n : Nat) (f : κ → Option Value) : Prop where
  ex : ∃ D : DataW Value, w.ownsMap P k rawE b n D ∧ Maps.Tidy D ∧ Maps.size D = n ∧ ∀ x, K.ok x → Maps.has D (K.l x) = (f x).isSome ∧ ∀ v, f x = some v → ∀ z, D.atKey (K.l x) z = .held v
section
variable {P : Program} {k : TypeId} {κ : Type} {K : Ky P k κ} {w w' : World} {b n : Nat} {f : κ → Option Value}
theorem Mq.lt (h : Mq K w b n f) : b < w.heap.size := by
  obtain ⟨D, h1, -⟩ := h.ex
  exact h1.lt
theorem Mq.made (K : Ky P k κ) (w : World) : Mq K (w.alloc (.map #[] 0)) w.heap.size 0 fun _ => none :=
  ⟨.map [], World.ownsMap_made w P k rawE, Maps.tidy_empty, rfl, fun _ _ => ⟨rfl, fun v hv => by cases hv⟩⟩
theorem Mq.same (h : Mq K w b n f) (hb : w'.heap[b]? = w.heap[b]?) : Mq K w' b n f := by
  obtain ⟨D, ⟨es, clock, h1, r⟩, h2⟩ := h.ex
  exact ⟨D, ⟨es, clock, hb.trans h1, r⟩, h2⟩
theorem Mq.fr {Q : Nat → Prop} (h : Mq K w b n f) (hf : Fr Q w w') (hn : ¬ Q b) : Mq K w' b n f := h.same (hf.block b h.lt hn)
theorem Mq.at0 {T E : TypeId} (h : Mq K w b n f) (hT : P.underlying T = some (.map k E)) {z : Value} (hz : (zeroValue E).run P w = .ok z w) {x : κ} (hx : K.ok x) :
    (Instr.lookup T (.map (some b)) (K.v x) true).run P w = .ok (.tuple #[(f x).getD z, .bool (f x).isSome]) w ∧ (Instr.lookup T (.map (some b)) (K.v x) false).run P w = .ok ((f x).getD z) w := by
  obtain ⟨D, h1, h2, h3, h4⟩ := h.ex
  have h5 := h4 x hx
  have key : ∀ v : Value, DataW.held v = D.atKey (K.l x) (.held z) → v = (f x).getD z := fun v e => by
    cases hf : f x with
    | some u => rw [h5.2 u hf] at e; injection e
    | none =>
      have hh := h5.1
      rw [hf] at hh
      rw [Maps.atKey_of_not_has hh] at e
      injection e
  constructor
  · obtain ⟨v, ps, hr, hv⟩ := h1.look_ok K.kd hT hz (show rawE z = some (.held z, []) from rfl) (key := K.v x) (kl := K.l x) (K.of x hx)
    rw [hr, h5.1, key v (by have := congrArg (Option.map Prod.fst) hv; simpa [rawE] using this)]
  · obtain ⟨v, ps, hr, hv⟩ := h1.lookup K.kd hT hz (show rawE z = some (.held z, []) from rfl) (key := K.v x) (kl := K.l x) (K.of x hx)
    rw [hr, key v (by have := congrArg (Option.map Prod.fst) hv; simpa [rawE] using this)]
open Classical in
/-- What it holds behind a store. -/
noncomputable def qput (f : κ → Option Value) (s : κ) (v : Value) : κ → Option Value := fun x => if x = s then some v else f x
theorem qput_same (f : κ → Option Value) (s : κ) (v : Value) : qput f s v s = some v := if_pos rfl
theorem qput_other (f : κ → Option Value) {s x : κ} (v : Value) (h : x ≠ s) : qput f s v x = f x := if_neg h
theorem Mq.store {T E : TypeId} (h : Mq K w b n f) (hT : P.underlying T = some (.map k E)) (hn : n < maxLen) {s : κ} (hs : K.ok s) (v : Value) :
    ∃ w', (Instr.mapUpdate T (.map (some b)) (K.v s) v).run P w = .ok () w' ∧ Mq K w' b (if (f s).isSome then n else n + 1) (qput f s v) ∧ w.grownBy w' (some b) := by
  obtain ⟨D, h1, h2, h3, h4⟩ := h.ex
  obtain ⟨w', hr, ho, ht⟩ := h1.store K.kd hT hn (key := K.v s) (kl := K.l s) (K.of s hs) (show rawE v = some (.held v, []) from rfl)
  have hsz : Maps.size (D.put (K.l s) (.held v)) = if (f s).isSome then n else n + 1 := by rw [Maps.size_put h2, (h4 s hs).1, h3]
  have ho' := owns_tight ho
  rw [hsz] at ho'
  refine ⟨w', hr, ⟨_, ho', h2.put (K.key s) _, hsz, fun x hx => ?_⟩, ht.grown⟩
  by_cases e : x = s
  · subst e
    refine ⟨by rw [Maps.has_put_same h2.isMap (K.key _), qput_same]; rfl, fun u hu z => ?_⟩
    rw [qput_same] at hu
    cases hu
    exact Maps.atKey_put_same h2.isMap (K.key _) _ _
  · have hne : K.l x ≠ K.l s := fun h => e (K.inj x s hx hs h)
    rw [qput_other _ _ e]
    refine ⟨by rw [Maps.has_put_other hne]; exact (h4 x hx).1, fun u hu z => ?_⟩
    rw [Maps.atKey_put_other hne]
    exact (h4 x hx).2 u hu z
end
end Go.Proofs.YtechceagghcipaaGreat
