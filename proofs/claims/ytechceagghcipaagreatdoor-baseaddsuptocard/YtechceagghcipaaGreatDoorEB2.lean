import Derived.Test.YtechceagghcipaaGreatDoorRA2
import Derived.Test.YtechceagghcipaaGreatDoorCN2
import Derived.Laws.AppendOwnNone
import Derived.Laws.AppendOwn
import Derived.Test.YtechceagghcipaaGreatDoorRA14
import Derived.Test.YtechceagghcipaaGreatDoorRB3
/-
  Maps whose keys are structs: what they hold, value by value.
-/
namespace Go.Proofs.YtechceagghcipaaGreatDoor
open Go.RowKit

/-- How things of a kind are keys of a map. -/
structure Ky (P : Program) (k : TypeId) (κ : Type) where
  v : κ → Value
  l : κ → Lit
  ok : κ → Prop
  kd : Maps.Keyed P k
  of : ∀ x, ok x → keyOf P k (v x) = some (l x)
  inv : ∀ u kl, keyOf P k u = some kl → ∃ x, u = v x ∧ kl = l x ∧ ok x
  inj : ∀ x y, ok x → ok y → l x = l y → x = y
  key : ∀ x, WideAt.IsKeyLit (l x)
def kyT : Ky Tryz.prog 24 Tm := ⟨fun t => t.v, kT, KeyT, Tryz.lawTerm, fun _ h => keyOf_tm h, fun _ _ h => keyOf_tm_inv h, fun _ _ h1 h2 h => kT_inj h1 h2 h, fun _ => trivial⟩
def kyP : Ky Tryz.prog 60 Pd := ⟨fun t => t.v, kP, KeyP, Tryz.lawPred, fun _ h => keyOf_pd h, fun _ _ h => keyOf_pd_inv h, fun _ _ h1 h2 h => kP_inj h1 h2 h, fun _ => trivial⟩
/-- A map, and what it holds. -/
structure Mq {P : Program} {k : TypeId} {κ : Type} (K : Ky P k κ) (w : World) (b n : Nat) (f : κ → Option Value) : Prop where
  ex : ∃ D : DataW Value, w.ownsMap P k rawE b n D ∧ Maps.Tidy D ∧ Maps.size D = n ∧ ∀ x, K.ok x → Maps.has D (K.l x) = (f x).isSome ∧ ∀ v, f x = some v → ∀ z, D.atKey (K.l x) z = .held v
section
variable {P : Program} {k : TypeId} {κ : Type} {K : Ky P k κ} {w w' : World} {b n : Nat} {f : κ → Option Value}
theorem Mq.lt (h : Mq K w b n f) : b < w.heap.size := by
  obtain ⟨D, h1, -⟩ := h.ex
  exact h1.lt
theorem Mq.made (K : Ky P k κ) (w : World) : Mq K (w.alloc (.map #[] 0)) w.heap.size 0 fun _ => none :=
  ⟨.map [], World.ownsMap_made w P k rawE, Maps.tidy_empty, rfl, fun _ _ => ⟨rfl, fun v hv => by cases hv⟩⟩
theorem Mq.same (h : Mq K w b n f) (hb : w'.heap[b]? = w.heap[b]?) : Mq K w' b n f := by
  obtain ⟨D, ⟨es, clock, h1, r⟩, h2⟩ := h.ex
  exact ⟨D, ⟨es, clock, hb.trans h1, r⟩, h2⟩
theorem Mq.fr {Q : Nat → Prop} (h : Mq K w b n f) (hf : Fr Q w w') (hn : ¬ Q b) : Mq K w' b n f := h.same (hf.block b h.lt hn)
theorem Mq.at0 {T E : TypeId} (h : Mq K w b n f) (hT : P.underlying T = some (.map k E)) {z : Value} (hz : (zeroValue E).run P w = .ok z w) {x : κ} (hx : K.ok x) :
    (Instr.lookup T (.map (some b)) (K.v x) true).run P w = .ok (.tuple #[(f x).getD z, .bool (f x).isSome]) w ∧ (Instr.lookup T (.map (some b)) (K.v x) false).run P w = .ok ((f x).getD z) w := by
  obtain ⟨D, h1, h2, h3, h4⟩ := h.ex
  have h5 := h4 x hx
  have key : ∀ v : Value, DataW.held v = D.atKey (K.l x) (.held z) → v = (f x).getD z := fun v e => by
    cases hf : f x with
    | some u => rw [h5.2 u hf] at e; injection e
    | none =>
      have hh := h5.1
      rw [hf] at hh
      rw [Maps.atKey_of_not_has hh] at e
      injection e
  constructor
  · obtain ⟨v, ps, hr, hv⟩ := h1.look_ok K.kd hT hz (show rawE z = some (.held z, []) from rfl) (key := K.v x) (kl := K.l x) (K.of x hx)
    rw [hr, h5.1, key v (by have := congrArg (Option.map Prod.fst) hv; simpa [rawE] using this)]
  · obtain ⟨v, ps, hr, hv⟩ := h1.lookup K.kd hT hz (show rawE z = some (.held z, []) from rfl) (key := K.v x) (kl := K.l x) (K.of x hx)
    rw [hr, key v (by have := congrArg (Option.map Prod.fst) hv; simpa [rawE] using this)]
open Classical in
/-- What it holds behind a store. -/
noncomputable def qput (f : κ → Option Value) (s : κ) (v : Value) : κ → Option Value := fun x => if x = s then some v else f x
theorem qput_same (f : κ → Option Value) (s : κ) (v : Value) : qput f s v s = some v := if_pos rfl
theorem qput_other (f : κ → Option Value) {s x : κ} (v : Value) (h : x ≠ s) : qput f s v x = f x := if_neg h
theorem Mq.store {T E : TypeId} (h : Mq K w b n f) (hT : P.underlying T = some (.map k E)) (hn : n < maxLen) {s : κ} (hs : K.ok s) (v : Value) :
    ∃ w', (Instr.mapUpdate T (.map (some b)) (K.v s) v).run P w = .ok () w' ∧ Mq K w' b (if (f s).isSome then n else n + 1) (qput f s v) ∧ w.grownBy w' (some b) := by
  obtain ⟨D, h1, h2, h3, h4⟩ := h.ex
  obtain ⟨w', hr, ho, ht⟩ := h1.store K.kd hT hn (key := K.v s) (kl := K.l s) (K.of s hs) (show rawE v = some (.held v, []) from rfl)
  have hsz : Maps.size (D.put (K.l s) (.held v)) = if (f s).isSome then n else n + 1 := by rw [Maps.size_put h2, (h4 s hs).1, h3]
  have ho' := owns_tight ho
  rw [hsz] at ho'
  refine ⟨w', hr, ⟨_, ho', h2.put (K.key s) _, hsz, fun x hx => ?_⟩, ht.grown⟩
  by_cases e : x = s
  · subst e
    refine ⟨by rw [Maps.has_put_same h2.isMap (K.key _), qput_same]; rfl, fun u hu z => ?_⟩
    rw [qput_same] at hu
    cases hu
    exact Maps.atKey_put_same h2.isMap (K.key _) _ _
  · have hne : K.l x ≠ K.l s := fun h => e (K.inj x s hx hs h)
    rw [qput_other _ _ e]
    refine ⟨by rw [Maps.has_put_other hne]; exact (h4 x hx).1, fun u hu z => ?_⟩
    rw [Maps.atKey_put_other hne]
    exact (h4 x hx).2 u hu z
end
end Go.Proofs.YtechceagghcipaaGreatDoor
/-
  Apply. (Written by genA.py out of A1.head.)
-/
namespace Go.Proofs.YtechceagghcipaaGreatDoor
open Go.RowKit
attribute [local go_sem ↓] Go.wp_at_zero Go.wp_at_succ

theorem Tryz.infoTerm : (Tryz.prog.info? 24).map (fun i => (i.zero, i.size, i.bytes)) = some (some (.agg #[.int .i64 0, .int .i64 0, .string ⟨#[]⟩]), 3, 32) := by kernel_rfl
def MC (n : Nat) : Array Value := madeCells #[.int .i64 0, .int .i64 0, .string ⟨#[]⟩] (n * 3)
theorem mk_terms (n : Nat) (hn : n ≤ 4398046511104) (w : World) : (Instr.makeSlice 25 (.int .i64 (n : Int)) (.int .i64 (n : Int))).run Tryz.prog w = .ok (.slice (some ⟨w.heap.size, 0, none⟩) n n) (w.alloc (.cells (MC n) 24)) := by
  obtain ⟨i, hi, h0, h1, h2⟩ := info_parts Tryz.infoTerm
  have h := run_make (P := Tryz.prog) w 25 24 i _ Tryz.underlying25 hi h0 .i64 .i64 n n (by omega) (Int.le_refl _) (by rw [h2]; omega) (by omega)
  rw [h1, Int.toNat_natCast] at h
  exact h
theorem fiveF {w : World} {g : Nat} {a b c d f : Value} {t : TypeId} (h : w.heap[g]? = some (.cells #[a, b, c, d, f] t (0, 0))) :
    (w.cell? ⟨g, 0, none⟩ = some a ∧ w.cell? ⟨g, 1, none⟩ = some b ∧ w.cell? ⟨g, 2, none⟩ = some c ∧ w.cell? ⟨g, 3, none⟩ = some d ∧ w.cell? ⟨g, 4, none⟩ = some f) ∧
    w.frozen? ⟨g, 0, none⟩ = false ∧ w.frozen? ⟨g, 1, none⟩ = false ∧ w.frozen? ⟨g, 2, none⟩ = false ∧ w.frozen? ⟨g, 3, none⟩ = false ∧ w.frozen? ⟨g, 4, none⟩ = false :=
  ⟨five h, frozen_of_row _ _ _ _ _ h, frozen_of_row _ _ _ _ _ h, frozen_of_row _ _ _ _ _ h, frozen_of_row _ _ _ _ _ h, frozen_of_row _ _ _ _ _ h⟩
theorem store5 {W : World} {G : Nat} {a b c d e a' b' c' d' e' : Value} {t : TypeId} (h : W.heap[G]? = some (.cells #[a, b, c, d, e] t (0, 0))) :
    (((((W.setCell ⟨G, 0, none⟩ a').setCell ⟨G, 1, none⟩ b').setCell ⟨G, 2, none⟩ c').setCell ⟨G, 3, none⟩ d').setCell ⟨G, 4, none⟩ e').heap[G]? = some (.cells #[a', b', c', d', e'] t (0, 0)) := by
  have h1 := heap_setCell_same _ _ 0 _ _ a' h
  have h2 := heap_setCell_same _ _ 1 _ _ b' h1
  have h3 := heap_setCell_same _ _ 2 _ _ c' h2
  have h4 := heap_setCell_same _ _ 3 _ _ d' h3
  exact heap_setCell_same _ _ 4 _ _ e' h4
theorem store5_other {W : World} {G k : Nat} {o : Obj} (a' b' c' d' e' : Value) (hk : k ≠ G) (h : W.heap[k]? = some o) :
    (((((W.setCell ⟨G, 0, none⟩ a').setCell ⟨G, 1, none⟩ b').setCell ⟨G, 2, none⟩ c').setCell ⟨G, 3, none⟩ d').setCell ⟨G, 4, none⟩ e').heap[k]? = some o := by
  rw [heap_setCell_other _ _ _ _ hk, heap_setCell_other _ _ _ _ hk, heap_setCell_other _ _ _ _ hk, heap_setCell_other _ _ _ _ hk, heap_setCell_other _ _ _ _ hk]; exact h
/-- Block g holds the first k of the terms l, and has room for all. -/
def TBlk (w : World) (g : Nat) (l : List Tm) (k : Nat) : Prop := ∃ C : Array Value, w.heap[g]? = some (.cells C 24 (0, 0)) ∧ C.size = l.length * 3 ∧
  ∀ i t, i < k → l[i]? = some t → C[i * 3]? = some (.int .i64 t.k) ∧ C[i * 3 + 1]? = some (.int .i64 t.n) ∧ C[i * 3 + 2]? = some (.string t.s)
theorem TBlk.start {w : World} {g : Nat} {l : List Tm} {n : Nat} (hn : n = l.length) (h : w.heap[g]? = some (.cells (MC n) 24 (0, 0))) : TBlk w g l 0 :=
  ⟨_, h, by rw [MC, size_madeCells, hn], fun i t hi => absurd hi (Nat.not_lt_zero _)⟩
theorem TBlk.later {w w' : World} {g : Nat} {l : List Tm} {k : Nat} (h : TBlk w g l k) (hb : Below w.heap.size w w') : TBlk w' g l k := by
  obtain ⟨C, h1, h2⟩ := h
  exact ⟨C, (hb.block _ (Array.getElem?_eq_some_iff.1 h1).1).trans h1, h2⟩
theorem TBlk.other {w : World} {g G i : Nat} {a : Value} {l : List Tm} {k : Nat} (h : TBlk w g l k) (hk : g ≠ G) : TBlk (w.setCell ⟨G, i, none⟩ a) g l k := by
  obtain ⟨C, h1, h2⟩ := h
  exact ⟨C, by rw [heap_setCell_other _ _ _ _ hk]; exact h1, h2⟩
theorem TBlk.cells {w : World} {g : Nat} {l : List Tm} {k j : Nat} (h : TBlk w g l k) (hj : j < l.length * 3) : (∃ c, w.cell? ⟨g, j, none⟩ = some c) ∧ w.frozen? ⟨g, j, none⟩ = false := by
  obtain ⟨C, h1, h2, -⟩ := h
  refine ⟨⟨C[j], ?_⟩, frozen_of_row _ _ _ _ _ h1⟩
  rw [cell_of_row _ _ _ _ _ _ h1]; simp
theorem TBlk.put {w : World} {g : Nat} {l : List Tm} {k : Nat} {t : Tm} (h : TBlk w g l k) (ht : l[k]? = some t) :
    TBlk (((w.setCell ⟨g, k * 3, none⟩ (.int .i64 t.k)).setCell ⟨g, k * 3 + 1, none⟩ (.int .i64 t.n)).setCell ⟨g, k * 3 + 2, none⟩ (.string t.s)) g l (k + 1) := by
  obtain ⟨C, h1, h2, h3⟩ := h
  have hk := (List.getElem?_eq_some_iff.1 ht).1
  have e1 := heap_setCell_same _ _ (k * 3) _ _ (.int .i64 t.k) h1
  have e2 := heap_setCell_same _ _ (k * 3 + 1) _ _ (.int .i64 t.n) e1
  have e3 := heap_setCell_same _ _ (k * 3 + 2) _ _ (.string t.s) e2
  refine ⟨_, e3, by simp [h2], fun i u hi hu => ?_⟩
  by_cases hik : i = k
  · subst hik
    rw [ht] at hu
    obtain rfl := Option.some.inj hu
    refine ⟨?_, ?_, ?_⟩ <;> simp [Array.getElem?_setIfInBounds, h2] <;> omega
  · obtain ⟨a, b, c⟩ := h3 i u (by omega) hu
    refine ⟨?_, ?_, ?_⟩
    · rw [Array.getElem?_setIfInBounds_ne (by omega), Array.getElem?_setIfInBounds_ne (by omega), Array.getElem?_setIfInBounds_ne (by omega)]; exact a
    · rw [Array.getElem?_setIfInBounds_ne (by omega), Array.getElem?_setIfInBounds_ne (by omega), Array.getElem?_setIfInBounds_ne (by omega)]; exact b
    · rw [Array.getElem?_setIfInBounds_ne (by omega), Array.getElem?_setIfInBounds_ne (by omega), Array.getElem?_setIfInBounds_ne (by omega)]; exact c
theorem TBlk.ts {w : World} {g : Nat} {l : List Tm} {n cap : Nat} (hn : n = l.length) (hl : n ≤ 4398046511104) (h : TBlk w g l n) : Ts w (.slice (some ⟨g, 0, none⟩) n cap) l := by
  subst hn
  obtain ⟨C, h1, h2, h3⟩ := h
  refine ⟨_, cap, rfl, by omega, Or.inr ⟨g, 0, rfl, (Array.getElem?_eq_some_iff.1 h1).1, fun i t ht => ?_⟩⟩
  obtain ⟨a, b, c⟩ := h3 i t (List.getElem?_eq_some_iff.1 ht).1 ht
  rw [cell_of_row _ _ _ _ _ _ h1, cell_of_row _ _ _ _ _ _ h1, cell_of_row _ _ _ _ _ _ h1]
  simp only [Nat.zero_add]
  exact ⟨a, b, c⟩
theorem BoxB.later2 {w W W' : World} {c d : Array Value} {t t' : TypeId} (h : BoxB w W c d t t') (hb : Below (w.heap.size + 2) W W') : BoxB w W' c d t t' :=
  ⟨(hb.block _ (by omega)).trans h.1, (hb.block _ (by omega)).trans h.2.1, h.2.2.trans (hb.mono (by omega))⟩
theorem bset3 {B : Nat} {W V : World} {G i j m : Nat} {a b c : Value} (h : Below B W V) (hg : B ≤ G) : Below B W (((V.setCell ⟨G, i, none⟩ a).setCell ⟨G, j, none⟩ b).setCell ⟨G, m, none⟩ c) :=
  ((h.setCell (p := ⟨G, i, none⟩) hg _).setCell (p := ⟨G, j, none⟩) hg _).setCell (p := ⟨G, m, none⟩) hg _
end Go.Proofs.YtechceagghcipaaGreatDoor
/-
  Terms in memory that the call itself made; lent of the laws.
-/
namespace Go.Proofs.YtechceagghcipaaGreatDoor
open Go.RowKit

def Tm.cs (t : Tm) : List Value := [.int .i64 t.k, .int .i64 t.n, .string t.s]
def tcs (l : List Tm) : List Value := l.flatMap Tm.cs
theorem tcs_len (l : List Tm) : (tcs l).length = l.length * 3 := by
  induction l with
  | nil => rfl
  | cons d l ih => simp only [tcs, List.flatMap_cons, List.length_append, List.length_cons] at *; rw [ih]; simp [Tm.cs]; omega
theorem tcs_snoc (l : List Tm) (d : Tm) : tcs (l ++ [d]) = tcs l ++ d.cs := by simp [tcs]
theorem tcs_get (l : List Tm) (j : Nat) (d : Tm) (h : l[j]? = some d) (i : Nat) (hi : i < 3) : (tcs l)[j * 3 + i]? = d.cs[i]? := by
  induction l generalizing j with
  | nil => simp at h
  | cons e l ih =>
    rw [tcs, List.flatMap_cons]
    cases j with
    | zero =>
      simp only [List.getElem?_cons_zero, Option.some.injEq] at h
      subst h
      rw [List.getElem?_append_left (by simp [Tm.cs]; omega)]
      simp
    | succ j =>
      simp only [List.getElem?_cons_succ] at h
      rw [List.getElem?_append_right (by simp [Tm.cs]; omega)]
      have e1 : (j + 1) * 3 + i - (Tm.cs e).length = j * 3 + i := by simp [Tm.cs]; omega
      rw [e1]
      exact ih j h
/-- v holds the terms l, in a block of the call's own. -/
def OwnT (w : World) (base : Nat) (v : Value) (l : List Tm) : Prop := w.ownsRow base 24 3 v l.length (tcs l)
theorem ownT_cells {w : World} {base g cap n : Nat} {l : List Tm} (h : OwnT w base (.slice (some ⟨g, 0, none⟩) n cap) l) (j : Nat) (d : Tm) (hd : l[j]? = some d) :
    w.cell? ⟨g, j * 3, none⟩ = some (.int .i64 d.k) ∧ w.cell? ⟨g, j * 3 + 1, none⟩ = some (.int .i64 d.n) ∧ w.cell? ⟨g, j * 3 + 2, none⟩ = some (.string d.s) := by
  rcases h.2 with ⟨h, _⟩ | ⟨g', cap', cur, hv, hb, hg, hn, hc, hs, ht⟩
  · cases h
  · simp only [Value.slice.injEq, Option.some.injEq, Addr.mk.injEq] at hv
    obtain ⟨⟨rfl, -⟩, -, rfl⟩ := hv
    have hj := (List.getElem?_eq_some_iff.1 hd).1
    have key : ∀ i, i < 3 → w.cell? ⟨g, j * 3 + i, none⟩ = d.cs[i]? := fun i hi => by
      rw [cell_of_row _ _ _ _ _ _ hg, ← tcs_get l j d hd i hi, ← ht, List.getElem?_take_of_lt (by omega)]
      simp
    exact ⟨key 0 (by omega), key 1 (by omega), key 2 (by omega)⟩
theorem OwnT.lt {w : World} {base : Nat} {v : Value} {l : List Tm} (h : OwnT w base v l) : ∀ k, v.ownBlock = some k → base ≤ k ∧ k < w.heap.size := World.ownsRow.lt h
theorem OwnT.mono {w : World} {b b' : Nat} {v : Value} {l : List Tm} (h : OwnT w b v l) (hb : b' ≤ b) : OwnT w b' v l := by
  refine ⟨h.1, ?_⟩
  rcases h.2 with hn | ⟨g, cap, cur, hv, hbb, rest⟩
  · exact Or.inl hn
  · exact Or.inr ⟨g, cap, cur, hv, Nat.le_trans hb hbb, rest⟩
theorem OwnT.later {w w' : World} {base : Nat} {v : Value} {l : List Tm} (h : OwnT w base v l) (hb : Below w.heap.size w w') : OwnT w' base v l := by
  refine ⟨h.1, ?_⟩
  rcases h.2 with hn | ⟨g, cap, cur, hv, hbb, hg, rest⟩
  · exact Or.inl hn
  · exact Or.inr ⟨g, cap, cur, hv, hbb, (hb.block _ (Array.getElem?_eq_some_iff.1 hg).1).trans hg, rest⟩
theorem OwnT.set {w : World} {base G i : Nat} {a : Value} {v : Value} {l : List Tm} (h : OwnT w base v l) (hG : G < base) : OwnT (w.setCell ⟨G, i, none⟩ a) base v l := by
  refine ⟨h.1, ?_⟩
  rcases h.2 with hn | ⟨g, cap, cur, hv, hbb, hg, rest⟩
  · exact Or.inl hn
  · exact Or.inr ⟨g, cap, cur, hv, hbb, by rw [heap_setCell_other _ _ _ _ (show g ≠ G by omega)]; exact hg, rest⟩
/-- A list of terms that came in: nil, or a slice with an address. -/
def TsO (w : World) (v : Value) (l : List Tm) : Prop := (v = .slice none 0 0 ∧ l = []) ∨ ∃ ad cap, v = .slice (some ad) l.length cap ∧ l.length * 32 ≤ 140737488351232 ∧ (l = [] ∨ ∃ b o, ad = ⟨b, o, none⟩ ∧ TRow w b o l)
theorem TsO.ts {w : World} {v : Value} {l : List Tm} (h : TsO w v l) : Ts w v l := by
  rcases h with ⟨rfl, rfl⟩ | ⟨ad, cap, rfl, hl, h⟩
  · exact ⟨none, 0, rfl, by simp, Or.inl rfl⟩
  · refine ⟨some ad, cap, rfl, by omega, ?_⟩
    rcases h with h | ⟨b, o, rfl, h⟩
    · exact Or.inl h
    · exact Or.inr ⟨b, o, rfl, h⟩
theorem TsO.later {w w' : World} {v : Value} {l : List Tm} (h : TsO w v l) (hb : Below w.heap.size w w') : TsO w' v l := by
  rcases h with h | ⟨ad, cap, h1, h2, h3⟩
  · exact Or.inl h
  · refine Or.inr ⟨ad, cap, h1, h2, ?_⟩
    rcases h3 with h3 | ⟨b, o, h3, h4⟩
    · exact Or.inl h3
    · exact Or.inr ⟨b, o, h3, h4.later hb⟩
theorem tcs_mem {l : List Tm} {u : Value} (h : u ∈ tcs l) : u.oneCell' = true := by
  simp only [tcs, List.mem_flatMap] at h
  obtain ⟨d, -, hu⟩ := h
  simp [Tm.cs] at hu
  rcases hu with rfl | rfl | rfl <;> rfl
theorem trow_get {w : World} {b o : Nat} {l : List Tm} (h : TRow w b o l) : ∀ j u, (tcs l)[j]? = some u → w.cell? ((⟨b, o, none⟩ : Addr).add j) = some u := fun j u hu => by
  have hj : j < l.length * 3 := by rw [← tcs_len]; exact (List.getElem?_eq_some_iff.1 hu).1
  have hq : j / 3 < l.length := by omega
  obtain ⟨d, hd⟩ : ∃ d, l[j / 3]? = some d := ⟨_, List.getElem?_eq_getElem hq⟩
  have hg := tcs_get l (j / 3) d hd (j % 3) (by omega)
  rw [show j / 3 * 3 + j % 3 = j by omega, hu] at hg
  have hc := h.2 _ _ hd
  have ha : (⟨b, o, none⟩ : Addr).add j = ⟨b, o + j / 3 * 3 + j % 3, none⟩ := by
    rw [Go.WideShapes.add_plain]; congr 1; omega
  rw [ha]
  have h4 : j % 3 = 0 ∨ j % 3 = 1 ∨ j % 3 = 2 := by omega
  rcases h4 with e | e | e <;> rw [e] at hg ⊢ <;> simp [Tm.cs] at hg <;> subst hg
  · exact hc.1
  · exact hc.2.1
  · exact hc.2.2
/-- The first terms of a longer list. -/
theorem ownT_pre {w : World} {base g cap : Nat} {s : List Tm} {d : Tm} (h : OwnT w base (.slice (some ⟨g, 0, none⟩) (s.length + 1) cap) (s ++ [d])) (hs : s.length < 1000000000000000000) : Ts w (.slice (some ⟨g, 0, none⟩) s.length cap) s := by
  have hlt : g < w.heap.size := (h.lt g rfl).2
  refine ⟨_, cap, rfl, hs, Or.inr ⟨g, 0, rfl, hlt, fun i t ht => ?_⟩⟩
  have hi := (List.getElem?_eq_some_iff.1 ht).1
  have := ownT_cells h i t (by rw [List.getElem?_append_left hi]; exact ht)
  simpa using this
theorem ownT_cap {w : World} {base g cap n : Nat} {l : List Tm} (h : OwnT w base (.slice (some ⟨g, 0, none⟩) n cap) l) : n ≤ cap := by
  rcases h.2 with ⟨h, _⟩ | ⟨g', c, cur, hv, _, _, hn, _⟩
  · cases h
  · simp only [Value.slice.injEq] at hv; omega
end Go.Proofs.YtechceagghcipaaGreatDoor
/-
  base: its table. (Written by EB2.py.)
-/
namespace Go.Proofs.YtechceagghcipaaGreatDoor
open Go.RowKit
attribute [local go_sem ↓] Go.wp_at_zero Go.wp_at_succ

/-- The number of a term. -/
def ix8 (T : List Tm) (t : Tm) : Option Nat := T.findIdx? fun x => decide (x = t)
def ixF (T : List Tm) (t : Tm) : Option Value := (ix8 T t).map fun i => .int .i64 (i : Int)
theorem ix8_some {T : List Tm} {t : Tm} {i : Nat} (h : ix8 T t = some i) : T[i]? = some t := by
  unfold ix8 at h
  obtain ⟨hi, h1, -⟩ := List.findIdx?_eq_some_iff_getElem.1 h
  rw [List.getElem?_eq_getElem hi]
  simpa using h1
theorem ix8_snoc (T : List Tm) (t x : Tm) (h : ix8 T t = none) : ix8 (T ++ [t]) x = if x = t then some T.length else ix8 T x := by
  unfold ix8
  rw [List.findIdx?_append]
  by_cases e : x = t
  · subst e
    rw [if_pos rfl]
    unfold ix8 at h
    rw [h]
    simp
  · rw [if_neg e]
    cases hx : T.findIdx? (fun y => decide (y = x)) with
    | some i => simp
    | none => simp [Ne.symm e]
/-- A base's table, where it lies. -/
structure TB8 (g : Nat) (tv : Value) (mn : Nat) (rm : Value) (T : List Tm) (Y : World) : Prop where
  b : Bk Y g #[tv, .map (some mn), rm] 82
  o : OwnT Y 0 tv T
  n : Mq kyT Y mn T.length (ixF T)
  a : tv.ownBlock ≠ some g ∧ tv.ownBlock ≠ some mn
  l : T.length ≤ 1000000000
theorem Mq.below {P : Program} {k : TypeId} {κ : Type} {K : Ky P k κ} {w w' : World} {b n : Nat} {f : κ → Option Value} (h : Mq K w b n f) (hb : Below w.heap.size w w') : Mq K w' b n f := h.same (hb.block b h.lt)
theorem TB8.fr {g : Nat} {tv : Value} {mn : Nat} {rm : Value} {T : List Tm} {P : Nat → Prop} {Y Y' : World} (h : TB8 g tv mn rm T Y) (hf : Fr P Y Y') (hn : ∀ b, (b = g ∨ tv.ownBlock = some b ∨ b = mn) → ¬ P b) : TB8 g tv mn rm T Y' :=
  ⟨h.b.fr hf (hn g (Or.inl rfl)), row7_fr h.o hf fun b hb => hn b (Or.inr (Or.inl hb)), h.n.fr hf (hn mn (Or.inr (Or.inr rfl))), h.a, h.l⟩
theorem TB8.below {g : Nat} {tv : Value} {mn : Nat} {rm : Value} {T : List Tm} {Y Y' : World} (h : TB8 g tv mn rm T Y) (hb : Below Y.heap.size Y Y') : TB8 g tv mn rm T Y' := h.fr (P := fun _ => False) (Fr.of hb) fun _ _ h => h
theorem TB8.look {g : Nat} {tv : Value} {mn : Nat} {rm : Value} {T : List Tm} {Y : World} (h : TB8 g tv mn rm T Y) {t : Tm} (ht : KeyT t) : (Instr.lookup 77 (.map (some mn)) t.v true).run Tryz.prog Y = .ok (.tuple #[.int .i64 (((ix8 T t).getD 0 : Nat) : Int), .bool (ix8 T t).isSome]) Y := by
  have := (h.n.at0 (T := 77) (E := 3) Tryz.underlying77 (zero7 Y) (x := t) ht).1
  have e : kyT.v t = t.v := rfl
  rw [e] at this
  rw [this]
  unfold ixF
  cases ix8 T t <;> rfl
set_option maxRecDepth 20000 in
set_option maxHeartbeats 1000000 in
theorem number8_any (g : Nat) (tv : Value) (mn : Nat) (rm : Value) (T : List Tm) (t : Tm) (Y : World) (h : TB8 g tv mn rm T Y) (ht : KeyT t) :
    Calls Tryz.prog 83 #[.pointer (some ⟨g, 0, none⟩), t.v] Y fun e Y' => e = .returned (.tuple #[.int .i64 (((ix8 T t).getD 0 : Nat) : Int), .bool (ix8 T t).isSome]) ∧ Below Y.heap.size Y Y' := by
  obtain ⟨Y0, hY0⟩ : ∃ Y0, Y.alloc (.cells #[.int .i64 t.k, .int .i64 t.n, .string t.s] 24) = Y0 := ⟨_, rfl⟩
  have hb0 : Below Y.heap.size Y Y0 := by rw [← hY0]; exact below1 _ _
  have HBX : Hid (Bk Y0 Y.heap.size #[.int .i64 t.k, .int .i64 t.n, .string t.s] 24) := by show Bk _ _ _ _; rw [← hY0]; exact Bk.new _ _ _
  have HBK := hm7 (h.b.below hb0)
  have HB0 := hm7 hb0
  obtain ⟨pi, hpi⟩ : ∃ pi : Int, (((ix8 T t).getD 0 : Nat) : Int) = pi := ⟨_, rfl⟩
  obtain ⟨pb, hpb⟩ : ∃ pb, (ix8 T t).isSome = pb := ⟨_, rfl⟩
  have HL : Hid (∀ X : World, Below Y0.heap.size Y0 X → (Instr.lookup 77 (.map (some mn)) (.agg #[.int .i64 t.k, .int .i64 t.n, .string t.s]) true).run Tryz.prog X = .ok (.tuple #[.int .i64 pi, .bool pb]) X) := fun X hX => by
    have := ((h.below hb0).below hX).look ht
    rw [hpi, hpb] at this
    exact this
  rw [hpi, hpb]
  clear h hpi hpb hb0
  go_enter Tryz.func83, Tryz.ntmps83
  go_upto_region 1 with fail
  refine wp_region_held_drew (S := fun w' => Below Y0.heap.size Y0 w') (by kernel_rfl) (by exact (Below.refl _ _).drew) (fun hH => ?_)
  revert hH
  generalize Y0.drew = V0
  intro hH
  refine wpAnyH_take (i := 0) (oi := ⟨_, _, _, _, _, _⟩) (v := .pointer (some ⟨g, 0, none⟩)) rfl (by kernel_rfl) (by kernel_rfl) (by kernel_rfl) (fun _ _ _ h => h) (Or.inl ⟨by rfl, fun w' h => by clear h; go_simp⟩) hH ?_
  simp only [Act.put, List.setIfInBounds_toArray, List.set_cons_zero, List.set_cons_succ]
  refine wpAnyH_take (i := 1) (oi := ⟨_, _, _, _, _, _⟩) (v := .pointer (some ⟨g, 0, none⟩)) rfl (by kernel_rfl) (by kernel_rfl) (by kernel_rfl) (fun _ _ _ h => h) (Or.inl ⟨by rfl, fun w' h => by clear h; go_simp⟩) hH ?_
  simp only [Act.put, List.setIfInBounds_toArray, List.set_cons_zero, List.set_cons_succ]
  refine wpAnyH_take (i := 2) (oi := ⟨_, _, _, _, _, _⟩) (v := .pointer (some ⟨g, 1, none⟩)) rfl (by kernel_rfl) (by kernel_rfl) (by kernel_rfl) (fun _ _ _ h => h) (Or.inl ⟨by rfl, fun w' h => by clear h; go_simp⟩) hH ?_
  simp only [Act.put, List.setIfInBounds_toArray, List.set_cons_zero, List.set_cons_succ]
  refine wpAnyH_take (i := 3) (oi := ⟨_, _, _, _, _, _⟩) (v := .map (some mn)) rfl (by kernel_rfl) (by kernel_rfl) (by kernel_rfl) (fun _ _ _ h => h) (Or.inl ⟨by rfl, fun w' h => by have q := (HBK.out.below h).cell (i := 1) rfl; clear h; go_simp⟩) hH ?_
  simp only [Act.put, List.setIfInBounds_toArray, List.set_cons_zero, List.set_cons_succ]
  refine wpAnyH_take (i := 4) (oi := ⟨_, _, _, _, _, _⟩) (v := .agg #[.int .i64 t.k, .int .i64 t.n, .string t.s]) rfl (by kernel_rfl) (by kernel_rfl) (by kernel_rfl) (fun _ _ _ h => h) (Or.inl ⟨by rfl, fun w' h => by have q0 := (HBX.out.below h).cell (i := 0) rfl; have q1 := (HBX.out.below h).cell (i := 1) rfl; have q2 := (HBX.out.below h).cell (i := 2) rfl; clear h; go_simp⟩) hH ?_
  simp only [Act.put, List.setIfInBounds_toArray, List.set_cons_zero, List.set_cons_succ]
  refine wpAnyH_take (i := 5) (oi := ⟨_, _, _, _, _, _⟩) (v := .tuple #[.int .i64 pi, .bool pb]) rfl (by kernel_rfl) (by kernel_rfl) (by kernel_rfl) (fun _ _ _ h => h) (Or.inl ⟨by rfl, fun w' h => by have q := HL.out w' h; clear h; go_simp⟩) hH ?_
  simp only [Act.put, List.setIfInBounds_toArray, List.set_cons_zero, List.set_cons_succ]
  refine wpAnyH_take (i := 6) (oi := ⟨_, _, _, _, _, _⟩) (v := .tuple #[.int .i64 pi, .bool pb]) rfl (by kernel_rfl) (by kernel_rfl) (by kernel_rfl) (fun _ _ _ h => h) (Or.inl ⟨by rfl, fun w' h => by clear h; go_simp⟩) hH ?_
  simp only [Act.put, List.setIfInBounds_toArray, List.set_cons_zero, List.set_cons_succ]
  refine wpAnyH_take (i := 7) (oi := ⟨_, _, _, _, _, _⟩) (v := .int .i64 pi) rfl (by kernel_rfl) (by kernel_rfl) (by kernel_rfl) (fun _ _ _ h => h) (Or.inl ⟨by rfl, fun w' h => by clear h; go_simp⟩) hH ?_
  simp only [Act.put, List.setIfInBounds_toArray, List.set_cons_zero, List.set_cons_succ]
  refine wpAnyH_take (i := 8) (oi := ⟨_, _, _, _, _, _⟩) (v := .bool pb) rfl (by kernel_rfl) (by kernel_rfl) (by kernel_rfl) (fun _ _ _ h => h) (Or.inl ⟨by rfl, fun w' h => by clear h; go_simp⟩) hH ?_
  simp only [Act.put, List.setIfInBounds_toArray, List.set_cons_zero, List.set_cons_succ]
  refine wpAnyH_take (i := 9) (oi := ⟨_, _, _, _, _, _⟩) (v := .int .i64 pi) rfl (by kernel_rfl) (by kernel_rfl) (by kernel_rfl) (fun _ _ _ h => h) (Or.inl ⟨by rfl, fun w' h => by clear h; go_simp⟩) hH ?_
  simp only [Act.put, List.setIfInBounds_toArray, List.set_cons_zero, List.set_cons_succ]
  refine wpAnyH_take (i := 10) (oi := ⟨_, _, _, _, _, _⟩) (v := .bool pb) rfl (by kernel_rfl) (by kernel_rfl) (by kernel_rfl) (fun _ _ _ h => h) (Or.inl ⟨by rfl, fun w' h => by clear h; go_simp⟩) hH ?_
  simp only [Act.put, List.setIfInBounds_toArray, List.set_cons_zero, List.set_cons_succ]
  refine wpAnyH_done (by kernel_rfl) ?_ _
  have HV := hm7 hH
  clear hH
  go_wp2
  go_ret2
  exact ⟨rfl, HB0.out.trans (HV.out.mono (by have := HB0.out.size; exact this))⟩
/-- What a term's entering leaves. -/
def En8 (g : Nat) (tv : Value) (mn : Nat) (rm : Value) (T : List Tm) (t : Tm) (Y : World) (e : Ending) (Y' : World) : Prop :=
  ∃ tv' T', e = .returned (.int .i64 (((ix8 T t).getD T.length : Nat) : Int)) ∧ TB8 g tv' mn rm T' Y' ∧ T' = (if (ix8 T t).isSome then T else T ++ [t]) ∧ Fr (fun b => b = g ∨ tv.ownBlock = some b ∨ b = mn) Y Y' ∧ ∀ b, tv'.ownBlock = some b → tv.ownBlock = some b ∨ Y.heap.size ≤ b
set_option maxRecDepth 20000 in
set_option maxHeartbeats 1000000 in
theorem enter8_old (g : Nat) (tv : Value) (mn : Nat) (rm : Value) (T : List Tm) (t : Tm) (Y : World) (h : TB8 g tv mn rm T Y) (ht : KeyT t) {i : Nat} (hi : ix8 T t = some i) :
    Calls Tryz.prog 56 #[.pointer (some ⟨g, 0, none⟩), t.v] Y (En8 g tv mn rm T t Y) := by
  obtain ⟨Y0, hY0⟩ : ∃ Y0, Y.alloc (.cells #[.int .i64 t.k, .int .i64 t.n, .string t.s] 24) = Y0 := ⟨_, rfl⟩
  have hb0 : Below Y.heap.size Y Y0 := by rw [← hY0]; exact below1 _ _
  have HBX : Hid (Bk Y0 Y.heap.size #[.int .i64 t.k, .int .i64 t.n, .string t.s] 24) := by show Bk _ _ _ _; rw [← hY0]; exact Bk.new _ _ _
  have HBK := hm7 (h.b.below hb0)
  have HB0 := hm7 hb0
  have HH := hm7 h
  have HI := hm7 hi
  obtain ⟨pi, hpi⟩ : ∃ pi : Int, (i : Int) = pi := ⟨_, rfl⟩
  obtain ⟨pb, hpb⟩ : ∃ pb : Bool, true = pb := ⟨_, rfl⟩
  have HL : Hid (∀ X : World, Below Y0.heap.size Y0 X → (Instr.lookup 77 (.map (some mn)) (.agg #[.int .i64 t.k, .int .i64 t.n, .string t.s]) true).run Tryz.prog X = .ok (.tuple #[.int .i64 pi, .bool pb]) X) := fun X hX => by
    have := ((h.below hb0).below hX).look ht
    rw [hi] at this
    rw [← hpi, ← hpb]
    exact this
  have HPI := hm7 hpi
  have HPB := hm7 hpb
  clear h hpi hb0 hi hpb
  go_enter Tryz.func56, Tryz.ntmps56
  go_upto_region 1 with fail
  refine wp_region_held_drew (S := fun w' => Below Y0.heap.size Y0 w') (by kernel_rfl) (by exact (Below.refl _ _).drew) (fun hH => ?_)
  revert hH
  generalize Y0.drew = V0
  intro hH
  refine wpAnyH_take (i := 0) (oi := ⟨_, _, _, _, _, _⟩) (v := .pointer (some ⟨g, 0, none⟩)) rfl (by kernel_rfl) (by kernel_rfl) (by kernel_rfl) (fun _ _ _ h => h) (Or.inl ⟨by rfl, fun w' h => by clear h; go_simp⟩) hH ?_
  simp only [Act.put, List.setIfInBounds_toArray, List.set_cons_zero, List.set_cons_succ]
  refine wpAnyH_take (i := 1) (oi := ⟨_, _, _, _, _, _⟩) (v := .pointer (some ⟨g, 0, none⟩)) rfl (by kernel_rfl) (by kernel_rfl) (by kernel_rfl) (fun _ _ _ h => h) (Or.inl ⟨by rfl, fun w' h => by clear h; go_simp⟩) hH ?_
  simp only [Act.put, List.setIfInBounds_toArray, List.set_cons_zero, List.set_cons_succ]
  refine wpAnyH_take (i := 2) (oi := ⟨_, _, _, _, _, _⟩) (v := .pointer (some ⟨g, 1, none⟩)) rfl (by kernel_rfl) (by kernel_rfl) (by kernel_rfl) (fun _ _ _ h => h) (Or.inl ⟨by rfl, fun w' h => by clear h; go_simp⟩) hH ?_
  simp only [Act.put, List.setIfInBounds_toArray, List.set_cons_zero, List.set_cons_succ]
  refine wpAnyH_take (i := 3) (oi := ⟨_, _, _, _, _, _⟩) (v := .map (some mn)) rfl (by kernel_rfl) (by kernel_rfl) (by kernel_rfl) (fun _ _ _ h => h) (Or.inl ⟨by rfl, fun w' h => by have q := (HBK.out.below h).cell (i := 1) rfl; clear h; go_simp⟩) hH ?_
  simp only [Act.put, List.setIfInBounds_toArray, List.set_cons_zero, List.set_cons_succ]
  refine wpAnyH_take (i := 4) (oi := ⟨_, _, _, _, _, _⟩) (v := .agg #[.int .i64 t.k, .int .i64 t.n, .string t.s]) rfl (by kernel_rfl) (by kernel_rfl) (by kernel_rfl) (fun _ _ _ h => h) (Or.inl ⟨by rfl, fun w' h => by have q0 := (HBX.out.below h).cell (i := 0) rfl; have q1 := (HBX.out.below h).cell (i := 1) rfl; have q2 := (HBX.out.below h).cell (i := 2) rfl; clear h; go_simp⟩) hH ?_
  simp only [Act.put, List.setIfInBounds_toArray, List.set_cons_zero, List.set_cons_succ]
  refine wpAnyH_take (i := 5) (oi := ⟨_, _, _, _, _, _⟩) (v := .tuple #[.int .i64 pi, .bool pb]) rfl (by kernel_rfl) (by kernel_rfl) (by kernel_rfl) (fun _ _ _ h => h) (Or.inl ⟨by rfl, fun w' h => by have q := HL.out w' h; clear h; go_simp⟩) hH ?_
  simp only [Act.put, List.setIfInBounds_toArray, List.set_cons_zero, List.set_cons_succ]
  refine wpAnyH_take (i := 6) (oi := ⟨_, _, _, _, _, _⟩) (v := .tuple #[.int .i64 pi, .bool pb]) rfl (by kernel_rfl) (by kernel_rfl) (by kernel_rfl) (fun _ _ _ h => h) (Or.inl ⟨by rfl, fun w' h => by clear h; go_simp⟩) hH ?_
  simp only [Act.put, List.setIfInBounds_toArray, List.set_cons_zero, List.set_cons_succ]
  refine wpAnyH_take (i := 7) (oi := ⟨_, _, _, _, _, _⟩) (v := .int .i64 pi) rfl (by kernel_rfl) (by kernel_rfl) (by kernel_rfl) (fun _ _ _ h => h) (Or.inl ⟨by rfl, fun w' h => by clear h; go_simp⟩) hH ?_
  simp only [Act.put, List.setIfInBounds_toArray, List.set_cons_zero, List.set_cons_succ]
  refine wpAnyH_take (i := 8) (oi := ⟨_, _, _, _, _, _⟩) (v := .bool pb) rfl (by kernel_rfl) (by kernel_rfl) (by kernel_rfl) (fun _ _ _ h => h) (Or.inl ⟨by rfl, fun w' h => by clear h; go_simp⟩) hH ?_
  simp only [Act.put, List.setIfInBounds_toArray, List.set_cons_zero, List.set_cons_succ]
  refine wpAnyH_take (i := 9) (oi := ⟨_, _, _, _, _, _⟩) (v := .int .i64 pi) rfl (by kernel_rfl) (by kernel_rfl) (by kernel_rfl) (fun _ _ _ h => h) (Or.inl ⟨by rfl, fun w' h => by clear h; go_simp⟩) hH ?_
  simp only [Act.put, List.setIfInBounds_toArray, List.set_cons_zero, List.set_cons_succ]
  refine wpAnyH_take (i := 10) (oi := ⟨_, _, _, _, _, _⟩) (v := .bool pb) rfl (by kernel_rfl) (by kernel_rfl) (by kernel_rfl) (fun _ _ _ h => h) (Or.inl ⟨by rfl, fun w' h => by clear h; go_simp⟩) hH ?_
  simp only [Act.put, List.setIfInBounds_toArray, List.set_cons_zero, List.set_cons_succ]
  refine wpAnyH_done (by kernel_rfl) ?_ _
  have HV := hm7 hH
  clear hH
  have hpb := HPB.out
  subst hpb
  go_wp2
  go_ret
  have hb : Below Y.heap.size Y V0 := HB0.out.trans (HV.out.mono (by have := HB0.out.size; exact this))
  exact ⟨tv, T, by rw [HI.out, ← HPI.out]; rfl, HH.out.below hb, by rw [HI.out]; rfl, Fr.of hb, fun b hb => Or.inl hb⟩
end Go.Proofs.YtechceagghcipaaGreatDoor
