/-
  TermOwn's lists, and one more behind each.
-/
import Derived.Test.YtnaiecemmhioeaaDoorTO4
namespace Go.Proofs.YtnaiecemmhioeaaDoor
open Go.RowKit

/-- A list full of its mark, and the same list with one more behind it: in its block, or in a new one. -/
structure Pr (ity : TypeId) (K : Nat) {α : Type} (enc : α → List Value) (o : Nat → α) (X : World) (B W2 k : Nat) (x : Value × Nat) (G : Value) : Prop where
  g : X.ownsRow B ity K G (x.2 + 1) ((List.replicate (x.2 + 1) (o k)).flatMap enc)
  v : X.ownsRow B ity K x.1 x.2 ((List.replicate x.2 (o k)).flatMap enc) ∨ ∃ b cap, x.1 = .slice (some ⟨b, 0, none⟩) x.2 cap ∧ G = .slice (some ⟨b, 0, none⟩) (x.2 + 1) cap
  w : ∀ b, G.ownBlock = some b → x.1.ownBlock = some b ∨ W2 ≤ b
/-- How far the second lists have come: n of them are there. -/
structure Kp (ity oty : TypeId) (K : Nat) {α : Type} (enc : α → List Value) (o : Nat → α) (X : World) (B W2 : Nat) (v : Value) (xs : List (Value × Nat)) (u : Value) (gs : List (Value × Nat)) (n : Nat) : Prop where
  o' : X.ownsRow B oty 1 v xs.length (xs.map (·.1))
  r : ∀ (k : Nat) (x : Value × Nat), n ≤ k → xs[k]? = some x → X.ownsRow B ity K x.1 x.2 ((List.replicate x.2 (o k)).flatMap enc)
  p : ∀ (k : Nat) (x : Value × Nat), k < n → xs[k]? = some x → ∃ G, gs[k]? = some (G, x.2 + 1) ∧ Pr ity K enc o X B W2 k x G
  l : gs.length = n
  m : X.ownsRow W2 oty 1 u n (gs.map (·.1))
  d : ∀ (i j : Nat) (x y : Value × Nat) (b : Nat), xs[i]? = some x → xs[j]? = some y → x.1.ownBlock = some b → y.1.ownBlock = some b → i = j
  lt : ∀ (k : Nat) (x : Value × Nat) (b : Nat), xs[k]? = some x → x.1.ownBlock = some b → b < W2
  vl : ∀ b, v.ownBlock = some b → b < W2
section
variable {ity oty : TypeId} {K : Nat} {α : Type} {enc : α → List Value} {o : Nat → α} {X Y : World} {B W2 : Nat} {v u : Value} {xs gs : List (Value × Nat)} {n : Nat}
theorem own_kept {ty : TypeId} {cs : List Value} {row : Option Nat} {q : Value} {m c : Nat} (h : X.ownsRow c ty K q m cs) (hg : X.grownBy Y row) (hne : ∀ b, q.ownBlock = some b → row = some b → False) : Y.ownsRow c ty K q m cs := by
  refine World.ownsRow.kept h hg ?_
  cases hq : q.ownBlock with
  | none => exact Or.inl rfl
  | some b => exact Or.inr (fun e => hne b hq e.symm)
theorem Pr.kept {row : Option Nat} {k : Nat} {x : Value × Nat} {G : Value} (h : Pr ity K enc o X B W2 k x G) (hg : X.grownBy Y row) (h1 : ∀ b, x.1.ownBlock = some b → row = some b → False) (h2 : ∀ b, G.ownBlock = some b → row = some b → False) : Pr ity K enc o Y B W2 k x G :=
  ⟨own_kept h.g hg h2, h.v.imp (fun h => own_kept h hg h1) id, h.w⟩
theorem Kp.kept {row : Option Nat} (h : Kp ity oty K enc o X B W2 v xs u gs n) (hg : X.grownBy Y row) (hne : ∀ b cur, row = some b → X.heap[b]? ≠ some (.cells cur ity (0, 0)) ∧ X.heap[b]? ≠ some (.cells cur oty (0, 0))) : Kp ity oty K enc o Y B W2 v xs u gs n := by
  refine ⟨own_kept h.o' hg fun b hb e => ?_, fun k x hk hx => own_kept (h.r k x hk hx) hg fun b hb e => ?_, fun k x hk hx => ?_, h.l, own_kept h.m hg fun b hb e => ?_, h.d, h.lt, h.vl⟩
  · obtain ⟨-, cur, hc⟩ := own_block h.o' hb; exact (hne b cur e).2 hc
  · obtain ⟨-, cur, hc⟩ := own_block (h.r k x hk hx) hb; exact (hne b cur e).1 hc
  · obtain ⟨G, h1, h2⟩ := h.p k x hk hx
    refine ⟨G, h1, h2.kept hg (fun b hb e => ?_) (fun b hb e => ?_)⟩
    · rcases h2.v with h3 | ⟨c, cap, h3, h4⟩
      · obtain ⟨-, cur, hc⟩ := own_block h3 hb; exact (hne b cur e).1 hc
      · have hb2 : G.ownBlock = some b := by rw [h4]; rw [h3] at hb; exact hb
        obtain ⟨-, cur, hc⟩ := own_block h2.g hb2; exact (hne b cur e).1 hc
    · obtain ⟨-, cur, hc⟩ := own_block h2.g hb; exact (hne b cur e).1 hc
  · obtain ⟨-, cur, hc⟩ := own_block h.m hb; exact (hne b cur e).2 hc
theorem Kp.later (h : Kp ity oty K enc o X B W2 v xs u gs n) (hb : Below X.heap.size X Y) : Kp ity oty K enc o Y B W2 v xs u gs n := h.kept (row := none) ⟨hb.os, hb.tape, hb.output, hb.size, fun k hk _ => hb.block k hk⟩ (fun b cur e => by cases e)
theorem Kp.start {P : Nat → List α → Prop} (h : Kd ity oty K enc X B v xs P) (hP : ∀ k x l, xs[k]? = some x → l.length = x.2 → P k l → l = List.replicate l.length (o k)) (hW : X.heap.size ≤ W2) : Kp ity oty K enc o X B W2 v xs (.slice none 0 0) [] 0 :=
  ⟨h.o, fun k x _ hx => by obtain ⟨l, h1, h2, h3⟩ := h.i k x hx; have := hP k x l hx h1 h3; rw [h1] at this; rw [← this]; exact h2, (fun k x hk => by omega), rfl, World.ownsRow_nil _ _ _ _, h.d,
   fun k x b hx hb => by obtain ⟨l, h1, h2, h3⟩ := h.i k x hx; exact Nat.lt_of_lt_of_le (World.ownsRow.lt h2 b hb).2 hW, fun b hb => Nat.lt_of_lt_of_le (World.ownsRow.lt h.o b hb).2 hW⟩
theorem rep_snoc {α : Type} (enc : α → List Value) (m : Nat) (t : α) : (List.replicate m t).flatMap enc ++ enc t = (List.replicate (m + 1) t).flatMap enc := by
  rw [List.replicate_succ', List.flatMap_append]; simp
/-- The list n with one more behind it: X to Y; what comes is laid into u in Z. -/
theorem Kp.step {Z : World} {x : Value × Nat} {G u' : Value} (h : Kp ity oty K enc o X B W2 v xs u gs n) (hio : ity ≠ oty) (hx : xs[n]? = some x) (hW : W2 ≤ X.heap.size)
    (hG : Y.ownsRow B ity K G (x.2 + 1) ((List.replicate x.2 (o n)).flatMap enc ++ enc (o n)))
    (hg : (∃ g cap, x.1 = .slice (some ⟨g, 0, none⟩) x.2 cap ∧ G = .slice (some ⟨g, 0, none⟩) (x.2 + 1) cap ∧ X.grownBy Y (some g)) ∨ (X.grownBy Y none ∧ ∀ k, G.ownBlock = some k → X.heap.size ≤ k))
    (hu : Z.ownsRow W2 oty 1 u' (n + 1) (gs.map (·.1) ++ [G])) (hz : Y.grownBy Z u.ownBlock) : Kp ity oty K enc o Z B W2 v xs u' (gs ++ [(G, x.2 + 1)]) (n + 1) := by
  rw [rep_snoc] at hG
  have hxo := h.r n x (Nat.le_refl _) hx
  obtain ⟨row, hrow, hr2⟩ : ∃ row, X.grownBy Y row ∧ ∀ b, row = some b → x.1.ownBlock = some b := by
    rcases hg with ⟨g, cap, h1, h2, h3⟩ | ⟨h1, -⟩
    · exact ⟨_, h3, fun b e => by cases e; rw [h1]; rfl⟩
    · exact ⟨none, h1, fun b e => by cases e⟩
  have typ : ∀ b, row = some b → ∃ cur, X.heap[b]? = some (.cells cur ity (0, 0)) := fun b e => (own_block hxo (hr2 b e)).2
  have noO : ∀ {c m : Nat} {q : Value} {cs : List Value}, X.ownsRow c oty 1 q m cs → ∀ b, q.ownBlock = some b → row = some b → False := fun hq b hb e => by
    obtain ⟨cur, hc⟩ := typ b e
    obtain ⟨-, cur2, hc2⟩ := own_block hq hb
    rw [hc] at hc2
    simp only [Option.some.injEq, Obj.cells.injEq] at hc2
    exact hio hc2.2.1
  -- in Y
  have m1 : Y.ownsRow W2 oty 1 u n (gs.map (·.1)) := own_kept h.m hrow (noO h.m)
  have o1 : Y.ownsRow B oty 1 v xs.length (xs.map (·.1)) := own_kept h.o' hrow (noO h.o')
  have uty : ∀ b, u.ownBlock = some b → W2 ≤ b ∧ ∃ cur, Y.heap[b]? = some (.cells cur oty (0, 0)) := fun b hb => own_block m1 hb
  have noI : ∀ {c m : Nat} {q : Value} {cs : List Value}, Y.ownsRow c ity K q m cs → ∀ b, q.ownBlock = some b → u.ownBlock = some b → False := fun hq b hb e => by
    obtain ⟨-, cur, hc⟩ := uty b e
    obtain ⟨-, cur2, hc2⟩ := own_block hq hb
    rw [hc] at hc2
    simp only [Option.some.injEq, Obj.cells.injEq] at hc2
    exact hio hc2.2.1.symm
  have r1 : ∀ k x', n + 1 ≤ k → xs[k]? = some x' → Y.ownsRow B ity K x'.1 x'.2 ((List.replicate x'.2 (o k)).flatMap enc) := fun k x' hk hx' => own_kept (h.r k x' (by omega) hx') hrow fun b hb e => by
    have := h.d k n x' x b hx' hx hb (hr2 b e); omega
  have p1 : ∀ k x', k < n → xs[k]? = some x' → ∃ G', gs[k]? = some (G', x'.2 + 1) ∧ Pr ity K enc o Y B W2 k x' G' := fun k x' hk hx' => by
    obtain ⟨G', h1, h2⟩ := h.p k x' hk hx'
    refine ⟨G', h1, h2.kept hrow (fun b hb e => ?_) (fun b hb e => ?_)⟩
    · have := h.d k n x' x b hx' hx hb (hr2 b e); omega
    · rcases h2.w b hb with h3 | h3
      · have := h.d k n x' x b hx' hx h3 (hr2 b e); omega
      · have := h.lt n x b hx (hr2 b e); omega
  have pn : Pr ity K enc o Y B W2 n x G := by
    refine ⟨hG, ?_, fun b hb => ?_⟩
    · rcases hg with ⟨g, cap, h1, h2, -⟩ | ⟨h1, -⟩
      · exact Or.inr ⟨g, cap, h1, h2⟩
      · exact Or.inl (own_kept hxo h1 (fun b _ e => by cases e))
    · rcases hg with ⟨g, cap, h1, h2, -⟩ | ⟨-, h2⟩
      · left; rw [h1]; rw [h2] at hb; exact hb
      · right; exact Nat.le_trans hW (h2 b hb)
  have prz : ∀ {k : Nat} {x' : Value × Nat} {G' : Value}, xs[k]? = some x' → Pr ity K enc o Y B W2 k x' G' → Pr ity K enc o Z B W2 k x' G' := fun {k x' G'} hx' hp => hp.kept hz (fun b hb e => by have := (uty b e).1; have := h.lt k x' b hx' hb; omega) (noI hp.g)
  refine ⟨own_kept o1 hz fun b hb e => by have := (uty b e).1; have := h.vl b hb; omega, fun k x' hk hx' => own_kept (r1 k x' hk hx') hz (noI (r1 k x' hk hx')), fun k x' hk hx' => ?_, by rw [List.length_append, h.l]; rfl, by rw [List.map_append]; exact hu, h.d, h.lt, h.vl⟩
  by_cases e : k = n
  · subst e
    rw [hx] at hx'; cases hx'
    exact ⟨G, by rw [List.getElem?_append_right (by rw [h.l]; exact Nat.le_refl _), h.l, Nat.sub_self]; rfl, prz hx pn⟩
  · obtain ⟨G', h1, h2⟩ := p1 k x' (by omega) hx'
    exact ⟨G', by rw [List.getElem?_append_left (by rw [h.l]; omega)]; exact h1, prz hx' h2⟩
end
end Go.Proofs.YtnaiecemmhioeaaDoor
