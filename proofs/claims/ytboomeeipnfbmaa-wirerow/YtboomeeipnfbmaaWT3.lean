/-
  wire: law 23: WireRow's book (plain).
-/
import Derived.Test.YtboomeeipnfbmaaWP1
import Derived.Test.YtboomeeipnfbmaaWRS
namespace Go.Proofs.Ytboomeeipnfbmaa
open Go.RowKit

/-- A block of things of one kind, whatever is marked in it. -/
def BkF (w : World) (b : Nat) (t : TypeId) : Prop := ∃ cur fr, w.heap[b]? = some (.cells cur t fr)
theorem BkF.of {w : World} {b : Nat} {c : Array Value} {t : TypeId} (h : Bk w b c t) : BkF w b t := ⟨_, _, h⟩
theorem BkF.lt {w : World} {b : Nat} {t : TypeId} (h : BkF w b t) : b < w.heap.size := by
  obtain ⟨c, f, h⟩ := h
  exact (Array.getElem?_eq_some_iff.1 h).1
theorem BkF.fr {P : Nat → Prop} {w w' : World} {b : Nat} {t : TypeId} (h : BkF w b t) (hf : Fr P w w') (hn : ¬ P b) : BkF w' b t := by
  have hl := h.lt
  obtain ⟨c, f, h⟩ := h
  exact ⟨c, f, (hf.block b hl hn).trans h⟩
theorem BkF.set {w : World} {b i : Nat} {t : TypeId} (h : BkF w b t) (v : Value) : BkF (w.setCell ⟨b, i, none⟩ v) b t := by
  obtain ⟨c, f, h⟩ := h
  exact ⟨c.setIfInBounds i v, f, by simp [World.setCell, Array.getElem?_modify, h]⟩
theorem BkF.ty {w : World} {b : Nat} {t t' : TypeId} (h : BkF w b t) (h' : BkF w b t') : t = t' := by
  obtain ⟨c, f, h⟩ := h
  obtain ⟨c', f', h'⟩ := h'
  rw [h] at h'
  simp only [Option.some.injEq, Obj.cells.injEq] at h'
  exact h'.2.1
theorem frz_keep {P : Nat → Prop} {w w' : World} {x i : Nat} (hf : Fr P w w') (hl : x < w.heap.size) (hn : ¬ P x) : w'.frozen? ⟨x, i, none⟩ = w.frozen? ⟨x, i, none⟩ := by
  unfold World.frozen?
  simp only
  rw [hf.block x hl hn]
structure BoX (base : Nat) (N : Nat → Prop) (w : World) (bv gv : Value) (L : List (List Int × Value)) (G : List Bool) : Prop where
  o : w.ownsRow base 24 1 bv L.length (L.map Prod.snd)
  p : w.ownsRow base 4 1 gv G.length (G.map Value.bool)
  u : ∀ q ∈ L, LbW (fun x => base ≤ x ∧ ¬ N x) w q.2 q.1
  k : ∀ q ∈ L, q.1 ≠ [] → ∀ x, q.2.ownBlock = some x → BkF w x 5
  f : ∀ q ∈ L, ∀ (x o n c : Nat), q.2 = .slice (some ⟨x, o, none⟩) n c → ∀ i, i < q.1.length → w.frozen? ⟨x, o + i, none⟩ = false
  d : ∀ (i j : Nat) (y z : List Int × Value) (x : Nat), L[i]? = some y → L[j]? = some z → y.1 ≠ [] → z.1 ≠ [] → y.2.ownBlock = some x → z.2.ownBlock = some x → i = j
  nb : ∀ x, bv.ownBlock = some x → ¬ N x
  ng : ∀ x, gv.ownBlock = some x → ¬ N x
theorem BoX.sepBG {base : Nat} {N : Nat → Prop} {w : World} {bv gv : Value} {L : List (List Int × Value)} {G : List Bool} (h : BoX base N w bv gv L G) {x : Nat} (hx : bv.ownBlock = some x) : gv.ownBlock ≠ some x := fun hy => by
  obtain ⟨c1, h1⟩ := row_bkW h.o hx
  obtain ⟨c2, h2⟩ := row_bkW h.p hy
  exact absurd ((BkF.of h1).ty (BkF.of h2)) (by decide)
theorem BoX.sepUB {base : Nat} {N : Nat → Prop} {w : World} {bv gv : Value} {L : List (List Int × Value)} {G : List Bool} (h : BoX base N w bv gv L G) {q : List Int × Value} (hq : q ∈ L) (hn : q.1 ≠ []) {x : Nat} (hx : q.2.ownBlock = some x) : bv.ownBlock ≠ some x := fun hy => by
  obtain ⟨c2, h2⟩ := row_bkW h.o hy
  exact absurd ((h.k q hq hn x hx).ty (BkF.of h2)) (by decide)
theorem BoX.sepUG {base : Nat} {N : Nat → Prop} {w : World} {bv gv : Value} {L : List (List Int × Value)} {G : List Bool} (h : BoX base N w bv gv L G) {q : List Int × Value} (hq : q ∈ L) (hn : q.1 ≠ []) {x : Nat} (hx : q.2.ownBlock = some x) : gv.ownBlock ≠ some x := fun hy => by
  obtain ⟨c2, h2⟩ := row_bkW h.p hy
  exact absurd ((h.k q hq hn x hx).ty (BkF.of h2)) (by decide)
/-- Bytes that stay: their block isn't touched. -/
theorem lb_keep {F P : Nat → Prop} {w w' : World} {v : Value} {l : List Int} (h : LbW F w v l) (hf : Fr P w w') (hn : l ≠ [] → ∀ x, v.ownBlock = some x → F x → ¬ P x) : LbW F w' v l := by
  by_cases hl : l = []
  · exact h.none_ hl _ _
  · exact ((h.exact hl).fr hf fun b _ hF => hn hl b hF.2 hF.1).mono fun b _ hF => hF.1
theorem BoX.fz {base : Nat} {N P : Nat → Prop} {w w' : World} {bv gv : Value} {L : List (List Int × Value)} {G : List Bool} (h : BoX base N w bv gv L G) (hf : Fr P w w') {q : List Int × Value} (hq : q ∈ L) (hn : q.1 ≠ [] → ∀ x, q.2.ownBlock = some x → base ≤ x ∧ ¬ N x → ¬ P x) : ∀ (x o n c : Nat), q.2 = .slice (some ⟨x, o, none⟩) n c → ∀ i, i < q.1.length → w'.frozen? ⟨x, o + i, none⟩ = false := fun x o n c e i hi => by
  have hne : q.1 ≠ [] := fun e2 => by rw [e2] at hi; simp at hi
  obtain ⟨x', e3, hF, hl⟩ := (h.u q hq).own hne
  have e4 : q.2.ownBlock = some x := by rw [e]; rfl
  rw [e4] at e3
  cases e3
  rw [frz_keep hf hl (hn hne x e4 hF)]
  exact h.f q hq x o n c e i hi
theorem BoX.go {base : Nat} {N N' : Nat → Prop} {w w' : World} {bv gv : Value} {L : List (List Int × Value)} {G : List Bool} (h : BoX base N w bv gv L G) (hf : Fr N w w') (hN : ∀ x, N' x → N x ∨ w.heap.size ≤ x) : BoX base N' w' bv gv L G := by
  have hk : ∀ x, x < w.heap.size → ¬ N x → ¬ N' x := fun x hx hn h' => (hN x h').elim hn (by omega)
  refine ⟨row7_fr h.o hf h.nb, row7_fr h.p hf h.ng, fun q hq => ?_, fun q hq hn x hx => ?_, fun q hq => h.fz hf hq fun _ x _ hF => hF.2, h.d, fun x hx => hk x (World.ownsRow.lt h.o x hx).2 (h.nb x hx), fun x hx => hk x (World.ownsRow.lt h.p x hx).2 (h.ng x hx)⟩
  · have h1 : LbW (fun x => (base ≤ x ∧ ¬ N x) ∧ x < w.heap.size) w q.2 q.1 := (h.u q hq).mono fun x hx hF => ⟨hF, hx⟩
    exact (h1.fr hf fun b _ hF => hF.1.2).mono fun x _ hF => ⟨hF.1.1, hk x hF.2 hF.1.2⟩
  · obtain ⟨x', e, hF, hl⟩ := (h.u q hq).own hn
    rw [hx] at e; cases e
    exact (h.k q hq hn x hx).fr hf hF.2
theorem BoX.below {base : Nat} {N : Nat → Prop} {w w' : World} {bv gv : Value} {L : List (List Int × Value)} {G : List Bool} (h : BoX base N w bv gv L G) (hb : Below w.heap.size w w') : BoX base N w' bv gv L G := h.go (Fr.of hb) fun _ hx => Or.inl hx
theorem BoX.atB {base : Nat} {N : Nat → Prop} {w : World} {a : Option Addr} {n cap : Nat} {gv : Value} {L : List (List Int × Value)} {G : List Bool} (h : BoX base N w (.slice a n cap) gv L G) {k : Nat} {q : List Int × Value} (hq : L[k]? = some q) : ∃ g, a = some ⟨g, 0, none⟩ ∧ base ≤ g ∧ g < w.heap.size ∧ n = L.length ∧ w.cell? ⟨g, k, none⟩ = some q.2 ∧ ∀ i, w.frozen? ⟨g, i, none⟩ = false := by
  have hn : n = L.length := by
    obtain ⟨a', c', e, -⟩ := row7_form h.o
    simp only [Value.slice.injEq] at e
    exact e.2.1
  have ho := h.o
  rw [← hn] at ho
  obtain ⟨g, rfl, h1, h2, h3, -⟩ := row7_at ho (i := k) (u := q.2) (by rw [List.getElem?_map, hq]; rfl)
  obtain ⟨c, hc⟩ := row_bkW h.o (x := g) rfl
  exact ⟨g, rfl, h1, h2, hn, h3, fun i => hc.froz i⟩
theorem BoX.atG {base : Nat} {N : Nat → Prop} {w : World} {a : Option Addr} {n cap : Nat} {bv : Value} {L : List (List Int × Value)} {G : List Bool} (h : BoX base N w bv (.slice a n cap) L G) {k : Nat} {c : Bool} (hq : G[k]? = some c) : ∃ g, a = some ⟨g, 0, none⟩ ∧ base ≤ g ∧ g < w.heap.size ∧ n = G.length ∧ w.cell? ⟨g, k, none⟩ = some (.bool c) ∧ ∀ i, w.frozen? ⟨g, i, none⟩ = false := by
  have hn : n = G.length := by
    obtain ⟨a', c', e, -⟩ := row7_form h.p
    simp only [Value.slice.injEq] at e
    exact e.2.1
  have ho := h.p
  rw [← hn] at ho
  obtain ⟨g, rfl, h1, h2, h3, -⟩ := row7_at ho (i := k) (u := .bool c) (by rw [List.getElem?_map, hq]; rfl)
  obtain ⟨cc, hc⟩ := row_bkW h.p (x := g) rfl
  exact ⟨g, rfl, h1, h2, hn, h3, fun i => hc.froz i⟩
theorem BoX.pushB {base : Nat} {N : Nat → Prop} {w w' : World} {bv gv v' u : Value} {b : List Int} {L : List (List Int × Value)} {G : List Bool} (h : BoX base N w bv gv L G) (hg : w.grownBy w' bv.ownBlock) (ho : w'.ownsRow base 24 1 v' (L.length + 1) (L.map Prod.snd ++ [u])) (hv : v'.ownBlock = bv.ownBlock ∨ v'.ownBlock = some w.heap.size) (hu : OwW w base u b) (hy : bytW b)
    (hun : ∀ x, u.ownBlock = some x → ¬ N x ∧ ∀ r ∈ L, r.1 ≠ [] → r.2.ownBlock ≠ some x) (hNs : ∀ x, N x → x < w.heap.size) : BoX base N w' v' gv (L ++ [(b, u)]) G := by
  have hf := Fr.own hg
  have hub : ∀ x, u.ownBlock = some x → bv.ownBlock ≠ some x := fun x hx hy => by
    obtain ⟨c1, h1⟩ := row_bkW hu hx
    obtain ⟨c2, h2⟩ := row_bkW h.o hy
    exact absurd ((BkF.of h1).ty (BkF.of h2)) (by decide)
  refine ⟨by rw [List.length_append, List.map_append]; exact ho, row7_fr h.p hf fun x hx e => h.sepBG e hx, fun q hq => ?_, fun q hq hn x hx => ?_, fun q hq => ?_, fun i j y z x hi hj hy hz h1 h2 => ?_, fun x hx => ?_, h.ng⟩
  · rcases List.mem_append.1 hq with hq | hq
    · exact lb_keep (h.u q hq) hf fun hn x hx _ => h.sepUB hq hn hx
    · rw [List.mem_singleton] at hq
      subst hq
      exact lb_keep ((hu.lb hy).mono fun x _ hF => ⟨hF.1, (hun x hF.2).1⟩) hf fun _ x hx _ => hub x hx
  · rcases List.mem_append.1 hq with hq | hq
    · exact (h.k q hq hn x hx).fr hf (h.sepUB hq hn hx)
    · rw [List.mem_singleton] at hq
      subst hq
      obtain ⟨cur, hc⟩ := row_bkW hu hx
      exact (BkF.of hc).fr hf (hub x hx)
  · rcases List.mem_append.1 hq with hq | hq
    · exact h.fz hf hq fun hn x hx _ => h.sepUB hq hn hx
    · rw [List.mem_singleton] at hq
      subst hq
      intro x o n c e i hi
      have e4 : u.ownBlock = some x := by simp only at e; rw [e]; rfl
      obtain ⟨cur, hc⟩ := row_bkW hu e4
      rw [frz_keep hf hc.lt (hub x e4)]
      exact hc.froz _
  · rw [List.getElem?_append] at hi hj
    split at hi <;> split at hj
    · exact h.d i j y z x hi hj hy hz h1 h2
    · have e := List.mem_of_getElem? hj
      rw [List.mem_singleton] at e
      subst e
      exact absurd h1 ((hun x h2).2 y (List.mem_of_getElem? hi) hy)
    · have e := List.mem_of_getElem? hi
      rw [List.mem_singleton] at e
      subst e
      exact absurd h2 ((hun x h1).2 z (List.mem_of_getElem? hj) hz)
    · have l1 := (List.getElem?_eq_some_iff.1 hi).1
      have l2 := (List.getElem?_eq_some_iff.1 hj).1
      simp only [List.length_singleton] at l1 l2
      omega
  · rcases hv with hv | hv
    · exact h.nb x (hv ▸ hx)
    · rw [hv] at hx; cases hx; intro hn; have := hNs _ hn; omega
theorem BoX.pushG {base : Nat} {N : Nat → Prop} {w w' : World} {bv gv v' : Value} {c : Bool} {L : List (List Int × Value)} {G : List Bool} (h : BoX base N w bv gv L G) (hg : w.grownBy w' gv.ownBlock) (ho : w'.ownsRow base 4 1 v' (G.length + 1) (G.map Value.bool ++ [.bool c])) (hv : v'.ownBlock = gv.ownBlock ∨ v'.ownBlock = some w.heap.size) (hNs : ∀ x, N x → x < w.heap.size) : BoX base N w' bv v' L (G ++ [c]) := by
  have hf := Fr.own hg
  refine ⟨row7_fr h.o hf fun x hx e => h.sepBG hx e, by rw [List.length_append, List.map_append]; exact ho, fun q hq => lb_keep (h.u q hq) hf fun hn x hx _ => h.sepUG hq hn hx, fun q hq hn x hx => (h.k q hq hn x hx).fr hf (h.sepUG hq hn hx), fun q hq => h.fz hf hq fun hn x hx _ => h.sepUG hq hn hx, h.d, h.nb, fun x hx => ?_⟩
  · rcases hv with hv | hv
    · exact h.ng x (hv ▸ hx)
    · rw [hv] at hx; cases hx; intro hn; have := hNs _ hn; omega
theorem BoX.setG {base g n cap : Nat} {N : Nat → Prop} {w : World} {bv : Value} {L : List (List Int × Value)} {G : List Bool} (h : BoX base N w bv (.slice (some ⟨g, 0, none⟩) n cap) L G) (k : Nat) (c : Bool) : BoX base N (w.setCell ⟨g, k, none⟩ (.bool c)) bv (.slice (some ⟨g, 0, none⟩) n cap) L (G.set k c) := by
  have hf : Fr (fun x => x = g) w (w.setCell ⟨g, k, none⟩ (.bool c)) := (Fr.refl _ w).set (Or.inl rfl)
  have hn : n = G.length := by
    obtain ⟨a', c', e, -⟩ := row7_form h.p
    simp only [Value.slice.injEq] at e
    exact e.2.1
  subst hn
  refine ⟨row7_fr h.o hf fun x hx e => h.sepBG hx (by rw [e]; rfl), ?_, fun q hq => lb_keep (h.u q hq) hf fun hn x hx _ e => h.sepUG hq hn hx (by rw [e]; rfl), fun q hq hn x hx => (h.k q hq hn x hx).fr hf fun e => h.sepUG hq hn hx (by rw [e]; rfl), fun q hq => h.fz hf hq fun hn x hx _ e => h.sepUG hq hn hx (by rw [e]; rfl), h.d, h.nb, h.ng⟩
  · rw [List.length_set, List.map_set]
    exact (h.p.stored k (.bool c)).1
theorem BoX.setB {base g n cap : Nat} {N : Nat → Prop} {w : World} {gv : Value} {L : List (List Int × Value)} {G : List Bool} (h : BoX base N w (.slice (some ⟨g, 0, none⟩) n cap) gv L G) {k l qn qc : Nat} {qa : Option Addr} {q : List Int × Value} (hq : L[k]? = some q) (hv : q.2 = .slice qa qn qc) (hl : l ≤ qn) :
    BoX base N (w.setCell ⟨g, k, none⟩ (.slice qa l qc)) (.slice (some ⟨g, 0, none⟩) n cap) gv (L.set k (q.1.take l, .slice qa l qc)) G := by
  have hf : Fr (fun x => x = g) w (w.setCell ⟨g, k, none⟩ (.slice qa l qc)) := (Fr.refl _ w).set (Or.inl rfl)
  have hn : n = L.length := by
    obtain ⟨a', c', e, -⟩ := row7_form h.o
    simp only [Value.slice.injEq] at e
    exact e.2.1
  subst hn
  have hqm := List.mem_of_getElem? hq
  have hne : q.1.take l ≠ [] → q.1 ≠ [] := fun h1 h2 => h1 (by rw [h2]; simp)
  have hown : (Value.slice qa l qc).ownBlock = q.2.ownBlock := by rw [hv]; cases qa <;> rfl
  have hgz : ∀ {i : Nat} {r : List Int × Value}, (L.set k (q.1.take l, .slice qa l qc))[i]? = some r → (i = k ∧ r = (q.1.take l, .slice qa l qc)) ∨ (i ≠ k ∧ L[i]? = some r) := fun {i r} hi => by
    rw [List.getElem?_set] at hi
    split at hi
    · rename_i e
      split at hi
      · cases hi; exact Or.inl ⟨e.symm, rfl⟩
      · cases hi
    · exact Or.inr ⟨by omega, hi⟩
  refine ⟨?_, row7_fr h.p hf fun x hx e => h.sepBG (x := g) rfl (by rw [← e]; exact hx), fun r hr => ?_, fun r hr hn x hx => ?_, fun r hr => ?_, fun a b y z x ha hb hy hz h1 h2 => ?_, h.nb, h.ng⟩
  · rw [List.length_set, List.map_set]
    exact (h.o.stored k (.slice qa l qc)).1
  · obtain ⟨i, hi⟩ := List.getElem?_of_mem hr
    rcases hgz hi with ⟨-, rfl⟩ | ⟨-, hi⟩
    · have h1 := h.u q hqm
      rw [hv] at h1
      exact lb_keep (h1.take hl) hf fun hn x hx _ e => h.sepUB hqm (hne hn) (x := x) (by rw [← hown]; exact hx) (by rw [e]; rfl)
    · exact lb_keep (h.u r (List.mem_of_getElem? hi)) hf fun hn x hx _ e => h.sepUB (List.mem_of_getElem? hi) hn hx (by rw [e]; rfl)
  · obtain ⟨i, hi⟩ := List.getElem?_of_mem hr
    rcases hgz hi with ⟨-, rfl⟩ | ⟨-, hi⟩
    · simp only [hown] at hx
      exact (h.k q hqm (hne hn) x hx).fr hf fun e => h.sepUB hqm (hne hn) hx (by rw [e]; rfl)
    · exact (h.k r (List.mem_of_getElem? hi) hn x hx).fr hf fun e => h.sepUB (List.mem_of_getElem? hi) hn hx (by rw [e]; rfl)
  · obtain ⟨i, hi⟩ := List.getElem?_of_mem hr
    rcases hgz hi with ⟨-, rfl⟩ | ⟨-, hi⟩
    · intro x o n' c e i hi
      simp only [Value.slice.injEq] at e
      obtain ⟨rfl, -, rfl⟩ := e
      have hi2 : i < q.1.length := by simp only [List.length_take] at hi; omega
      exact h.fz hf hqm (fun hn x hx _ e => h.sepUB hqm hn hx (by rw [e]; rfl)) x o qn _ hv i hi2
    · exact h.fz hf (List.mem_of_getElem? hi) fun hn x hx _ e => h.sepUB (List.mem_of_getElem? hi) hn hx (by rw [e]; rfl)
  · rcases hgz ha with ⟨e1, rfl⟩ | ⟨e1, ha⟩ <;> rcases hgz hb with ⟨e2, rfl⟩ | ⟨e2, hb⟩
    · omega
    · rw [e1]; exact h.d k b q z x hq hb (hne hy) hz (by rw [← hown]; exact h1) h2
    · rw [e2]; exact h.d a k y q x ha hq hy (hne hz) h1 (by rw [← hown]; exact h2)
    · exact h.d a b y z x ha hb hy hz h1 h2
theorem BoX.flip {base : Nat} {N : Nat → Prop} {w : World} {bv gv : Value} {L : List (List Int × Value)} {G : List Bool} (h : BoX base N w bv gv L G) {k : Nat} {q : List Int × Value} (hq : L[k]? = some q) {x o n uc j : Nat} (hu : q.2 = .slice (some ⟨x, o, none⟩) n uc) (hj : j < q.1.length) {z : Int} (hy : bytW (q.1.set j z))
    (hcells : ∀ (i : Nat) (y : Int), q.1[i]? = some y → w.cell? ⟨x, o + i, none⟩ = some (.int .u8 y)) (hx1 : base ≤ x ∧ ¬ N x) :
    BoX base N (w.setCell ⟨x, o + j, none⟩ (.int .u8 z)) bv gv (L.set k (q.1.set j z, q.2)) G := by
  have hne : q.1 ≠ [] := fun e => by rw [e] at hj; simp at hj
  have hqm := List.mem_of_getElem? hq
  have hfr : Fr (fun y => y = x) w (w.setCell ⟨x, o + j, none⟩ (.int .u8 z)) := (Fr.refl _ w).set (Or.inl rfl)
  have hown : q.2.ownBlock = some x := by rw [hu]; rfl
  have hcur := h.k q hqm hne x hown
  have hgz : ∀ {i : Nat} {r : List Int × Value}, (L.set k (q.1.set j z, q.2))[i]? = some r → (i = k ∧ r = (q.1.set j z, q.2)) ∨ (i ≠ k ∧ L[i]? = some r) := fun {i r} hi => by
    rw [List.getElem?_set] at hi
    split at hi
    · rename_i e
      split at hi
      · cases hi; exact Or.inl ⟨e.symm, rfl⟩
      · cases hi
    · exact Or.inr ⟨by omega, hi⟩
  refine ⟨?_, row7_fr h.p hfr fun y hy e => h.sepUG hqm hne hown (by rw [← e]; exact hy), fun r hr => ?_, fun r hr hn y hy' => ?_, fun r hr => ?_, fun a b y z' w' ha hb hy' hz h4 h5 => ?_, h.nb, h.ng⟩
  · rw [List.length_set, List.map_set]
    have e : (L.map Prod.snd).set k q.2 = L.map Prod.snd := List.ext_getElem? fun i => by
      rw [List.getElem?_set]
      split
      · rename_i e; subst e
        have hc : (L.map Prod.snd)[k]? = some q.2 := by rw [List.getElem?_map, hq]; rfl
        rw [hc]; split
        · rfl
        · rename_i hn; exact absurd (List.getElem?_eq_some_iff.1 hc).1 hn
      · rfl
    simp only [e]
    exact row7_fr h.o hfr fun y hy e => h.sepUB hqm hne hown (by rw [← e]; exact hy)
  · obtain ⟨i, hi⟩ := List.getElem?_of_mem hr
    rcases hgz hi with ⟨-, rfl⟩ | ⟨hik, hi⟩
    · obtain ⟨a, c, e, h1, h2, h3, -⟩ := h.u q hqm
      have e2 := e
      rw [hu] at e2
      simp only [Value.slice.injEq] at e2
      obtain ⟨rfl, -, rfl⟩ := e2
      refine ⟨_, _, by rw [List.length_set]; exact e, by rw [List.length_set]; exact h1, h2, hy, Or.inr ⟨x, o, rfl, by simp; exact hcur.lt, hx1, fun i y hy' => ?_⟩⟩
      have hy2 := hy'
      rw [List.getElem?_set] at hy2
      split at hy2
      · rename_i e3
        cases hy2
        subst e3
        obtain ⟨y, hyj⟩ : ∃ y, q.1[j]? = some y := ⟨_, List.getElem?_eq_getElem hj⟩
        exact World.cell?_setCell_same _ _ _ (hcells j y hyj)
      · rename_i e3
        rw [World.cell?_setCell_other _ _ _ _ (fun e => by simp only [Addr.mk.injEq] at e; omega)]
        exact hcells i y hy2
    · exact lb_keep (h.u r (List.mem_of_getElem? hi)) hfr fun hn y hy' _ e => hik (h.d i k r q x hi hq hn hne (by rw [hy', e]) hown)
  · obtain ⟨i, hi⟩ := List.getElem?_of_mem hr
    rcases hgz hi with ⟨-, rfl⟩ | ⟨hik, hi⟩
    · simp only at hy'
      rw [hown] at hy'
      cases hy'
      exact hcur.set _
    · exact (h.k r (List.mem_of_getElem? hi) hn y hy').fr hfr fun e => hik (h.d i k r q x hi hq hn hne (by rw [hy', e]) hown)
  · obtain ⟨i, hi⟩ := List.getElem?_of_mem hr
    rcases hgz hi with ⟨-, rfl⟩ | ⟨hik, hi⟩
    · intro y o' n' c e i' hi'
      rw [World.frozen?_setCell]
      exact h.f q hqm y o' n' c e i' (by simpa using hi')
    · intro y o' n' c e i' hi'
      rw [World.frozen?_setCell]
      exact h.f r (List.mem_of_getElem? hi) y o' n' c e i' hi'
  · rcases hgz ha with ⟨e1, rfl⟩ | ⟨e1, ha⟩ <;> rcases hgz hb with ⟨e2, rfl⟩ | ⟨e2, hb⟩
    · omega
    · rw [e1]; exact h.d k b q z' w' hq hb hne hz h4 h5
    · rw [e2]; exact h.d a k y q w' ha hq hy' hne h4 h5
    · exact h.d a b y z' w' ha hb hy' hz h4 h5
/-- The book tells of the wire. -/
structure ReW (s : WrW) (B : List (List Int)) (G : List Bool) : Prop where
  lb : B.length = s.gv
  lg : G.length = s.gv
  a : ∀ m ∈ s.row, B[m.n - 1]? = some m.b ∧ G[m.n - 1]? = some false
  z : ∀ k, G[k]? = some false → ∃ m ∈ s.row, m.n = k + 1
theorem out_plW {s : WrW} (ho : s.Ok) {n : Int} (hn : n < 1 ∨ (s.gv : Int) < n) : plW s n = none := by
  cases hp : plW s n with
  | none => rfl
  | some i =>
    obtain ⟨m, hm, e, -⟩ := plW_some hp
    have := ho.n m (List.mem_of_getElem? hm)
    omega
theorem ReW.gone {s : WrW} {B : List (List Int)} {G : List Bool} (h : ReW s B G) {k : Nat} (hk : G[k]? = some true) : plW s ((k : Int) + 1) = none := by
  cases hp : plW s ((k : Int) + 1) with
  | none => rfl
  | some i =>
    obtain ⟨m, hm, e, -⟩ := plW_some hp
    have := (h.a m (List.mem_of_getElem? hm)).2
    rw [show m.n - 1 = k by omega, hk] at this
    cases this
theorem ReW.there {s : WrW} {B : List (List Int)} {G : List Bool} (h : ReW s B G) (ho : s.Ok) {k : Nat} (hk : G[k]? = some false) : ∃ i m, plW s ((k : Int) + 1) = some i ∧ s.row[i]? = some m ∧ m.n = k + 1 ∧ B[k]? = some m.b ∧ byW s ((k : Int) + 1) = m.b := by
  obtain ⟨m, hm, e⟩ := h.z k hk
  obtain ⟨i, hi⟩ := List.getElem?_of_mem hm
  have hp := plW_at ho hi
  rw [e, show ((k + 1 : Nat) : Int) = (k : Int) + 1 by omega] at hp
  have := (h.a m hm).1
  rw [show m.n - 1 = k by omega] at this
  exact ⟨i, m, hp, hi, e, this, byW_at hp hi⟩
theorem ReW.put {s : WrW} {B : List (List Int)} {G : List Bool} (h : ReW s B G) (b : List Int) : ReW (putW s b) (B ++ [b]) (G ++ [false]) := by
  refine ⟨by simp [putW, h.lb], by simp [putW, h.lg], fun m hm => ?_, fun k hk => ?_⟩
  · unfold putW at hm
    simp only at hm
    rcases List.mem_append.1 hm with hm | hm
    · obtain ⟨h1, h2⟩ := h.a m hm
      exact ⟨by rw [List.getElem?_append_left (List.getElem?_eq_some_iff.1 h1).1]; exact h1, by rw [List.getElem?_append_left (List.getElem?_eq_some_iff.1 h2).1]; exact h2⟩
    · rw [List.mem_singleton] at hm
      subst hm
      simp only [Nat.add_sub_cancel]
      exact ⟨by rw [← h.lb, List.getElem?_append_right (Nat.le_refl _)]; simp, by rw [← h.lg, List.getElem?_append_right (Nat.le_refl _)]; simp⟩
  · rw [List.getElem?_append] at hk
    split at hk
    · obtain ⟨m, hm, e⟩ := h.z k hk
      exact ⟨m, List.mem_append_left _ hm, e⟩
    · rename_i hlt
      have := (List.getElem?_eq_some_iff.1 hk).1
      simp only [List.length_singleton] at this
      refine ⟨⟨s.gv + 1, b⟩, List.mem_append_right _ (List.mem_singleton_self _), ?_⟩
      show s.gv + 1 = k + 1
      have := h.lg
      omega
theorem ReW.take {s : WrW} {B : List (List Int)} {G : List Bool} (h : ReW s B G) (ho : s.Ok) {k : Nat} (hk : G[k]? = some false) : ReW (takS s ((k : Int) + 1)) B (G.set k true) := by
  obtain ⟨i, m, hp, hi, hn, -⟩ := h.there ho hk
  have e : takS s ((k : Int) + 1) = ⟨s.row.eraseIdx i, s.gv⟩ := by unfold takS; rw [hp]
  rw [e]
  refine ⟨h.lb, by rw [List.length_set]; exact h.lg, fun r hr => ?_, fun j hj => ?_⟩
  · have hr2 := List.mem_of_mem_eraseIdx hr
    obtain ⟨h1, h2⟩ := h.a r hr2
    refine ⟨h1, ?_⟩
    have hne : k ≠ r.n - 1 := fun e => by
      obtain ⟨a, ha⟩ := List.getElem?_of_mem hr
      obtain ⟨a', ha', hne, -⟩ := erase_get ha
      have hr1 := (ho.n r hr2).1
      exact hne (num_one ho ha' hi (by omega))
    rw [List.getElem?_set_ne hne]
    exact h2
  · rw [List.getElem?_set] at hj
    split at hj
    · split at hj
      · cases hj
      · cases hj
    · rename_i hne
      obtain ⟨r, hr, e2⟩ := h.z j hj
      obtain ⟨a, ha⟩ := List.getElem?_of_mem hr
      refine ⟨r, ?_, e2⟩
      have hai : a ≠ i := fun e => by rw [e, hi] at ha; cases ha; omega
      rw [List.mem_eraseIdx_iff_getElem?]
      exact ⟨a, hai, ha⟩
theorem ReW.newB {s : WrW} {B : List (List Int)} {G : List Bool} (h : ReW s B G) (ho : s.Ok) {k : Nat} (hk : G[k]? = some false) (b' : List Int) : ReW (newB s ((k : Int) + 1) b') (B.set k b') G := by
  obtain ⟨i, m, hp, hi, hn, hb, -⟩ := h.there ho hk
  rw [newB_is (m := m) hp (by omega)]
  refine ⟨by rw [List.length_set]; exact h.lb, h.lg, fun r hr => ?_, fun j hj => ?_⟩
  · obtain ⟨a, ha⟩ := List.getElem?_of_mem hr
    simp only at ha
    rw [List.getElem?_set] at ha
    split at ha
    · rename_i e
      split at ha
      · cases ha
        simp only
        rw [show m.n - 1 = k by omega]
        exact ⟨List.getElem?_set_self (List.getElem?_eq_some_iff.1 hb).1, hk⟩
      · cases ha
    · rename_i e
      obtain ⟨h1, h2⟩ := h.a r (List.mem_of_getElem? ha)
      have hne : k ≠ r.n - 1 := fun e3 => by
        have hr1 := (ho.n r (List.mem_of_getElem? ha)).1
        exact e (num_one ho hi ha (by omega))
      exact ⟨by rw [List.getElem?_set_ne hne]; exact h1, h2⟩
  · obtain ⟨r, hr, e2⟩ := h.z j hj
    obtain ⟨a, ha⟩ := List.getElem?_of_mem hr
    by_cases hai : a = i
    · subst hai
      rw [hi] at ha; cases ha
      exact ⟨⟨m.n, b'⟩, List.mem_of_getElem? (List.getElem?_set_self (List.getElem?_eq_some_iff.1 hi).1), e2⟩
    · exact ⟨r, List.mem_of_getElem? (by rw [List.getElem?_set_ne (fun e => hai e.symm)]; exact ha), e2⟩
theorem ReW.swp {s : WrW} {B : List (List Int)} {G : List Bool} (h : ReW s B G) (n m : Int) : ReW (swpS s n m) B G := by
  unfold swpS
  cases hp : plW s n with
  | none => exact h
  | some i =>
    cases hq : plW s m with
    | none => exact h
    | some j =>
      obtain ⟨x, hx, -⟩ := plW_some hp
      obtain ⟨y, hy, -⟩ := plW_some hq
      refine ⟨h.lb, h.lg, fun r hr => h.a r (swpR_mem hr), fun k hk => ?_⟩
      obtain ⟨r, hr, e⟩ := h.z k hk
      obtain ⟨a, ha⟩ := List.getElem?_of_mem hr
      refine ⟨r, List.mem_of_getElem? (i := piW i j a) ?_, e⟩
      rw [swpR_pi hx hy]
      have : piW i j (piW i j a) = a := by unfold piW; repeat' split
                                           all_goals omega
      rw [this]
      exact ha
/-- How many are there. -/
def lfW (G : List Bool) (j : Nat) : Nat := ((List.range j).filter fun k => decide (G[k]? = some false)).length
theorem lfW_succ (G : List Bool) (j : Nat) : lfW G (j + 1) = lfW G j + (if G[j]? = some false then 1 else 0) := by
  unfold lfW
  rw [List.range_succ, List.filter_append, List.length_append]
  by_cases h : G[j]? = some false <;> simp [h]
theorem ReW.left {s : WrW} {B : List (List Int)} {G : List Bool} (h : ReW s B G) (ho : s.Ok) : lfW G s.gv = s.row.length := by
  have hd : (s.row.map fun m => m.n - 1).Nodup := nodup_get fun i j a hi hj => by
    rw [List.getElem?_map, Option.map_eq_some_iff] at hi hj
    obtain ⟨x, hx, e1⟩ := hi
    obtain ⟨y, hy, e2⟩ := hj
    have h1 := (ho.n x (List.mem_of_getElem? hx)).1
    have h2 := (ho.n y (List.mem_of_getElem? hy)).1
    exact num_one ho hx hy (by omega)
  have hp : ((List.range s.gv).filter fun k => decide (G[k]? = some false)).Perm (s.row.map fun m => m.n - 1) := by
    rw [List.perm_ext_iff_of_nodup (List.nodup_range.filter _) hd]
    intro k
    simp only [List.mem_filter, List.mem_range, decide_eq_true_eq, List.mem_map]
    constructor
    · rintro ⟨-, h1⟩
      obtain ⟨m, hm, e⟩ := h.z k h1
      exact ⟨m, hm, by omega⟩
    · rintro ⟨m, hm, rfl⟩
      have := (h.a m hm).2
      exact ⟨by have := (List.getElem?_eq_some_iff.1 this).1; rw [← h.lg]; exact this, this⟩
  unfold lfW
  rw [hp.length_eq, List.length_map]
end Go.Proofs.Ytboomeeipnfbmaa
