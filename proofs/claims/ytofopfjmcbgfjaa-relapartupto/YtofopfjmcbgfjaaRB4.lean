/-
  law 7: what RelSifts' walk asks: how far a sieve has come; the facts that it carries.
-/
import Derived.Test.YtofopfjmcbgfjaaRB1
import Derived.Test.YtofopfjmcbgfjaaRA46
import Derived.Test.YtofopfjmcbgfjaaRB2
namespace Go.Proofs.Ytofopfjmcbgfjaa
open Go.RowKit Go.Shelf

theorem filter_split {α : Type} (f : α → Bool) (L : List α) (k : Nat) : L.filter f = (L.take k).filter f ++ (L.drop k).filter f := by
  rw [← List.filter_append, List.take_append_drop]
theorem sieve_next {α : Type} {f : α → Bool} {L pre : List α} {x : α} {k : Nat} (hp : pre = (L.take k).filter f) (h : pre ++ [x] <+: L.filter f) : ∃ y, L[k]? = some y ∧ (f y = true → y = x ∧ pre ++ [x] = (L.take (k + 1)).filter f) ∧ (f y = false → pre = (L.take (k + 1)).filter f) := by
  rw [filter_split f L k, ← hp] at h
  have h1 : [x] <+: (L.drop k).filter f := (List.prefix_append_right_inj pre).1 h
  cases hd : L[k]? with
  | none =>
    rw [List.drop_eq_nil_of_le (List.getElem?_eq_none_iff.1 hd)] at h1
    simp at h1
  | some y =>
    refine ⟨y, rfl, fun hy => ?_, fun hy => ?_⟩
    · have e : L.drop k = y :: L.drop (k + 1) := by
        obtain ⟨hk, rfl⟩ := List.getElem?_eq_some_iff.1 hd
        rw [List.getElem_cons_drop]
      rw [e, List.filter_cons, if_pos hy] at h1
      have h2 : x = y := by
        obtain ⟨t, ht⟩ := h1
        simp at ht
        exact ht.1
      subst h2
      refine ⟨rfl, ?_⟩
      rw [List.take_add_one, hd, List.filter_append, ← hp]
      simp [hy]
    · rw [List.take_add_one, hd, List.filter_append, ← hp]
      simp [hy]
theorem sieve_end {α : Type} {f : α → Bool} {L : List α} {y : α} {k : Nat} (hp : L.filter f = (L.take k).filter f) (hy : L[k]? = some y) : f y = false ∧ L.filter f = (L.take (k + 1)).filter f := by
  have h1 : (L.drop k).filter f = [] := by
    have h := filter_split f L k
    rw [← hp] at h
    have := congrArg List.length h
    rw [List.length_append] at this
    exact List.eq_nil_of_length_eq_zero (by omega)
  have hf : f y = false := by
    cases hq : f y with
    | false => rfl
    | true =>
      have hm : y ∈ (L.drop k).filter f := List.mem_filter.2 ⟨List.mem_of_getElem? (i := 0) (by rw [List.getElem?_drop]; exact hy), hq⟩
      rw [h1] at hm
      simp at hm
  refine ⟨hf, ?_⟩
  rw [hp, List.take_add_one, hy, List.filter_append]
  simp [hf]
/-- The number that a box holds. -/
def cn7 (b : Nat) (W : World) : Nat := match W.cell? ⟨b, 0, none⟩ with
  | some (.int _ k) => k.toNat
  | _ => 0
theorem cn7_of {b : Nat} {W : World} {k : Nat} {t : TypeId} (h : Bk W b #[.int .i64 (k : Int)] t) : cn7 b W = k := by
  have h1 : W.cell? ⟨b, 0, none⟩ = some (.int .i64 (k : Int)) := h.cell (i := 0) rfl
  unfold cn7
  rw [h1]
  simp
theorem Bk.same {w w' : World} {g : Nat} {c : Array Value} {t : TypeId} (h : Bk w g c t) (hs : w'.heap[g]? = w.heap[g]?) : Bk w' g c t := hs.trans h
/-- What RelSifts carries amid its range. -/
structure SF (w : World) (X : Nat → Prop) (b15 b16 : Nat) (u cvv kvv : Value) (Q : List (List Int × Value)) (Es : List Nat) (W : World) : Prop where
  a : Bk W b15 #[u] 29
  l : LX (fun b => X b ∧ b ≠ b16) W u Q
  c : Bk W w.heap.size #[cvv] 23
  k : Bk W (w.heap.size + 1) #[kvv] 23
  o : Bk W (w.heap.size + 2) #[.bool false] 4
  m : Mk7 W Es
structure SFX (w : World) (X : Nat → Prop) (b15 b16 : Nat) (Es : List Nat) : Prop where
  a : X b15
  n : X b16
  ne : b15 ≠ b16
  c : X w.heap.size
  k : X (w.heap.size + 1)
  o : X (w.heap.size + 2)
  e : ∀ E ∈ Es, X E
  d : ∀ E ∈ Es, E ≠ b16
  b : w.heap.size + 3 ≤ b16
theorem SF.same {w : World} {X : Nat → Prop} {b15 b16 : Nat} {u cvv kvv : Value} {Q : List (List Int × Value)} {Es : List Nat} {W W' : World} (h : SF w X b15 b16 u cvv kvv Q Es W) (hx : SFX w X b15 b16 Es) (hs : W.heap.size ≤ W'.heap.size) (hb : ∀ b, X b → W'.heap[b]? = W.heap[b]?) : SF w X b15 b16 u cvv kvv Q Es W' :=
  ⟨h.a.same (hb _ hx.a), h.l.same hs fun b hX _ => hb b hX.1, h.c.same (hb _ hx.c), h.k.same (hb _ hx.k), h.o.same (hb _ hx.o), h.m.same fun E hE => hb E (hx.e E hE)⟩
theorem SF.drew {w : World} {X : Nat → Prop} {b15 b16 : Nat} {u cvv kvv : Value} {Q : List (List Int × Value)} {Es : List Nat} {W : World} (h : SF w X b15 b16 u cvv kvv Q Es W) (hx : SFX w X b15 b16 Es) (n : Nat) : SF w X b15 b16 u cvv kvv Q Es (W.drewN n) := h.same hx (Nat.le_refl _) fun _ _ => rfl
/-- The counter's box is written. -/
theorem SF.set {w : World} {X : Nat → Prop} {b15 b16 : Nat} {u cvv kvv : Value} {Q : List (List Int × Value)} {Es : List Nat} {W : World} (h : SF w X b15 b16 u cvv kvv Q Es W) (hx : SFX w X b15 b16 Es) (v : Value) : SF w X b15 b16 u cvv kvv Q Es (W.setCell ⟨b16, 0, none⟩ v) := by
  have hb := hx.b
  have hz : ∀ b, b ≠ b16 → (W.setCell ⟨b16, 0, none⟩ v).heap[b]? = W.heap[b]? := fun b hb => heap_setCell_other _ _ _ _ hb
  refine ⟨h.a.same (hz _ hx.ne), h.l.same (Nat.le_of_eq (by simp)) fun b hb _ => hz b hb.2, h.c.same (hz _ (by omega)), h.k.same (hz _ (by omega)), h.o.same (hz _ (by omega)), h.m.same fun E hE => hz E (hx.d E hE)⟩
/-- The blocks that RelSifts leaves alone in a round: its boxes, its marks, the rows that it was given. -/
def SX (w : World) (Es : List Nat) (B e : Nat) : Nat → Prop := fun b => (((w.heap.size ≤ b ∧ b < w.heap.size + 3) ∨ b ∈ Es) ∨ (B ≤ b ∧ b < e)) ∨ b = e ∨ b = e + 1
theorem SX.sfx {w : World} {Es : List Nat} {B e : Nat} (he : w.heap.size + 2 < e) (hE : ∀ E ∈ Es, E < e) : SFX w (SX w Es B e) e (e + 1) Es :=
  ⟨Or.inr (Or.inl rfl), Or.inr (Or.inr rfl), by omega, Or.inl (Or.inl (Or.inl ⟨Nat.le_refl _, by omega⟩)), Or.inl (Or.inl (Or.inl ⟨by omega, by omega⟩)), Or.inl (Or.inl (Or.inl ⟨by omega, by omega⟩)), fun E h => Or.inl (Or.inl (Or.inr h)), fun E h => by have := hE E h; omega, by omega⟩
/-- How far the sieve has come. -/
def SIV (w : World) (X : Nat → Prop) (b15 b16 : Nat) (u cvv kvv : Value) (Q : List (List Int × Value)) (Es : List Nat) (cols keys : List Int) (pre : List (List Int)) (W : World) : Prop :=
  ∃ nn : Nat, Bk W b16 #[.int .i64 (nn : Int)] 3 ∧ nn ≤ Q.length ∧ pre = ((Q.map Prod.fst).take nn).filter (fits8 cols keys) ∧ SF w X b15 b16 u cvv kvv Q Es W
theorem SIV.step {w : World} {X : Nat → Prop} {b15 b16 : Nat} {u cvv kvv : Value} {Q : List (List Int × Value)} {Es : List Nat} {cols keys : List Int} {pre : List (List Int)} {W : World} {ni : Nat} (hx : SFX w X b15 b16 Es) (hn : Bk W b16 #[.int .i64 (ni : Int)] 3) (hs : SF w X b15 b16 u cvv kvv Q Es W) (hl : ni < Q.length) (hp : pre = ((Q.map Prod.fst).take (ni + 1)).filter (fits8 cols keys)) (k : Nat) :
    SIV w X b15 b16 u cvv kvv Q Es cols keys pre ((W.drewN k).setCell ⟨b16, 0, none⟩ (.int .i64 ((ni : Int) + 1))) ∧ cn7 b16 ((W.drewN k).setCell ⟨b16, 0, none⟩ (.int .i64 ((ni : Int) + 1))) = ni + 1 := by
  have h1 : Bk ((W.drewN k).setCell ⟨b16, 0, none⟩ (.int .i64 ((ni : Int) + 1))) b16 #[.int .i64 ((ni + 1 : Nat) : Int)] 3 := (hn.same (w' := W.drewN k) rfl).set 0 _
  exact ⟨⟨ni + 1, h1, hl, hp, (hs.drew hx k).set hx _⟩, cn7_of h1⟩
theorem below_dn7 (X : World) (n : Nat) : Below X.heap.size X (X.drewN n) := ⟨rfl, rfl, rfl, Nat.le_refl _, fun _ _ => rfl⟩
theorem SIV.only {w : World} {X : Nat → Prop} {b15 b16 : Nat} {u cvv kvv : Value} {Q : List (List Int × Value)} {Es : List Nat} {cols keys : List Int} {pre : List (List Int)} (hx : SFX w X b15 b16 Es) : Only X (SIV w X b15 b16 u cvv kvv Q Es cols keys pre) := by
  rintro W W' ⟨nn, h1, h2, h3, h4⟩ hs hb
  exact ⟨nn, h1.same (hb _ hx.n), h2, h3, h4.same hx hs hb⟩
end Go.Proofs.Ytofopfjmcbgfjaa
