import Derived.Test.YtechceagghcipaaGreatDoorA1
import Derived.Laws.AppendOwnNone
import Derived.Laws.AppendOwn
namespace Go.Proofs.YtechceagghcipaaGreatDoor
open Go.RowKit

def Tm.cs (t : Tm) : List Value := [.int .i64 t.k, .int .i64 t.n, .string t.s]
def tcs (l : List Tm) : List Value := l.flatMap Tm.cs
theorem tcs_len (l : List Tm) : (tcs l).length = l.length * 3 := by
 induction l with
 | nil => rfl
 | cons d l ih => simp only [tcs, List.flatMap_cons, List.length_append, List.length_cons] at *; rw [ih]; simp [Tm.cs]; omega
theorem tcs_snoc (l : List Tm) (d : Tm) : tcs (l ++ [d]) = tcs l ++ d.cs := by simp [tcs]
theorem tcs_get (l : List Tm) (j : Nat) (d : Tm) (h : l[j]? = some d) (i : Nat) (hi : i < 3) : (tcs l)[j * 3 + i]? = d.cs[i]? := by
 induction l generalizing j with
 | nil => simp at h
 | cons e l ih =>
  rw [tcs, List.flatMap_cons]
  cases j with
  | zero =>
   simp only [List.getElem?_cons_zero, Option.some.injEq] at h
   subst h
   rw [List.getElem?_append_left (by simp [Tm.cs]; omega)]
   simp
  | succ j =>
   simp only [List.getElem?_cons_succ] at h
   rw [List.getElem?_append_right (by simp [Tm.cs]; omega)]
   have e1 : (j + 1) * 3 + i - (Tm.cs e).length = j * 3 + i := by simp [Tm.cs]; omega
   rw [e1]
   exact ih j h
def OwnT (w : World) (base : Nat) (v : Value) (l : List Tm) : Prop := w.ownsRow base 24 3 v l.length (tcs l)
theorem ownT_cells {w : World} {base g cap n : Nat} {l : List Tm} (h : OwnT w base (.slice (some ⟨g, 0, none⟩) n cap) l) (j : Nat) (d : Tm) (hd : l[j]? = some d) :
  w.cell? ⟨g, j * 3, none⟩ = some (.int .i64 d.k) /\ w.cell? ⟨g, j * 3 + 1, none⟩ = some (.int .i64 d.n) /\ w.cell? ⟨g, j * 3 + 2, none⟩ = some (.string d.s) := by
 rcases h.2 with ⟨h, _⟩ | ⟨g', cap', cur, hv, hb, hg, hn, hc, hs, ht⟩
 ·cases h
 ·simp only [Value.slice.injEq, Option.some.injEq, Addr.mk.injEq] at hv
  obtain ⟨⟨rfl, -⟩, -, rfl⟩ := hv
  have hj := (List.getElem?_eq_some_iff.1 hd).1
  have key : ∀ i, i < 3 -> w.cell? ⟨g, j * 3 + i, none⟩ = d.cs[i]? := fun i hi => by
   rw [cell_of_row _ _ _ _ _ _ hg, <- tcs_get l j d hd i hi, <- ht, List.getElem?_take_of_lt (by omega)]
   simp
  exact ⟨key 0 (by omega), key 1 (by omega), key 2 (by omega)⟩
theorem OwnT.lt {w : World} {base : Nat} {v : Value} {l : List Tm} (h : OwnT w base v l) : ∀ k, v.ownBlock = some k -> base <= k /\ k < w.heap.size := World.ownsRow.lt h
theorem OwnT.mono {w : World} {b b' : Nat} {v : Value} {l : List Tm} (h : OwnT w b v l) (hb : b' <= b) : OwnT w b' v l := by
 refine ⟨h.1, ?_⟩
 rcases h.2 with hn | ⟨g, cap, cur, hv, hbb, rest⟩
 ·exact Or.inl hn
 ·exact Or.inr ⟨g, cap, cur, hv, Nat.le_trans hb hbb, rest⟩
theorem OwnT.later {w w' : World} {base : Nat} {v : Value} {l : List Tm} (h : OwnT w base v l) (hb : Below w.heap.size w w') : OwnT w' base v l := by
 refine ⟨h.1, ?_⟩
 rcases h.2 with hn | ⟨g, cap, cur, hv, hbb, hg, rest⟩
 ·exact Or.inl hn
 ·exact Or.inr ⟨g, cap, cur, hv, hbb, (hb.block _ (Array.getElem?_eq_some_iff.1 hg).1).trans hg, rest⟩
theorem OwnT.set {w : World} {base G i : Nat} {a : Value} {v : Value} {l : List Tm} (h : OwnT w base v l) (hG : G < base) : OwnT (w.setCell ⟨G, i, none⟩ a) base v l := by
 refine ⟨h.1, ?_⟩
 rcases h.2 with hn | ⟨g, cap, cur, hv, hbb, hg, rest⟩
 ·exact Or.inl hn
 ·exact Or.inr ⟨g, cap, cur, hv, hbb, by rw [heap_setCell_other _ _ _ _ (show g ≠ G by omega)]; exact hg, rest⟩
def TsO (w : World) (v : Value) (l : List Tm) : Prop := (v = .slice none 0 0 /\ l = []) ∨ ∃ ad cap, v = .slice (some ad) l.length cap /\ l.length * 32 <= 140737488351232 /\ (l = [] ∨ ∃ b o, ad = ⟨b, o, none⟩ /\ TRow w b o l)
theorem TsO.ts {w : World} {v : Value} {l : List Tm} (h : TsO w v l) : Ts w v l := by
 rcases h with ⟨rfl, rfl⟩ | ⟨ad, cap, rfl, hl, h⟩
 ·exact ⟨none, 0, rfl, by simp, Or.inl rfl⟩
 ·refine ⟨some ad, cap, rfl, by omega, ?_⟩
  rcases h with h | ⟨b, o, rfl, h⟩
  ·exact Or.inl h
  ·exact Or.inr ⟨b, o, rfl, h⟩
theorem TsO.later {w w' : World} {v : Value} {l : List Tm} (h : TsO w v l) (hb : Below w.heap.size w w') : TsO w' v l := by
 rcases h with h | ⟨ad, cap, h1, h2, h3⟩
 ·exact Or.inl h
 ·refine Or.inr ⟨ad, cap, h1, h2, ?_⟩
  rcases h3 with h3 | ⟨b, o, h3, h4⟩
  ·exact Or.inl h3
  ·exact Or.inr ⟨b, o, h3, h4.later hb⟩
theorem tcs_mem {l : List Tm} {u : Value} (h : u ∈ tcs l) : u.oneCell' = true := by
 simp only [tcs, List.mem_flatMap] at h
 obtain ⟨d, -, hu⟩ := h
 simp [Tm.cs] at hu
 rcases hu with rfl | rfl | rfl <;> rfl
theorem trow_get {w : World} {b o : Nat} {l : List Tm} (h : TRow w b o l) : ∀ j u, (tcs l)[j]? = some u -> w.cell? ((⟨b, o, none⟩ : Addr).add j) = some u := fun j u hu => by
 have hj : j < l.length * 3 := by rw [<- tcs_len]; exact (List.getElem?_eq_some_iff.1 hu).1
 have hq : j / 3 < l.length := by omega
 obtain ⟨d, hd⟩ : ∃ d, l[j / 3]? = some d := ⟨_, List.getElem?_eq_getElem hq⟩
 have hg := tcs_get l (j / 3) d hd (j % 3) (by omega)
 rw [show j / 3 * 3 + j % 3 = j by omega, hu] at hg
 have hc := h.2 _ _ hd
 have ha : (⟨b, o, none⟩ : Addr).add j = ⟨b, o + j / 3 * 3 + j % 3, none⟩ := by
  rw [Go.WideShapes.add_plain]; congr 1; omega
 rw [ha]
 have h4 : j % 3 = 0 ∨ j % 3 = 1 ∨ j % 3 = 2 := by omega
 rcases h4 with e | e | e <;> rw [e] at hg ⊢ <;> simp [Tm.cs] at hg <;> subst hg
 ·exact hc.1
 ·exact hc.2.1
 ·exact hc.2.2
theorem ownT_pre {w : World} {base g cap : Nat} {s : List Tm} {d : Tm} (h : OwnT w base (.slice (some ⟨g, 0, none⟩) (s.length + 1) cap) (s ++ [d])) (hs : s.length < 1000000000000000000) : Ts w (.slice (some ⟨g, 0, none⟩) s.length cap) s := by
 have hlt : g < w.heap.size := (h.lt g rfl).2
 refine ⟨_, cap, rfl, hs, Or.inr ⟨g, 0, rfl, hlt, fun i t ht => ?_⟩⟩
 have hi := (List.getElem?_eq_some_iff.1 ht).1
 have := ownT_cells h i t (by rw [List.getElem?_append_left hi]; exact ht)
 simpa using this
theorem ownT_cap {w : World} {base g cap n : Nat} {l : List Tm} (h : OwnT w base (.slice (some ⟨g, 0, none⟩) n cap) l) : n <= cap := by
 rcases h.2 with ⟨h, _⟩ | ⟨g', c, cur, hv, _, _, hn, _⟩
 ·cases h
 ·simp only [Value.slice.injEq] at hv; omega
end Go.Proofs.YtechceagghcipaaGreatDoor
