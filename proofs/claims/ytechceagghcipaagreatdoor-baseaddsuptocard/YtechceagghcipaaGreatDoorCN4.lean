import Derived.Test.YtechceagghcipaaGreatDoorCN2
import Derived.Test.YtechceagghcipaaGreatDoorMD2
namespace Go.Proofs.YtechceagghcipaaGreatDoor
open Go.RowKit

def Pd.cs (p : Pd) : List Value := [.string p.nm, .int .i64 p.ar]
def pcs (l : List Pd) : List Value := l.flatMap Pd.cs
def PRow (w : World) (b o : Nat) (l : List Pd) : Prop :=
 b < w.heap.size /\ ∀ i p, l[i]? = some p -> w.cell? ⟨b, o + i * 2, none⟩ = some (.string p.nm) /\ w.cell? ⟨b, o + i * 2 + 1, none⟩ = some (.int .i64 p.ar)
theorem PRow.later {w w' : World} {b o l} (h : PRow w b o l) (hb : Below w.heap.size w w') : PRow w' b o l :=
 ⟨Nat.lt_of_lt_of_le h.1 hb.size, fun i p hp => ⟨cell_step hb h.1 (h.2 i p hp).1, cell_step hb h.1 (h.2 i p hp).2⟩⟩
theorem Tryz.infoPred : (Tryz.prog.info? 60).map (fun i => (i.zero, i.size, i.bytes)) = some (some (.agg #[.string ⟨#[]⟩, .int .i64 0]), 2, 24) := by kernel_rfl
theorem pcs_len (l : List Pd) : (pcs l).length = l.length * 2 := by
 induction l with
 | nil => rfl
 | cons d l ih => simp only [pcs, List.flatMap_cons, List.length_append, List.length_cons] at *; rw [ih]; simp [Pd.cs]; omega
theorem pcs_get (l : List Pd) (j : Nat) (d : Pd) (h : l[j]? = some d) (i : Nat) (hi : i < 2) : (pcs l)[j * 2 + i]? = d.cs[i]? := by
 induction l generalizing j with
 | nil => simp at h
 | cons e l ih =>
  rw [pcs, List.flatMap_cons]
  cases j with
  | zero =>
   simp only [List.getElem?_cons_zero, Option.some.injEq] at h
   subst h
   rw [List.getElem?_append_left (by simp [Pd.cs]; omega)]
   simp
  | succ j =>
   simp only [List.getElem?_cons_succ] at h
   rw [List.getElem?_append_right (by simp [Pd.cs]; omega)]
   have e1 : (j + 1) * 2 + i - (Pd.cs e).length = j * 2 + i := by simp [Pd.cs]; omega
   rw [e1]
   exact ih j h
def OwnP (w : World) (base : Nat) (v : Value) (l : List Pd) : Prop := w.ownsRow base 60 2 v l.length (pcs l)
theorem ownP_cells {w : World} {base g cap n : Nat} {l : List Pd} (h : OwnP w base (.slice (some ⟨g, 0, none⟩) n cap) l) (j : Nat) (d : Pd) (hd : l[j]? = some d) :
  w.cell? ⟨g, j * 2, none⟩ = some (.string d.nm) /\ w.cell? ⟨g, j * 2 + 1, none⟩ = some (.int .i64 d.ar) := by
 rcases h.2 with ⟨h, _⟩ | ⟨g', cap', cur, hv, hb, hg, hn, hc, hs, ht⟩
 ·cases h
 ·simp only [Value.slice.injEq, Option.some.injEq, Addr.mk.injEq] at hv
  obtain ⟨⟨rfl, -⟩, -, rfl⟩ := hv
  have hj := (List.getElem?_eq_some_iff.1 hd).1
  have key : ∀ i, i < 2 -> w.cell? ⟨g, j * 2 + i, none⟩ = d.cs[i]? := fun i hi => by
   rw [cell_of_row _ _ _ _ _ _ hg, <- pcs_get l j d hd i hi, <- ht, List.getElem?_take_of_lt (by omega)]
   simp
  exact ⟨key 0 (by omega), key 1 (by omega)⟩
theorem OwnP.lt {w : World} {base : Nat} {v : Value} {l : List Pd} (h : OwnP w base v l) : ∀ k, v.ownBlock = some k -> base <= k /\ k < w.heap.size := World.ownsRow.lt h
theorem OwnP.mono {w : World} {b b' : Nat} {v : Value} {l : List Pd} (h : OwnP w b v l) (hb : b' <= b) : OwnP w b' v l := by
 refine ⟨h.1, ?_⟩
 rcases h.2 with hn | ⟨g, cap, cur, hv, hbb, rest⟩
 ·exact Or.inl hn
 ·exact Or.inr ⟨g, cap, cur, hv, Nat.le_trans hb hbb, rest⟩
theorem OwnP.later {w w' : World} {base : Nat} {v : Value} {l : List Pd} (h : OwnP w base v l) (hb : Below w.heap.size w w') : OwnP w' base v l := by
 refine ⟨h.1, ?_⟩
 rcases h.2 with hn | ⟨g, cap, cur, hv, hbb, hg, rest⟩
 ·exact Or.inl hn
 ·exact Or.inr ⟨g, cap, cur, hv, hbb, (hb.block _ (Array.getElem?_eq_some_iff.1 hg).1).trans hg, rest⟩
theorem pcs_mem {l : List Pd} {u : Value} (h : u ∈ pcs l) : u.oneCell' = true := by
 simp only [pcs, List.mem_flatMap] at h
 obtain ⟨d, -, hu⟩ := h
 simp [Pd.cs] at hu
 rcases hu with rfl | rfl <;> rfl
theorem prow_get {w : World} {b o : Nat} {l : List Pd} (h : PRow w b o l) : ∀ j u, (pcs l)[j]? = some u -> w.cell? ((⟨b, o, none⟩ : Addr).add j) = some u := fun j u hu => by
 have hj : j < l.length * 2 := by rw [<- pcs_len]; exact (List.getElem?_eq_some_iff.1 hu).1
 have hq : j / 2 < l.length := by omega
 obtain ⟨d, hd⟩ : ∃ d, l[j / 2]? = some d := ⟨_, List.getElem?_eq_getElem hq⟩
 have hg := pcs_get l (j / 2) d hd (j % 2) (by omega)
 rw [show j / 2 * 2 + j % 2 = j by omega, hu] at hg
 have hc := h.2 _ _ hd
 have ha : (⟨b, o, none⟩ : Addr).add j = ⟨b, o + j / 2 * 2 + j % 2, none⟩ := by
  rw [Go.WideShapes.add_plain]; congr 1; omega
 rw [ha]
 have h4 : j % 2 = 0 ∨ j % 2 = 1 := by omega
 rcases h4 with e | e <;> rw [e] at hg ⊢ <;> simp [Pd.cs] at hg <;> subst hg
 ·exact hc.1
 ·exact hc.2
def PsP (w : World) (v : Value) (l : List Pd) : Prop := (v = .slice none 0 0 /\ l = []) ∨ ∃ ad cap, v = .slice (some ad) l.length cap /\ (l = [] ∨ ∃ b o, ad = ⟨b, o, none⟩ /\ PRow w b o l)
theorem OwnP.tsP {w : World} {base : Nat} {v : Value} {l : List Pd} (h : OwnP w base v l) : PsP w v l := by
 have hh := h
 rcases h.2 with ⟨rfl, hn⟩ | ⟨g, cap, cur, rfl, hb, hg, -⟩
 ·exact Or.inl ⟨rfl, List.length_eq_zero_iff.1 hn⟩
 ·refine Or.inr ⟨_, cap, rfl, Or.inr ⟨g, 0, rfl, (Array.getElem?_eq_some_iff.1 hg).1, fun i t ht => ?_⟩⟩
  simpa using ownP_cells hh i t ht
theorem pcs_app (l m : List Pd) : pcs (l ++ m) = pcs l ++ pcs m := by simp [pcs]
theorem ownP_nil (w : World) (base : Nat) : OwnP w base (.slice none 0 0) [] := World.ownsRow_nil _ _ _ _
theorem app_preds {ops : Array Oper} {rest : List Oper} {o : Oper} {a : Act} {Q : Exit -> Act -> World -> Prop} {w : World} (hgd : o.guard = none) (s x : Operand)
  (ho : o.op = .call { callee := .builtin .append, args := #[s, x], argTypes := #[51, 51] }) (base : Nat) (v : Value) (l : List Pd) (hs : a.eval s = v) (hown : OwnP w base v l)
  (y : Value) (m : List Pd) (hx : a.eval x = y) (hy : PsP w y m) (hlen : l.length + m.length <= 4000000000000) (hbase : base <= w.heap.size)
  (h : ∀ v' w', OwnP w' base v' (l ++ m) -> Below base w w' -> w.grownBy w' v.ownBlock -> wpList Tryz.prog ops Q rest (a.put o.dst v') w') : wpList Tryz.prog ops Q (o :: rest) a w := by
 obtain ⟨i0, hi0, hz0, hz1, hz2⟩ := info_parts Tryz.infoPred
 rcases hy with ⟨rfl, rfl⟩ | ⟨ad, cap, rfl, hm⟩
 ·refine wpList_append_own_none hgd s x 51 ho base 60 i0 2 Tryz.underlying51 hi0 v l.length (pcs l) hs hown hx ?_
  refine h v w (by rw [List.append_nil]; exact hown) (Below.refl _ _) ?_
  exact World.grownBy.refl _ _
 ·refine wpList_append_own _ hgd s x 51 ho base 60 i0 _ 2 24 Tryz.underlying51 hi0 hz0 hz1 hz2 rfl (by omega) v l.length (pcs l) hs hown ad m.length cap (pcs m) hx (pcs_len m) ?_ (fun u hu => pcs_mem hu) (by unfold maxLen; omega) (by omega) hbase ?_
  ·rcases hm with rfl | ⟨b, o', rfl, hm⟩
   ·intro j u hu; simp [pcs] at hu
   ·exact prow_get hm
  ·intro v' w' h1 h2 _
   refine h v' w' ?_ (grown_below3 h2 (fun k hk => (World.ownsRow.lt hown k hk).1) hbase) h2
   unfold OwnP
   rw [List.length_append, pcs_app]
   exact h1
theorem PsP.one {w : World} {b : Nat} {t : Pd} (h : CBlk w b #[.string t.nm, .int .i64 t.ar] 60) : PsP w (.slice (some ⟨b, 0, none⟩) 1 1) [t] := by
 refine Or.inr ⟨_, 1, rfl, Or.inr ⟨b, 0, rfl, h.lt, fun i u hu => ?_⟩⟩
 have c0 : w.cell? ⟨b, 0, none⟩ = some (.string t.nm) := cell_of_row _ _ _ _ _ _ h
 have c1 : w.cell? ⟨b, 1, none⟩ = some (.int .i64 t.ar) := cell_of_row _ _ _ _ _ _ h
 cases i with
 | zero => simp at hu; subst hu; exact ⟨c0, c1⟩
 | succ i => simp at hu
theorem PsP.get {w : World} {a : Option Addr} {n cap j : Nat} {l : List Pd} {c : Pd} (h : PsP w (.slice a n cap) l) (hc : l[j]? = some c) : ∃ b o, a = some ⟨b, o, none⟩ /\ PRow w b o l := by
 rcases h with ⟨e, rfl⟩ | ⟨ad, cap', e, h2⟩
 ·simp at hc
 ·simp only [Value.slice.injEq] at e
  obtain ⟨rfl, -, -⟩ := e
  rcases h2 with rfl | ⟨b, o, rfl, h2⟩
  ·simp at hc
  ·exact ⟨b, o, rfl, h2⟩
theorem PsP.form {w : World} {v : Value} {l : List Pd} (h : PsP w v l) : ∃ a cap, v = .slice a l.length cap := by
 rcases h with ⟨rfl, rfl⟩ | ⟨ad, cap, rfl, -⟩
 ·exact ⟨none, 0, rfl⟩
 ·exact ⟨_, _, rfl⟩
end Go.Proofs.YtechceagghcipaaGreatDoor
