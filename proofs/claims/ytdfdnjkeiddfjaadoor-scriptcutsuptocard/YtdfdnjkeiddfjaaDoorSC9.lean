import Derived.Test.YtdfdnjkeiddfjaaDoorWR1
import Derived.Maps.AppendAt
import Derived.Laws.OwnMore
import Derived.Test.YtdfdnjkeiddfjaaDoorKR9
import Derived.Test.YtdfdnjkeiddfjaaDoorRA0
/-
  wire: bytes in memory; copyBytes, sameBytes.
-/
namespace Go.Proofs.YtdfdnjkeiddfjaaDoor
open Go.RowKit
attribute [local go_sem ↓] Go.wp_at_zero Go.wp_at_succ

def ubW (l : List Int) : List Value := l.map (.int .u8)
theorem ubW_len (l : List Int) : (ubW l).length = l.length := by simp [ubW]
theorem ubW_app (a b : List Int) : ubW (a ++ b) = ubW a ++ ubW b := by simp [ubW]
theorem ubW_one (l : List Int) : ∀ u ∈ ubW l, u.oneCell' = true := fun u hu => by
  simp only [ubW, List.mem_map] at hu
  obtain ⟨x, -, rfl⟩ := hu
  rfl
/-- Bytes that lie in a block of F. -/
def LbW (F : Nat → Prop) (w : World) (v : Value) (l : List Int) : Prop :=
  ∃ a cap, v = .slice a l.length cap ∧ l.length ≤ cap ∧ cap ≤ 9223372036854775807 ∧ bytW l ∧ ((l = [] ∧ (a = none → cap = 0)) ∨ ∃ b o, a = some ⟨b, o, none⟩ ∧ b < w.heap.size ∧ F b ∧ ∀ (i : Nat) (x : Int), l[i]? = some x → w.cell? ⟨b, o + i, none⟩ = some (.int .u8 x))
theorem LbW.mono {F G : Nat → Prop} {w : World} {v : Value} {l : List Int} (h : LbW F w v l) (hg : ∀ b, b < w.heap.size → F b → G b) : LbW G w v l := by
  obtain ⟨a, cap, rfl, h1, h2, h3, h4⟩ := h
  refine ⟨a, cap, rfl, h1, h2, h3, ?_⟩
  rcases h4 with h4 | ⟨b, o, rfl, h4, h5, h6⟩
  · exact Or.inl h4
  · exact Or.inr ⟨b, o, rfl, h4, hg b h4 h5, h6⟩
theorem LbW.same {F : Nat → Prop} {w w' : World} {v : Value} {l : List Int} (h : LbW F w v l) (hz : w.heap.size ≤ w'.heap.size) (hf : ∀ b, b < w.heap.size → F b → w'.heap[b]? = w.heap[b]?) : LbW F w' v l := by
  obtain ⟨a, cap, rfl, h1, h2, h3, h4⟩ := h
  refine ⟨a, cap, rfl, h1, h2, h3, ?_⟩
  rcases h4 with h4 | ⟨b, o, rfl, h4, h5, h6⟩
  · exact Or.inl h4
  · exact Or.inr ⟨b, o, rfl, Nat.lt_of_lt_of_le h4 hz, h5, fun i x hx => by
      rw [World.cell?_of_block (w := w) (a := ⟨b, _, none⟩) (hf b h4 h5)]; exact h6 i x hx⟩
theorem LbW.fr {F P : Nat → Prop} {w w' : World} {v : Value} {l : List Int} (h : LbW F w v l) (hf : Fr P w w') (hn : ∀ b, b < w.heap.size → F b → ¬ P b) : LbW F w' v l :=
  h.same hf.size fun b hb hF => hf.block b hb (hn b hb hF)
theorem LbW.below {F : Nat → Prop} {w w' : World} {v : Value} {l : List Int} (h : LbW F w v l) (hb : Below w.heap.size w w') : LbW F w' v l := h.same hb.size fun b h1 _ => hb.block b h1
theorem LbW.nil (F : Nat → Prop) (w : World) : LbW F w (.slice none 0 0) [] := ⟨none, 0, rfl, by simp, by simp, (by intro x hx; simp at hx), Or.inl ⟨rfl, fun _ => rfl⟩⟩
theorem LbW.y {F : Nat → Prop} {w : World} {v : Value} {l : List Int} (h : LbW F w v l) : bytW l := by obtain ⟨a, cap, rfl, h1, h2, h3, -⟩ := h; exact h3
theorem LbW.form {F : Nat → Prop} {w : World} {v : Value} {l : List Int} (h : LbW F w v l) : ∃ a cap, v = .slice a l.length cap ∧ l.length ≤ cap := by obtain ⟨a, cap, rfl, h1, -⟩ := h; exact ⟨_, _, rfl, h1⟩
theorem LbW.drewN {F : Nat → Prop} {w : World} {v : Value} {l : List Int} (h : LbW F w v l) (n : Nat) : LbW F (w.drewN n) v l := h.below ⟨rfl, rfl, rfl, Nat.le_refl _, fun _ _ => rfl⟩
/-- The first ones. -/
theorem LbW.take {F : Nat → Prop} {w : World} {a : Option Addr} {n cap k : Nat} {l : List Int} (h : LbW F w (.slice a n cap) l) (hk : k ≤ n) : LbW F w (.slice a k cap) (l.take k) := by
  obtain ⟨a', cap', e, h1, h2, h3, h4⟩ := h
  simp only [Value.slice.injEq] at e
  obtain ⟨rfl, rfl, rfl⟩ := e
  have hl : (l.take k).length = k := by rw [List.length_take]; omega
  refine ⟨a, cap, by rw [hl], by omega, h2, fun x hx => h3 x (List.mem_of_mem_take hx), ?_⟩
  rcases h4 with ⟨rfl, h4⟩ | ⟨b, o, rfl, h4, h5, h6⟩
  · exact Or.inl ⟨by simp, h4⟩
  · exact Or.inr ⟨b, o, rfl, h4, h5, fun i x hx => h6 i x (by rw [List.getElem?_take] at hx; split at hx; exact hx; cases hx)⟩
/-- Bytes of a call's own. -/
def OwW (w : World) (base : Nat) (v : Value) (l : List Int) : Prop := w.ownsRow base 5 1 v l.length (ubW l)
theorem OwW.lb {w : World} {base : Nat} {v : Value} {l : List Int} (h : OwW w base v l) (hw : bytW l) : LbW (fun b => base ≤ b ∧ v.ownBlock = some b) w v l := by
  rcases h.2 with ⟨rfl, hn⟩ | ⟨g, cap, cur, rfl, hb, hg, hn, hc, hs, ht⟩
  · have : l = [] := List.eq_nil_of_length_eq_zero hn
    subst this
    exact LbW.nil _ _
  · refine ⟨_, cap, rfl, hn, by unfold maxLen at hc; omega, hw, Or.inr ⟨g, 0, rfl, (Array.getElem?_eq_some_iff.1 hg).1, ⟨hb, rfl⟩, fun i x hx => ?_⟩⟩
    rw [cell_of_row _ _ _ _ _ _ hg, Nat.zero_add]
    have hi := (List.getElem?_eq_some_iff.1 hx).1
    have h1 : (cur.toList.take (l.length * 1))[i]? = (ubW l)[i]? := by rw [ht]
    rw [List.getElem?_take_of_lt (by omega)] at h1
    rw [← Array.getElem?_toList, h1]
    simp [ubW, hx]
theorem Tryd.infoU8W : (Tryd.prog.info? 5).map (fun i => (i.zero, i.size, i.bytes)) = some (some (.int .u8 0), 1, 1) := by kernel_rfl
theorem infoW {P : Program} {e : TypeId} {z : Value} {s b : Nat} (h : (P.info? e).map (fun i => (i.zero, i.size, i.bytes)) = some (some z, s, b)) : ∃ i, P.info? e = some i ∧ i.zero = some z ∧ i.size = s ∧ i.bytes = b := by
  cases hi : P.info? e with
  | none => rw [hi] at h; simp at h
  | some i =>
    rw [hi] at h
    simp only [Option.map_some, Option.some.injEq, Prod.mk.injEq] at h
    exact ⟨i, rfl, h.1, h.2.1, h.2.2⟩
/-- append, of things of sz cells that lie anywhere, to a list of the call's own: as it runs. -/
theorem runW {T e : TypeId} {z : Value} {sz by_ : Nat} (hT : Tryd.prog.underlying T = some (.slice e)) (hI : (Tryd.prog.info? e).map (fun i => (i.zero, i.size, i.bytes)) = some (some z, sz, by_)) (hz : z.cells.size = sz) (h0 : 0 < sz) (w : World) (ty : TypeId) (base : Nat) (v : Value) (n : Nat) (l : List Value) (hown : w.ownsRow base e sz v n l)
    (xv : Value) (m : Nat) (news : List Value) (hsrc : (xv = .slice none 0 0 ∧ m = 0 ∧ news = []) ∨ ∃ (ad : Addr) (c : Nat), xv = .slice (some ad) m c ∧ news.length = m * sz ∧ ∀ (j : Nat) u, news[j]? = some u → w.cell? (ad.add j) = some u) (h1c : ∀ u ∈ news, u.oneCell' = true) (hlen : (n + m) * by_ ≤ 140737488355328) (hm : n + m ≤ 140737488355328) (hbase : base ≤ w.heap.size) :
    ∃ v' w', (Builtin.append_ #[T, T] ty #[v, xv]).run Tryd.prog w = .ok v' w' ∧ w'.ownsRow base e sz v' (n + m) (l ++ news) ∧ w.grownBy w' v.ownBlock ∧ (v'.ownBlock = v.ownBlock ∨ v'.ownBlock = some w.heap.size) := by
  obtain ⟨i, hi, h0', h1, h2⟩ := infoW hI
  rcases hsrc with ⟨rfl, rfl, rfl⟩ | ⟨ad, c, rfl, hnl, hc⟩
  · exact ⟨v, w, run_append_owned_none (P := Tryd.prog) w base T ty e i sz hT hi v n l hown, by rw [List.append_nil]; exact hown, ⟨rfl, rfl, rfl, Nat.le_refl _, fun _ _ _ => rfl⟩, Or.inl rfl⟩
  · obtain ⟨v', w', k1, k2, k3, -, k5⟩ := run_append_own_at (P := Tryd.prog) w base T ty e i z sz by_ hT hi h0' h1 h2 hz h0 v n l hown ad m c news (by omega) hc h1c (by unfold maxLen; omega) hlen hbase
    exact ⟨v', w', k1, k2, k3, k5⟩
theorem gappW {T e : TypeId} {z : Value} {sz by_ : Nat} (hT : Tryd.prog.underlying T = some (.slice e)) (hI : (Tryd.prog.info? e).map (fun i => (i.zero, i.size, i.bytes)) = some (some z, sz, by_)) (hz : z.cells.size = sz) (h0 : 0 < sz)
    {ops : Array Oper} {rest : List Oper} {o : Oper} {a : Act} {Q : Exit → Act → World → Prop} {w : World} (hgd : o.guard = none) (s x : Operand)
    (ho : o.op = .call { callee := .builtin .append, args := #[s, x], argTypes := #[T, T] }) (base : Nat) (v : Value) (n : Nat) (l : List Value) (hs : a.eval s = v) (hown : w.ownsRow base e sz v n l)
    (xv : Value) (m : Nat) (news : List Value) (hx : a.eval x = xv) (hsrc : (xv = .slice none 0 0 ∧ m = 0 ∧ news = []) ∨ ∃ (ad : Addr) (c : Nat), xv = .slice (some ad) m c ∧ news.length = m * sz ∧ ∀ (j : Nat) u, news[j]? = some u → w.cell? (ad.add j) = some u) (h1c : ∀ u ∈ news, u.oneCell' = true) (hlen : (n + m) * by_ ≤ 140737488355328) (hm : n + m ≤ 140737488355328) (hbase : base ≤ w.heap.size)
    (h : ∀ v' w', w'.ownsRow base e sz v' (n + m) (l ++ news) → w.grownBy w' v.ownBlock → (v'.ownBlock = v.ownBlock ∨ v'.ownBlock = some w.heap.size) → wpList Tryd.prog ops Q rest (a.put o.dst v') w') : wpList Tryd.prog ops Q (o :: rest) a w := by
  obtain ⟨v', w', hrun, r1, r2, r3⟩ := runW hT hI hz h0 w o.type base v n l hown xv m news hsrc h1c hlen hm hbase
  refine wpList_plain hgd fun K hK => ?_
  simp [Oper.wp, execOp, ho, resolve, invoke, builtin, hs, hx, hrun, Result.andThen]
  exact hK _ _ (h v' w' r1 r2 r3)
theorem lb_src {F : Nat → Prop} {w : World} {v : Value} {l : List Int} (h : LbW F w v l) : (v = .slice none 0 0 ∧ l.length = 0 ∧ ubW l = []) ∨ ∃ (ad : Addr) (c : Nat), v = .slice (some ad) l.length c ∧ (ubW l).length = l.length * 1 ∧ ∀ (j : Nat) u, (ubW l)[j]? = some u → w.cell? (ad.add j) = some u := by
  obtain ⟨a, cap, rfl, h1, h2, h3, h4⟩ := h
  rcases h4 with ⟨rfl, h4⟩ | ⟨b, o, rfl, -, -, h4⟩
  · cases a with
    | none => exact Or.inl ⟨by rw [h4 rfl]; rfl, rfl, rfl⟩
    | some a => exact Or.inr ⟨a, cap, rfl, rfl, by simp [ubW]⟩
  · refine Or.inr ⟨⟨b, o, none⟩, cap, rfl, by rw [ubW_len, Nat.mul_one], fun j u hj => ?_⟩
    simp only [ubW, List.getElem?_map, Option.map_eq_some_iff] at hj
    obtain ⟨x, hx, rfl⟩ := hj
    rw [Go.WideShapes.add_plain]
    exact h4 j x hx
theorem take_nextW {α : Type} {a b : List α} {j : Nat} {x : α} (h : a.take j = b.take j) (hx : a[j]? = some x) (hy : b[j]? = some x) : a.take (j + 1) = b.take (j + 1) := by
  rw [List.take_add_one, List.take_add_one, h, hx, hy]
end Go.Proofs.YtdfdnjkeiddfjaaDoor
/-
  script (stage 25): the document's put of bytes, shown of bytes.
-/
namespace Go.Proofs.YtdfdnjkeiddfjaaDoor
open Go.RowKit
attribute [local go_sem ↓] Go.wp_at_zero Go.wp_at_succ

/-- Bytes of a call's own that may have come out of a text. -/
def OwY (w : World) (base : Nat) (v : Value) (l : List Int) : Prop :=
  (v = .slice none 0 0 ∧ l = []) ∨
  ∃ g cap cur fz, v = .slice (some ⟨g, 0, none⟩) l.length cap ∧ base ≤ g ∧ w.heap[g]? = some (.cells cur 5 fz) ∧ (fz = (0, 0) ∨ fz = (cap, cap + 1)) ∧ l.length ≤ cap ∧ cap ≤ maxLen ∧ cur.size = cap ∧ cur.toList.take l.length = ubW l
theorem OwY.conv (X : World) (s : ByteArray) (hs : s.size ≤ 9000000) : OwY (Lib.bytesWorld X 5 s) X.heap.size (.slice (some ⟨X.heap.size, 0, none⟩) s.size (grownCap X s.size 0 5)) (blK s) := by
  have h1 := grownCap_ge X s.size 0 5
  have hz : (Lib.bytesCells X 5 s).size = grownCap X s.size 0 5 := by
    simp [Lib.bytesCells]; omega
  refine Or.inr ⟨_, _, _, _, by rw [bl_len], Nat.le_refl _, Lib.bytesWorld_at_new X _ s, Or.inr (by rw [hz]), by rw [bl_len]; exact h1, grownCap_le_maxLen _ _ _ _ (by unfold maxLen; omega), hz, ?_⟩
  rw [bl_len]
  simp only [Lib.bytesCells, Array.toList_append, Array.toList_map]
  rw [List.take_append_of_le_length (by simp)]
  rw [List.take_of_length_le (by simp)]
  simp [ubW, blK]
theorem OwY.later {w w' : World} {base : Nat} {v : Value} {l : List Int} (h : OwY w base v l) (hb : Below w.heap.size w w') : OwY w' base v l := by
  rcases h with h | ⟨g, cap, cur, fz, h1, h2, h3, h4⟩
  · exact Or.inl h
  · exact Or.inr ⟨g, cap, cur, fz, h1, h2, (hb.block g (Array.getElem?_eq_some_iff.1 h3).1).trans h3, h4⟩
theorem OwY.mono {w : World} {base base' : Nat} {v : Value} {l : List Int} (h : OwY w base v l) (hb : base' ≤ base) : OwY w base' v l := by
  rcases h with h | ⟨g, cap, cur, fz, h1, h2, h4⟩
  · exact Or.inl h
  · exact Or.inr ⟨g, cap, cur, fz, h1, Nat.le_trans hb h2, h4⟩
theorem OwY.set {w : World} {base g i : Nat} {v u : Value} {l : List Int} (h : OwY w base v l) (hg : g < base) : OwY (w.setCell ⟨g, i, none⟩ u) base v l := by
  rcases h with h | ⟨g', cap, cur, fz, h1, h2, h3, h4⟩
  · exact Or.inl h
  · exact Or.inr ⟨g', cap, cur, fz, h1, h2, (heap_setCell_other _ _ _ _ (show g' ≠ g by omega)).trans h3, h4⟩
theorem cell8 {X : World} {g : Nat} {c : Array Value} {t : TypeId} (h : BlkK X g c t) (j : Nat) (v : Value) (hv : c[j]? = some v) : X.cell? ⟨g, j, none⟩ = some v := by
  unfold World.cell?
  simp only
  rw [h]
  exact hv
theorem froz8 {X : World} {g : Nat} {c : Array Value} {t : TypeId} (h : BlkK X g c t) (j : Nat) : X.frozen? ⟨g, j, none⟩ = false := by
  simp [World.frozen?, show X.heap[g]? = _ from h]
theorem store8 {W : World} {G : Nat} {a0 a1 a2 a3 a4 a5 a6 a7 b0 b1 b2 b3 b4 b5 b6 b7 : Value} {t : TypeId} (h : BlkK W G #[a0, a1, a2, a3, a4, a5, a6, a7] t) :
    BlkK ((((((((W.setCell ⟨G, 0, none⟩ b0).setCell ⟨G, 1, none⟩ b1).setCell ⟨G, 2, none⟩ b2).setCell ⟨G, 3, none⟩ b3).setCell ⟨G, 4, none⟩ b4).setCell ⟨G, 5, none⟩ b5).setCell ⟨G, 6, none⟩ b6).setCell ⟨G, 7, none⟩ b7) G #[b0, b1, b2, b3, b4, b5, b6, b7] t := by
  have h0 : BlkK (W.setCell ⟨G, 0, none⟩ b0) G #[b0, a1, a2, a3, a4, a5, a6, a7] t := heap_setCell_same _ _ 0 _ _ b0 h
  have h1 : BlkK ((W.setCell ⟨G, 0, none⟩ b0).setCell ⟨G, 1, none⟩ b1) G #[b0, b1, a2, a3, a4, a5, a6, a7] t := heap_setCell_same _ _ 1 _ _ b1 h0
  have h2 : BlkK (((W.setCell ⟨G, 0, none⟩ b0).setCell ⟨G, 1, none⟩ b1).setCell ⟨G, 2, none⟩ b2) G #[b0, b1, b2, a3, a4, a5, a6, a7] t := heap_setCell_same _ _ 2 _ _ b2 h1
  have h3 : BlkK ((((W.setCell ⟨G, 0, none⟩ b0).setCell ⟨G, 1, none⟩ b1).setCell ⟨G, 2, none⟩ b2).setCell ⟨G, 3, none⟩ b3) G #[b0, b1, b2, b3, a4, a5, a6, a7] t := heap_setCell_same _ _ 3 _ _ b3 h2
  have h4 : BlkK (((((W.setCell ⟨G, 0, none⟩ b0).setCell ⟨G, 1, none⟩ b1).setCell ⟨G, 2, none⟩ b2).setCell ⟨G, 3, none⟩ b3).setCell ⟨G, 4, none⟩ b4) G #[b0, b1, b2, b3, b4, a5, a6, a7] t := heap_setCell_same _ _ 4 _ _ b4 h3
  have h5 : BlkK ((((((W.setCell ⟨G, 0, none⟩ b0).setCell ⟨G, 1, none⟩ b1).setCell ⟨G, 2, none⟩ b2).setCell ⟨G, 3, none⟩ b3).setCell ⟨G, 4, none⟩ b4).setCell ⟨G, 5, none⟩ b5) G #[b0, b1, b2, b3, b4, b5, a6, a7] t := heap_setCell_same _ _ 5 _ _ b5 h4
  have h6 : BlkK (((((((W.setCell ⟨G, 0, none⟩ b0).setCell ⟨G, 1, none⟩ b1).setCell ⟨G, 2, none⟩ b2).setCell ⟨G, 3, none⟩ b3).setCell ⟨G, 4, none⟩ b4).setCell ⟨G, 5, none⟩ b5).setCell ⟨G, 6, none⟩ b6) G #[b0, b1, b2, b3, b4, b5, b6, a7] t := heap_setCell_same _ _ 6 _ _ b6 h5
  have h7 : BlkK ((((((((W.setCell ⟨G, 0, none⟩ b0).setCell ⟨G, 1, none⟩ b1).setCell ⟨G, 2, none⟩ b2).setCell ⟨G, 3, none⟩ b3).setCell ⟨G, 4, none⟩ b4).setCell ⟨G, 5, none⟩ b5).setCell ⟨G, 6, none⟩ b6).setCell ⟨G, 7, none⟩ b7) G #[b0, b1, b2, b3, b4, b5, b6, b7] t := heap_setCell_same _ _ 7 _ _ b7 h6
  exact h7
/-- Bytes as a text. -/
theorem conv_zero (p : Option Addr) (c : Nat) (w : World) : (convert 22 9 (.slice p 0 c)).run Tryd.prog w = .ok (.string ⟨#[]⟩) w := by
  rw [run_convert_bytes_string w 22 9 5 _ 0 c Tryd.underlying22 Tryd.underlying5 Tryd.underlying9]
  cases p <;> simp [Conv.bytesToString, loadCells]
  all_goals rfl
theorem conv_lb {F : Nat → Prop} {w : World} {v : Value} {l : List Int} (h : LbW F w v l) : (convert 22 9 v).run Tryd.prog w = .ok (.string (ofL l)) w := by
  obtain ⟨a, cap, rfl, h1, h2, h3, h4⟩ := h
  rcases h4 with ⟨rfl, -⟩ | ⟨b, o, rfl, -, -, h4⟩
  · exact conv_zero a cap w
  · have e := run_convert_bytes_back (P := Tryd.prog) w 22 9 5 ⟨b, o, none⟩ cap (i2b l) Tryd.underlying22 Tryd.underlying5 Tryd.underlying9 (fun j hj => by
      have hj' : j < l.length := by simpa [i2b] using hj
      rw [Go.WideShapes.add_plain, h4 j l[j] (List.getElem?_eq_getElem hj')]
      have := h3 l[j] (List.getElem_mem hj')
      simp [i2b]; omega)
    rw [show (i2b l).length = l.length by simp [i2b]] at e
    exact e
/-- What came out of a text lies in a block of its own. -/
theorem OwY.lb {w : World} {base : Nat} {v : Value} {l : List Int} (h : OwY w base v l) (hw : bytW l) : LbW (fun b => base ≤ b ∧ v.ownBlock = some b) w v l := by
  rcases h with ⟨rfl, rfl⟩ | ⟨g, cap, cur, fz, rfl, hb, hg, -, hn, hc, hs, ht⟩
  · exact LbW.nil _ _
  · refine ⟨_, cap, rfl, hn, by unfold maxLen at hc; omega, hw, Or.inr ⟨g, 0, rfl, (Array.getElem?_eq_some_iff.1 hg).1, ⟨hb, rfl⟩, fun i x hx => ?_⟩⟩
    have hi := (List.getElem?_eq_some_iff.1 hx).1
    unfold World.cell?
    simp only
    rw [hg]
    simp only [Nat.zero_add]
    have h1 : (cur.toList.take l.length)[i]? = (ubW l)[i]? := by rw [ht]
    rw [List.getElem?_take_of_lt (by omega)] at h1
    rw [← Array.getElem?_toList, h1]
    simp [ubW, hx]
theorem bl_bytW (s : ByteArray) : bytW (blK s) := bl_byt s
theorem Fr.belowL {P : Nat → Prop} {B : Nat} {w w' : World} (h : Fr P w w') (hP : ∀ k, P k → B ≤ k) (hB : B ≤ w.heap.size) : Below B w w' :=
  ⟨h.os, h.tape, h.output, h.size, fun k hk => h.block k (by omega) fun hp => by have := hP k hp; omega⟩
theorem OwY.setk {w : World} {base g i : Nat} {v u : Value} {l : List Int} (h : OwY w base v l) (hg : ∀ k, v.ownBlock = some k → k ≠ g) : OwY (w.setCell ⟨g, i, none⟩ u) base v l := by
  rcases h with h | ⟨g', cap, cur, fz, rfl, h2, h3, h4⟩
  · exact Or.inl h
  · exact Or.inr ⟨g', cap, cur, fz, rfl, h2, (heap_setCell_other _ _ _ _ (hg g' rfl)).trans h3, h4⟩
theorem BlkK.frL {P : Nat → Prop} {w w' : World} {g : Nat} {c : Array Value} {t : TypeId} (h : BlkK w g c t) (hf : Fr P w w') (hn : ¬ P g) : BlkK w' g c t := (hf.block _ h.lt hn).trans h
end Go.Proofs.YtdfdnjkeiddfjaaDoor
