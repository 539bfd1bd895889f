/-
  wire: bytes in memory; copyBytes, sameBytes.
-/
import Derived.Test.YtdfdnjkeiddfjabDoorWR1
import Derived.Maps.AppendAt
import Derived.Laws.OwnMore
namespace Go.Proofs.YtdfdnjkeiddfjabDoor
open Go.RowKit
attribute [local go_sem ↓] Go.wp_at_zero Go.wp_at_succ

def ubW (l : List Int) : List Value := l.map (.int .u8)
theorem ubW_len (l : List Int) : (ubW l).length = l.length := by simp [ubW]
theorem ubW_app (a b : List Int) : ubW (a ++ b) = ubW a ++ ubW b := by simp [ubW]
theorem ubW_one (l : List Int) : ∀ u ∈ ubW l, u.oneCell' = true := fun u hu => by
  simp only [ubW, List.mem_map] at hu
  obtain ⟨x, -, rfl⟩ := hu
  rfl
/-- Bytes that lie in a block of F. -/
def LbW (F : Nat → Prop) (w : World) (v : Value) (l : List Int) : Prop :=
  ∃ a cap, v = .slice a l.length cap ∧ l.length ≤ cap ∧ cap ≤ 9223372036854775807 ∧ bytW l ∧ ((l = [] ∧ (a = none → cap = 0)) ∨ ∃ b o, a = some ⟨b, o, none⟩ ∧ b < w.heap.size ∧ F b ∧ ∀ (i : Nat) (x : Int), l[i]? = some x → w.cell? ⟨b, o + i, none⟩ = some (.int .u8 x))
theorem LbW.mono {F G : Nat → Prop} {w : World} {v : Value} {l : List Int} (h : LbW F w v l) (hg : ∀ b, b < w.heap.size → F b → G b) : LbW G w v l := by
  obtain ⟨a, cap, rfl, h1, h2, h3, h4⟩ := h
  refine ⟨a, cap, rfl, h1, h2, h3, ?_⟩
  rcases h4 with h4 | ⟨b, o, rfl, h4, h5, h6⟩
  · exact Or.inl h4
  · exact Or.inr ⟨b, o, rfl, h4, hg b h4 h5, h6⟩
theorem LbW.same {F : Nat → Prop} {w w' : World} {v : Value} {l : List Int} (h : LbW F w v l) (hz : w.heap.size ≤ w'.heap.size) (hf : ∀ b, b < w.heap.size → F b → w'.heap[b]? = w.heap[b]?) : LbW F w' v l := by
  obtain ⟨a, cap, rfl, h1, h2, h3, h4⟩ := h
  refine ⟨a, cap, rfl, h1, h2, h3, ?_⟩
  rcases h4 with h4 | ⟨b, o, rfl, h4, h5, h6⟩
  · exact Or.inl h4
  · exact Or.inr ⟨b, o, rfl, Nat.lt_of_lt_of_le h4 hz, h5, fun i x hx => by
      rw [World.cell?_of_block (w := w) (a := ⟨b, _, none⟩) (hf b h4 h5)]; exact h6 i x hx⟩
theorem LbW.below {F : Nat → Prop} {w w' : World} {v : Value} {l : List Int} (h : LbW F w v l) (hb : Below w.heap.size w w') : LbW F w' v l := h.same hb.size fun b h1 _ => hb.block b h1
theorem LbW.nil (F : Nat → Prop) (w : World) : LbW F w (.slice none 0 0) [] := ⟨none, 0, rfl, by simp, by simp, (by intro x hx; simp at hx), Or.inl ⟨rfl, fun _ => rfl⟩⟩
/-- The first ones. -/
theorem LbW.take {F : Nat → Prop} {w : World} {a : Option Addr} {n cap k : Nat} {l : List Int} (h : LbW F w (.slice a n cap) l) (hk : k ≤ n) : LbW F w (.slice a k cap) (l.take k) := by
  obtain ⟨a', cap', e, h1, h2, h3, h4⟩ := h
  simp only [Value.slice.injEq] at e
  obtain ⟨rfl, rfl, rfl⟩ := e
  have hl : (l.take k).length = k := by rw [List.length_take]; omega
  refine ⟨a, cap, by rw [hl], by omega, h2, fun x hx => h3 x (List.mem_of_mem_take hx), ?_⟩
  rcases h4 with ⟨rfl, h4⟩ | ⟨b, o, rfl, h4, h5, h6⟩
  · exact Or.inl ⟨by simp, h4⟩
  · exact Or.inr ⟨b, o, rfl, h4, h5, fun i x hx => h6 i x (by rw [List.getElem?_take] at hx; split at hx; exact hx; cases hx)⟩
/-- Bytes of a call's own. -/
def OwW (w : World) (base : Nat) (v : Value) (l : List Int) : Prop := w.ownsRow base 5 1 v l.length (ubW l)
theorem OwW.lb {w : World} {base : Nat} {v : Value} {l : List Int} (h : OwW w base v l) (hw : bytW l) : LbW (fun b => base ≤ b ∧ v.ownBlock = some b) w v l := by
  rcases h.2 with ⟨rfl, hn⟩ | ⟨g, cap, cur, rfl, hb, hg, hn, hc, hs, ht⟩
  · have : l = [] := List.eq_nil_of_length_eq_zero hn
    subst this
    exact LbW.nil _ _
  · refine ⟨_, cap, rfl, hn, by unfold maxLen at hc; omega, hw, Or.inr ⟨g, 0, rfl, (Array.getElem?_eq_some_iff.1 hg).1, ⟨hb, rfl⟩, fun i x hx => ?_⟩⟩
    rw [cell_of_row _ _ _ _ _ _ hg, Nat.zero_add]
    have hi := (List.getElem?_eq_some_iff.1 hx).1
    have h1 : (cur.toList.take (l.length * 1))[i]? = (ubW l)[i]? := by rw [ht]
    rw [List.getElem?_take_of_lt (by omega)] at h1
    rw [← Array.getElem?_toList, h1]
    simp [ubW, hx]
theorem Tryd.infoU8W : (Tryd.prog.info? 5).map (fun i => (i.zero, i.size, i.bytes)) = some (some (.int .u8 0), 1, 1) := by kernel_rfl
theorem infoW {P : Program} {e : TypeId} {z : Value} {s b : Nat} (h : (P.info? e).map (fun i => (i.zero, i.size, i.bytes)) = some (some z, s, b)) : ∃ i, P.info? e = some i ∧ i.zero = some z ∧ i.size = s ∧ i.bytes = b := by
  cases hi : P.info? e with
  | none => rw [hi] at h; simp at h
  | some i =>
    rw [hi] at h
    simp only [Option.map_some, Option.some.injEq, Prod.mk.injEq] at h
    exact ⟨i, rfl, h.1, h.2.1, h.2.2⟩
/-- append, of things of sz cells that lie anywhere, to a list of the call's own: as it runs. -/
theorem runW {T e : TypeId} {z : Value} {sz by_ : Nat} (hT : Tryd.prog.underlying T = some (.slice e)) (hI : (Tryd.prog.info? e).map (fun i => (i.zero, i.size, i.bytes)) = some (some z, sz, by_)) (hz : z.cells.size = sz) (h0 : 0 < sz) (w : World) (ty : TypeId) (base : Nat) (v : Value) (n : Nat) (l : List Value) (hown : w.ownsRow base e sz v n l)
    (xv : Value) (m : Nat) (news : List Value) (hsrc : (xv = .slice none 0 0 ∧ m = 0 ∧ news = []) ∨ ∃ (ad : Addr) (c : Nat), xv = .slice (some ad) m c ∧ news.length = m * sz ∧ ∀ (j : Nat) u, news[j]? = some u → w.cell? (ad.add j) = some u) (h1c : ∀ u ∈ news, u.oneCell' = true) (hlen : (n + m) * by_ ≤ 140737488355328) (hm : n + m ≤ 140737488355328) (hbase : base ≤ w.heap.size) :
    ∃ v' w', (Builtin.append_ #[T, T] ty #[v, xv]).run Tryd.prog w = .ok v' w' ∧ w'.ownsRow base e sz v' (n + m) (l ++ news) ∧ w.grownBy w' v.ownBlock ∧ (v'.ownBlock = v.ownBlock ∨ v'.ownBlock = some w.heap.size) := by
  obtain ⟨i, hi, h0', h1, h2⟩ := infoW hI
  rcases hsrc with ⟨rfl, rfl, rfl⟩ | ⟨ad, c, rfl, hnl, hc⟩
  · exact ⟨v, w, run_append_owned_none (P := Tryd.prog) w base T ty e i sz hT hi v n l hown, by rw [List.append_nil]; exact hown, ⟨rfl, rfl, rfl, Nat.le_refl _, fun _ _ _ => rfl⟩, Or.inl rfl⟩
  · obtain ⟨v', w', k1, k2, k3, -, k5⟩ := run_append_own_at (P := Tryd.prog) w base T ty e i z sz by_ hT hi h0' h1 h2 hz h0 v n l hown ad m c news (by omega) hc h1c (by unfold maxLen; omega) hlen hbase
    exact ⟨v', w', k1, k2, k3, k5⟩
theorem gappW {T e : TypeId} {z : Value} {sz by_ : Nat} (hT : Tryd.prog.underlying T = some (.slice e)) (hI : (Tryd.prog.info? e).map (fun i => (i.zero, i.size, i.bytes)) = some (some z, sz, by_)) (hz : z.cells.size = sz) (h0 : 0 < sz)
    {ops : Array Oper} {rest : List Oper} {o : Oper} {a : Act} {Q : Exit → Act → World → Prop} {w : World} (hgd : o.guard = none) (s x : Operand)
    (ho : o.op = .call { callee := .builtin .append, args := #[s, x], argTypes := #[T, T] }) (base : Nat) (v : Value) (n : Nat) (l : List Value) (hs : a.eval s = v) (hown : w.ownsRow base e sz v n l)
    (xv : Value) (m : Nat) (news : List Value) (hx : a.eval x = xv) (hsrc : (xv = .slice none 0 0 ∧ m = 0 ∧ news = []) ∨ ∃ (ad : Addr) (c : Nat), xv = .slice (some ad) m c ∧ news.length = m * sz ∧ ∀ (j : Nat) u, news[j]? = some u → w.cell? (ad.add j) = some u) (h1c : ∀ u ∈ news, u.oneCell' = true) (hlen : (n + m) * by_ ≤ 140737488355328) (hm : n + m ≤ 140737488355328) (hbase : base ≤ w.heap.size)
    (h : ∀ v' w', w'.ownsRow base e sz v' (n + m) (l ++ news) → w.grownBy w' v.ownBlock → (v'.ownBlock = v.ownBlock ∨ v'.ownBlock = some w.heap.size) → wpList Tryd.prog ops Q rest (a.put o.dst v') w') : wpList Tryd.prog ops Q (o :: rest) a w := by
  obtain ⟨v', w', hrun, r1, r2, r3⟩ := runW hT hI hz h0 w o.type base v n l hown xv m news hsrc h1c hlen hm hbase
  refine wpList_plain hgd fun K hK => ?_
  simp [Oper.wp, execOp, ho, resolve, invoke, builtin, hs, hx, hrun, Result.andThen]
  exact hK _ _ (h v' w' r1 r2 r3)
theorem lb_src {F : Nat → Prop} {w : World} {v : Value} {l : List Int} (h : LbW F w v l) : (v = .slice none 0 0 ∧ l.length = 0 ∧ ubW l = []) ∨ ∃ (ad : Addr) (c : Nat), v = .slice (some ad) l.length c ∧ (ubW l).length = l.length * 1 ∧ ∀ (j : Nat) u, (ubW l)[j]? = some u → w.cell? (ad.add j) = some u := by
  obtain ⟨a, cap, rfl, h1, h2, h3, h4⟩ := h
  rcases h4 with ⟨rfl, h4⟩ | ⟨b, o, rfl, -, -, h4⟩
  · cases a with
    | none => exact Or.inl ⟨by rw [h4 rfl]; rfl, rfl, rfl⟩
    | some a => exact Or.inr ⟨a, cap, rfl, rfl, by simp [ubW]⟩
  · refine Or.inr ⟨⟨b, o, none⟩, cap, rfl, by rw [ubW_len, Nat.mul_one], fun j u hj => ?_⟩
    simp only [ubW, List.getElem?_map, Option.map_eq_some_iff] at hj
    obtain ⟨x, hx, rfl⟩ := hj
    rw [Go.WideShapes.add_plain]
    exact h4 j x hx
end Go.Proofs.YtdfdnjkeiddfjabDoor
