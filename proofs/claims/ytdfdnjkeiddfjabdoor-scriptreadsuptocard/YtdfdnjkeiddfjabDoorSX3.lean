import Derived.Test.YtdfdnjkeiddfjabDoorSC6
import Derived.Maps.AppendAt
import Derived.Laws.OwnMore
import Derived.Laws.AppendOwnNone
import Derived.Deep.Cut
import Derived.Test.YtdfdnjkeiddfjabDoorK29
import Derived.Test.YtdfdnjkeiddfjabDoorK37
import Derived.Laws.AppendOwn
/-
  script (stage 25): Lines, the document's and the mock's.
-/
namespace Go.Proofs.YtdfdnjkeiddfjabDoor
open Go.RowKit
attribute [local go_sem ↓] Go.wp_at_zero Go.wp_at_succ

theorem rowS {w w' : World} {base n m : Nat} {e : TypeId} {v : Value} {xs : List Value} (h : w.ownsRow base e n v m xs) (hs : ∀ g, v.ownBlock = some g → w'.heap[g]? = w.heap[g]?) : w'.ownsRow base e n v m xs := by
  refine ⟨h.1, ?_⟩
  rcases h.2 with hn | ⟨g, cap, cur, rfl, hbb, hg, rest⟩
  · exact Or.inl hn
  · exact Or.inr ⟨g, cap, cur, rfl, hbb, (hs g rfl).trans hg, rest⟩
theorem rowS_below {w w' : World} {base n m : Nat} {e : TypeId} {v : Value} {xs : List Value} (h : w.ownsRow base e n v m xs) (hb : Below w.heap.size w w') : w'.ownsRow base e n v m xs :=
  rowS h fun g hg => hb.block g (h.lt g hg).2
theorem rowS_form {w : World} {base n m : Nat} {e : TypeId} {v : Value} {xs : List Value} (h : w.ownsRow base e n v m xs) : ∃ a cap, v = .slice a m cap ∧ m ≤ cap := by
  rcases h.2 with ⟨rfl, hn⟩ | ⟨g, cap, cur, hv, _, _, hc, _⟩
  · exact ⟨none, 0, by rw [hn], by omega⟩
  · exact ⟨_, cap, hv, hc⟩
theorem infoS {P : Program} {e : TypeId} {z : Value} {s b : Nat} (h : (P.info? e).map (fun i => (i.zero, i.size, i.bytes)) = some (some z, s, b)) : ∃ i, P.info? e = some i ∧ i.zero = some z ∧ i.size = s ∧ i.bytes = b := by
  cases hi : P.info? e with
  | none => rw [hi] at h; simp at h
  | some i =>
    rw [hi] at h
    simp only [Option.map_some, Option.some.injEq, Prod.mk.injEq] at h
    exact ⟨i, rfl, h.1, h.2.1, h.2.2⟩
theorem runS {T e : TypeId} {z : Value} {sz by_ : Nat} (hT : Tryd.prog.underlying T = some (.slice e)) (hI : (Tryd.prog.info? e).map (fun i => (i.zero, i.size, i.bytes)) = some (some z, sz, by_)) (hz : z.cells.size = sz) (h0 : 0 < sz) (w : World) (ty : TypeId) (base : Nat) (v : Value) (n : Nat) (l : List Value) (hown : w.ownsRow base e sz v n l)
    (xv : Value) (m : Nat) (news : List Value) (hsrc : (xv = .slice none 0 0 ∧ m = 0 ∧ news = []) ∨ ∃ (ad : Addr) (c : Nat), xv = .slice (some ad) m c ∧ news.length = m * sz ∧ ∀ (j : Nat) u, news[j]? = some u → w.cell? (ad.add j) = some u) (h1c : ∀ u ∈ news, u.oneCell' = true) (hlen : (n + m) * by_ ≤ 140737488355328) (hm : n + m ≤ 140737488355328) (hbase : base ≤ w.heap.size) :
    ∃ v' w', (Builtin.append_ #[T, T] ty #[v, xv]).run Tryd.prog w = .ok v' w' ∧ w'.ownsRow base e sz v' (n + m) (l ++ news) ∧ w.grownBy w' v.ownBlock ∧ (v'.ownBlock = v.ownBlock ∨ v'.ownBlock = some w.heap.size) := by
  obtain ⟨i, hi, h0', h1, h2⟩ := infoS hI
  rcases hsrc with ⟨rfl, rfl, rfl⟩ | ⟨ad, c, rfl, hnl, hc⟩
  · exact ⟨v, w, run_append_owned_none (P := Tryd.prog) w base T ty e i sz hT hi v n l hown, by rw [List.append_nil]; exact hown, ⟨rfl, rfl, rfl, Nat.le_refl _, fun _ _ _ => rfl⟩, Or.inl rfl⟩
  · obtain ⟨v', w', k1, k2, k3, -, k5⟩ := run_append_own_at (P := Tryd.prog) w base T ty e i z sz by_ hT hi h0' h1 h2 hz h0 v n l hown ad m c news (by omega) hc h1c (by unfold maxLen; omega) hlen hbase
    exact ⟨v', w', k1, k2, k3, k5⟩
theorem gappS {T e : TypeId} {z : Value} {sz by_ : Nat} (hT : Tryd.prog.underlying T = some (.slice e)) (hI : (Tryd.prog.info? e).map (fun i => (i.zero, i.size, i.bytes)) = some (some z, sz, by_)) (hz : z.cells.size = sz) (h0 : 0 < sz)
    {ops : Array Oper} {rest : List Oper} {o : Oper} {a : Act} {Q : Exit → Act → World → Prop} {w : World} (hgd : o.guard = none) (s x : Operand)
    (ho : o.op = .call { callee := .builtin .append, args := #[s, x], argTypes := #[T, T] }) (base : Nat) (v : Value) (n : Nat) (l : List Value) (hs : a.eval s = v) (hown : w.ownsRow base e sz v n l)
    (xv : Value) (m : Nat) (news : List Value) (hx : a.eval x = xv) (hsrc : (xv = .slice none 0 0 ∧ m = 0 ∧ news = []) ∨ ∃ (ad : Addr) (c : Nat), xv = .slice (some ad) m c ∧ news.length = m * sz ∧ ∀ (j : Nat) u, news[j]? = some u → w.cell? (ad.add j) = some u) (h1c : ∀ u ∈ news, u.oneCell' = true) (hlen : (n + m) * by_ ≤ 140737488355328) (hm : n + m ≤ 140737488355328) (hbase : base ≤ w.heap.size)
    (h : ∀ v' w', w'.ownsRow base e sz v' (n + m) (l ++ news) → w.grownBy w' v.ownBlock → (v'.ownBlock = v.ownBlock ∨ v'.ownBlock = some w.heap.size) → wpList Tryd.prog ops Q rest (a.put o.dst v') w') : wpList Tryd.prog ops Q (o :: rest) a w := by
  obtain ⟨v', w', hrun, r1, r2, r3⟩ := runS hT hI hz h0 w o.type base v n l hown xv m news hsrc h1c hlen hm hbase
  refine wpList_plain hgd fun K hK => ?_
  simp [Oper.wp, execOp, ho, resolve, invoke, builtin, hs, hx, hrun, Result.andThen]
  exact hK _ _ (h v' w' r1 r2 r3)
theorem grownS {w w' : World} {base n m : Nat} {e : TypeId} {v : Value} {xs : List Value} (h : w.ownsRow base e n v m xs) (hg : w.grownBy w' v.ownBlock) (hb : base ≤ w.heap.size) : Below base w w' :=
  ⟨hg.os, hg.tape, hg.output, hg.size, fun k hk => hg.block k (by omega) fun e => by have := (World.ownsRow.lt h k e.symm).1; omega⟩
end Go.Proofs.YtdfdnjkeiddfjabDoor
/-
  script (stage 25): the document's clean.
-/
namespace Go.Proofs.YtdfdnjkeiddfjabDoor
open Go.RowKit
attribute [local go_sem ↓] Go.wp_at_zero Go.wp_at_succ

/-- Is a field that isn't zero one of the row's parts? -/
def okS (z : Bool) (ps : ByteArray) (p : Int) : Bool := z || inS ps p
def clS (ps : ByteArray) (d : SdO) (bn : Nat) : Bool :=
  (okS (decide (d.who = ⟨#[]⟩)) ps 119 && okS (decide (d.too = ⟨#[]⟩)) ps 111 && okS (decide (d.tx = ⟨#[]⟩)) ps 116 && okS (decide (bn = 0)) ps 98) && (okS (decide (d.n = 0)) ps 110 && okS (decide (d.m = 0)) ps 109 && okS (decide (d.q = 0)) ps 107)
end Go.Proofs.YtdfdnjkeiddfjabDoor
/-
  hearsaylaw04.TokensQuoted: the walk.
-/
namespace Go.Proofs.YtdfdnjkeiddfjabDoor
open Go.RowKit

theorem qt_size (s : ByteArray) : (qtB s).size ≤ 4 * s.size + 2 := by
  have := qtl_len s s.size
  have e : (qtB s).size = (qtl s s.size).length + 1 := by show (i2b (qtl s s.size ++ [34])).toArray.size = _; simp [i2b]
  omega
end Go.Proofs.YtdfdnjkeiddfjabDoor
/-
  script (stage 25): PLAIN: what is read of a line, what is printed of a step.
-/
namespace Go.Proofs.YtdfdnjkeiddfjabDoor
open Go.RowKit

/-- What Read answers: a step, its bytes, the fault. -/
structure RsS where
  d : SdO
  b : ByteArray
  e : Int
  p : Int
def zdS : SdO := ⟨0, ⟨#[]⟩, ⟨#[]⟩, ⟨#[]⟩, 0, 0, 0⟩
def noS (e p : Int) : RsS := ⟨zdS, ⟨#[]⟩, e, p⟩
def zrS : RwS := ⟨⟨#[]⟩, 0, ⟨#[]⟩⟩
/-- The last of the first i rows that has this name. -/
def lsS (x : ByteArray) : Nat → RwS
  | 0 => zrS
  | i + 1 => if (rwS.getD i zrS).x = x then rwS.getD i zrS else lsS x i
/-- The row that a token names. -/
def rwT (t : Tk) : RwS := if t.k = 1 then lsS t.x 24 else zrS
def putB (p : Int) (b : ByteArray) (t : Tk) : ByteArray := if p = 98 then t.x else b
/-- The parts, one after the other. -/
def goS (L : Int) : List Int → List Tk → SdO → ByteArray → RsS
  | [], [], d, b => ⟨d, b, 0, 0⟩
  | [], t :: _, _, _ => noS 253 t.a
  | _ :: _, [], _, _ => noS 253 L
  | p :: ps, t :: l, d, b => if ftS p t.k = true then goS L ps l (putS p d t) (putB p b t) else noS 253 t.a
def rlS (L : Int) : List Tk → RsS
  | [] => noS 252 L
  | t :: l => if (rwT t).k = 0 then noS 252 t.a else goS L (blK (rwT t).p) l { zdS with k := (rwT t).k } ⟨#[]⟩
def rdS (s : ByteArray) : RsS :=
  if 65536 < s.size then noS 251 0 else
    if (cutL (blK s) (s.size : Int)).2.1 = 0 then rlS s.size (cutL (blK s) (s.size : Int)).1 else noS (cutL (blK s) (s.size : Int)).2.1 (cutL (blK s) (s.size : Int)).2.2
/-- A part as it is written. -/
def shS (d : SdO) (b : ByteArray) (p : Int) : ByteArray :=
  if p = 119 then nmS d.who else if p = 111 then nmS d.too else if p = 116 then qtB d.tx else if p = 98 then qtB b else if p = 110 then ibS d.n else if p = 109 then ibS d.m else ibS d.q
/-- The parts, a blank ahead of each. -/
def joS (d : SdO) (b : ByteArray) : List Int → ByteArray → ByteArray
  | [], s => s
  | p :: ps, s => joS d b ps (s ++ (⟨#[32]⟩ : ByteArray) ++ shS d b p)
def roK (k : Int) : Option RwS := rwS.find? fun r => decide (r.k = k)
def prS (d : SdO) (b : ByteArray) : Option ByteArray :=
  match roK d.k with
  | none => none
  | some r => if clS r.p d b.size = true then (if (joS d b (blK r.p) r.x).size ≤ 65536 then some (joS d b (blK r.p) r.x) else none) else none
theorem rw_get {i : Nat} (h : i < 24) : rwS[i]? = some (rwS.getD i zrS) := by
  rw [List.getD_eq_getElem?_getD, List.getElem?_eq_getElem (show i < rwS.length from h)]; rfl
theorem rw_k {i : Nat} (h : i < 24) : (rwS.getD i zrS).k = (i : Int) + 1 := by
  have : ∀ i : Nat, i < 24 → (rwS.getD i zrS).k = (i : Int) + 1 := by decide
  exact this i h
theorem rw_le (i : Nat) : (rwS.getD i zrS).x.size ≤ 9 ∧ (rwS.getD i zrS).p.size ≤ 3 := by
  by_cases h : i < 24
  · have : ∀ i : Nat, i < 24 → (rwS.getD i zrS).x.size ≤ 9 ∧ (rwS.getD i zrS).p.size ≤ 3 := by decide
    exact this i h
  · rw [List.getD_eq_getElem?_getD, List.getElem?_eq_none (show rwS.length ≤ i from Nat.le_of_not_lt h)]
    decide
theorem ls_any (x : ByteArray) : ∀ i, lsS x i = zrS ∨ ∃ j, j < i ∧ lsS x i = rwS.getD j zrS ∧ (rwS.getD j zrS).x = x
  | 0 => Or.inl rfl
  | i + 1 => by
    unfold lsS
    split
    · exact Or.inr ⟨i, by omega, rfl, by assumption⟩
    · rcases ls_any x i with h | ⟨j, h1, h2, h3⟩
      · exact Or.inl h
      · exact Or.inr ⟨j, by omega, h2, h3⟩
theorem rwT_any (t : Tk) : rwT t = zrS ∨ ∃ j, j < 24 ∧ rwT t = rwS.getD j zrS ∧ (rwS.getD j zrS).x = t.x ∧ t.k = 1 := by
  unfold rwT
  split
  · rcases ls_any t.x 24 with h | ⟨j, h1, h2, h3⟩
    · exact Or.inl h
    · exact Or.inr ⟨j, h1, h2, h3, by assumption⟩
  · exact Or.inl rfl
theorem roK_at {i : Nat} (h : i < 24) : roK ((i : Int) + 1) = some (rwS.getD i zrS) := by
  have h2 : ∀ i : Nat, i < 24 → (rwS.findIdx? fun r => decide (r.k = (i : Int) + 1)) = some i := by decide
  have h3 := h2 i h
  unfold roK
  rw [List.findIdx?_eq_some_iff_getElem] at h3
  obtain ⟨hl, h4, h5⟩ := h3
  rw [List.find?_eq_some_iff_getElem]
  refine ⟨by simpa using rw_k h, i, hl, ?_, fun j hj => ?_⟩
  · have := rw_get h
    rw [List.getElem?_eq_getElem hl] at this
    exact Option.some.inj this
  · have := h5 j hj
    simpa using this
theorem roK_any (k : Int) : (roK k = none ∧ ∀ i : Nat, i < 24 → (rwS.getD i zrS).k ≠ k) ∨ ∃ i : Nat, i < 24 ∧ k = (i : Int) + 1 ∧ roK k = some (rwS.getD i zrS) := by
  by_cases h : 1 ≤ k ∧ k ≤ 24
  · obtain ⟨i, hi⟩ : ∃ i : Nat, k = (i : Int) + 1 := ⟨(k - 1).toNat, by omega⟩
    exact Or.inr ⟨i, by omega, hi, by rw [hi]; exact roK_at (by omega)⟩
  · refine Or.inl ⟨?_, fun i hi => by rw [rw_k hi]; omega⟩
    unfold roK
    rw [List.find?_eq_none]
    intro r hr
    obtain ⟨i, hi, rfl⟩ := List.mem_iff_getElem.1 hr
    have hi2 : i < 24 := hi
    have := rw_get hi2
    rw [List.getElem?_eq_getElem hi] at this
    rw [Option.some.inj this, rw_k hi2]
    simp
    omega
end Go.Proofs.YtdfdnjkeiddfjabDoor
/-
  script (stage 25): PLAIN: a printed line is cut into its parts, and read as the step.
-/
namespace Go.Proofs.YtdfdnjkeiddfjabDoor
open Go.RowKit

def N64S (n : Int) : Prop := -9223372036854775808 ≤ n ∧ n ≤ 9223372036854775807
/-- A step that can be handed in. -/
structure OkS (d : SdO) (b : ByteArray) : Prop where
  who : d.who.size ≤ 2000000
  too : d.too.size ≤ 2000000
  tx : d.tx.size ≤ 2000000
  b : b.size ≤ 2000000
  k : N64S d.k
  n : N64S d.n
  m : N64S d.m
  q : N64S d.q
theorem jo_app (d : SdO) (b : ByteArray) : ∀ (ps qs : List Int) (s : ByteArray), joS d b (ps ++ qs) s = joS d b qs (joS d b ps s)
  | [], _, _ => rfl
  | _ :: ps, qs, _ => jo_app d b ps qs _
end Go.Proofs.YtdfdnjkeiddfjabDoor
