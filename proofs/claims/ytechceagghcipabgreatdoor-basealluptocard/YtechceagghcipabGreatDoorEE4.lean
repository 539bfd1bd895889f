import Derived.Deep.RegionHeld3
import Derived.Test.YtechceagghcipabGreatDoorEB6
import Derived.Test.YtechceagghcipabGreatDoorW3
import Derived.Test.YtechceagghcipabGreatDoorEE3
namespace Go.Proofs.YtechceagghcipabGreatDoor
open Go.RowKit
attribute [local go_sem ↓] Go.wp_at_zero Go.wp_at_succ
def acell (x : At × Value) : List Value := [.int .i64 x.1.by_.k, .int .i64 x.1.by_.n, .string x.1.by_.s, .string x.1.name, x.2]
def acs (l : List (At × Value)) : List Value := l.flatMap acell
theorem acs_len (l : List (At × Value)) : (acs l).length = l.length * 5 := by
 induction l with
 | nil => rfl
 | cons d l ih => simp only [acs, List.flatMap_cons, List.length_append, List.length_cons] at *; rw [ih]; simp [acell]; omega
theorem acs_app (l m : List (At × Value)) : acs (l ++ m) = acs l ++ acs m := by simp [acs]
theorem acs_get (l : List (At × Value)) (j : Nat) (d : (At × Value)) (h : l[j]? = some d) (i : Nat) (hi : i < 5) : (acs l)[j * 5 + i]? = (acell d)[i]? := by
 induction l generalizing j with
 | nil => simp at h
 | cons e l ih =>
  rw [acs, List.flatMap_cons]
  cases j with
  | zero =>
   simp only [List.getElem?_cons_zero, Option.some.injEq] at h
   subst h
   rw [List.getElem?_append_left (by simp [acell]; omega)]
   simp
  | succ j =>
   simp only [List.getElem?_cons_succ] at h
   rw [List.getElem?_append_right (by simp [acell]; omega)]
   have e1 : (j + 1) * 5 + i - (acell e).length = j * 5 + i := by simp [acell]; omega
   rw [e1]
   exact ih j h
def OwnA (w : World) (base : Nat) (v : Value) (l : List (At × Value)) : Prop := w.ownsRow base 33 5 v l.length (acs l)
theorem OwnA.later {w w' : World} {base : Nat} {v : Value} {l : List (At × Value)} (h : OwnA w base v l) (hb : Below w.heap.size w w') : OwnA w' base v l := by
 refine ⟨h.1, ?_⟩
 rcases h.2 with hn | ⟨g, cap, cur, hv, hbb, hg, rest⟩
 ·exact Or.inl hn
 ·exact Or.inr ⟨g, cap, cur, hv, hbb, (hb.block g (Array.getElem?_eq_some_iff.1 hg).1).trans hg, rest⟩
theorem OwnA.mono {w : World} {b b' : Nat} {v : Value} {l : List (At × Value)} (h : OwnA w b v l) (hb : b' <= b) : OwnA w b' v l := by
 refine ⟨h.1, ?_⟩
 rcases h.2 with hn | ⟨g, cap, cur, hv, hbb, rest⟩
 ·exact Or.inl hn
 ·exact Or.inr ⟨g, cap, cur, hv, Nat.le_trans hb hbb, rest⟩
theorem OwnA.form {w : World} {base : Nat} {v : Value} {l : List (At × Value)} (h : OwnA w base v l) : ∃ a cap, v = .slice a l.length cap := by
 rcases h.2 with ⟨rfl, hn⟩ | ⟨g, cap, cur, hv, -⟩
 ·exact ⟨none, 0, by rw [hn]⟩
 ·exact ⟨_, cap, hv⟩
theorem OwnA.cells {w : World} {base g cap n : Nat} {l : List (At × Value)} (h : OwnA w base (.slice (some ⟨g, 0, none⟩) n cap) l) (j : Nat) (d : (At × Value)) (hd : l[j]? = some d) (i : Nat) (hi : i < 5) : w.cell? ⟨g, j * 5 + i, none⟩ = (acell d)[i]? := by
 rcases h.2 with ⟨h, _⟩ | ⟨g', cap', cur, hv, hb, hg, hn, hc, hs, ht⟩
 ·cases h
 ·simp only [Value.slice.injEq, Option.some.injEq, Addr.mk.injEq] at hv
  obtain ⟨⟨rfl, -⟩, -, rfl⟩ := hv
  have hj := (List.getElem?_eq_some_iff.1 hd).1
  rw [cell_of_row _ _ _ _ _ _ hg, <- acs_get l j d hd i hi, <- ht, List.getElem?_take_of_lt (by omega)]
  simp
theorem aapp_one {ops : Array Oper} {rest : List Oper} {o : Oper} {a : Act} {Q : Exit -> Act -> World -> Prop} {w : World} (hgd : o.guard = none) (s x : Operand)
  (ho : o.op = .call { callee := .builtin .append, args := #[s, x], argTypes := #[56, 56] }) (base : Nat) (v : Value) (l : List (At × Value)) (hs : a.eval s = v) (hown : OwnA w base v l)
  (b : Nat) (y : (At × Value)) (hx : a.eval x = .slice (some ⟨b, 0, none⟩) 1 1) (hblk : CBlk w b (acell y).toArray 33) (h1c : ∀ u ∈ acell y, u.oneCell' = true) (hlen : l.length <= 1800000000000) (hbase : base <= w.heap.size)
  (h : ∀ v' w', OwnA w' base v' (l ++ [y]) -> Below base w w' -> w.grownBy w' v.ownBlock -> (∀ k, v'.ownBlock = some k -> v.ownBlock = some k ∨ w.heap.size <= k) -> wpList Tryz.prog ops Q rest (a.put o.dst v') w') : wpList Tryz.prog ops Q (o :: rest) a w := by
 obtain ⟨i0, hi0, hz0, hz1, hz2⟩ := info_parts Tryz.infoAtom
 refine wpList_append_lies _ hgd s x 56 ho base 33 i0 _ 5 72 Tryz.underlying56 hi0 hz0 hz1 hz2 rfl (by omega) v l.length (acs l) hs hown ⟨b, 0, none⟩ 1 1 (acs [y]) hx (by simp [acs, acell]) ?_ (by simpa [acs] using h1c) (by omega) (by unfold maxLen; omega) (by omega) hbase _ rfl ?_
 ·intro j u hj
  have := World.news_of_block (cs := (acell y).toArray) (t := 33) (fr := (0, 0)) hblk j u
  exact this (by simpa [acs] using hj)
 ·intro g cap w' h1 h2 h3 h4
  refine h _ w' ?_ (grown_below3 h2 (fun k hk => (World.ownsRow.lt hown k hk).1) hbase) h2 (fun k hk => by cases hk; exact h3.imp id (fun e => Nat.le_of_eq e.symm))
  unfold OwnA
  rw [List.length_append, acs_app]
  exact h1
theorem OwnA.as {w : World} {base : Nat} {v : Value} {l : List (At × Value)} (h : OwnA w base v l) (hl : l.length < 1000000000000000000) (ht : ∀ x ∈ l, Ts w x.2 x.1.args) : As w v l := by
 have hh := h
 rcases h.2 with ⟨rfl, hn⟩ | ⟨g, cap, cur, rfl, hb, hg, -⟩
 ·exact ⟨none, 0, by rw [hn], hl, Or.inl (List.length_eq_zero_iff.1 hn), ht⟩
 ·refine ⟨_, cap, rfl, hl, Or.inr ⟨g, 0, rfl, (Array.getElem?_eq_some_iff.1 hg).1, fun i x hx => ?_⟩, ht⟩
  have k := fun j hj => OwnA.cells hh i x hx j hj
  simp only [Nat.zero_add]
  exact ⟨k 0 (by omega), k 1 (by omega), k 2 (by omega), k 3 (by omega), k 4 (by omega)⟩
theorem OwnT.grown {w w' : World} {base : Nat} {v : Value} {l : List Tm} {row : Option Nat} (h : OwnT w base v l) (hg : w.grownBy w' row) (hne : ∀ k, v.ownBlock = some k -> row ≠ some k) : OwnT w' base v l := by
 refine ⟨h.1, ?_⟩
 rcases h.2 with hn | ⟨g, cap, cur, hv, hbb, hgg, rest⟩
 ·exact Or.inl hn
 ·exact Or.inr ⟨g, cap, cur, hv, hbb, (hg.block g (Array.getElem?_eq_some_iff.1 hgg).1 (fun e => hne g (by rw [hv]; rfl) e.symm)).trans hgg, rest⟩
theorem acell_one (y : At) (a : Option Addr) (n cap : Nat) : ∀ u ∈ acell (y, .slice a n cap), u.oneCell' = true := by
 intro u hu
 simp [acell] at hu
 rcases hu with rfl | rfl | rfl | rfl | rfl <;> rfl
end Go.Proofs.YtechceagghcipabGreatDoor
namespace Go.Proofs.YtechceagghcipabGreatDoor
open Go.RowKit Go.Shelf
theorem fr_put (V : World) (k : Nat) (o : Obj) : Fr (fun b => b = k) V (V.putObj k o) := ⟨rfl, rfl, rfl, by simp, fun b _ hn => World.putObj_heap_other hn⟩
def OnlyE (X : Nat -> Prop) (E : Nat) (I : World -> Prop) : Prop := ∀ W W' : World, I W -> W.heap.size <= W'.heap.size -> (∀ b, X b ∨ E <= b -> b < W.heap.size -> W'.heap[b]? = W.heap[b]?) -> I W'
def postE (X : Nat -> Prop) (E : Nat) (I : List At -> World -> Prop) (xs : List At) (W : World) : Exit -> Act -> World -> Prop
 | .normal, _, W' => Fr (fun b => X b ∨ E <= b) W W' /\ I xs W'
 | _, _, _ => False
section
variable {w : World} {g : Nat} {tv : Value} {mn mr : Nat} {ga : Pd -> Nat} {B : Pd -> Nat -> Prop} {m : Nat} {T : List Tm} {K : List Pd} {s : Pd -> St7} {Y Y' : World}
theorem PT.up {w : World} {T : Nat -> Prop} {g m m' : Nat} {s : St7} {Y : World} (h : PT w T g m s Y) (hm : m <= m') : PT w T g m' s Y := by
 obtain ⟨F, S, h1, h2⟩ := h
 exact ⟨F, S, h1.up hm, h2⟩
theorem BS.up (h : BS w g tv mn mr ga B m T K s Y) {m' : Nat} (hm : m <= m') : BS w g tv mn mr ga B m' T K s Y :=
 ⟨h.t, h.r, h.nd, h.kp, fun p hp => (h.pt p hp).up hm, h.ap, h.a2, h.am, h.lo, h.bl⟩
theorem BS.ask (h : BS w g tv mn mr ga B m T K s Y) {p : Pd} (hp : p ∈ K) (hf : Fr (B p) Y Y') {N : Nat -> Prop} (hN : PT w N (ga p) m (s p) Y') (hn : ∀ b, N b -> B p b ∨ Y.heap.size <= b) :
  BS w g tv mn mr ga (up8 B p N) m T K s Y' := by
 have hlt := fun q hq b hb => ((h.pt q hq).t b hb).2
 have hm : ∀ {P : Pd -> Prop}, (∀ q ∈ K, q ≠ p -> P q) -> P p -> ∀ q ∈ K, P q := fun h1 h2 q hq => by
  by_cases e : q = p
  ·rw [e]; exact h2
  ·exact h1 q hq e
 refine ⟨h.t.fr hf fun b hb hq => (h.ap p hp b hq).1 hb, h.r.fr hf fun hq => (h.ap p hp _ hq).2 rfl, h.nd, h.kp, hm (fun q hq e => ?_) ?_, hm (fun q hq e => ?_) ?_, hm (fun q hq e => hm (fun r hr e' => ?_) ?_) (hm (fun r hr e' => ?_) ?_), h.am, h.lo, h.low hf fun b hb _ => ((h.pt p hp).t b hb).1⟩
 ·rw [up8_other _ _ e]
  exact (h.pt q hq).fr hf fun b hb _ => ⟨((h.pt p hp).t b hb).1, h.a2 p hp q hq (Ne.symm e) b hb⟩
 ·rw [up8_same]; exact hN
 ·rw [up8_other _ _ e]; exact h.ap q hq
 ·rw [up8_same]
  intro b hb
  rcases hn b hb with q | q
  ·exact h.ap p hp b q
  ·exact ⟨fun hq => by have := h.t.lt hq; omega, fun hq => by have := h.r.lt; omega⟩
 ·rw [up8_other _ _ e, up8_other _ _ e']; exact h.a2 q hq r hr
 ·intro _ b hb hc
  rw [up8_other _ _ e] at hb
  rw [up8_same] at hc
  rcases hn b hc with c | c
  ·exact h.a2 q hq p hp e b hb c
  ·have := hlt q hq b hb; omega
 ·intro _ b hb hc
  rw [up8_other _ _ e'] at hc
  rw [up8_same] at hb
  rcases hn b hb with c | c
  ·exact h.a2 p hp r hr (Ne.symm e') b c hc
  ·have := hlt r hr b hc; omega
 ·exact fun e => absurd rfl e
end
structure BZ8 (w0 : World) (g : Nat) (tv : Value) (mn mr : Nat) (ga : Pd -> Nat) (B : Pd -> Nat -> Prop) (m : Nat) (T : List Tm) (K : List Pd) (s : Pd -> St7) (p : Pd) (F X : Nat -> Prop) (w : World) (D E : Nat) (V : World) : Prop where
 bs : ∃ N : Nat -> Prop, BS w0 g tv mn mr ga (up8 B p N) (m + 1) T K s V /\ ∀ b, N b -> B p b ∨ (w.heap.size + 2 <= b /\ b < E /\ b ≠ D /\ b ≠ D + 1)
 f : Fr (fun b => F b ∨ X b) w V
 d : w.heap.size + 2 <= D
 e : D + 1 < E
 z : E <= V.heap.size
section
variable {w0 : World} {g : Nat} {tv : Value} {mn mr : Nat} {ga : Pd -> Nat} {B : Pd -> Nat -> Prop} {m : Nat} {T : List Tm} {K : List Pd} {s : Pd -> St7} {p : Pd} {F X : Nat -> Prop} {w : World} {D E : Nat} {V : World}
theorem pa_bz8 (hp : p ∈ K) {N : Nat -> Prop} (hN : ∀ b, N b -> B p b ∨ (w.heap.size + 2 <= b /\ b < E /\ b ≠ D /\ b ≠ D + 1)) {b : Nat} (hb : PA8 g tv mn mr (up8 B p N) K b) : PA8 g tv mn mr B K b ∨ (w.heap.size + 2 <= b /\ b < E /\ b ≠ D /\ b ≠ D + 1) := by
 rcases PA8.up8 hb with q | q
 ·exact Or.inl q
 ·exact (hN b q).imp (fun q => Or.inr (Or.inr ⟨p, hp, q⟩)) id
theorem BZ8.put (h : BZ8 w0 g tv mn mr ga B m T K s p F X w D E V) (hs : BS w0 g tv mn mr ga B m T K s w) (hp : p ∈ K) {k : Nat} (hk : k = D ∨ k = D + 1 ∨ k = w.heap.size + 1) (o : Obj) : BZ8 w0 g tv mn mr ga B m T K s p F X w D E (V.putObj k o) := by
 obtain ⟨N, h1, h2⟩ := h.bs
 have hd := h.d
 have hw0 := hs.bl.size
 refine ⟨⟨N, h1.fr (fr_put V k o) (fun b e _ hb => ?_) (fun b e _ => by omega), h2⟩, h.f.trans (fr_put V k o) (fun b hl e => by omega), h.d, h.e, by simpa using h.z⟩
 rcases pa_bz8 hp h2 hb with q | q
 ·have := (hs.lt q).2; omega
 ·omega
theorem BZ8.fr (h : BZ8 w0 g tv mn mr ga B m T K s p F X w D E V) (hs : BS w0 g tv mn mr ga B m T K s w) (hp : p ∈ K) (hX : ∀ b, X b -> w0.heap.size <= b /\ b < w.heap.size /\ ¬ PA8 g tv mn mr B K b) {V' : World} (hf : Fr (fun b => X b ∨ E <= b) V V') : BZ8 w0 g tv mn mr ga B m T K s p F X w D E V' := by
 obtain ⟨N, h1, h2⟩ := h.bs
 have hd := h.d
 have he := h.e
 have hw0 := hs.bl.size
 refine ⟨⟨N, h1.fr hf (fun b e _ hb => ?_) (fun b e _ => ?_), h2⟩, h.f.trans hf (fun b hl e => e.elim Or.inr fun e => by omega), h.d, h.e, Nat.le_trans h.z hf.size⟩
 ·rcases pa_bz8 hp h2 hb with q | q
  ·rcases e with e | e
   ·exact (hX b e).2.2 q
   ·have := (hs.lt q).2; omega
  ·rcases e with e | e
   ·have := (hX b e).2.1; omega
   ·omega
 ·rcases e with e | e
  ·exact (hX b e).1
  ·omega
theorem BZ8.below (h : BZ8 w0 g tv mn mr ga B m T K s p F X w D E V) (hs : BS w0 g tv mn mr ga B m T K s w) (hp : p ∈ K) (hX : ∀ b, X b -> w0.heap.size <= b /\ b < w.heap.size /\ ¬ PA8 g tv mn mr B K b) {V' : World} (hb : Below V.heap.size V V') : BZ8 w0 g tv mn mr ga B m T K s p F X w D E V' := h.fr hs hp hX (Fr.of hb)
end
def BQ8 (w0 : World) (g : Nat) (tv : Value) (mn mr : Nat) (ga : Pd -> Nat) (B : Pd -> Nat -> Prop) (m : Nat) (T : List Tm) (K : List Pd) (s : Pd -> St7) (p : Pd) (w : World) (E : Nat) (V : World) : Prop :=
 ∃ N : Nat -> Prop, BS w0 g tv mn mr ga (up8 B p N) (m + 1) T K s V /\ ∀ b, N b -> B p b ∨ (w.heap.size + 2 <= b /\ b < E)
section
variable {n : Nat}
set_option maxHeartbeats 1000000 in
theorem range_having {gop : Operand} {ps : Array Tmp} {assign body : Code} {Q : Exit -> Act -> World -> Prop} {a : Act} {w w0 : World} {g : Nat} {tv : Value} {mn mr : Nat} {ga : Pd -> Nat} {B : Pd -> Nat -> Prop} {m : Nat} {T : List Tm} {K : List Pd} {s : Pd -> St7} {nm : ByteArray} {ar : Nat} {parts : Int} {cols keys : List Int} {cv kv : Value} {bb : Nat} {X G N : Nat -> Prop}
  (hg : a.eval gop = hav8 bb) (hps : 1 = ps.size) (hs : BS w0 g tv mn mr ga B m T K s w) (hp : (⟨nm, (ar : Int)⟩ : Pd) ∈ K) (hv : HV8 g nm ar parts cv kv bb w) (hcv : Li G w cv cols) (hkv : Li N w kv keys) (hw : w64 keys) (hc : w64 cols) (hl : cols.length <= 1000000000) (hm : m <= 100000000000000) (hn : ar <= 1000000000)
  (hrow : ∀ r ∈ (s ⟨nm, (ar : Int)⟩).rows, RowOf T nm ar r) (hbx : ∀ i, i <= 1 -> ¬ PA8 g tv mn mr B K (bb + i) /\ ¬ X (bb + i))
  (hX : ∀ b, X b -> w0.heap.size <= b /\ b < w.heap.size /\ ¬ PA8 g tv mn mr B K b)
  (I : Nat -> List At -> World -> Prop) (hI : ∀ E pre, OnlyE X E (I E pre)) (h0 : ∀ E, I E [] w) (A0 : Value -> Nat -> Act)
  (hassign : ∀ (l mm : Nat) (x : At) (A : Nat) (V : World) (KK : Act -> World -> Prop), KK (A0 (x.v (.slice (some ⟨A, 0, none⟩) x.args.length x.args.length)) V.heap.size) (V.alloc (.cells (acell (x, .slice (some ⟨A, 0, none⟩) x.args.length x.args.length)).toArray 33)) →
   assign.wpIn (Fence.wide.inRound l) mm Tryz.prog (Exit.then KK (fun _ _ _ => False)) { tmps := (ps.zip #[x.v (.slice (some ⟨A, 0, none⟩) x.args.length x.args.length)]).foldl (fun t (p, v) => t.setIfInBounds p v) a.tmps, defers := [] } V)
  (hbody : ∀ (l mm E : Nat) (pre : List At) (x : At) (A C : Nat) (V : World), pre ++ [x] <+: (fnd8 (s ⟨nm, (ar : Int)⟩) parts cols keys).map (at8 T nm) -> (∃ V0 : World, I E pre V0 /\ V0.heap.size <= A /\ V0.heap.size <= V.heap.size /\ ∀ b, X b ∨ E <= b -> b < V0.heap.size -> V.heap[b]? = V0.heap[b]?) -> TBlk V A x.args x.args.length -> E <= A -> Bk V C (acell (x, .slice (some ⟨A, 0, none⟩) x.args.length x.args.length)).toArray 33 -> E <= C -> w.heap.size + 2 <= E -> (∃ F : Nat -> Prop, (∀ b, F b -> PA8 g tv mn mr B K b) /\ Fr (fun b => F b ∨ X b) w V) -> E <= V.heap.size →
   body.wpIn (Fence.wide.inRound l) mm Tryz.prog (postE X E (I E) (pre ++ [x]) V) (A0 (x.v (.slice (some ⟨A, 0, none⟩) x.args.length x.args.length)) C) V)
  (hdone : ∀ (E : Nat) (V : World), I E ((fnd8 (s ⟨nm, (ar : Int)⟩) parts cols keys).map (at8 T nm)) V -> BQ8 w0 g tv mn mr ga B m T K s ⟨nm, (ar : Int)⟩ w E V -> (∃ F : Nat -> Prop, (∀ b, F b -> B ⟨nm, (ar : Int)⟩ b) /\ Fr (fun b => F b ∨ X b) w V) -> w.heap.size + 2 <= E -> E <= V.heap.size -> V.heap[w.heap.size]? = some (.deferred (some [])) -> Q .normal { a with defers := { target := .collected w.heap.size, args := #[] } :: a.defers } V) :
  (Code.rangeFunc gop ps assign body).wpIn Fence.wide n Tryz.prog Q a w := by
 obtain ⟨p, hpe⟩ : ∃ p : Pd, (⟨nm, (ar : Int)⟩ : Pd) = p := ⟨_, rfl⟩
 rw [hpe] at hp hrow hbody hdone
 obtain ⟨F, S, hr, hFS, hBl, -⟩ := hs.pt p hp
 have hkp := hs.kp p hp
 have hF : ∀ b, F b -> PA8 g tv mn mr B K b := fun b hb => Or.inr (Or.inr ⟨p, hp, hFS b (Or.inl hb)⟩)
 have hlk : (rlF ga K p).getD (.pointer none) = .pointer (some ⟨ga p, 0, none⟩) := by rw [rlF_in hp]; rfl
 have hw0 := hs.bl.size
 have fin : ∀ (V V' : World) (E : Nat), E <= V.heap.size -> w.heap.size + 2 <= E -> Fr (fun b => X b ∨ E <= b) V V' -> Uq w.heap.size E V V' := fun V V' E _ he hf => ⟨hf.size, fun b h1 h2 h3 => hf.block b h3 fun hc => by rcases hc with hc | hc; (have := (hX b hc).2.1; omega); omega⟩
 have kp : ∀ W1 D E V, Below w.heap.size w W1 -> BZ8 w0 g tv mn mr ga B m T K s p F X w D E V -> HK8 g tv mn mr T nm ar bb S W1 V := fun W1 D E V hb1 hz => by
  obtain ⟨N', hbs, -⟩ := hz.bs
  refine ⟨hbs.t, hv.b0.fr hz.f fun h => ?_, hv.b1.fr hz.f fun h => ?_, fun x hx => ?_⟩
  ·exact h.elim (fun h => (hbx 0 (by omega)).1 (hF _ h)) (hbx 0 (by omega)).2
  ·exact h.elim (fun h => (hbx 1 (by omega)).1 (hF _ h)) (hbx 1 (by omega)).2
  ·have hxl := hr.q2 x hx
   rw [hz.f.block x hxl, hb1.block x hxl]
   rintro (h | h)
   ·exact (hr.q x h).1 hx
   ·exact (hX x h).2.2 (Or.inr (Or.inr ⟨p, hp, hFS x (Or.inr hx)⟩))
 refine wpIn_seqG (gf := 76) (lb := #[.pointer (some ⟨bb, 0, none⟩), .pointer (some ⟨bb + 1, 0, none⟩), .pointer (some ⟨bb + 2, 0, none⟩), .pointer (some ⟨bb + 3, 0, none⟩), .pointer (some ⟨bb + 4, 0, none⟩)]) hg (enters_of Tryz.func76 (by kernel_rfl) rfl)
  (having_seq g tv mn mr T nm ar parts cols keys cv kv bb (ga p) F S G N m (s p) hw hc hl hm hn hrow) hps
  (fun D E pre V => I E pre V /\ BZ8 w0 g tv mn mr ga B m T K s p F X w D E V) (fun _ _ _ _ _ => False) ?ownI (fun _ _ _ _ _ _ _ _ h => h) ?start
  (fun D E pre x v act V => ∃ A C, v = x.v (.slice (some ⟨A, 0, none⟩) x.args.length x.args.length) /\ ((∃ V0 : World, I E pre V0 /\ V0.heap.size <= A /\ V0.heap.size <= V.heap.size /\ ∀ b, X b ∨ E <= b -> b < V0.heap.size -> V.heap[b]? = V0.heap[b]?) /\ BZ8 w0 g tv mn mr ga B m T K s p F X w D E V) /\ TBlk V A x.args x.args.length /\ E <= A /\ Bk V C (acell (x, .slice (some ⟨A, 0, none⟩) x.args.length x.args.length)).toArray 33 /\ E <= C /\ act = A0 v C)
  ?ownA ?assign ?body ?done (fun _ _ _ _ _ _ _ _ h => h.elim)
 case ownI =>
  rintro D E pre V k o hk ⟨h1, h2⟩
  have hd := h2.d
  have he := h2.e
  refine ⟨hI E pre V _ h1 (by simp) fun b hb _ => World.putObj_heap_other fun e => ?_, h2.put hs hp hk o⟩
  rcases hb with hb | hb
  ·have := (hX b hb).2.1; omega
  ·omega
 case ownA =>
  rintro D E pre x v act V o ⟨A, C, h1, ⟨⟨V0, k1, k2, k3, k4⟩, h3⟩, h4, h5, h6, h7, h8⟩
  have hd := h3.d
  have he := h3.e
  refine ⟨A, C, h1, ⟨⟨V0, k1, k2, by simpa using k3, fun b hb hl => (World.putObj_heap_other fun e => ?_).trans (k4 b hb hl)⟩, h3.put hs hp (Or.inr (Or.inr rfl)) o⟩, ?_, h5, (World.putObj_heap_other (by omega)).trans h6, h7, h8⟩
  ·rcases hb with hb | hb
   ·have := (hX b hb).2.1; omega
   ·omega
  ·obtain ⟨CC, e1, e2⟩ := h4
   exact ⟨CC, (World.putObj_heap_other (by omega)).trans e1, e2⟩
 case start =>
  intro W1 hb1 hz1
  refine ⟨⟨hv.below hb1, hs.t.below hb1, fun X' hX' => ?_, hr.below hb1, hcv.below hb1, hkv.below hb1⟩, fun D W2 h2 => ?_, fun D E pre V h => ⟨kp W1 D E V hb1 h.2, by have := h.2.d; have := h.2.e; omega⟩, fun _ _ _ _ _ h => h.elim⟩
  ·have := ((hs.below hb1).below hX').look hkp
   rw [hlk] at this
   subst hpe
   exact this
  ·obtain ⟨F', S', q1, q2, q3, q4, q5⟩ := h2
   have hfw : Fr F w W2 := (Fr.of hb1).trans q2 fun b _ h => h
   have hx2 : ∀ b, X b -> W2.heap[b]? = w.heap[b]? := fun b hb => hfw.block b (hX b hb).2.1 fun h => (hX b hb).2.2 (hF b h)
   have hfl : ∀ b, F b ∨ S b -> b < w.heap.size := fun b hb => hb.elim (fun h => (hr.q b h).2) (hr.q2 b)
   refine ⟨⟨hI _ [] w W2 (h0 _) (by have := hfw.size; omega) fun b hb hl => ?_, ⟨⟨fun b => F' b ∨ S' b, (hs.up (Nat.le_succ m)).ask hp (hfw.mono fun b _ h => hFS b (Or.inl h)) ⟨F', S', q1, fun b hb => hb, fun b hb => ?_, hs.low hfw fun b hb _ => (hBl b (hFS b (Or.inl hb))).1⟩ fun b hb => ?_, fun b hb => ?_⟩, hfw.mono fun b _ h => Or.inl h, by omega, q5, Nat.le_refl _⟩⟩, by omega, ?_, ?_⟩
   ·rcases hb with hb | hb
    ·exact hx2 b hb
    ·have := hfw.size; have := q5; omega
   ·obtain ⟨h1, h2, h3, h4⟩ := q3 b hb
    rcases h1 with h1 | h1 | h1
    ·exact ⟨(hBl b (hFS b (Or.inl h1))).1, h2⟩
    ·exact ⟨(hBl b (hFS b (Or.inr h1))).1, h2⟩
    ·exact ⟨by omega, h2⟩
   ·obtain ⟨h1, h2, h3, h4⟩ := q3 b hb
    rcases h1 with h1 | h1 | h1
    ·exact Or.inl (hFS b (Or.inl h1))
    ·exact Or.inl (hFS b (Or.inr h1))
    ·exact Or.inr (by omega)
   ·obtain ⟨h1, h2, h3, h4⟩ := q3 b hb
    rcases h1 with h1 | h1 | h1
    ·exact Or.inl (hFS b (Or.inl h1))
    ·exact Or.inl (hFS b (Or.inr h1))
    ·exact Or.inr ⟨by omega, h2, h3, h4⟩
   ·exact q2.block _ (by omega) fun h => by have := hfl _ (Or.inl h); omega
   ·exact q2.block _ (by omega) fun h => by have := hfl _ (Or.inl h); omega
 case assign =>
  rintro l mm D E pre x v V0 V KK hpre ⟨h1, h2⟩ hb0 ⟨A, rfl, hA, hAl⟩ hle hK
  have hz := h2.z
  have hb2 : Below V.heap.size V (V.alloc (.cells (acell (x, .slice (some ⟨A, 0, none⟩) x.args.length x.args.length)).toArray 33)) := below1 _ _
  have hb3 := below_step hb0 hb2
  have hsz := hb0.size
  refine hassign l mm x A V KK (hK _ _ (Uq.below hb2) ⟨A, V.heap.size, rfl, ⟨⟨V0, h1, hAl, hb3.size, fun b _ hl => hb3.block b hl⟩, h2.below hs hp hX hb3⟩, hA.later hb2, by omega, Bk.new _ _ _, by omega, rfl⟩)
 case body =>
  rintro l mm D E pre x v act V hpre ⟨A, C, rfl, ⟨h1, h2⟩, h3, h4, h5, h6, rfl⟩ hle
  have hd := h2.d
  have he := h2.e
  refine wpIn_mono (hbody l mm E pre x A C V hpre h1 h3 h4 h5 h6 (by omega) ⟨F, hF, h2.f⟩ h2.z) ?_
  rintro e a3 W3 hq
  cases e with
  | normal => exact ⟨fin V W3 E h2.z (by omega) hq.1, hq.2, h2.fr hs hp hX hq.1⟩
  | ret => exact hq.elim
  | exit id => exact hq.elim
  | goto t => exact hq.elim
  | panic ch => exact hq.elim
  | outgrown => exact hq.elim
 case done =>
  rintro D E D' V rfl ⟨h1, h2⟩ hD
  obtain ⟨N', q1, q2⟩ := h2.bs
  have hd := h2.d
  have he := h2.e
  exact hdone E V h1 ⟨N', q1, fun b hb => (q2 b hb).imp id fun h => ⟨h.1, h.2.1⟩⟩ ⟨F, fun b hb => hFS b (Or.inl hb), h2.f⟩ (by omega) h2.z hD
end
end Go.Proofs.YtechceagghcipabGreatDoor
