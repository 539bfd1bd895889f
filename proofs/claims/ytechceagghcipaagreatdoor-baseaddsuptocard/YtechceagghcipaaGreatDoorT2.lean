import Derived.Test.YtechceagghcipaaGreatDoorEG4
import Derived.Test.YtechceagghcipaaGreatDoorRA7
import Derived.Test.YtechceagghcipaaGreatDoorRows
import Derived.Deep.Slices
import Derived.Deep.Strs
import Derived.SizedLaws
import Derived.ChangeSame
import Derived.ChangeSlices
import Derived.ProofKit
import Derived.OpenShut
import Derived.ShutString
import Derived.ChangeOld
import Derived.Below
import Derived.Lib.SmallJoins
import Derived.ChangeMaps5
import Derived.Test.YtechceagghcipaaGreatDoorB4
import Derived.Test.YtechceagghcipaaGreatDoorCN2
import Derived.Test.YtechceagghcipaaGreatDoorW2
/-
  law 8: two bases side by side.
-/
namespace Go.Proofs.YtechceagghcipaaGreatDoor
open Go.RowKit

def sz8 (E : List (At × Int)) : Nat := (E.map fun x => x.1.pl.length).sum
theorem sz8_perm {E F : List (At × Int)} (h : E.Perm F) : sz8 E = sz8 F := (h.map _).sum_nat
theorem sz8_add (E : List (At × Int)) (f : At) : sz8 (aE8 E f) = if f ∈ E.map Prod.fst then sz8 E else sz8 E + f.pl.length := by
  unfold aE8
  split
  · rfl
  · simp [sz8]
theorem sz8_len (E : List (At × Int)) : E.length ≤ sz8 E := by
  induction E with
  | nil => simp [sz8]
  | cons x E ih =>
    have : 1 ≤ x.1.pl.length := by simp [At.pl]
    simp only [sz8, List.map_cons, List.sum_cons, List.length_cons] at ih ⊢
    omega
theorem sz8_map (E : List (At × Int)) (k : Int → Int) : sz8 (E.map fun x => (x.1, k x.2)) = sz8 E := by simp [sz8, Function.comp_def]
end Go.Proofs.YtechceagghcipaaGreatDoor
/-
  law 8: two bases side by side, their calls.
-/
namespace Go.Proofs.YtechceagghcipaaGreatDoor
open Go.RowKit

section
variable {w0 : World} {g h m n : Nat} {X A B : Nat → Prop} {E F : List (At × Int)} {Y Y' : World}
section
variable {tb : Nat}
end
end
theorem srt8P_eq {P Q : List Pd} (h1 : srt8P P) (h2 : srt8P Q) (n1 : P.Nodup) (n2 : Q.Nodup) (hm : ∀ p, p ∈ P ↔ p ∈ Q) : P = Q :=
  List.Perm.eq_of_pairwise (le := fun a b : Pd => cmpP a b ≤ 0) (fun x y _ _ h1 h2 => ord_pd.zero x y (by have := ord_pd.neg x y; omega)) h1 h2 ((List.perm_ext_iff_of_nodup n1 n2).2 hm)
theorem AL8.as {V : World} {base : Nat} {fv : Value} {Q : List (At × Nat)} (h : AL8 V base fv Q) (hl : Q.length ≤ 1000000000) : As V fv (Q.map enc8) := by
  refine h.o.a.as (by rw [List.length_map]; omega) fun x hx => ?_
  obtain ⟨y, hy, rfl⟩ := List.mem_map.1 hx
  obtain ⟨k1, -, k3⟩ := h.t y hy
  exact TBlk.ts rfl (by omega) k1
end Go.Proofs.YtechceagghcipaaGreatDoor
/-
  law 8: rises. (Written by EH1.py.)
-/
namespace Go.Proofs.YtechceagghcipaaGreatDoor
open Go.RowKit
attribute [local go_sem ↓] Go.wp_at_zero Go.wp_at_succ

theorem As.get8 {w : World} {la : Option Addr} {l : List (At × Value)} {n cap k : Nat} {x : At × Value} (h : As w (.slice la n cap) l) (hx : l[k]? = some x) :
    ∃ lb lo xa xc, la = some ⟨lb, lo, none⟩ ∧ x.2 = .slice xa x.1.args.length xc ∧ ∀ Y : World, Below w.heap.size w Y → Y.cell? ⟨lb, lo + k * 5, none⟩ = some (.int .i64 x.1.by_.k) ∧ Y.cell? ⟨lb, lo + k * 5 + 1, none⟩ = some (.int .i64 x.1.by_.n) ∧ Y.cell? ⟨lb, lo + k * 5 + 2, none⟩ = some (.string x.1.by_.s) ∧ Y.cell? ⟨lb, lo + k * 5 + 3, none⟩ = some (.string x.1.name) ∧ Y.cell? ⟨lb, lo + k * 5 + 4, none⟩ = some x.2 := by
  obtain ⟨a, c, e, -, hr, ht⟩ := h
  cases e
  rcases hr with hr | ⟨lb, lo, rfl, hlr⟩
  · rw [hr] at hx; simp at hx
  obtain ⟨a0, a1, a2, a3, a4⟩ := (hlr.2 k x hx)
  obtain ⟨xa, xc, hsh, -⟩ := ht x (List.mem_of_getElem? hx)
  exact ⟨lb, lo, xa, xc, rfl, hsh, fun Y hY => ⟨cell_step hY hlr.1 a0, cell_step hY hlr.1 a1, cell_step hY hlr.1 a2, cell_step hY hlr.1 a3, cell_step hY hlr.1 a4⟩⟩
end Go.Proofs.YtechceagghcipaaGreatDoor
/-
  law 8: items, place. (Written by EH2.py.)
-/
namespace Go.Proofs.YtechceagghcipaaGreatDoor
open Go.RowKit
attribute [local go_sem ↓] Go.wp_at_zero Go.wp_at_succ

/-- A list of items in memory: each a fact with its arguments' value, and its part. -/
def IRow (w : World) (b o : Nat) (l : List ((At × Value) × Int)) : Prop :=
  b < w.heap.size ∧ ∀ (i : Nat) x, l[i]? = some x → (w.cell? ⟨b, o + i * 6, none⟩ = some (.int .i64 x.1.1.by_.k) ∧ w.cell? ⟨b, o + i * 6 + 1, none⟩ = some (.int .i64 x.1.1.by_.n) ∧ w.cell? ⟨b, o + i * 6 + 2, none⟩ = some (.string x.1.1.by_.s) ∧ w.cell? ⟨b, o + i * 6 + 3, none⟩ = some (.string x.1.1.name) ∧ w.cell? ⟨b, o + i * 6 + 4, none⟩ = some x.1.2) ∧ w.cell? ⟨b, o + i * 6 + 5, none⟩ = some (.int .i64 x.2)
def Is8 (w : World) (v : Value) (l : List ((At × Value) × Int)) : Prop :=
  ∃ a cap, v = .slice a l.length cap ∧ (l = [] ∨ ∃ b o, a = some ⟨b, o, none⟩ ∧ IRow w b o l) ∧ ∀ x ∈ l, Ts w x.1.2 x.1.1.args
theorem Is8.get {w : World} {la : Option Addr} {l : List ((At × Value) × Int)} {n cap k : Nat} {x : (At × Value) × Int} (h : Is8 w (.slice la n cap) l) (hx : l[k]? = some x) :
    ∃ lb lo xa xc, la = some ⟨lb, lo, none⟩ ∧ x.1.2 = .slice xa x.1.1.args.length xc ∧ ∀ Y : World, Below w.heap.size w Y → (Y.cell? ⟨lb, lo + k * 6, none⟩ = some (.int .i64 x.1.1.by_.k) ∧ Y.cell? ⟨lb, lo + k * 6 + 1, none⟩ = some (.int .i64 x.1.1.by_.n) ∧ Y.cell? ⟨lb, lo + k * 6 + 2, none⟩ = some (.string x.1.1.by_.s) ∧ Y.cell? ⟨lb, lo + k * 6 + 3, none⟩ = some (.string x.1.1.name) ∧ Y.cell? ⟨lb, lo + k * 6 + 4, none⟩ = some x.1.2) ∧ Y.cell? ⟨lb, lo + k * 6 + 5, none⟩ = some (.int .i64 x.2) := by
  obtain ⟨a, c, e, hr, ht⟩ := h
  cases e
  rcases hr with hr | ⟨lb, lo, rfl, hlr⟩
  · rw [hr] at hx; simp at hx
  obtain ⟨⟨a0, a1, a2, a3, a4⟩, a5⟩ := (hlr.2 k x hx)
  obtain ⟨xa, xc, hsh, -⟩ := ht x (List.mem_of_getElem? hx)
  exact ⟨lb, lo, xa, xc, rfl, hsh, fun Y hY => ⟨⟨cell_step hY hlr.1 a0, cell_step hY hlr.1 a1, cell_step hY hlr.1 a2, cell_step hY hlr.1 a3, cell_step hY hlr.1 a4⟩, cell_step hY hlr.1 a5⟩⟩
end Go.Proofs.YtechceagghcipaaGreatDoor
/-
  law 8: a list of items that a call owns. (Out of MD8.)
-/
namespace Go.Proofs.YtechceagghcipaaGreatDoor
open Go.RowKit

abbrev It8 := (At × Value) × Int
def icell (x : It8) : List Value := acell x.1 ++ [.int .i64 x.2]
def ic6 (l : List It8) : List Value := l.flatMap icell
theorem ic6_len (l : List It8) : (ic6 l).length = l.length * 6 := by
  induction l with
  | nil => rfl
  | cons d l ih => simp only [ic6, List.flatMap_cons, List.length_append, List.length_cons] at *; rw [ih]; simp [icell, acell]; omega
theorem ic6_app (l m : List It8) : ic6 (l ++ m) = ic6 l ++ ic6 m := by simp [ic6]
theorem ic6_get (l : List It8) (j : Nat) (d : It8) (h : l[j]? = some d) (i : Nat) (hi : i < 6) : (ic6 l)[j * 6 + i]? = (icell d)[i]? := by
  induction l generalizing j with
  | nil => simp at h
  | cons e l ih =>
    rw [ic6, List.flatMap_cons]
    cases j with
    | zero =>
      simp only [List.getElem?_cons_zero, Option.some.injEq] at h
      subst h
      rw [List.getElem?_append_left (by simp [icell, acell]; omega)]
      simp
    | succ j =>
      simp only [List.getElem?_cons_succ] at h
      rw [List.getElem?_append_right (by simp [icell, acell]; omega)]
      have e1 : (j + 1) * 6 + i - (icell e).length = j * 6 + i := by simp [icell, acell]; omega
      rw [e1]
      exact ih j h
theorem ic6_set : ∀ (l : List It8) (j : Nat) (x : It8) (q : Int), l[j]? = some x → ic6 (l.set j (x.1, q)) = (ic6 l).set (j * 6 + 5) (.int .i64 q)
  | a :: l, 0, x, q, h => by simp at h; subst h; simp [ic6, icell, acell]
  | a :: l, j + 1, x, q, h => by
    rw [List.getElem?_cons_succ] at h
    have ih := ic6_set l j x q h
    have e : ∀ m : List It8, ic6 (a :: m) = icell a ++ ic6 m := fun m => by simp [ic6]
    have hc : (icell a).length = 6 := rfl
    rw [List.set_cons_succ, e, e, ih, List.set_append_right _ _ (by omega), hc]
    rw [show (j + 1) * 6 + 5 - 6 = j * 6 + 5 by omega]
end Go.Proofs.YtechceagghcipaaGreatDoor
/-
  law 8: the list of items beside its base.
-/
namespace Go.Proofs.YtechceagghcipaaGreatDoor
open Go.RowKit

theorem row8_same {X X' : World} {B K n : Nat} {ty : TypeId} {v : Value} {cs : List Value} (h : X.ownsRow B ty K v n cs) (hs : ∀ b, v.ownBlock = some b → X'.heap[b]? = X.heap[b]?) : X'.ownsRow B ty K v n cs := by
  refine ⟨h.1, ?_⟩
  rcases h.2 with hn | ⟨g, cap, cur, hv, hb, hg, rest⟩
  · exact Or.inl hn
  · exact Or.inr ⟨g, cap, cur, hv, hb, (hs g (by rw [hv]; rfl)).trans hg, rest⟩
def Ib (fv : Value) (Q : List It8) (b : Nat) : Prop := fv.ownBlock = some b ∨ ∃ x ∈ Q, x.1.2.ownBlock = some b
section
variable {V V' : World} {base : Nat} {fv : Value} {Q : List It8}
end
/-- What the items say. -/
def Ei (l : List It8) : List (At × Int) := l.map fun x => (x.1.1, x.2)
def tI8 (x : It8) : It8 := (x.1, tE8 x.2)
theorem Ei_turn (l : List It8) : (Ei l).map (fun x => (x.1, tE8 x.2)) = Ei (l.map tI8) := by simp [Ei, tI8, Function.comp_def]
theorem Ei_len (l : List It8) : (Ei l).length = l.length := by simp [Ei]
theorem Ei_app (l m : List It8) : Ei (l ++ m) = Ei l ++ Ei m := by simp [Ei]
end Go.Proofs.YtechceagghcipaaGreatDoor
/-
  ref 8: entries, the document's base in memory. (Written by EJ1.py.)
-/
namespace Go.Proofs.YtechceagghcipaaGreatDoor
open Go.RowKit

theorem Tryz.infoEntry8 : (Tryz.prog.info? 171).map (fun i => (i.zero, i.size, i.bytes)) = some (some (.agg #[.int .i64 0, .int .i64 0, .string ⟨#[]⟩, .string ⟨#[]⟩, .slice none 0 0, .int .i64 0]), 6, 80) := by kernel_rfl
def OwnEn (w : World) (base : Nat) (v : Value) (l : List It8) : Prop := w.ownsRow base 171 6 v l.length (ic6 l)
theorem OwnEn.later {w w' : World} {base : Nat} {v : Value} {l : List It8} (h : OwnEn w base v l) (hb : Below w.heap.size w w') : OwnEn w' base v l := by
  refine ⟨h.1, ?_⟩
  rcases h.2 with hn | ⟨g, cap, cur, hv, hbb, hg, rest⟩
  · exact Or.inl hn
  · exact Or.inr ⟨g, cap, cur, hv, hbb, (hb.block g (Array.getElem?_eq_some_iff.1 hg).1).trans hg, rest⟩
theorem OwnEn.nil (w : World) (base : Nat) : OwnEn w base (.slice none 0 0) [] := World.ownsRow_nil _ _ _ _
theorem OwnEn.lt {w : World} {base : Nat} {v : Value} {l : List It8} (h : OwnEn w base v l) : ∀ k, v.ownBlock = some k → base ≤ k ∧ k < w.heap.size := World.ownsRow.lt h
theorem OwnEn.form {w : World} {base : Nat} {v : Value} {l : List It8} (h : OwnEn w base v l) : ∃ a cap, v = .slice a l.length cap := by
  rcases h.2 with ⟨rfl, hn⟩ | ⟨g, cap, cur, hv, -⟩
  · exact ⟨none, 0, by rw [hn]⟩
  · exact ⟨_, cap, hv⟩
theorem OwnEn.cells {w : World} {base g cap n : Nat} {l : List It8} (h : OwnEn w base (.slice (some ⟨g, 0, none⟩) n cap) l) (j : Nat) (d : It8) (hd : l[j]? = some d) (i : Nat) (hi : i < 6) : w.cell? ⟨g, j * 6 + i, none⟩ = (icell d)[i]? := by
  rcases h.2 with ⟨h, _⟩ | ⟨g', cap', cur, hv, hb, hg, hn, hc, hs, ht⟩
  · cases h
  · simp only [Value.slice.injEq, Option.some.injEq, Addr.mk.injEq] at hv
    obtain ⟨⟨rfl, -⟩, -, rfl⟩ := hv
    have hj := (List.getElem?_eq_some_iff.1 hd).1
    rw [cell_of_row _ _ _ _ _ _ hg, ← ic6_get l j d hd i hi, ← ht, List.getElem?_take_of_lt (by omega)]
    simp
theorem enapp_one {ops : Array Oper} {rest : List Oper} {o : Oper} {a : Act} {Q : Exit → Act → World → Prop} {w : World} (hgd : o.guard = none) (s x : Operand)
    (ho : o.op = .call { callee := .builtin .append, args := #[s, x], argTypes := #[140, 140] }) (base : Nat) (v : Value) (l : List It8) (hs : a.eval s = v) (hown : OwnEn w base v l)
    (b : Nat) (y : It8) (hx : a.eval x = .slice (some ⟨b, 0, none⟩) 1 1) (hblk : CBlk w b (icell y).toArray 171) (h1c : ∀ u ∈ icell y, u.oneCell' = true) (hlen : l.length ≤ 1000000000000) (hbase : base ≤ w.heap.size)
    (h : ∀ v' w', OwnEn w' base v' (l ++ [y]) → Below base w w' → w.grownBy w' v.ownBlock → (∀ k, v'.ownBlock = some k → v.ownBlock = some k ∨ w.heap.size ≤ k) → wpList Tryz.prog ops Q rest (a.put o.dst v') w') : wpList Tryz.prog ops Q (o :: rest) a w := by
  obtain ⟨i0, hi0, hz0, hz1, hz2⟩ := info_parts Tryz.infoEntry8
  refine wpList_append_lies _ hgd s x 140 ho base 171 i0 _ 6 80 Tryz.underlying140 hi0 hz0 hz1 hz2 rfl (by omega) v l.length (ic6 l) hs hown ⟨b, 0, none⟩ 1 1 (ic6 [y]) hx (by simp [ic6, icell, acell]) ?_ (by simpa [ic6] using h1c) (by omega) (by unfold maxLen; omega) (by omega) hbase _ rfl ?_
  · intro j u hj
    have := World.news_of_block (cs := (icell y).toArray) (t := 171) (fr := (0, 0)) hblk j u
    exact this (by simpa [ic6] using hj)
  · intro g cap w' h1 h2 h3 h4
    refine h _ w' ?_ (grown_below3 h2 (fun k hk => (World.ownsRow.lt hown k hk).1) hbase) h2 (fun k hk => by cases hk; exact h3.imp id (fun e => Nat.le_of_eq e.symm))
    unfold OwnEn
    rw [List.length_append, ic6_app]
    exact h1
/-- One item's part. -/
theorem OwnEn.part {X : World} {base g n cap j : Nat} {L : List It8} {x : It8} (h : OwnEn X base (.slice (some ⟨g, 0, none⟩) n cap) L) (hx : L[j]? = some x) (q : Int) : OwnEn (X.setCell ⟨g, j * 6 + 5, none⟩ (.int .i64 q)) base (.slice (some ⟨g, 0, none⟩) n cap) (L.set j (x.1, q)) := by
  rcases h.2 with ⟨h, _⟩ | ⟨g', cap', cur, hv, hb, hg, hn, hc, hs, ht⟩
  · cases h
  · simp only [Value.slice.injEq, Option.some.injEq, Addr.mk.injEq] at hv
    obtain ⟨⟨rfl, -⟩, rfl, rfl⟩ := hv
    have k1 := heap_setCell_same _ _ (j * 6 + 5) _ _ (.int .i64 q) hg
    refine ⟨by rw [ic6_len, List.length_set], Or.inr ⟨g, cap, _, by rw [List.length_set], hb, k1, by rw [List.length_set]; exact hn, hc, by simpa using hs, ?_⟩⟩
    rw [List.length_set, ic6_set L j x q hx, ← ht]
    have hjl := (List.getElem?_eq_some_iff.1 hx).1
    rw [Array.toList_setIfInBounds, List.take_set]
/-- A list of items, all of it the call's own. -/
structure EnL (V : World) (base : Nat) (fv : Value) (Q : List It8) : Prop where
  o : OwnEn V base fv Q
  t : ∀ x ∈ Q, OwnT V base x.1.2 x.1.1.args ∧ x.1.1.args.length ≤ 1000000000
  ne : ∀ x ∈ Q, ∀ b, x.1.2.ownBlock = some b → fv.ownBlock ≠ some b
section
variable {V V' : World} {base : Nat} {fv : Value} {Q : List It8}
theorem EnL.nil (V : World) (base : Nat) : EnL V base (.slice none 0 0) [] := ⟨World.ownsRow_nil _ _ _ _, nofun, nofun⟩
theorem EnL.lt (h : EnL V base fv Q) {b : Nat} (hb : Ib fv Q b) : base ≤ b ∧ b < V.heap.size := by
  rcases hb with hb | ⟨x, hx, hb⟩
  · exact h.o.lt b hb
  · exact (h.t x hx).1.lt b hb
theorem EnL.same (h : EnL V base fv Q) (hs : ∀ b, Ib fv Q b → V'.heap[b]? = V.heap[b]?) : EnL V' base fv Q :=
  ⟨row8_same h.o fun b hb => hs b (Or.inl hb), fun x hx => ⟨row8_same (h.t x hx).1 fun b hb => hs b (Or.inr ⟨x, hx, hb⟩), (h.t x hx).2⟩, h.ne⟩
theorem EnL.is (h : EnL V base fv Q) : Is8 V fv Q := by
  have hts : ∀ x ∈ Q, Ts V x.1.2 x.1.1.args := fun x hx => (h.t x hx).1.tsP.ts (by have := (h.t x hx).2; omega)
  obtain ⟨a, cap, rfl⟩ := h.o.form
  refine ⟨a, cap, rfl, ?_, hts⟩
  rcases h.o.2 with ⟨-, hn⟩ | ⟨g, cap', cur, hv, hb, hg, -⟩
  · exact Or.inl (List.length_eq_zero_iff.1 hn)
  · cases hv
    refine Or.inr ⟨g, 0, rfl, (Array.getElem?_eq_some_iff.1 hg).1, fun i x hx => ?_⟩
    have c := fun j hj => h.o.cells i x hx j hj
    refine ⟨⟨?_, ?_, ?_, ?_, ?_⟩, ?_⟩
    · rw [show 0 + i * 6 = i * 6 + 0 by omega, c 0 (by omega)]; rfl
    · rw [show 0 + i * 6 + 1 = i * 6 + 1 by omega, c 1 (by omega)]; rfl
    · rw [show 0 + i * 6 + 2 = i * 6 + 2 by omega, c 2 (by omega)]; rfl
    · rw [show 0 + i * 6 + 3 = i * 6 + 3 by omega, c 3 (by omega)]; rfl
    · rw [show 0 + i * 6 + 4 = i * 6 + 4 by omega, c 4 (by omega)]; rfl
    · rw [show 0 + i * 6 + 5 = i * 6 + 5 by omega, c 5 (by omega)]; rfl
/-- One item's part is stored to. -/
theorem EnL.part {g n cap j : Nat} {x : It8} (h : EnL V base (.slice (some ⟨g, 0, none⟩) n cap) Q) (hx : Q[j]? = some x) (q : Int) : EnL (V.setCell ⟨g, j * 6 + 5, none⟩ (.int .i64 q)) base (.slice (some ⟨g, 0, none⟩) n cap) (Q.set j (x.1, q)) := by
  have hm : ∀ y ∈ Q.set j (x.1, q), ∃ z ∈ Q, z.1 = y.1 := fun y hy => by
    rcases List.mem_or_eq_of_mem_set hy with hy | rfl
    · exact ⟨y, hy, rfl⟩
    · exact ⟨x, List.mem_of_getElem? hx, rfl⟩
  refine ⟨h.o.part hx q, fun y hy => ?_, fun y hy b hb => ?_⟩
  · obtain ⟨z, hz, e⟩ := hm y hy
    rw [← e]
    refine ⟨row8_same (h.t z hz).1 fun b hb => ?_, (h.t z hz).2⟩
    have hne := h.ne z hz b hb
    have : g ≠ b := fun e => hne (by rw [← e]; rfl)
    exact heap_setCell_other _ _ _ _ this.symm
  · obtain ⟨z, hz, e⟩ := hm y hy
    rw [← e] at hb
    exact h.ne z hz b hb
end
/-- The document's base: block r holds the list lv of entries R; A: all its blocks. -/
structure RB8 (w0 : World) (A : Nat → Prop) (r : Nat) (lv : Value) (R : List It8) (Y : World) : Prop where
  b : Bk Y r #[lv] 142
  l : EnL Y w0.heap.size lv R
  a : ∀ b, A b ↔ b = r ∨ Ib lv R b
  lo : w0.heap.size ≤ r
  be : Below w0.heap.size w0 Y
section
variable {w0 : World} {A : Nat → Prop} {r : Nat} {lv : Value} {R : List It8} {Y Y' : World}
theorem RB8.fr (h : RB8 w0 A r lv R Y) {P : Nat → Prop} (hf : Fr P Y Y') (hn : ∀ b, P b → b < Y.heap.size → ¬ A b ∧ w0.heap.size ≤ b) : RB8 w0 A r lv R Y' := by
  refine ⟨h.b.fr hf fun hp => (hn r hp h.b.lt).1 ((h.a r).2 (Or.inl rfl)), h.l.same fun b hb => hf.block b (h.l.lt hb).2 fun hp => (hn b hp (h.l.lt hb).2).1 ((h.a b).2 (Or.inr hb)), h.a, h.lo, ?_⟩
  exact h.be.trans (Fr.low (hf.mono (Q := fun b => w0.heap.size ≤ b) fun b hl hb => (hn b hb hl).2) h.be.size)
theorem RB8.below (h : RB8 w0 A r lv R Y) (hb : Below Y.heap.size Y Y') : RB8 w0 A r lv R Y' := h.fr (P := fun _ => False) (Fr.of hb) fun _ h => h.elim
theorem RB8.lt (h : RB8 w0 A r lv R Y) {b : Nat} (hb : A b) : w0.heap.size ≤ b ∧ b < Y.heap.size := by
  rcases (h.a b).1 hb with rfl | hb
  · exact ⟨h.lo, h.b.lt⟩
  · exact h.l.lt hb
theorem RB8.cell (h : RB8 w0 A r lv R Y) : Y.cell? ⟨r, 0, none⟩ = some lv := h.b.cell rfl
/-- The base's block is none of its list's. -/
theorem RB8.rn (h : RB8 w0 A r lv R Y) : lv.ownBlock ≠ some r := fun e => by
  obtain ⟨c, hc⟩ := row7_blk h.l.o e
  exact absurd (hc.ty h.b) (by decide)
theorem RB8.rt (h : RB8 w0 A r lv R Y) {x : It8} (hx : x ∈ R) : x.1.2.ownBlock ≠ some r := fun e => by
  obtain ⟨c, hc⟩ := row7_blk (h.l.t x hx).1 e
  exact absurd (hc.ty h.b) (by decide)
end
/-- What a call leaves of the document's base. -/
def RW8 (w0 : World) (A : Nat → Prop) (r : Nat) (R : List It8) (Y Y' : World) : Prop := ∃ A' lv, RB8 w0 A' r lv R Y' ∧ Fr A Y Y' ∧ ∀ b, A' b → A b ∨ Y.heap.size ≤ b
set_option maxRecDepth 20000 in
theorem rbnew8_any (w0 Y : World) (hb : Below w0.heap.size w0 Y) : Calls Tryz.prog 47 #[] Y fun e Y' => ∃ r A lv, e = .returned (.pointer (some ⟨r, 0, none⟩)) ∧ RB8 w0 A r lv [] Y' ∧ (∀ b, A b → Y.heap.size ≤ b) ∧ Below Y.heap.size Y Y' := by
  go_enter Tryz.func47, Tryz.ntmps47
  go_wp2
  go_ret
  refine ⟨Y.heap.size, fun b => b = Y.heap.size ∨ Ib (.slice none 0 0) [] b, .slice none 0 0, rfl, ⟨Bk.new _ _ _, EnL.nil _ _, fun b => Iff.rfl, hb.size, hb.trans ((below1 _ _).mono hb.size)⟩, fun b hb => ?_, below1 _ _⟩
  rcases hb with rfl | hb | ⟨x, hx, -⟩
  · exact Nat.le_refl _
  · cases hb
  · cases hx
end Go.Proofs.YtechceagghcipaaGreatDoor
/-
  law 8: what comes in, opened. (Written by EG8.py.)
-/
namespace Go.Proofs.YtechceagghcipaaGreatDoor
open Go.ChangeShapes Go.WideShapes Go.ChangeAt Go.RowKit Go.Joins Go.Deep

theorem list3 {α : Type} {l : List α} (h : l.length = 3) : ∃ a b c, l = [a, b, c] := by
  match l, h with
  | [a, b, c], _ => exact ⟨a, b, c, rfl⟩
theorem list5 {α : Type} {l : List α} (h : l.length = 5) : ∃ a b c d e, l = [a, b, c, d, e] := by
  match l, h with
  | [a, b, c, d, e], _ => exact ⟨a, b, c, d, e, rfl⟩
theorem Tryz.cellsInt : Tryz.prog.cellsOf 3 = 1 := by kernel_rfl
theorem Tryz.cellsString : Tryz.prog.cellsOf 9 = 1 := by kernel_rfl
theorem Tryz.cellsTerms : Tryz.prog.cellsOf 25 = 1 := by kernel_rfl
theorem Tryz.cellsAtom : Tryz.prog.cellsOf 27 = 5 := by kernel_rfl
theorem Tryz.bytesTerm : Tryz.prog.bytesOf 24 = 32 := by kernel_rfl
theorem weights_mem_all {H : Type} {P : Program} {e : TypeId} {d : DataW H} {n : Nat} (hn : n ∈ d.weights P e) : ∀ {ds : List (DataW H)}, d ∈ ds → n ∈ DataW.weightsAll P e ds
  | x :: r, h => by
    rw [DataW.weightsAll, List.mem_append]
    rcases List.mem_cons.1 h with rfl | h
    · exact Or.inl hn
    · exact Or.inr (weights_mem_all hn h)
theorem bulkN_pos {H : Type} (d : DataW H) : 1 ≤ Rows.uptoBulk d := by
  cases d with
  | lit l => cases l <;> simp [Rows.uptoBulk]
  | _ => simp [Rows.uptoBulk]
theorem bulkN_len {H : Type} (l : List (DataW H)) : l.length ≤ Rows.uptoBulkAll l := by
  induction l with
  | nil => simp
  | cons d r ih => have := bulkN_pos d; simp only [Rows.uptoBulkAll, List.length_cons]; omega
theorem bulkN_slice {H : Type} (l r : List (DataW H)) : l.length ≤ Rows.uptoBulk (.slice l r) := by
  have := bulkN_len l; simp only [Rows.uptoBulk]; omega
theorem bulk7_pos {H : Type} (d : DataW H) : 1 ≤ Rows.uptoBulk d := by
  cases d with
  | lit l => cases l <;> simp [Rows.uptoBulk]
  | _ => simp [Rows.uptoBulk]
theorem bulk7_len {H : Type} (l : List (DataW H)) : l.length ≤ Rows.uptoBulkAll l := by
  induction l with
  | nil => simp
  | cons d r ih => have := bulk7_pos d; simp only [Rows.uptoBulkAll, List.length_cons]; omega
theorem bulk7_slice {H : Type} (l r : List (DataW H)) : l.length ≤ Rows.uptoBulk (.slice l r) := by
  have := bulk7_len l; simp only [Rows.uptoBulk]; omega
theorem bulk7_sum {H : Type} (g : Nat → Nat) (D : Nat → DataW H) : ∀ l : List Nat, (∀ i ∈ l, g i ≤ Rows.uptoBulk (D i)) → (l.map g).sum ≤ Rows.uptoBulkAll (l.map D)
  | [], _ => by simp
  | i :: l, h => by
    have h1 := h i (by simp)
    have h2 := bulk7_sum g D l fun j hj => h j (by simp [hj])
    rw [List.map_cons, List.map_cons, List.sum_cons]
    simp only [Rows.uptoBulkAll]
    omega
theorem Tryz.cellsInt7 : Tryz.prog.cellsOf 3 = 1 := by kernel_rfl
theorem term_of_cellsY {H : Type} {enc : TypeId × Value → H} {W : World} {base : Nat} {spare : Nat → Bool} {held : Bool} {fuel : Nat} {cs : List Value} {x : DataW H × List MemPlace}
    (h : DataW.trod enc Tryz.prog W base spare held fuel 24 cs = some x) (hl : cs.length = 3) : ∃ t : Tm, cs = [.int .i64 t.k, .int .i64 t.n, .string t.s] ∧ KeyT t := by
  obtain ⟨c0, c1, c2, rfl⟩ := list3 hl
  obtain ⟨y0, y1, y2, n, -, -, h0, h1, h2⟩ := trod_struct3 Tryz.underlying24 h
  rw [Tryz.cellsInt] at h0 h1
  rw [Tryz.cellsString] at h2
  obtain ⟨k, e0, -, hwk⟩ := DataW.trod_int Tryz.underlying3 h0
  obtain ⟨m, e1, -, hwn⟩ := DataW.trod_int Tryz.underlying3 h1
  obtain ⟨s, e2, -, hwf⟩ := DataW.trod_string Tryz.underlying9 h2
  simp at e0 e1 e2
  subst e0 e1 e2
  exact ⟨⟨k, m, s⟩, rfl, hwk, hwn, hwf⟩
set_option maxRecDepth 100000 in
theorem open_termsY {H : Type} {enc : TypeId × Value → H} {W : World} {base : Nat} {spare : Nat → Bool} {held : Bool} {fuel : Nat} {cs : List Value} {x : DataW H × List MemPlace}
    (h : DataW.trod enc Tryz.prog W base spare held fuel 25 cs = some x) (hw : ∀ n ∈ x.1.weights Tryz.prog 25, n ≤ reachBytes) : ∃ v l, cs = [v] ∧ (Ts W v l ∧ TsP W v l) ∧ l.length ≤ Rows.uptoBulk x.1 ∧ ∀ t ∈ l, KeyT t := by
  rcases open_slice Tryz.underlying25 h with ⟨rfl, -⟩ | ⟨a, len, cap, m, n, D, Pl, rfl, hba, hlc, hcm, hm, hx, hel⟩
  · exact ⟨_, [], rfl, ⟨⟨none, 0, rfl, by simp, Or.inl rfl⟩, Or.inl ⟨rfl, rfl⟩⟩, by simp, fun t ht => by cases ht⟩
  · have hlen : len < 1000000000000000000 := by
      have := hw ((((List.range len).map D).length + ((List.range (m - len)).map fun j => D (len + j)).length) * Tryz.prog.bytesOf 24) (by rw [hx]; simp [DataW.weights, Tryz.underlying25])
      rw [Tryz.bytesTerm] at this
      simp only [List.length_map, List.length_range, reachBytes] at this
      omega
    rw [Tryz.cellsTerm] at hel
    have hlm : len ≤ m := by rw [hm]; split <;> omega
    have key : ∀ i : Nat, ∃ t : Tm, i < len → KeyT t ∧ W.cell? (a.add (i * 3)) = some (.int .i64 t.k) ∧ W.cell? ((a.add (i * 3)).add 1) = some (.int .i64 t.n) ∧ W.cell? ((a.add (i * 3)).add 2) = some (.string t.s) := fun i => by
      by_cases hi : i < len
      · obtain ⟨cs', h1, h2⟩ := hel i (by omega)
        obtain ⟨-, hl, hc⟩ := World.cells?_some h1
        obtain ⟨t, rfl, hwf⟩ := term_of_cellsY h2 hl
        exact ⟨t, fun _ => ⟨hwf, hc 0 (by omega), hc 1 (by omega), hc 2 (by omega)⟩⟩
      · exact ⟨zt, fun h => absurd h hi⟩
    obtain ⟨f, hf⟩ := Classical.axiomOfChoice key
    have hgo : (List.range len).map f = [] ∨ ∃ b o, a = ⟨b, o, none⟩ ∧ TRow W b o ((List.range len).map f) := by
      rcases Nat.eq_zero_or_pos len with h0 | h0
      · left; subst h0; rfl
      · right
        obtain ⟨b, off, spot⟩ := a
        have hspot : spot = none := by simpa [Addr.add] using World.cell?_spot (hf 0 h0).2.1
        subst hspot
        refine ⟨b, off, rfl, ?_, fun i t ht => ?_⟩
        · exact World.block_lt_of_cell? W _ (by have := (hf 0 h0).2.1; simpa [Addr.add] using this)
        · have hi : i < len := by have := (List.getElem?_eq_some_iff.1 ht).1; simpa using this
          have e : t = f i := by
            rw [List.getElem?_map, List.getElem?_range hi] at ht; simpa using ht.symm
          subst e
          have := (hf i hi).2
          rw [add_plain, add_plain, add_plain] at this
          exact this
    refine ⟨_, (List.range len).map f, rfl, ⟨⟨some a, cap, by simp, by simpa using hlen, ?_⟩, Or.inr ⟨a, cap, by simp, hgo⟩⟩, by rw [hx]; simpa using bulkN_slice ((List.range len).map D) _, fun t ht => by obtain ⟨i, hi, rfl⟩ := List.mem_map.1 ht; exact (hf i (List.mem_range.1 hi)).1⟩
    rcases hgo with hq | ⟨b, o, rfl, hq⟩
    · exact Or.inl hq
    · exact Or.inr ⟨b, o, rfl, hq⟩
set_option maxRecDepth 100000 in
theorem atom_of_cellsY {H : Type} {enc : TypeId × Value → H} {W : World} {base : Nat} {spare : Nat → Bool} {held : Bool} {fuel : Nat} {cs : List Value} {x : DataW H × List MemPlace}
    (hf : DataW.trod enc Tryz.prog W base spare held fuel 27 cs = some x) (hl : cs.length = 5) (hw : ∀ n ∈ x.1.weights Tryz.prog 27, n ≤ reachBytes) : ∃ a : At × Value, cs = [.int .i64 a.1.by_.k, .int .i64 a.1.by_.n, .string a.1.by_.s, .string a.1.name, a.2] ∧ (Ts W a.2 a.1.args ∧ TsP W a.2 a.1.args) ∧ a.1.pl.length ≤ Rows.uptoBulk x.1 ∧ (∀ t ∈ a.1.pl, KeyT t) ∧ a.1.name.size ≤ maxLen := by
  obtain ⟨c0, c1, c2, c3, c4, rfl⟩ := list5 hl
  obtain ⟨y0, y1, y2, n, hd, -, h0, h1, h2⟩ := trod_struct3 Tryz.underlying27 hf
  rw [Tryz.cellsTerm] at h0
  rw [Tryz.cellsString] at h1
  rw [Tryz.cellsTerms] at h2
  obtain ⟨t, e0, ht⟩ := term_of_cellsY h0 (by simp)
  obtain ⟨s, e1, -, hs⟩ := DataW.trod_string Tryz.underlying9 h1
  obtain ⟨v, l, e2, hx, hbk, hwl⟩ := open_termsY h2 (fun m hm => by
    refine hw m ?_
    rw [hd, DataW.weights, Tryz.underlying27]
    exact DataW.weights_mem_each (j := 2) rfl rfl m hm)
  simp at e0 e1 e2
  obtain ⟨rfl, rfl, rfl⟩ := e0
  subst e1 e2
  refine ⟨(⟨t, s, l⟩, c4), rfl, hx, ?_, fun u hu => ?_, hs⟩
  · rw [hd]
    have := bulkN_pos y0.1
    simp only [Rows.uptoBulk, Rows.uptoBulkAll, At.pl, List.length_cons]
    omega
  · rcases List.mem_cons.1 hu with rfl | hu
    · exact ht
    · exact hwl u hu
theorem pd8_key {a : At} (h : a.name.size ≤ maxLen) (hl : a.args.length ≤ 1000000000) : KeyP a.pd8 := ⟨h, wfI8 (by show _ ≤ (a.args.length : Int); omega) (by show (a.args.length : Int) ≤ _; omega)⟩
end Go.Proofs.YtechceagghcipaaGreatDoor
/-
  law 8: scripts, opened. (Written by EH4.py, out of RE7.)
-/
namespace Go.Proofs.YtechceagghcipaaGreatDoor
open Go.ChangeShapes Go.WideShapes Go.ChangeAt Go.RowKit Go.Joins Go.Deep

theorem Tryz.cellsOp8 : Tryz.prog.cellsOf 48 = 8 := by kernel_rfl
theorem Tryz.cellsBool8 : Tryz.prog.cellsOf 4 = 1 := by kernel_rfl
/-- One step of a script. -/
structure Op8 where
  k : Int
  a : At × Value
  n : Int
  two : Bool
def Op8.cs (o : Op8) : List Value := [.int .i64 o.k, .int .i64 o.a.1.by_.k, .int .i64 o.a.1.by_.n, .string o.a.1.by_.s, .string o.a.1.name, o.a.2, .int .i64 o.n, .bool o.two]
structure Op8.Ok (W : World) (o : Op8) : Prop where
  ts : TsP W o.a.2 o.a.1.args
  k : ∀ t ∈ o.a.1.pl, KeyT t
  nm : o.a.1.name.size ≤ maxLen
def Op8.sz (o : Op8) : Nat := o.a.1.pl.length
set_option maxRecDepth 100000 in
theorem open_op8 {H : Type} {enc : TypeId × Value → H} {W : World} {base fuel : Nat} {spare : Nat → Bool} {held : Bool} {cs : List Value} {x : DataW H × List MemPlace}
    (h : DataW.trod enc Tryz.prog W base spare held fuel 48 cs = some x) (hw : ∀ n ∈ x.1.weights Tryz.prog 48, n ≤ reachBytes) : ∃ o : Op8, cs = o.cs ∧ o.Ok W ∧ o.sz ≤ Rows.uptoBulk x.1 := by
  obtain ⟨xs, n, e0, hd, hl, hlen, hf⟩ := DataW.trod_struct Tryz.underlying48 h
  rw [Tryz.cellsOp8] at hl
  match xs, hlen with
  | [y0, y1, y2, y3], _ =>
    match cs, hl with
    | [c0, c1, c2, c3, c4, c5, c6, c7], _ =>
      have h0 := hf 0 _ rfl
      have h1 := hf 1 _ rfl
      have h2 := hf 2 _ rfl
      have h3 := hf 3 _ rfl
      simp [Tryz.cellsInt7, Tryz.cellsBool8, Tryz.cellsAtom] at h0 h1 h2 h3
      obtain ⟨k, e0, -, -⟩ := DataW.trod_int Tryz.underlying3 h0
      obtain ⟨a, e1, ⟨-, k1⟩, k2, k3, k4⟩ := atom_of_cellsY h1 (by simp) (fun m hm => by
        refine hw m ?_
        rw [hd, DataW.weights, Tryz.underlying48]
        exact DataW.weights_mem_each (j := 1) rfl rfl m hm)
      obtain ⟨p, e2, -, -⟩ := DataW.trod_int Tryz.underlying3 h2
      obtain ⟨b, e3, -⟩ := DataW.trod_bool Tryz.underlying4 h3
      simp at e0 e1 e2 e3
      obtain ⟨rfl, rfl, rfl, rfl, rfl⟩ := e1
      subst e0 e2 e3
      refine ⟨⟨k, a, p, b⟩, rfl, ⟨k1, k3, k4⟩, ?_⟩
      rw [hd]
      simp only [Op8.sz, List.map, Rows.uptoBulk, Rows.uptoBulkAll]
      omega
/-- A script, where it lies. -/
def Sc8 (W : World) (v : Value) (Os : List Op8) : Prop := ∃ a cap, v = .slice a Os.length cap ∧ (Os = [] ∨ ∃ b o, a = some ⟨b, o, none⟩ ∧ b < W.heap.size ∧ ∀ (i : Nat) (p : Op8), Os[i]? = some p → ∀ (j : Nat) (c : Value), p.cs[j]? = some c → W.cell? ⟨b, o + (i * 8 + j), none⟩ = some c) ∧ ∀ p ∈ Os, p.Ok W
set_option maxRecDepth 100000 in
theorem open_ops8 {H : Type} {enc : TypeId × Value → H} {W : World} {base fuel : Nat} {spare : Nat → Bool} {held : Bool} {cs : List Value} {x : DataW H × List MemPlace}
    (h : DataW.trod enc Tryz.prog W base spare held fuel 22 cs = some x) (hw : ∀ n ∈ x.1.weights Tryz.prog 22, n ≤ reachBytes) : ∃ v Os, cs = [v] ∧ Sc8 W v Os ∧ Os.length ≤ Rows.uptoBulk x.1 ∧ (Os.map Op8.sz).sum ≤ Rows.uptoBulk x.1 := by
  rcases open_slice Tryz.underlying22 h with ⟨rfl, -⟩ | ⟨a, len, cap, m, n, D, Pl, rfl, hba, hlc, hcm, hm, hx, hel'⟩
  · exact ⟨_, [], rfl, ⟨none, 0, rfl, Or.inl rfl, fun p hp => by simp at hp⟩, by simp, by simp⟩
  · rw [Tryz.cellsOp8] at hel'
    have hlm : len ≤ m := by rw [hm]; split <;> omega
    have key : ∀ i : Nat, ∃ p : Op8, i < len → (∀ (j : Nat) (c : Value), p.cs[j]? = some c → W.cell? (a.add (i * 8 + j)) = some c) ∧ p.Ok W ∧ p.sz ≤ Rows.uptoBulk (D i) := fun i => by
      by_cases hi : i < len
      · obtain ⟨cs', h1, h2⟩ := hel' i (by omega)
        obtain ⟨-, hl, hc⟩ := World.cells?_some h1
        obtain ⟨p, rfl, hok, hbk⟩ := open_op8 h2 (fun m hm => hw m (by
          rw [hx, DataW.weights, Tryz.underlying22]
          exact List.mem_cons_of_mem _ (List.mem_append.2 (Or.inl (weights_mem_all hm (List.mem_map.2 ⟨i, List.mem_range.2 hi, rfl⟩))))))
        refine ⟨p, fun _ => ⟨fun j c hj => ?_, hok, hbk⟩⟩
        have hj8 : j < 8 := (List.getElem?_eq_some_iff.1 hj).1
        have h5 := hc j hj8
        rw [hj] at h5
        by_cases j1 : j = 0
        · by_cases i1 : i = 0
          · simpa [Addr.add, j1, i1] using h5
          · have i2 : ¬ i * 8 = 0 := by omega
            simpa [Addr.add, j1, i1, i2] using h5
        · by_cases i1 : i = 0
          · simpa [Addr.add, j1, i1] using h5
          · have i2 : ¬ i * 8 = 0 := by omega
            simpa [Addr.add, j1, i1, i2, Nat.add_assoc] using h5
      · exact ⟨⟨0, (⟨zt, ⟨#[]⟩, []⟩, .slice none 0 0), 0, false⟩, fun h => absurd h hi⟩
    obtain ⟨f, hf⟩ := Classical.axiomOfChoice key
    refine ⟨_, (List.range len).map f, rfl, ⟨some a, cap, by simp, ?_, fun c hc => ?_⟩, by rw [hx]; simpa using bulk7_slice ((List.range len).map D) _, ?_⟩
    · rcases Nat.eq_zero_or_pos len with h0 | h0
      · left; subst h0; rfl
      · right
        obtain ⟨b, off, spot⟩ := a
        have h00 := (hf 0 h0).1 0 _ rfl
        have hspot : spot = none := by simpa [Addr.add] using World.cell?_spot h00
        subst hspot
        refine ⟨b, off, rfl, World.block_lt_of_cell? W _ (by simpa [Addr.add] using h00), fun i c hc j u hu => ?_⟩
        have hi : i < len := by have := (List.getElem?_eq_some_iff.1 hc).1; simpa using this
        have e : c = f i := by
          rw [List.getElem?_map, List.getElem?_range hi] at hc; simpa using hc.symm
        subst e
        have := (hf i hi).1 j u hu
        rw [add_plain] at this
        exact this
    · obtain ⟨i, hi, rfl⟩ := List.mem_map.1 hc
      exact (hf i (List.mem_range.1 hi)).2.1
    · have h1 := bulk7_sum (fun i => (f i).sz) D (List.range len) fun i hi => (hf i (List.mem_range.1 hi)).2.2
      rw [List.map_map]
      rw [hx]
      simp only [Rows.uptoBulk]
      have e : Op8.sz ∘ f = fun i => (f i).sz := rfl
      rw [e]
      omega
end Go.Proofs.YtechceagghcipaaGreatDoor
/-
  law 8: built.
-/
namespace Go.Proofs.YtechceagghcipaaGreatDoor
open Go.RowKit
attribute [local go_sem ↓] Go.wp_at_zero Go.wp_at_succ

def Kd8 (l : List It8) : Prop := ∀ x ∈ l, (∀ t ∈ x.1.1.pl, KeyT t) ∧ KeyP x.1.1.pd8
def zo8 (Os : List Op8) : Nat := (Os.map Op8.sz).sum
theorem zo8_take (P : List Op8) (j : Nat) (p) (h : P[j]? = some p) : zo8 (P.take (j + 1)) = zo8 (P.take j) + p.a.1.pl.length := by
  unfold zo8
  rw [List.take_add_one, h, List.map_append, List.sum_append]
  simp [Op8.sz]
theorem zo8_le (P : List Op8) (j : Nat) : zo8 (P.take j) ≤ zo8 P := by
  have : zo8 P = zo8 (P.take j) + zo8 (P.drop j) := by
    unfold zo8
    rw [← List.sum_append, ← List.map_append, List.take_append_drop]
  omega
end Go.Proofs.YtechceagghcipaaGreatDoor
/-
  law 8: BaseParts: what is plain.
-/
namespace Go.Proofs.YtechceagghcipaaGreatDoor
open Go.RowKit

/-- How many of the first k items lie in these parts. -/
def pc8 (l : List It8) (parts : Int) (k : Nat) : Nat := ((Ei (l.take k)).filter fun x => hp7 parts x.2).length
theorem pc8_step {l : List It8} {parts : Int} {k : Nat} {x : It8} (h : l[k]? = some x) : pc8 l parts (k + 1) = pc8 l parts k + if hp7 parts x.2 = true then 1 else 0 := by
  unfold pc8
  rw [List.take_add_one, h, Ei_app, List.filter_append, List.length_append]
  congr 1
  by_cases hp : hp7 parts x.2 = true
  · simp [Ei, hp]
  · have : hp7 parts x.2 = false := by simpa using hp
    simp [Ei, this]
theorem Ei_mem {l : List It8} {k : Nat} {x : It8} (h : l[k]? = some x) : (x.1.1, x.2) ∈ Ei l := List.mem_map.2 ⟨x, List.mem_of_getElem? h, rfl⟩
instance decPd8 : DecidableEq Pd := fun p q => decidable_of_iff (p.nm = q.nm ∧ p.ar = q.ar) ⟨fun h => Pd.ext' h.1 h.2, fun h => by subst h; exact ⟨rfl, rfl⟩⟩
theorem nodup_len8 {α : Type} [DecidableEq α] : ∀ (l m : List α), l.Nodup → (∀ u ∈ l, u ∈ m) → l.length ≤ m.length := by
  intro l
  induction l with
  | nil => intro m _ _; exact Nat.zero_le _
  | cons a l ih =>
    intro m h hs
    rw [List.nodup_cons] at h
    have hm : a ∈ m := hs a List.mem_cons_self
    have := ih (m.erase a) h.2 fun u hu => (List.mem_erase_of_ne (a := u) (b := a) (fun e => h.1 (by rw [← e]; exact hu))).2 (hs u (List.mem_cons_of_mem _ hu))
    rw [List.length_erase_of_mem hm] at this
    have := List.length_pos_of_mem hm
    rw [List.length_cons]
    omega
end Go.Proofs.YtechceagghcipaaGreatDoor
/-
  The reference's Look.
-/
namespace Go.Proofs.YtechceagghcipaaGreatDoor
open Go.RowKit

set_option maxHeartbeats 1000000 in
theorem rlook_any (l : List Bd) (v : Value) (x : Int) (w : World) (h : Bs w v l) :
    Calls Tryz.prog 151 #[v, .int .i64 x] w fun e w' => e = .returned (.tuple #[(lookT l x).v, .bool (lookB l x)]) ∧ Below w.heap.size w w' := by
  obtain ⟨ad, cap, rfl, hl, h⟩ := h
  go_enter Tryz.func151, Tryz.ntmps151
  go_wp2
  go_loopw [6] (fun i wr => ∃ k : Nat, k ≤ l.length ∧ i = .int .i64 k ∧ look l x = look (l.drop k) x ∧ Below w.heap.size w wr ∧
      wr.heap[w.heap.size]? = some (.cells #[.int .i64 0, .int .i64 0, .string ⟨#[]⟩] 24 (0, 0))) (fun i _ => l.length - (intOf i).toNat)
  case atStart => exact ⟨0, by omega, rfl, by simp, below1 _ _, heap_alloc_new _ _⟩
  case round =>
    obtain ⟨k, hk, rfl, hlk, hbel, hres⟩ := hrel
    have HL : Hid (look l x = look (l.drop k) x) := hlk
    clear hlk
    by_cases hlt : k < l.length
    · rcases h with h | ⟨b, o, rfl, hbs, h⟩
      · subst h; simp at hlt
      · obtain ⟨d, hd⟩ : ∃ d, l[k]? = some d := ⟨l[k], List.getElem?_eq_getElem hlt⟩
        obtain ⟨c0, c1, c2, c3⟩ := h k d hd
        have HD : Hid (l[k]? = some d) := hd
        rw [← hbel.cell (p := ⟨b, _, none⟩) hbs] at c0 c1 c2 c3
        obtain ⟨q0, q1, q2, f0, f1, f2⟩ := three hres
        have hws : w.heap.size < wr.heap.size := (Array.getElem?_eq_some_iff.1 hres).1
        have hbw : b < wr.heap.size := by omega
        obtain ⟨dx, dk, dn, ds⟩ := d
        simp only at c0 c1 c2 c3
        have HR0 : Hid (wr.heap[w.heap.size]? = some (.cells #[.int .i64 0, .int .i64 0, .string ⟨#[]⟩] 24 (0, 0))) := hres
        clear h hd hres
        have i1 : (0 : Int) ≤ (k : Int) := by omega
        have i2 : (k : Int) < (l.length : Int) := by omega
        by_cases hx : dx = x
        · have hq : (dx == x) = true := by simpa using hx
          go_wp2
          refine bodyPost_ret (v := .tuple #[Tm.v ⟨dk, dn, ds⟩, .bool true]) (by simp [results, Tryz.results151, go_sem, q0, q1, q2]) rfl ⟨?_, ?_⟩
          · have e := HL.out.trans (look_hit l x k _ HD.out hx)
            simp [lookT, lookB, e]
          · exact (((hbel.setCell (Nat.le_refl _) _).setCell (Nat.le_refl _) _).setCell (Nat.le_refl _) _)
        · have hq : (dx == x) = false := by simpa using hx
          have HX : Hid (look l x = look (l.drop (k + 1)) x) := HL.out.trans (look_drop l x k _ HD.out hx)
          go_wp2
          go_roundw
          case rel => exact ⟨k + 1, by omega, by go_num, HX.out, hbel, HR0.out⟩
          case measure => simp [intOf]; omega
    · obtain ⟨q0, q1, q2, f0, f1, f2⟩ := three hres
      clear h
      go_wp2
      refine bodyPost_ret (v := .tuple #[zt.v, .bool false]) (by simp [results, Tryz.results151, go_sem, q0, q1, q2, zt]) rfl ⟨?_, ?_⟩
      · have e := HL.out
        rw [List.drop_eq_nil_of_le (by omega)] at e
        simp [lookT, lookB, e, look]
      · exact (((hbel.setCell (Nat.le_refl _) _).setCell (Nat.le_refl _) _).setCell (Nat.le_refl _) _)
end Go.Proofs.YtechceagghcipaaGreatDoor
/-
  The reference's Become, ApplyTest.
-/
namespace Go.Proofs.YtechceagghcipaaGreatDoor
open Go.RowKit
attribute [local go_sem ↓] Go.wp_at_zero Go.wp_at_succ

set_option maxHeartbeats 1000000 in
theorem rbecome_any (s : List Bd) (v : Value) (t : Tm) (w : World) (h : Bs w v s) :
    Calls Tryz.prog 168 #[v, t.v] w fun e w' => e = .returned (become s t).v ∧ Below w.heap.size w w' := by
  have HS : Hid (Bs w v s) := h
  clear h
  obtain ⟨k, n, ss⟩ := t
  cases hv : Tm.var ⟨k, n, ss⟩
  · have HV : Hid (Tm.var ⟨k, n, ss⟩ = false) := hv
    have HB : Hid (become s ⟨k, n, ss⟩ = ⟨k, n, ss⟩) := by show become s _ = _; unfold become; rw [hv]; rfl
    clear hv
    go_enter Tryz.func168, Tryz.ntmps168
    go_wp2_with (go_at_call 149; refine (rvar_any ⟨k, n, ss⟩ _).mono ?_; rw [HV.out]; rintro e w1 ⟨rfl, hb1⟩; have C1 := (BoxB.start _ _ _ _ _).later hb1; obtain ⟨p0, p1, p2, -, -, -⟩ := three C1.1; obtain ⟨q0, q1, q2, f0, f1, f2⟩ := three C1.2.1; have B1 : Hid (BoxB _ _ _ _ _ _) := C1; clear C1)
    refine bodyPost_ret (v := Tm.v ⟨k, n, ss⟩) (by simp [results, Tryz.results168, go_sem, q0, q1, q2]) rfl ⟨?_, ?_⟩
    · rw [HB.out]
    · exact bset (bset (bset (Hid.out B1).2.2 (Nat.le_succ _)) (Nat.le_succ _)) (Nat.le_succ _)
  · have HV : Hid (Tm.var ⟨k, n, ss⟩ = true) := hv
    cases hl : look s n with
    | none =>
      have HB : Hid (become s ⟨k, n, ss⟩ = ⟨k, n, ss⟩) := by show become s _ = _; unfold become; rw [hv, if_pos rfl, hl]; rfl
      have LT : Hid (lookT s n = zt) := by show lookT s n = zt; unfold lookT; rw [hl]; rfl
      have LB : Hid (lookB s n = false) := by show lookB s n = false; unfold lookB; rw [hl]; rfl
      clear hv hl
      go_enter Tryz.func168, Tryz.ntmps168
      go_wp2_with (first
        | (go_at_call 149; refine (rvar_any ⟨k, n, ss⟩ _).mono ?_; rw [HV.out]; rintro e w1 ⟨rfl, hb1⟩; have C1 := (BoxB.start _ _ _ _ _).later hb1; obtain ⟨p0, p1, p2, -, -, -⟩ := three C1.1; have B1 : Hid (BoxB _ _ _ _ _ _) := C1; clear C1)
        | (go_at_call 151; refine (rlook_any s v n _ (HS.out.later (Hid.out B1).2.2)).mono ?_; rw [LT.out, LB.out]; rintro e w2 ⟨rfl, hb2⟩; clear p0 p1 p2; have C2 := (Hid.out B1).later hb2; obtain ⟨p0, p1, p2, -, -, -⟩ := three C2.1; obtain ⟨q0, q1, q2, f0, f1, f2⟩ := three C2.2.1; have zz := C2.lt; have zz0 : w.heap.size < w2.heap.size := Nat.lt_of_succ_lt zz; have B2 : Hid (BoxB _ _ _ _ _ _) := C2; clear C2))
      refine bodyPost_ret (v := Tm.v ⟨k, n, ss⟩) (by simp [results, Tryz.results168, go_sem, q0, q1, q2, zz]) rfl ⟨?_, ?_⟩
      · rw [HB.out]
      · exact balloc (bset (bset (bset (Hid.out B2).2.2 (Nat.le_succ _)) (Nat.le_succ _)) (Nat.le_succ _))
    | some q =>
      have HB : Hid (become s ⟨k, n, ss⟩ = q) := by show become s _ = _; unfold become; rw [hv, if_pos rfl, hl]; rfl
      have LT : Hid (lookT s n = q) := by show lookT s n = q; unfold lookT; rw [hl]; rfl
      have LB : Hid (lookB s n = true) := by show lookB s n = true; unfold lookB; rw [hl]; rfl
      obtain ⟨qk, qn, qs⟩ := q
      clear hv hl
      go_enter Tryz.func168, Tryz.ntmps168
      go_wp2_with (first
        | (go_at_call 149; refine (rvar_any ⟨k, n, ss⟩ _).mono ?_; rw [HV.out]; rintro e w1 ⟨rfl, hb1⟩; have C1 := (BoxB.start _ _ _ _ _).later hb1; obtain ⟨p0, p1, p2, -, -, -⟩ := three C1.1; have B1 : Hid (BoxB _ _ _ _ _ _) := C1; clear C1)
        | (go_at_call 151; refine (rlook_any s v n _ (HS.out.later (Hid.out B1).2.2)).mono ?_; rw [LT.out, LB.out]; rintro e w2 ⟨rfl, hb2⟩; clear p0 p1 p2; have C2 := (Hid.out B1).later hb2; obtain ⟨p0, p1, p2, -, -, -⟩ := three C2.1; obtain ⟨q0, q1, q2, f0, f1, f2⟩ := three C2.2.1; have zz := C2.lt; have zz0 : w.heap.size < w2.heap.size := Nat.lt_of_succ_lt zz; have B2 : Hid (BoxB _ _ _ _ _ _) := C2; clear C2))
      refine bodyPost_ret (v := Tm.v ⟨qk, qn, qs⟩) (by simp [results, Tryz.results168, go_sem, q0, q1, q2, zz]) rfl ⟨?_, ?_⟩
      · rw [HB.out]
      · exact balloc (bset (bset (bset (Hid.out B2).2.2 (Nat.le_succ _)) (Nat.le_succ _)) (Nat.le_succ _))
end Go.Proofs.YtechceagghcipaaGreatDoor
