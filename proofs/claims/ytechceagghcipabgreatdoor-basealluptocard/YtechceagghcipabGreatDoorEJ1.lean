import Derived.Test.YtechceagghcipabGreatDoorEG4
import Derived.Test.YtechceagghcipabGreatDoorRA7
namespace Go.Proofs.YtechceagghcipabGreatDoor
open Go.RowKit
def sz8 (E : List (At × Int)) : Nat := (E.map fun x => x.1.pl.length).sum
theorem sz8_perm {E F : List (At × Int)} (h : E.Perm F) : sz8 E = sz8 F := (h.map _).sum_nat
theorem sz8_add (E : List (At × Int)) (f : At) : sz8 (aE8 E f) = if f ∈ E.map Prod.fst then sz8 E else sz8 E + f.pl.length := by
 unfold aE8
 split
 ·rfl
 ·simp [sz8]
theorem sz8_len (E : List (At × Int)) : E.length <= sz8 E := by
 induction E with
 | nil => simp [sz8]
 | cons x E ih =>
  have : 1 <= x.1.pl.length := by simp [At.pl]
  simp only [sz8, List.map_cons, List.sum_cons, List.length_cons] at ih ⊢
  omega
theorem sz8_map (E : List (At × Int)) (k : Int -> Int) : sz8 (E.map fun x => (x.1, k x.2)) = sz8 E := by simp [sz8, Function.comp_def]
end Go.Proofs.YtechceagghcipabGreatDoor
namespace Go.Proofs.YtechceagghcipabGreatDoor
open Go.RowKit
section
variable {w0 : World} {g h m n : Nat} {X A B : Nat -> Prop} {E F : List (At × Int)} {Y Y' : World}
section
variable {tb : Nat}
end
end
theorem srt8P_eq {P Q : List Pd} (h1 : srt8P P) (h2 : srt8P Q) (n1 : P.Nodup) (n2 : Q.Nodup) (hm : ∀ p, p ∈ P ↔ p ∈ Q) : P = Q :=
 List.Perm.eq_of_pairwise (le := fun a b : Pd => cmpP a b <= 0) (fun x y _ _ h1 h2 => ord_pd.zero x y (by have := ord_pd.neg x y; omega)) h1 h2 ((List.perm_ext_iff_of_nodup n1 n2).2 hm)
theorem AL8.as {V : World} {base : Nat} {fv : Value} {Q : List (At × Nat)} (h : AL8 V base fv Q) (hl : Q.length <= 1000000000) : As V fv (Q.map enc8) := by
 refine h.o.a.as (by rw [List.length_map]; omega) fun x hx => ?_
 obtain ⟨y, hy, rfl⟩ := List.mem_map.1 hx
 obtain ⟨k1, -, k3⟩ := h.t y hy
 exact TBlk.ts rfl (by omega) k1
end Go.Proofs.YtechceagghcipabGreatDoor
namespace Go.Proofs.YtechceagghcipabGreatDoor
open Go.RowKit
attribute [local go_sem ↓] Go.wp_at_zero Go.wp_at_succ
theorem As.get8 {w : World} {la : Option Addr} {l : List (At × Value)} {n cap k : Nat} {x : At × Value} (h : As w (.slice la n cap) l) (hx : l[k]? = some x) :
  ∃ lb lo xa xc, la = some ⟨lb, lo, none⟩ /\ x.2 = .slice xa x.1.args.length xc /\ ∀ Y : World, Below w.heap.size w Y -> Y.cell? ⟨lb, lo + k * 5, none⟩ = some (.int .i64 x.1.by_.k) /\ Y.cell? ⟨lb, lo + k * 5 + 1, none⟩ = some (.int .i64 x.1.by_.n) /\ Y.cell? ⟨lb, lo + k * 5 + 2, none⟩ = some (.string x.1.by_.s) /\ Y.cell? ⟨lb, lo + k * 5 + 3, none⟩ = some (.string x.1.name) /\ Y.cell? ⟨lb, lo + k * 5 + 4, none⟩ = some x.2 := by
 obtain ⟨a, c, e, -, hr, ht⟩ := h
 cases e
 rcases hr with hr | ⟨lb, lo, rfl, hlr⟩
 ·rw [hr] at hx; simp at hx
 obtain ⟨a0, a1, a2, a3, a4⟩ := (hlr.2 k x hx)
 obtain ⟨xa, xc, hsh, -⟩ := ht x (List.mem_of_getElem? hx)
 exact ⟨lb, lo, xa, xc, rfl, hsh, fun Y hY => ⟨cell_step hY hlr.1 a0, cell_step hY hlr.1 a1, cell_step hY hlr.1 a2, cell_step hY hlr.1 a3, cell_step hY hlr.1 a4⟩⟩
end Go.Proofs.YtechceagghcipabGreatDoor
namespace Go.Proofs.YtechceagghcipabGreatDoor
open Go.RowKit
attribute [local go_sem ↓] Go.wp_at_zero Go.wp_at_succ
def IRow (w : World) (b o : Nat) (l : List ((At × Value) × Int)) : Prop :=
 b < w.heap.size /\ ∀ (i : Nat) x, l[i]? = some x -> (w.cell? ⟨b, o + i * 6, none⟩ = some (.int .i64 x.1.1.by_.k) /\ w.cell? ⟨b, o + i * 6 + 1, none⟩ = some (.int .i64 x.1.1.by_.n) /\ w.cell? ⟨b, o + i * 6 + 2, none⟩ = some (.string x.1.1.by_.s) /\ w.cell? ⟨b, o + i * 6 + 3, none⟩ = some (.string x.1.1.name) /\ w.cell? ⟨b, o + i * 6 + 4, none⟩ = some x.1.2) /\ w.cell? ⟨b, o + i * 6 + 5, none⟩ = some (.int .i64 x.2)
def Is8 (w : World) (v : Value) (l : List ((At × Value) × Int)) : Prop :=
 ∃ a cap, v = .slice a l.length cap /\ (l = [] ∨ ∃ b o, a = some ⟨b, o, none⟩ /\ IRow w b o l) /\ ∀ x ∈ l, Ts w x.1.2 x.1.1.args
theorem Is8.get {w : World} {la : Option Addr} {l : List ((At × Value) × Int)} {n cap k : Nat} {x : (At × Value) × Int} (h : Is8 w (.slice la n cap) l) (hx : l[k]? = some x) :
  ∃ lb lo xa xc, la = some ⟨lb, lo, none⟩ /\ x.1.2 = .slice xa x.1.1.args.length xc /\ ∀ Y : World, Below w.heap.size w Y -> (Y.cell? ⟨lb, lo + k * 6, none⟩ = some (.int .i64 x.1.1.by_.k) /\ Y.cell? ⟨lb, lo + k * 6 + 1, none⟩ = some (.int .i64 x.1.1.by_.n) /\ Y.cell? ⟨lb, lo + k * 6 + 2, none⟩ = some (.string x.1.1.by_.s) /\ Y.cell? ⟨lb, lo + k * 6 + 3, none⟩ = some (.string x.1.1.name) /\ Y.cell? ⟨lb, lo + k * 6 + 4, none⟩ = some x.1.2) /\ Y.cell? ⟨lb, lo + k * 6 + 5, none⟩ = some (.int .i64 x.2) := by
 obtain ⟨a, c, e, hr, ht⟩ := h
 cases e
 rcases hr with hr | ⟨lb, lo, rfl, hlr⟩
 ·rw [hr] at hx; simp at hx
 obtain ⟨⟨a0, a1, a2, a3, a4⟩, a5⟩ := (hlr.2 k x hx)
 obtain ⟨xa, xc, hsh, -⟩ := ht x (List.mem_of_getElem? hx)
 exact ⟨lb, lo, xa, xc, rfl, hsh, fun Y hY => ⟨⟨cell_step hY hlr.1 a0, cell_step hY hlr.1 a1, cell_step hY hlr.1 a2, cell_step hY hlr.1 a3, cell_step hY hlr.1 a4⟩, cell_step hY hlr.1 a5⟩⟩
end Go.Proofs.YtechceagghcipabGreatDoor
namespace Go.Proofs.YtechceagghcipabGreatDoor
open Go.RowKit
abbrev It8 := (At × Value) × Int
def icell (x : It8) : List Value := acell x.1 ++ [.int .i64 x.2]
def ic6 (l : List It8) : List Value := l.flatMap icell
theorem ic6_len (l : List It8) : (ic6 l).length = l.length * 6 := by
 induction l with
 | nil => rfl
 | cons d l ih => simp only [ic6, List.flatMap_cons, List.length_append, List.length_cons] at *; rw [ih]; simp [icell, acell]; omega
theorem ic6_app (l m : List It8) : ic6 (l ++ m) = ic6 l ++ ic6 m := by simp [ic6]
theorem ic6_get (l : List It8) (j : Nat) (d : It8) (h : l[j]? = some d) (i : Nat) (hi : i < 6) : (ic6 l)[j * 6 + i]? = (icell d)[i]? := by
 induction l generalizing j with
 | nil => simp at h
 | cons e l ih =>
  rw [ic6, List.flatMap_cons]
  cases j with
  | zero =>
   simp only [List.getElem?_cons_zero, Option.some.injEq] at h
   subst h
   rw [List.getElem?_append_left (by simp [icell, acell]; omega)]
   simp
  | succ j =>
   simp only [List.getElem?_cons_succ] at h
   rw [List.getElem?_append_right (by simp [icell, acell]; omega)]
   have e1 : (j + 1) * 6 + i - (icell e).length = j * 6 + i := by simp [icell, acell]; omega
   rw [e1]
   exact ih j h
theorem ic6_set : ∀ (l : List It8) (j : Nat) (x : It8) (q : Int), l[j]? = some x -> ic6 (l.set j (x.1, q)) = (ic6 l).set (j * 6 + 5) (.int .i64 q)
 | a :: l, 0, x, q, h => by simp at h; subst h; simp [ic6, icell, acell]
 | a :: l, j + 1, x, q, h => by
  rw [List.getElem?_cons_succ] at h
  have ih := ic6_set l j x q h
  have e : ∀ m : List It8, ic6 (a :: m) = icell a ++ ic6 m := fun m => by simp [ic6]
  have hc : (icell a).length = 6 := rfl
  rw [List.set_cons_succ, e, e, ih, List.set_append_right _ _ (by omega), hc]
  rw [show (j + 1) * 6 + 5 - 6 = j * 6 + 5 by omega]
end Go.Proofs.YtechceagghcipabGreatDoor
namespace Go.Proofs.YtechceagghcipabGreatDoor
open Go.RowKit
theorem row8_same {X X' : World} {B K n : Nat} {ty : TypeId} {v : Value} {cs : List Value} (h : X.ownsRow B ty K v n cs) (hs : ∀ b, v.ownBlock = some b -> X'.heap[b]? = X.heap[b]?) : X'.ownsRow B ty K v n cs := by
 refine ⟨h.1, ?_⟩
 rcases h.2 with hn | ⟨g, cap, cur, hv, hb, hg, rest⟩
 ·exact Or.inl hn
 ·exact Or.inr ⟨g, cap, cur, hv, hb, (hs g (by rw [hv]; rfl)).trans hg, rest⟩
def Ib (fv : Value) (Q : List It8) (b : Nat) : Prop := fv.ownBlock = some b ∨ ∃ x ∈ Q, x.1.2.ownBlock = some b
section
variable {V V' : World} {base : Nat} {fv : Value} {Q : List It8}
end
def Ei (l : List It8) : List (At × Int) := l.map fun x => (x.1.1, x.2)
def tI8 (x : It8) : It8 := (x.1, tE8 x.2)
theorem Ei_turn (l : List It8) : (Ei l).map (fun x => (x.1, tE8 x.2)) = Ei (l.map tI8) := by simp [Ei, tI8, Function.comp_def]
theorem Ei_len (l : List It8) : (Ei l).length = l.length := by simp [Ei]
theorem Ei_app (l m : List It8) : Ei (l ++ m) = Ei l ++ Ei m := by simp [Ei]
end Go.Proofs.YtechceagghcipabGreatDoor
namespace Go.Proofs.YtechceagghcipabGreatDoor
open Go.RowKit
theorem Tryz.infoEntry8 : (Tryz.prog.info? 77).map (fun i => (i.zero, i.size, i.bytes)) = some (some (.agg #[.int .i64 0, .int .i64 0, .string ⟨#[]⟩, .string ⟨#[]⟩, .slice none 0 0, .int .i64 0]), 6, 80) := by kernel_rfl
def OwnEn (w : World) (base : Nat) (v : Value) (l : List It8) : Prop := w.ownsRow base 77 6 v l.length (ic6 l)
theorem OwnEn.later {w w' : World} {base : Nat} {v : Value} {l : List It8} (h : OwnEn w base v l) (hb : Below w.heap.size w w') : OwnEn w' base v l := by
 refine ⟨h.1, ?_⟩
 rcases h.2 with hn | ⟨g, cap, cur, hv, hbb, hg, rest⟩
 ·exact Or.inl hn
 ·exact Or.inr ⟨g, cap, cur, hv, hbb, (hb.block g (Array.getElem?_eq_some_iff.1 hg).1).trans hg, rest⟩
theorem OwnEn.nil (w : World) (base : Nat) : OwnEn w base (.slice none 0 0) [] := World.ownsRow_nil _ _ _ _
theorem OwnEn.lt {w : World} {base : Nat} {v : Value} {l : List It8} (h : OwnEn w base v l) : ∀ k, v.ownBlock = some k -> base <= k /\ k < w.heap.size := World.ownsRow.lt h
theorem OwnEn.form {w : World} {base : Nat} {v : Value} {l : List It8} (h : OwnEn w base v l) : ∃ a cap, v = .slice a l.length cap := by
 rcases h.2 with ⟨rfl, hn⟩ | ⟨g, cap, cur, hv, -⟩
 ·exact ⟨none, 0, by rw [hn]⟩
 ·exact ⟨_, cap, hv⟩
theorem OwnEn.cells {w : World} {base g cap n : Nat} {l : List It8} (h : OwnEn w base (.slice (some ⟨g, 0, none⟩) n cap) l) (j : Nat) (d : It8) (hd : l[j]? = some d) (i : Nat) (hi : i < 6) : w.cell? ⟨g, j * 6 + i, none⟩ = (icell d)[i]? := by
 rcases h.2 with ⟨h, _⟩ | ⟨g', cap', cur, hv, hb, hg, hn, hc, hs, ht⟩
 ·cases h
 ·simp only [Value.slice.injEq, Option.some.injEq, Addr.mk.injEq] at hv
  obtain ⟨⟨rfl, -⟩, -, rfl⟩ := hv
  have hj := (List.getElem?_eq_some_iff.1 hd).1
  rw [cell_of_row _ _ _ _ _ _ hg, <- ic6_get l j d hd i hi, <- ht, List.getElem?_take_of_lt (by omega)]
  simp
theorem enapp_one {ops : Array Oper} {rest : List Oper} {o : Oper} {a : Act} {Q : Exit -> Act -> World -> Prop} {w : World} (hgd : o.guard = none) (s x : Operand)
  (ho : o.op = .call { callee := .builtin .append, args := #[s, x], argTypes := #[45, 45] }) (base : Nat) (v : Value) (l : List It8) (hs : a.eval s = v) (hown : OwnEn w base v l)
  (b : Nat) (y : It8) (hx : a.eval x = .slice (some ⟨b, 0, none⟩) 1 1) (hblk : CBlk w b (icell y).toArray 77) (h1c : ∀ u ∈ icell y, u.oneCell' = true) (hlen : l.length <= 1000000000000) (hbase : base <= w.heap.size)
  (h : ∀ v' w', OwnEn w' base v' (l ++ [y]) -> Below base w w' -> w.grownBy w' v.ownBlock -> (∀ k, v'.ownBlock = some k -> v.ownBlock = some k ∨ w.heap.size <= k) -> wpList Tryz.prog ops Q rest (a.put o.dst v') w') : wpList Tryz.prog ops Q (o :: rest) a w := by
 obtain ⟨i0, hi0, hz0, hz1, hz2⟩ := info_parts Tryz.infoEntry8
 refine wpList_append_lies _ hgd s x 45 ho base 77 i0 _ 6 80 Tryz.underlying45 hi0 hz0 hz1 hz2 rfl (by omega) v l.length (ic6 l) hs hown ⟨b, 0, none⟩ 1 1 (ic6 [y]) hx (by simp [ic6, icell, acell]) ?_ (by simpa [ic6] using h1c) (by omega) (by unfold maxLen; omega) (by omega) hbase _ rfl ?_
 ·intro j u hj
  have := World.news_of_block (cs := (icell y).toArray) (t := 77) (fr := (0, 0)) hblk j u
  exact this (by simpa [ic6] using hj)
 ·intro g cap w' h1 h2 h3 h4
  refine h _ w' ?_ (grown_below3 h2 (fun k hk => (World.ownsRow.lt hown k hk).1) hbase) h2 (fun k hk => by cases hk; exact h3.imp id (fun e => Nat.le_of_eq e.symm))
  unfold OwnEn
  rw [List.length_append, ic6_app]
  exact h1
theorem OwnEn.part {X : World} {base g n cap j : Nat} {L : List It8} {x : It8} (h : OwnEn X base (.slice (some ⟨g, 0, none⟩) n cap) L) (hx : L[j]? = some x) (q : Int) : OwnEn (X.setCell ⟨g, j * 6 + 5, none⟩ (.int .i64 q)) base (.slice (some ⟨g, 0, none⟩) n cap) (L.set j (x.1, q)) := by
 rcases h.2 with ⟨h, _⟩ | ⟨g', cap', cur, hv, hb, hg, hn, hc, hs, ht⟩
 ·cases h
 ·simp only [Value.slice.injEq, Option.some.injEq, Addr.mk.injEq] at hv
  obtain ⟨⟨rfl, -⟩, rfl, rfl⟩ := hv
  have k1 := heap_setCell_same _ _ (j * 6 + 5) _ _ (.int .i64 q) hg
  refine ⟨by rw [ic6_len, List.length_set], Or.inr ⟨g, cap, _, by rw [List.length_set], hb, k1, by rw [List.length_set]; exact hn, hc, by simpa using hs, ?_⟩⟩
  rw [List.length_set, ic6_set L j x q hx, <- ht]
  have hjl := (List.getElem?_eq_some_iff.1 hx).1
  rw [Array.toList_setIfInBounds, List.take_set]
structure EnL (V : World) (base : Nat) (fv : Value) (Q : List It8) : Prop where
 o : OwnEn V base fv Q
 t : ∀ x ∈ Q, OwnT V base x.1.2 x.1.1.args /\ x.1.1.args.length <= 1000000000
 ne : ∀ x ∈ Q, ∀ b, x.1.2.ownBlock = some b -> fv.ownBlock ≠ some b
section
variable {V V' : World} {base : Nat} {fv : Value} {Q : List It8}
theorem EnL.nil (V : World) (base : Nat) : EnL V base (.slice none 0 0) [] := ⟨World.ownsRow_nil _ _ _ _, nofun, nofun⟩
theorem EnL.lt (h : EnL V base fv Q) {b : Nat} (hb : Ib fv Q b) : base <= b /\ b < V.heap.size := by
 rcases hb with hb | ⟨x, hx, hb⟩
 ·exact h.o.lt b hb
 ·exact (h.t x hx).1.lt b hb
theorem EnL.same (h : EnL V base fv Q) (hs : ∀ b, Ib fv Q b -> V'.heap[b]? = V.heap[b]?) : EnL V' base fv Q :=
 ⟨row8_same h.o fun b hb => hs b (Or.inl hb), fun x hx => ⟨row8_same (h.t x hx).1 fun b hb => hs b (Or.inr ⟨x, hx, hb⟩), (h.t x hx).2⟩, h.ne⟩
theorem EnL.is (h : EnL V base fv Q) : Is8 V fv Q := by
 have hts : ∀ x ∈ Q, Ts V x.1.2 x.1.1.args := fun x hx => (h.t x hx).1.tsP.ts (by have := (h.t x hx).2; omega)
 obtain ⟨a, cap, rfl⟩ := h.o.form
 refine ⟨a, cap, rfl, ?_, hts⟩
 rcases h.o.2 with ⟨-, hn⟩ | ⟨g, cap', cur, hv, hb, hg, -⟩
 ·exact Or.inl (List.length_eq_zero_iff.1 hn)
 ·cases hv
  refine Or.inr ⟨g, 0, rfl, (Array.getElem?_eq_some_iff.1 hg).1, fun i x hx => ?_⟩
  have c := fun j hj => h.o.cells i x hx j hj
  refine ⟨⟨?_, ?_, ?_, ?_, ?_⟩, ?_⟩
  ·rw [show 0 + i * 6 = i * 6 + 0 by omega, c 0 (by omega)]; rfl
  ·rw [show 0 + i * 6 + 1 = i * 6 + 1 by omega, c 1 (by omega)]; rfl
  ·rw [show 0 + i * 6 + 2 = i * 6 + 2 by omega, c 2 (by omega)]; rfl
  ·rw [show 0 + i * 6 + 3 = i * 6 + 3 by omega, c 3 (by omega)]; rfl
  ·rw [show 0 + i * 6 + 4 = i * 6 + 4 by omega, c 4 (by omega)]; rfl
  ·rw [show 0 + i * 6 + 5 = i * 6 + 5 by omega, c 5 (by omega)]; rfl
theorem EnL.part {g n cap j : Nat} {x : It8} (h : EnL V base (.slice (some ⟨g, 0, none⟩) n cap) Q) (hx : Q[j]? = some x) (q : Int) : EnL (V.setCell ⟨g, j * 6 + 5, none⟩ (.int .i64 q)) base (.slice (some ⟨g, 0, none⟩) n cap) (Q.set j (x.1, q)) := by
 have hm : ∀ y ∈ Q.set j (x.1, q), ∃ z ∈ Q, z.1 = y.1 := fun y hy => by
  rcases List.mem_or_eq_of_mem_set hy with hy | rfl
  ·exact ⟨y, hy, rfl⟩
  ·exact ⟨x, List.mem_of_getElem? hx, rfl⟩
 refine ⟨h.o.part hx q, fun y hy => ?_, fun y hy b hb => ?_⟩
 ·obtain ⟨z, hz, e⟩ := hm y hy
  rw [<- e]
  refine ⟨row8_same (h.t z hz).1 fun b hb => ?_, (h.t z hz).2⟩
  have hne := h.ne z hz b hb
  have : g ≠ b := fun e => hne (by rw [<- e]; rfl)
  exact heap_setCell_other _ _ _ _ this.symm
 ·obtain ⟨z, hz, e⟩ := hm y hy
  rw [<- e] at hb
  exact h.ne z hz b hb
end
structure RB8 (w0 : World) (A : Nat -> Prop) (r : Nat) (lv : Value) (R : List It8) (Y : World) : Prop where
 b : Bk Y r #[lv] 47
 l : EnL Y w0.heap.size lv R
 a : ∀ b, A b ↔ b = r ∨ Ib lv R b
 lo : w0.heap.size <= r
 be : Below w0.heap.size w0 Y
section
variable {w0 : World} {A : Nat -> Prop} {r : Nat} {lv : Value} {R : List It8} {Y Y' : World}
theorem RB8.fr (h : RB8 w0 A r lv R Y) {P : Nat -> Prop} (hf : Fr P Y Y') (hn : ∀ b, P b -> b < Y.heap.size -> ¬ A b /\ w0.heap.size <= b) : RB8 w0 A r lv R Y' := by
 refine ⟨h.b.fr hf fun hp => (hn r hp h.b.lt).1 ((h.a r).2 (Or.inl rfl)), h.l.same fun b hb => hf.block b (h.l.lt hb).2 fun hp => (hn b hp (h.l.lt hb).2).1 ((h.a b).2 (Or.inr hb)), h.a, h.lo, ?_⟩
 exact h.be.trans (Fr.low (hf.mono (Q := fun b => w0.heap.size <= b) fun b hl hb => (hn b hb hl).2) h.be.size)
theorem RB8.below (h : RB8 w0 A r lv R Y) (hb : Below Y.heap.size Y Y') : RB8 w0 A r lv R Y' := h.fr (P := fun _ => False) (Fr.of hb) fun _ h => h.elim
theorem RB8.lt (h : RB8 w0 A r lv R Y) {b : Nat} (hb : A b) : w0.heap.size <= b /\ b < Y.heap.size := by
 rcases (h.a b).1 hb with rfl | hb
 ·exact ⟨h.lo, h.b.lt⟩
 ·exact h.l.lt hb
theorem RB8.cell (h : RB8 w0 A r lv R Y) : Y.cell? ⟨r, 0, none⟩ = some lv := h.b.cell rfl
theorem RB8.rn (h : RB8 w0 A r lv R Y) : lv.ownBlock ≠ some r := fun e => by
 obtain ⟨c, hc⟩ := row7_blk h.l.o e
 exact absurd (hc.ty h.b) (by decide)
theorem RB8.rt (h : RB8 w0 A r lv R Y) {x : It8} (hx : x ∈ R) : x.1.2.ownBlock ≠ some r := fun e => by
 obtain ⟨c, hc⟩ := row7_blk (h.l.t x hx).1 e
 exact absurd (hc.ty h.b) (by decide)
end
def RW8 (w0 : World) (A : Nat -> Prop) (r : Nat) (R : List It8) (Y Y' : World) : Prop := ∃ A' lv, RB8 w0 A' r lv R Y' /\ Fr A Y Y' /\ ∀ b, A' b -> A b ∨ Y.heap.size <= b
set_option maxRecDepth 20000 in
theorem rbnew8_any (w0 Y : World) (hb : Below w0.heap.size w0 Y) : Calls Tryz.prog 7 #[] Y fun e Y' => ∃ r A lv, e = .returned (.pointer (some ⟨r, 0, none⟩)) /\ RB8 w0 A r lv [] Y' /\ (∀ b, A b -> Y.heap.size <= b) /\ Below Y.heap.size Y Y' := by
 go_enter Tryz.func7, Tryz.ntmps7
 go_wp2
 go_ret
 refine ⟨Y.heap.size, fun b => b = Y.heap.size ∨ Ib (.slice none 0 0) [] b, .slice none 0 0, rfl, ⟨Bk.new _ _ _, EnL.nil _ _, fun b => Iff.rfl, hb.size, hb.trans ((below1 _ _).mono hb.size)⟩, fun b hb => ?_, below1 _ _⟩
 rcases hb with rfl | hb | ⟨x, hx, -⟩
 ·exact Nat.le_refl _
 ·cases hb
 ·cases hx
end Go.Proofs.YtechceagghcipabGreatDoor
