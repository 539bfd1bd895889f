import Derived.Test.YtmbmchbninlhpaaGreatDoorSD1
import Derived.Test.YtmbmchbninlhpaaGreatDoorMD2
import Derived.Test.YtmbmchbninlhpaaGreatDoorShelf
import Derived.Sort.OwnSorted
import Derived.Laws.AppendOwn
import Derived.Test.YtmbmchbninlhpaaGreatDoorLD2
import Derived.Lib.SliceRun
import Derived.Test.YtmbmchbninlhpaaGreatDoorCE1
namespace Go.Proofs.YtmbmchbninlhpaaGreatDoor
open Go.RowKit Go.Shelf Go.Lib Go.Sort

def Cm.csl (c : Cm) : List Value := c.cs.toList
def ccs (l : List Cm) : List Value := l.flatMap Cm.csl
theorem ccs_len (l : List Cm) : (ccs l).length = l.length * 7 := by
 induction l with
 | nil => rfl
 | cons d l ih => simp only [ccs, List.flatMap_cons, List.length_append, List.length_cons] at *; rw [ih]; simp [Cm.csl]; omega
theorem ccs_app (l m : List Cm) : ccs (l ++ m) = ccs l ++ ccs m := by simp [ccs]
theorem ccs_get (l : List Cm) (j : Nat) (d : Cm) (h : l[j]? = some d) (i : Nat) (hi : i < 7) : (ccs l)[j * 7 + i]? = d.csl[i]? := by
 induction l generalizing j with
 | nil => simp at h
 | cons e l ih =>
  have hl : e.csl.length = 7 := rfl
  have ec : ccs (e :: l) = e.csl ++ ccs l := by simp [ccs]
  cases j with
  | zero =>
   simp at h
   subst h
   rw [ec, Nat.zero_mul, Nat.zero_add, List.getElem?_append_left (by omega)]
  | succ j =>
   rw [List.getElem?_cons_succ] at h
   rw [ec, List.getElem?_append_right (by omega), hl, show (j + 1) * 7 + i - 7 = j * 7 + i by omega]
   exact ih j h
def OwnC (w : World) (base : Nat) (v : Value) (l : List Cm) : Prop := w.ownsRow base 62 7 v l.length (ccs l)
theorem OwnC.lt {w : World} {base : Nat} {v : Value} {l : List Cm} (h : OwnC w base v l) : ∀ k, v.ownBlock = some k -> base <= k /\ k < w.heap.size := World.ownsRow.lt h
def Cf (w : World) (g : Nat) : Type := { c : Cm // ∀ X : World, RowKit.Below g w X -> c.ok X }
def zC : Cm := ⟨(⟨zt, ⟨#[]⟩, []⟩, .slice none 0 0), [], .slice none 0 0, [], .slice none 0 0⟩
theorem zC_ok (w : World) : zC.ok w := ⟨⟨none, 0, rfl, by simp [zC], Or.inl rfl⟩, ⟨none, 0, rfl, by simp [zC], Or.inl rfl, fun x hx => by simp [zC] at hx⟩, ⟨none, 0, rfl, by simp [zC], Or.inl rfl⟩⟩
instance (w : World) (g : Nat) : Inhabited (Cf w g) := ⟨⟨zC, fun X _ => zC_ok X⟩⟩
end Go.Proofs.YtmbmchbninlhpaaGreatDoor
namespace Go.Proofs.YtmbmchbninlhpaaGreatDoor
open Go.RowKit

def CRow (w : World) (b o : Nat) (l : List Cm) : Prop := b < w.heap.size /\ ∀ (i : Nat) (c : Cm), l[i]? = some c -> ∀ (k : Nat) (u : Value), c.csl[k]? = some u -> w.cell? ⟨b, o + i * 7 + k, none⟩ = some u
theorem CRow.later {w w' : World} {b o : Nat} {l : List Cm} (h : CRow w b o l) (hb : Below w.heap.size w w') : CRow w' b o l :=
 ⟨Nat.lt_of_lt_of_le h.1 hb.size, fun i c hc k u hu => by rw [hb.cell (p := ⟨b, _, none⟩) h.1]; exact h.2 i c hc k u hu⟩
structure CsP (w : World) (v : Value) (l : List Cm) : Prop where
 m : (v = .slice none 0 0 /\ l = []) ∨ ∃ ad cap, v = .slice (some ad) l.length cap /\ (l = [] ∨ ∃ b o, ad = ⟨b, o, none⟩ /\ CRow w b o l)
 ok : ∀ c ∈ l, c.ok w
theorem CsP.later {w w' : World} {v : Value} {l : List Cm} (h : CsP w v l) (hb : Below w.heap.size w w') : CsP w' v l := by
 refine ⟨?_, fun c hc => (h.ok c hc).later hb⟩
 rcases h.m with h | ⟨ad, cap, h1, h2⟩
 ·exact Or.inl h
 ·refine Or.inr ⟨ad, cap, h1, ?_⟩
  rcases h2 with h2 | ⟨b, o, h2, h3⟩
  ·exact Or.inl h2
  ·exact Or.inr ⟨b, o, h2, h3.later hb⟩
theorem OwnC.nil (w : World) (base : Nat) : OwnC w base (.slice none 0 0) [] := World.ownsRow_nil _ _ _ _
theorem OwnC.later {w w' : World} {base : Nat} {v : Value} {l : List Cm} (h : OwnC w base v l) (hb : Below w.heap.size w w') : OwnC w' base v l := by
 refine ⟨h.1, ?_⟩
 rcases h.2 with hn | ⟨g, cap, cur, hv, hbb, hg, rest⟩
 ·exact Or.inl hn
 ·exact Or.inr ⟨g, cap, cur, hv, hbb, (hb.block g (Array.getElem?_eq_some_iff.1 hg).1).trans hg, rest⟩
theorem OwnC.form {w : World} {base : Nat} {v : Value} {l : List Cm} (h : OwnC w base v l) : ∃ a cap, v = .slice a l.length cap := by
 rcases h.2 with ⟨rfl, hn⟩ | ⟨g, cap, cur, hv, _⟩
 ·exact ⟨none, 0, by rw [hn]⟩
 ·exact ⟨_, cap, hv⟩
theorem csl_one {c : Cm} {w : World} (h : c.ok w) : ∀ u ∈ c.csl, u.oneCell' = true := by
 obtain ⟨⟨a, n, cp, e1⟩, ⟨a', cp', e2⟩, ⟨a'', cp'', e3⟩, -, -⟩ := h.shape
 intro u hu
 simp only [Cm.csl, e1, e2, e3] at hu
 simp at hu
 rcases hu with rfl | rfl | rfl | rfl | rfl | rfl | rfl <;> rfl
theorem Tryz.infoClause : (Tryz.prog.info? 62).map (fun i => (i.zero, i.size, i.bytes)) = some (some (.agg #[.int .i64 0, .int .i64 0, .string ⟨#[]⟩, .string ⟨#[]⟩, .slice none 0 0, .slice none 0 0, .slice none 0 0]), 7, 120) := by kernel_rfl
end Go.Proofs.YtmbmchbninlhpaaGreatDoor
namespace Go.Proofs.YtmbmchbninlhpaaGreatDoor
open Go.RowKit

theorem capp_one {ops : Array Oper} {rest : List Oper} {o : Oper} {a : Act} {Q : Exit -> Act -> World -> Prop} {w : World} (hgd : o.guard = none) (s x : Operand)
  (ho : o.op = .call { callee := .builtin .append, args := #[s, x], argTypes := #[22, 22] }) (base : Nat) (v : Value) (l : List Cm) (hs : a.eval s = v) (hown : OwnC w base v l)
  (b : Nat) (y : Cm) (hx : a.eval x = .slice (some ⟨b, 0, none⟩) 1 1) (hblk : CBlk w b y.cs 62) {W : World} (h1c : y.ok W) (hlen : l.length <= 1000000000000) (hbase : base <= w.heap.size)
  (h : ∀ v' w', OwnC w' base v' (l ++ [y]) -> Below base w w' -> w.grownBy w' v.ownBlock -> (∀ k, v'.ownBlock = some k -> v.ownBlock = some k ∨ w.heap.size <= k) -> wpList Tryz.prog ops Q rest (a.put o.dst v') w') : wpList Tryz.prog ops Q (o :: rest) a w := by
 obtain ⟨i0, hi0, hz0, hz1, hz2⟩ := info_parts Tryz.infoClause
 refine wpList_append_lies _ hgd s x 22 ho base 62 i0 _ 7 120 Tryz.underlying22 hi0 hz0 hz1 hz2 rfl (by omega) v l.length (ccs l) hs hown ⟨b, 0, none⟩ 1 1 (ccs [y]) hx (by rw [ccs_len]; rfl) ?_ (fun u hu => by obtain ⟨z, hz, hu⟩ := List.mem_flatMap.1 hu; rw [List.mem_singleton] at hz; subst hz; exact csl_one h1c u hu) (by omega) (by unfold maxLen; omega) (by omega) hbase _ rfl ?_
 ·intro j u hj
  have := World.news_of_block (cs := y.cs) (t := 62) (fr := (0, 0)) hblk j u
  exact this (by simpa [ccs, Cm.csl] using hj)
 ·intro g cap w' h1 h2 h3 h4
  refine h _ w' ?_ (grown_below3 h2 (fun k hk => (World.ownsRow.lt hown k hk).1) hbase) h2 (fun k hk => by cases hk; exact h3.imp id (fun e => Nat.le_of_eq e.symm))
  unfold OwnC
  rw [List.length_append, ccs_app]
  exact h1
theorem OwnC.adr {w : World} {base n cap j : Nat} {a : Option Addr} {l : List Cm} {c : Cm} (h : OwnC w base (.slice a n cap) l) (hc : l[j]? = some c) : ∃ b o, a = some ⟨b, o, none⟩ /\ CRow w b o l := by
 rcases h.2 with ⟨-, hn⟩ | ⟨g', cap', cur, hv, hb, hg, hn, hcc, hs, ht⟩
 ·have := (List.getElem?_eq_some_iff.1 hc).1; omega
 ·simp only [Value.slice.injEq] at hv
  obtain ⟨rfl, -, rfl⟩ := hv
  refine ⟨g', 0, rfl, (Array.getElem?_eq_some_iff.1 hg).1, fun i d hd k u hu => ?_⟩
  have hk : k < 7 := by have := (List.getElem?_eq_some_iff.1 hu).1; simpa [Cm.csl] using this
  have hi := (List.getElem?_eq_some_iff.1 hd).1
  have h1 : (cur.toList.take (l.length * 7))[i * 7 + k]? = (ccs l)[i * 7 + k]? := by rw [ht]
  rw [List.getElem?_take_of_lt (by omega), ccs_get l i d hd k hk, hu] at h1
  rw [Nat.zero_add, cell_of_row _ _ _ _ _ _ hg]
  simpa using h1
theorem CRow.seven {w : World} {b o j : Nat} {l : List Cm} {c : Cm} (h : CRow w b o l) (hc : l[j]? = some c) :
  w.cell? ⟨b, o + j * 7, none⟩ = some (.int .i64 c.head.1.by_.k) /\ w.cell? ⟨b, o + j * 7 + 1, none⟩ = some (.int .i64 c.head.1.by_.n) /\ w.cell? ⟨b, o + j * 7 + 2, none⟩ = some (.string c.head.1.by_.s) /\ w.cell? ⟨b, o + j * 7 + 3, none⟩ = some (.string c.head.1.name) ∧
   w.cell? ⟨b, o + j * 7 + 4, none⟩ = some c.head.2 /\ w.cell? ⟨b, o + j * 7 + 5, none⟩ = some c.bv /\ w.cell? ⟨b, o + j * 7 + 6, none⟩ = some c.tv :=
 ⟨h.2 j c hc 0 _ rfl, h.2 j c hc 1 _ rfl, h.2 j c hc 2 _ rfl, h.2 j c hc 3 _ rfl, h.2 j c hc 4 _ rfl, h.2 j c hc 5 _ rfl, h.2 j c hc 6 _ rfl⟩
theorem CsP.form {w : World} {v : Value} {l : List Cm} (h : CsP w v l) : ∃ a cap, v = .slice a l.length cap := by
 rcases h.m with ⟨rfl, rfl⟩ | ⟨ad, cap, rfl, -⟩
 ·exact ⟨none, 0, rfl⟩
 ·exact ⟨_, cap, rfl⟩
theorem grown_of {X Y : World} (h : Below X.heap.size X Y) (row : Option Nat) : X.grownBy Y row := ⟨h.os, h.tape, h.output, h.size, fun k hk _ => h.block k hk⟩
theorem conj7 {a b c d e f g : Prop} (h1 : a) (h2 : b) (h3 : c) (h4 : d) (h5 : e) (h6 : f) (h7 : g) : Hid (a /\ b /\ c /\ d /\ e /\ f /\ g) := ⟨h1, h2, h3, h4, h5, h6, h7⟩
end Go.Proofs.YtmbmchbninlhpaaGreatDoor
namespace Go.Proofs.YtmbmchbninlhpaaGreatDoor
open Go.RowKit

structure K8 (w w' : World) : Prop where
 size : w.heap.size <= w'.heap.size
 block : ∀ (k : Nat) (c : Array Value) (t : TypeId) (fr : Nat × Nat), w.heap[k]? = some (.cells c t fr) -> t ≠ 5 -> w'.heap[k]? = some (.cells c t fr)
theorem K8.refl (w : World) : K8 w w := ⟨Nat.le_refl _, fun _ _ _ _ h _ => h⟩
theorem K8.trans {a b c : World} (h : K8 a b) (k : K8 b c) : K8 a c := ⟨Nat.le_trans h.size k.size, fun i d t fr hi ht => k.block i d t fr (h.block i d t fr hi ht) ht⟩
theorem K8.of {w w' : World} (h : Below w.heap.size w w') : K8 w w' := ⟨h.size, fun k _ _ _ hk _ => (h.block k (Array.getElem?_eq_some_iff.1 hk).1).trans hk⟩
theorem K8.alloc (w : World) (o : Obj) : K8 w (w.alloc o) := K8.of (below1 _ _)
theorem OwnB.k8 {w w' : World} {base : Nat} {v : Value} {l : List Int} (h : OwnB w base v l) (hg : w.grownBy w' v.ownBlock) : K8 w w' := by
 refine ⟨hg.size, fun k c t fr hk ht => ?_⟩
 rw [hg.block k (Array.getElem?_eq_some_iff.1 hk).1 (fun e => ?_)]
 ·exact hk
 ·rcases h.2 with ⟨rfl, -⟩ | ⟨g, cap, cur, rfl, -, hgg, -⟩
  ·cases e
  ·cases e
   rw [hgg] at hk
   cases hk
   exact ht rfl
theorem Blk.k8 {w w' : World} {g : Nat} {c : Array Value} {t : TypeId} (h : Blk w g c t) (hk : K8 w w') (ht : t ≠ 5) : Blk w' g c t := hk.block _ _ _ _ h ht
structure Wr (w : World) (base : Nat) (l : List Int) (v' : Value) (w' : World) : Prop where
 own : OwnB w' base v' l
 low : Below base w w'
 k8 : K8 w w'
theorem app8 {ops : Array Oper} {rest : List Oper} {o : Oper} {a : Act} {Q : Exit -> Act -> World -> Prop} {w : World} (hgd : o.guard = none) (s x : Operand)
  (ho : o.op = .call { callee := .builtin .append, args := #[s, x], argTypes := #[26, 26] }) (base : Nat) (v : Value) (l : List Int) (hs : a.eval s = v) (hown : OwnB w base v l)
  (b : Nat) (news : List Int) (hx : a.eval x = .slice (some ⟨b, 0, none⟩) news.length news.length) (hblk : w.heap[b]? = some (.cells (ibs news).toArray 5 (0, 0))) (hm : 0 < news.length) (hlen : l.length + news.length <= 1000000000000) (hbase : base <= w.heap.size)
  (h : ∀ v' w', Wr w base (l ++ news) v' w' -> wpList Tryz.prog ops Q rest (a.put o.dst v') w') : wpList Tryz.prog ops Q (o :: rest) a w := by
 obtain ⟨i, z, hi, hz0, hz1, hz2, hz3⟩ := infoU8_parts
 refine wpList_append_lies _ hgd s x 26 ho base 5 i z 1 1 Tryz.underlying26 hi hz0 hz1 hz2 hz3 (by omega) v l.length (ibs l) hs hown ⟨b, 0, none⟩ news.length news.length (ibs news) hx (by simp [ibs]) ?_ (by simp [ibs, Value.oneCell']) hm (by unfold maxLen; omega) (by omega) hbase _ rfl ?_
 ·intro j u hj
  have := World.news_of_block (cs := (ibs news).toArray) (t := 5) (fr := (0, 0)) hblk j u
  exact this (by simpa using hj)
 ·intro g cap w' h1 h2 h3 h4
  refine h _ w' ⟨?_, grown_below h2 (fun k hk => (World.ownsRow.lt hown k hk).1) hbase, hown.k8 h2⟩
  unfold OwnB
  rw [List.length_append, show ibs (l ++ news) = ibs l ++ ibs news by simp [ibs]]
  exact h1
theorem app8s {ops : Array Oper} {rest : List Oper} {o : Oper} {a : Act} {Q : Exit -> Act -> World -> Prop} {w : World} (hgd : o.guard = none) (sl x : Operand)
  (ho : o.op = .call { callee := .builtin .append, args := #[sl, x], argTypes := #[26, 9] }) (base : Nat) (v : Value) (l : List Int) (hs : a.eval sl = v) (hown : OwnB w base v l) (s : ByteArray) (hx : a.eval x = .string s)
  (hlen : l.length + s.size <= 1000000000000) (hbase : base <= w.heap.size)
  (h : ∀ v' w', Wr w base (l ++ bl s) v' w' -> wpList Tryz.prog ops Q rest (a.put o.dst v') w') : wpList Tryz.prog ops Q (o :: rest) a w := by
 obtain ⟨i, hi, hz0, hz1, hz2⟩ := Tryz.zeroU8
 refine Lib.wpList_append_own_string _ hgd sl x 26 9 ho base 5 i Tryz.underlying26 Tryz.underlying9 hi hz0 hz1 hz2 v l.length (ibs l) hs hown s hx (by unfold maxLen; omega) (by omega) hbase ?_
 intro v' w' h1 h2 h3
 refine h v' w' ⟨?_, grown_below h2 (fun k hk => (World.ownsRow.lt hown k hk).1) hbase, hown.k8 h2⟩
 unfold OwnB
 rw [List.length_append, bl_len, show ibs (l ++ bl s) = ibs l ++ ibs (bl s) by simp [ibs], ibs_bl]
 exact h1
theorem app8w {ops : Array Oper} {rest : List Oper} {o : Oper} {a : Act} {Q : Exit -> Act -> World -> Prop} {w : World} (hgd : o.guard = none) (s x : Operand)
  (ho : o.op = .call { callee := .builtin .append, args := #[s, x], argTypes := #[26, 26] }) (base : Nat) (v : Value) (l : List Int) (hs : a.eval s = v) (hown : OwnB w base v l)
  (y : Value) (base' : Nat) (news : List Int) (hx : a.eval x = y) (hy : OwnB w base' y news) (hm : 0 < news.length) (hlen : l.length + news.length <= 1000000000000) (hbase : base <= w.heap.size)
  (h : ∀ v' w', Wr w base (l ++ news) v' w' -> wpList Tryz.prog ops Q rest (a.put o.dst v') w') : wpList Tryz.prog ops Q (o :: rest) a w := by
 obtain ⟨i, z, hi, hz0, hz1, hz2, hz3⟩ := infoU8_parts
 obtain ⟨g, cap, rfl, -, -⟩ := World.ownsRow.form hy hm
 refine wpList_append_lies _ hgd s x 26 ho base 5 i z 1 1 Tryz.underlying26 hi hz0 hz1 hz2 hz3 (by omega) v l.length (ibs l) hs hown ⟨g, 0, none⟩ news.length cap (ibs news) hx (by simp [ibs]) ?_ (by simp [ibs, Value.oneCell']) hm (by unfold maxLen; omega) (by omega) hbase _ rfl ?_
 ·intro j u hj
  exact World.ownsRow.cells hy (g := g) rfl j u hj
 ·intro g cap w' h1 h2 h3 h4
  refine h _ w' ⟨?_, grown_below h2 (fun k hk => (World.ownsRow.lt hown k hk).1) hbase, hown.k8 h2⟩
  unfold OwnB
  rw [List.length_append, show ibs (l ++ news) = ibs l ++ ibs news by simp [ibs]]
  exact h1
theorem be_take (k j : Nat) (n : Int) (h : j < k) : (be k n).take (j + 1) = (be k n).take j ++ [(n / (256 : Int) ^ (k - 1 - j)) % 256] := by
 induction k generalizing j with
 | zero => omega
 | succ k ih =>
  cases j with
  | zero => simp [be]
  | succ j =>
   simp only [be, List.take_succ_cons, List.cons_append, List.cons.injEq, true_and]
   rw [ih j (by omega)]
   congr 5
   omega
theorem pow8 (i : Nat) : (2 : Int) ^ (8 * i) = (256 : Int) ^ i := by
 rw [Int.pow_mul]; rfl
set_option maxRecDepth 20000 in
set_option maxHeartbeats 1000000 in
theorem putNumber_any (k : Nat) (hk : k <= 8) (n : Int) (v : Value) (l : List Int) (base : Nat) (w : World) (h : OwnB w base v l) (hl : l.length <= 900000000000) (hB : base <= w.heap.size) :
  Calls Tryz.prog 57 #[v, .int .i64 k, .int .u64 n] w fun e w' => ∃ v', e = .returned v' /\ Wr w base (l ++ be k n) v' w' := by
 have HO : Hid (OwnB w base v l) := h
 clear h
 go_enter Tryz.func57, Tryz.ntmps57
 go_wp2
 go_loopg [0, 7] k (fun g u i wr => ∃ j : Nat, j + g = k /\ i = .int .i64 ((g : Int) - 1) /\ Wr w base (l ++ (be k n).take j) u wr)
 case atStart => exact ⟨0, by omega, by simp, by rw [List.take_zero, List.append_nil]; exact ⟨HO.out, Below.refl _ _, K8.refl _⟩⟩
 case round =>
  obtain ⟨j, hj, rfl, hw⟩ := hrel
  have HW : Hid (Wr w base (l ++ (be k n).take j) u0 wr) := hw
  have hsz := hw.low.size
  clear hw
  cases gk with
  | succ g =>
   have e1 : ((g + 1 : Nat) : Int) - 1 = (g : Int) := by omega
   rw [e1]
   have i0 : (0 : Int) <= (g : Int) := by omega
   have i8 : (g : Int) <= 7 := by omega
   have hlen : (l ++ (be k n).take j).length <= 900000080000 := by rw [List.length_append, List.length_take, be_len]; omega
   go_wp2_with (at_builtin; refine app8 rfl _ _ rfl base u0 (l ++ (be k n).take j) rfl (HW.out.own.later (below1 _ _)) wr.heap.size [n / 2 ^ (8 * g) % 256] rfl (heap_alloc_new wr _) (by simp) (by simp only [List.length_cons, List.length_nil]; omega) (by simp; omega) ?_; intro v' w1 ho1)
   go_roundg g
   case measure => omega
   case rel =>
    refine ⟨j + 1, by omega, by go_num, ?_⟩
    have e : l ++ (be k n).take (j + 1) = l ++ (be k n).take j ++ [n / 2 ^ (8 * g) % 256] := by rw [be_take k j n (by omega), pow8, <- List.append_assoc]; congr 5; omega
    rw [e]
    exact ⟨ho1.own, HW.out.low.trans (((below1 _ _).mono (by omega)).trans ho1.low), HW.out.k8.trans ((K8.alloc _ _).trans ho1.k8)⟩
  | zero =>
   obtain rfl : j = k := by omega
   go_wp2
   go_ret
   refine ⟨_, rfl, ?_⟩
   have := HW.out
   rwa [List.take_of_length_le (by rw [be_len]; exact Nat.le_refl _)] at this
theorem Wr.step {w w1 w2 : World} {base : Nat} {l m : List Int} {v v2 : Value} (h : Wr w base l v w1) (k : Wr w1 base m v2 w2) : Wr w base m v2 w2 := ⟨k.own, h.low.trans k.low, h.k8.trans k.k8⟩
theorem Wr.ahead {w w1 w2 : World} {base : Nat} {m : List Int} {v2 : Value} (h : Below w.heap.size w w1) (hB : base <= w.heap.size) (k : Wr w1 base m v2 w2) : Wr w base m v2 w2 := ⟨k.own, (h.mono hB).trans k.low, (K8.of h).trans k.k8⟩
theorem putInt_any (n : Int) (v : Value) (l : List Int) (base : Nat) (w : World) (h : OwnB w base v l) (hl : l.length <= 900000000000) (hB : base <= w.heap.size) :
  Calls Tryz.prog 62 #[v, .int .i64 n] w fun e w' => ∃ v', e = .returned v' /\ Wr w base (l ++ be 8 (n % 18446744073709551616)) v' w' := by
 have HN : Hid (∀ x, Calls Tryz.prog 57 #[v, .int .i64 8, .int .u64 x] w fun e w' => ∃ v', e = .returned v' /\ Wr w base (l ++ be 8 x) v' w') := fun x => putNumber_any 8 (Nat.le_refl _) x v l base w h hl hB
 clear h
 go_enter Tryz.func62, Tryz.ntmps62
 go_wp2_with (go_at_call 57; refine (HN.out _).mono ?_; rintro e w1 ⟨v1, rfl, hw⟩)
 go_ret
 exact ⟨_, rfl, hw⟩
theorem be_one (n : Int) (h0 : 0 <= n) (h1 : n <= 255) : be 1 n = [n] := by
 simp [be]; omega
theorem putText_any (s : ByteArray) (hs : s.size <= 255) (v : Value) (l : List Int) (base : Nat) (w : World) (h : OwnB w base v l) (hl : l.length <= 800000000000) (hB : base <= w.heap.size) :
  Calls Tryz.prog 108 #[v, .string s] w fun e w' => ∃ v', e = .returned v' /\ Wr w base (l ++ sB s) v' w' := by
 have e1 : (s.size : Int) % 18446744073709551616 = (s.size : Int) := by omega
 have HN : Hid (Calls Tryz.prog 57 #[v, .int .i64 1, .int .u64 (s.size : Int)] w fun e w' => ∃ v', e = .returned v' /\ Wr w base (l ++ [(s.size : Int)]) v' w') := by
  have := putNumber_any 1 (by omega) (s.size : Int) v l base w h (by omega) hB
  rw [be_one _ (by omega) (by omega)] at this
  exact this
 have HS : Hid (l ++ sB s = l ++ [(s.size : Int)] ++ bl s) := by show _ = _; simp [sB]
 clear h
 go_enter Tryz.func108, Tryz.ntmps108
 go_wp2_with (first
  | (go_at_call 57; refine HN.out.mono ?_; rintro e w1 ⟨v1, rfl, hw⟩; have HW : Hid (Wr w base (l ++ [(s.size : Int)]) v1 w1) := hw; have hsz := hw.low.size; clear hw)
  | (at_builtin; refine app8s rfl _ _ rfl base v1 (l ++ [(s.size : Int)]) rfl HW.out.own s rfl (by simp; omega) (by omega) ?_; intro v2 w2 hw2))
 go_ret
 exact ⟨_, rfl, by rw [HS.out]; exact HW.out.step hw2⟩
end Go.Proofs.YtmbmchbninlhpaaGreatDoor
