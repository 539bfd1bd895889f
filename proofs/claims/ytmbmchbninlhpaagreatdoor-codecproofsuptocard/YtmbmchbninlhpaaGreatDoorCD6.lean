import Derived.Test.YtmbmchbninlhpaaGreatDoorCE1
import Derived.WalkLawsBesides
import Derived.Laws.BitsAllLaws
namespace Go.Proofs.YtmbmchbninlhpaaGreatDoor
open Go.RowKit

structure Bv (m B : Nat) (w w' : World) : Prop where
 os : w'.os = w.os
 tape : w'.tape = w.tape
 output : w'.output = w.output
 size : w.heap.size <= w'.heap.size
 block : ∀ k, k < B -> k ≠ m -> w'.heap[k]? = w.heap[k]?
theorem Bv.of {m B : Nat} {w w' : World} (h : Below B w w') : Bv m B w w' := ⟨h.os, h.tape, h.output, h.size, fun k hk _ => h.block k hk⟩
theorem Bv.refl (m B : Nat) (w : World) : Bv m B w w := Bv.of (Below.refl _ _)
theorem Bv.trans {m B : Nat} {a b c : World} (h : Bv m B a b) (k : Bv m B b c) : Bv m B a c :=
 ⟨k.os.trans h.os, k.tape.trans h.tape, k.output.trans h.output, Nat.le_trans h.size k.size, fun i hi hm => (k.block i hi hm).trans (h.block i hi hm)⟩
theorem Bv.mono {m B B' : Nat} {w w' : World} (h : Bv m B w w') (hB : B' <= B) : Bv m B' w w' := ⟨h.os, h.tape, h.output, h.size, fun k hk => h.block k (Nat.lt_of_lt_of_le hk hB)⟩
theorem Bv.step {m : Nat} {W w' w3 : World} (h : Bv m W.heap.size W w') (h3 : Bv m w'.heap.size w' w3) : Bv m W.heap.size W w3 := h.trans (h3.mono h.size)
theorem Bv.cell {m B : Nat} {w w' : World} (h : Bv m B w w') {p : Addr} (hp : p.block < B) (hm : p.block ≠ m) : w'.cell? p = w.cell? p := World.cell?_of_block (w := w) (h.block p.block hp hm)
theorem cell_stepV {m B : Nat} {w' w3 : World} {b o : Nat} {v : Value} (h3 : Bv m B w' w3) (hb : b < B) (hm : b ≠ m) (hc : w'.cell? ⟨b, o, none⟩ = some v) : w3.cell? ⟨b, o, none⟩ = some v := by
 rw [h3.cell (p := ⟨b, o, none⟩) hb hm]; exact hc
theorem Bv.below {m B : Nat} {w w' : World} (h : Bv m B w w') (hm : B <= m) : Below B w w' := ⟨h.os, h.tape, h.output, h.size, fun k hk => h.block k hk (by omega)⟩
def Bg (g : Nat) (w : World) (v : Value) (l : List Int) : Prop := ∃ b o cap, v = .slice (some ⟨b, o, none⟩) l.length cap /\ l.length <= cap /\ l.length < 1000000000000000000 /\ b < g /\ b < w.heap.size /\ ∀ (i : Nat) (x : Int), l[i]? = some x -> w.cell? ⟨b, o + i, none⟩ = some (.int .u8 x)
theorem Bg.bl {g : Nat} {w w' : World} {v : Value} {l : List Int} (h : Bg g w v l) (hb : Bv g w.heap.size w w') : Bg g w' v l := by
 obtain ⟨b, o, cap, rfl, h0, h1, h2, h3, h4⟩ := h
 exact ⟨b, o, cap, rfl, h0, h1, h2, Nat.lt_of_lt_of_le h3 hb.size, fun i x hx => cell_stepV hb h3 (by omega) (h4 i x hx)⟩
theorem Bg.bn {g : Nat} {w : World} {v : Value} {l : List Int} (h : Bg g w v l) : Bn w v l := by
 obtain ⟨b, o, cap, rfl, h0, h1, h2, h3, h4⟩ := h
 exact ⟨_, cap, rfl, by omega, by omega, Or.inr ⟨b, o, rfl, h3, h4⟩⟩
def RdS (w : World) (g : Nat) (l : List Int) : Prop := byt l /\ ∃ v, Blk w g #[v] 112 /\ Bg g w v l
theorem RdS.below {w w' : World} {g : Nat} {l : List Int} (h : RdS w g l) (hb : Below w.heap.size w w') : RdS w' g l := by
 obtain ⟨hy, v, h1, h2⟩ := h
 exact ⟨hy, v, h1.later hb, h2.bl (Bv.of hb)⟩
theorem RdS.off {w : World} {g G i : Nat} {c : Value} {l : List Int} (h : RdS w g l) (hG : g < G) : RdS (w.setCell ⟨G, i, none⟩ c) g l := by
 obtain ⟨hy, v, h1, b, o, cap, rfl, h0, h2, h3, h4, h5⟩ := h
 refine ⟨hy, _, ?_, b, o, cap, rfl, h0, h2, h3, by simpa using h4, fun j x hx => ?_⟩
 ·exact (heap_setCell_other _ _ _ _ (by show g ≠ G; omega)).trans h1
 ·have hne : (⟨G, i, none⟩ : Addr) ≠ ⟨b, o + j, none⟩ := by intro e; injection e; omega
  have := World.cell?_setCell_other w ⟨G, i, none⟩ ⟨b, o + j, none⟩ c hne
  rw [this]; exact h5 j x hx
theorem RdS.lt {w : World} {g : Nat} {l : List Int} (h : RdS w g l) : g < w.heap.size := by
 obtain ⟨hy, v, h1, -⟩ := h
 exact h1.lt
theorem Blk.bl {g : Nat} {w w' : World} {k : Nat} {c : Array Value} {t : TypeId} (h : Blk w k c t) (hb : Bv g w.heap.size w w') (hk : k ≠ g) : Blk w' k c t := (hb.block _ h.lt hk).trans h
theorem bset3V {m B : Nat} {W V : World} {G i j q : Nat} {a b c : Value} (h : Bv m B W V) (hg : B <= G) : Bv m B W (((V.setCell ⟨G, i, none⟩ a).setCell ⟨G, j, none⟩ b).setCell ⟨G, q, none⟩ c) :=
 h.trans (Bv.of ((((Below.refl _ _).setCell (p := ⟨G, i, none⟩) hg _).setCell (p := ⟨G, j, none⟩) hg _).setCell (p := ⟨G, q, none⟩) hg _))
def pE (c : Int) : PanicEntry := { v := .iface 29 (.int .i64 c), recovered := false }
theorem Blk.one {w : World} {g : Nat} {v : Value} {t : TypeId} (h : Blk w g #[v] t) : w.cell? ⟨g, 0, none⟩ = some v /\ w.frozen? ⟨g, 0, none⟩ = false := by
 unfold Blk at h
 constructor
 ·simp [World.cell?, h]
 ·simp [World.frozen?, h]
theorem Blk.setOne {w : World} {g : Nat} {v u : Value} {t : TypeId} (h : Blk w g #[v] t) : Blk (w.setCell ⟨g, 0, none⟩ u) g #[u] t := heap_setCell_same _ _ _ _ _ _ h
theorem Bv.set {g : Nat} (w : World) (o : Nat) (u : Value) (B : Nat) : Bv g B w (w.setCell ⟨g, o, none⟩ u) := by
 have := Below.setCell (Below.refl g w) (p := ⟨g, o, none⟩) (Nat.le_refl _) u
 exact ⟨this.os, this.tape, this.output, this.size, fun k _ hk => heap_setCell_other _ _ _ _ hk⟩
theorem giveUp_any (c : Int) (w : World) : Calls Tryz.prog 79 #[.int .i64 c] w fun e w' => e = .panicked [pE c] /\ w' = w := by
 go_enter Tryz.func79, Tryz.ntmps79
 go_wp2
 exact ⟨rfl, rfl, rfl⟩
set_option maxRecDepth 20000 in
set_option maxHeartbeats 1000000 in
theorem take_no (n : Nat) (g : Nat) (l : List Int) (w : World) (h : RdS w g l) (hn : l.length < n) :
  Calls Tryz.prog 145 #[.pointer (some ⟨g, 0, none⟩), .int .i64 n] w fun e w' => e = .panicked [pE 61] /\ w' = w := by
 obtain ⟨hy, v, h1, b, o, cap, rfl, h2, h3, h4, h5, h6⟩ := h
 obtain ⟨c0, -⟩ := h1.one
 have i1 : (l.length : Int) < (n : Int) := by omega
 clear h1 h6
 go_enter Tryz.func145, Tryz.ntmps145
 go_wp2_with (go_at_call 79; refine (giveUp_any 61 _).mono ?_; rintro e w1 ⟨rfl, rfl⟩)
 exact ⟨rfl, rfl, rfl⟩
theorem Bg.cut {g : Nat} {w : World} {b o cap : Nat} {l : List Int} (n : Nat) (hn : n <= l.length) (h2 : l.length <= cap) (h3 : l.length < 1000000000000000000) (h4 : b < g) (h5 : b < w.heap.size) (h6 : ∀ (i : Nat) (x : Int), l[i]? = some x -> w.cell? ⟨b, o + i, none⟩ = some (.int .u8 x)) :
  Bg g w (.slice (some ⟨b, o, none⟩) n cap) (l.take n) /\ Bg g w (.slice (some ⟨b, o + n, none⟩) (l.length - n) (cap - n)) (l.drop n) := by
 have e1 : (l.take n).length = n := by rw [List.length_take]; omega
 have e2 : (l.drop n).length = l.length - n := List.length_drop
 refine ⟨⟨b, o, cap, by rw [e1], by omega, by omega, h4, h5, fun i x hx => ?_⟩, ⟨b, o + n, cap - n, by rw [e2], by omega, by omega, h4, h5, fun i x hx => ?_⟩⟩
 ·have : i < n := by have := (List.getElem?_eq_some_iff.1 hx).1; omega
  rw [List.getElem?_take_of_lt this] at hx
  exact h6 i x hx
 ·rw [List.getElem?_drop] at hx
  rw [Nat.add_assoc]; exact h6 _ x hx
set_option maxRecDepth 20000 in
set_option maxHeartbeats 1000000 in
theorem take_ok (n : Nat) (g : Nat) (l : List Int) (w : World) (h : RdS w g l) (hn : n <= l.length) :
  Calls Tryz.prog 145 #[.pointer (some ⟨g, 0, none⟩), .int .i64 n] w fun e w' => ∃ v, e = .returned v /\ Bg g w' v (l.take n) /\ RdS w' g (l.drop n) /\ Bv g w.heap.size w w' := by
 obtain ⟨hy, v, h1, b, o, cap, rfl, h2, h3, h4, h5, h6⟩ := h
 obtain ⟨c0, f0⟩ := h1.one
 have H1 : Hid (Blk w g #[.slice (some ⟨b, o, none⟩) l.length cap] 112) := h1
 have HC : Hid (∀ W : World, b < W.heap.size -> (∀ (i : Nat) (x : Int), l[i]? = some x -> W.cell? ⟨b, o + i, none⟩ = some (.int .u8 x)) -> Bg g W (.slice (some ⟨b, o, none⟩) n cap) (l.take n) /\ Bg g W (.slice (some ⟨b, o + n, none⟩) (l.length - n) (cap - n)) (l.drop n)) := fun W hW hc => Bg.cut n hn h2 h3 h4 hW hc
 have H6 : Hid (∀ (i : Nat) (x : Int), l[i]? = some x -> w.cell? ⟨b, o + i, none⟩ = some (.int .u8 x)) := h6
 have i1 : ¬ (l.length : Int) < (n : Int) := by omega
 have i2 : (n : Int) <= (l.length : Int) := by omega
 have i3 : (0 : Int) <= (n : Int) := by omega
 have i4 : (n : Int) <= (cap : Int) := by omega
 have i5 : (l.length : Int) <= (cap : Int) := by omega
 by_cases i6 : cap = n
 ·have hl : l.length = n := by omega
  have HD : Hid (byt (l.drop n)) := fun x hx => hy x (List.mem_of_mem_drop hx)
  have HZ : Hid (∀ W : World, b < W.heap.size -> Bg g W (.slice (some ⟨b, o, none⟩) 0 0) (l.drop n)) := fun W hW => ⟨b, o, 0, by rw [List.length_drop, show l.length - n = 0 by omega], by rw [List.length_drop]; omega, by rw [List.length_drop]; omega, h4, hW, fun i x hx => by rw [List.getElem?_drop] at hx; have := (List.getElem?_eq_some_iff.1 hx).1; omega⟩
  have HY : Hid (∀ W : World, b < W.heap.size -> (∀ (i : Nat) (x : Int), l[i]? = some x -> W.cell? ⟨b, o + i, none⟩ = some (.int .u8 x)) -> Bg g W (.slice (some ⟨b, o, none⟩) n n) (l.take n)) := fun W hW hc => by have := (HC.out W hW hc).1; rwa [i6] at this
  clear h1 h6 hy
  go_enter Tryz.func145, Tryz.ntmps145
  go_wp2
  go_ret
  have hB : Bv g w.heap.size w (w.setCell ⟨g, 0, none⟩ (.slice (some ⟨b, o, none⟩) 0 0)) := Bv.set _ _ _ _
  exact ⟨_, rfl, HY.out _ (by simpa using h5) (fun i x hx => cell_stepV hB h5 (by omega) (H6.out i x hx)), ⟨HD.out, _, H1.out.setOne, HZ.out _ (by simpa using h5)⟩, hB⟩
 ·have HD : Hid (byt (l.drop n)) := fun x hx => hy x (List.mem_of_mem_drop hx)
  clear h1 h6 hy
  go_enter Tryz.func145, Tryz.ntmps145
  go_wp2
  go_ret
  have hB : Bv g w.heap.size w (w.setCell ⟨g, 0, none⟩ (.slice (some ⟨b, o + n, none⟩) (l.length - n) (cap - n))) := Bv.set _ _ _ _
  obtain ⟨x1, x2⟩ := HC.out (w.setCell ⟨g, 0, none⟩ (.slice (some ⟨b, o + n, none⟩) (l.length - n) (cap - n))) (by simpa using h5) (fun i x hx => cell_stepV hB h5 (by omega) (H6.out i x hx))
  exact ⟨_, rfl, x1, ⟨HD.out, _, H1.out.setOne, x2⟩, hB⟩
set_option maxRecDepth 20000 in
theorem or8 (n b : Int) (h0 : 0 <= n) (h1 : n < 72057594037927936) (h2 : 0 <= b) (h3 : b <= 255) : bits BinOp.or IntKind.u64 (n * 256) b = n * 256 + b := by
 obtain ⟨m, rfl⟩ : ∃ m : Nat, n = m := ⟨n.toNat, by omega⟩
 obtain ⟨c, rfl⟩ : ∃ c : Nat, b = c := ⟨b.toNat, by omega⟩
 have e : m * 256 ||| c = m * 256 + c := by
  have := Nat.shiftLeft_add_eq_or_of_lt (b := c) (i := 8) (by omega) m
  rw [Nat.shiftLeft_eq] at this
  exact this.symm
 have h := u64_or_nat (m * 256) c (by omega) (by omega)
 have e1 : ((m * 256 : Nat) : Int) = (m : Int) * 256 := by omega
 have e2 : ((m * 256 + c : Nat) : Int) = (m : Int) * 256 + c := by omega
 rw [e, e2, e1] at h
 exact h
theorem pow7 {n : Nat} (h : n <= 7) : (256 : Int) ^ n <= 72057594037927936 := by
 have : n = 0 ∨ n = 1 ∨ n = 2 ∨ n = 3 ∨ n = 4 ∨ n = 5 ∨ n = 6 ∨ n = 7 := by omega
 rcases this with rfl | rfl | rfl | rfl | rfl | rfl | rfl | rfl <;> decide
set_option maxRecDepth 20000 in
set_option maxHeartbeats 1000000 in
theorem number_ok (k : Nat) (hk : k <= 8) (g : Nat) (l : List Int) (w : World) (h : RdS w g l) (hn : k <= l.length) :
  Calls Tryz.prog 112 #[.pointer (some ⟨g, 0, none⟩), .int .i64 k] w fun e w' => e = .returned (.int .u64 (val (l.take k))) /\ RdS w' g (l.drop k) /\ Bv g w.heap.size w w' := by
 have HT : Hid (Calls Tryz.prog 145 #[.pointer (some ⟨g, 0, none⟩), .int .i64 k] w fun e w' => ∃ v, e = .returned v /\ Bg g w' v (l.take k) /\ RdS w' g (l.drop k) /\ Bv g w.heap.size w w') := take_ok k g l w h hn
 have hy : byt (l.take k) := fun x hx => h.1 x (List.mem_of_mem_take hx)
 have hlen : (l.take k).length = k := by rw [List.length_take]; omega
 generalize l.take k = m at *
 have HY : Hid (byt m) := hy
 clear h hy
 go_enter Tryz.func112, Tryz.ntmps112
 go_wp2_with (go_at_call 145; refine HT.out.mono ?_; rintro e w1 ⟨v, rfl, hg, hr, hb⟩; have HR : Hid (RdS w1 g (l.drop k) /\ Bv g w.heap.size w w1) := ⟨hr, hb⟩; obtain ⟨b, o, cap, rfl, -, -, -, -, hc⟩ := hg; have HC : Hid (∀ (i : Nat) (x : Int), m[i]? = some x -> w1.cell? ⟨b, o + i, none⟩ = some (.int .u8 x)) := hc; clear hr hb hc)
 go_loopg [5, 12] m.length (fun j' u i wr => wr = w1 /\ ∃ j : Nat, j + j' = m.length /\ i = .int .i64 j /\ u = .int .u64 (val (m.take j)))
 case atStart => exact ⟨rfl, 0, by omega, rfl, rfl⟩
 case round =>
  obtain ⟨rfl, j, hj, rfl, rfl⟩ := hrel
  cases gk with
  | succ g' =>
   have hlt : j < m.length := by omega
   obtain ⟨x, hx⟩ : ∃ x, m[j]? = some x := ⟨_, List.getElem?_eq_getElem hlt⟩
   have c0 := HC.out j x hx
   have hxr := HY.out x (List.mem_of_getElem? hx)
   have hv := val_rng (l := m.take j) (fun y hy => HY.out y (List.mem_of_mem_take hy))
   have HS : Hid (val (m.take (j + 1)) = val (m.take j) * 256 + x) := by show _ = _; rw [List.take_add_one, hx]; exact val_snoc _ _
   generalize val (m.take j) = q at *
   have hq : q < 72057594037927936 := by
    have e1 : (m.take j).length <= 7 := by rw [List.length_take]; omega
    have e2 := pow7 e1
    omega
   have hor := or8 q x hv.1 hq hxr.1 hxr.2
   have i1 : (0 : Int) <= (j : Int) := by omega
   have i2 : (j : Int) < (m.length : Int) := by omega
   have hv0 := hv.1
   have hx0 := hxr.1
   have hx1 := hxr.2
   clear hv hx hxr
   go_wp2
   go_roundg g'
   case measure => omega
   case rel => exact ⟨rfl, j + 1, by omega, by go_num, by rw [HS.out]⟩
  | zero =>
   obtain rfl : j = m.length := by omega
   have hz : ¬ ((m.length : Int) < (k : Int)) := by omega
   have HV : Hid (val (m.take m.length) = val m) := by show _ = _; rw [List.take_length]
   generalize val (m.take m.length) = q at *
   go_wp2
   go_ret
   exact ⟨by rw [HV.out]; rfl, HR.out⟩
set_option maxRecDepth 20000 in
set_option maxHeartbeats 1000000 in
theorem number_no (k : Nat) (g : Nat) (l : List Int) (w : World) (h : RdS w g l) (hn : l.length < k) :
  Calls Tryz.prog 112 #[.pointer (some ⟨g, 0, none⟩), .int .i64 k] w fun e w' => e = .panicked [pE 61] /\ w' = w := by
 have HT : Hid (Calls Tryz.prog 145 #[.pointer (some ⟨g, 0, none⟩), .int .i64 k] w fun e w' => e = .panicked [pE 61] /\ w' = w) := take_no k g l w h hn
 clear h
 go_enter Tryz.func112, Tryz.ntmps112
 go_wp2_with (go_at_call 145; refine HT.out.mono ?_; rintro e w1 ⟨rfl, rfl⟩)
 exact ⟨rfl, rfl, rfl⟩
def RdP {α : Type} (g : Nat) (w : World) (V : α -> Value -> World -> Prop) (r : Rd α) (e : Ending) (w' : World) : Prop :=
 Bv g w.heap.size w w' /\ match r with
  | .ok (a, rest) => ∃ v, e = .returned v /\ V a v w' /\ RdS w' g rest
  | .error c => e = .panicked [pE c]
theorem number_any (k : Nat) (hk : k <= 8) (g : Nat) (l : List Int) (w : World) (h : RdS w g l) :
  Calls Tryz.prog 112 #[.pointer (some ⟨g, 0, none⟩), .int .i64 k] w (RdP g w (fun n v _ => v = .int .u64 n /\ 0 <= n /\ n < (256 : Int) ^ k) (rNum k l)) := by
 unfold rNum rTake
 split
 ·rename_i hn
  exact (number_no k g l w h hn).mono (by rintro e w' ⟨rfl, rfl⟩; exact ⟨Bv.refl _ _ _, rfl⟩)
 ·rename_i hn
  have hv := val_rng (l := l.take k) (fun y hy => h.1 y (List.mem_of_mem_take hy))
  rw [show (l.take k).length = k by rw [List.length_take]; omega] at hv
  exact (number_ok k hk g l w h (by omega)).mono (by rintro e w' ⟨rfl, h1, h2⟩; exact ⟨h2, _, rfl, ⟨rfl, hv.1, hv.2⟩, h1⟩)
theorem RdP.err {α : Type} {f : FuncId} {args : Array Value} {g : Nat} {w : World} {V : α -> Value -> World -> Prop} {r : Rd α} {c : Int} (h : Calls Tryz.prog f args w (RdP g w V r)) (hr : r = .error c) :
  Calls Tryz.prog f args w fun e w' => e = .panicked [pE c] /\ Bv g w.heap.size w w' := by
 subst hr
 exact h.mono fun e w' h => ⟨h.2, h.1⟩
theorem RdP.ok {α : Type} {f : FuncId} {args : Array Value} {g : Nat} {w : World} {V : α -> Value -> World -> Prop} {r : Rd α} {a : α} {rest : List Int} (h : Calls Tryz.prog f args w (RdP g w V r)) (hr : r = .ok (a, rest)) :
  Calls Tryz.prog f args w fun e w' => ∃ v, e = .returned v /\ V a v w' /\ RdS w' g rest /\ Bv g w.heap.size w w' := by
 subst hr
 exact h.mono fun e w' h => by obtain ⟨hb, v, h1, h2, h3⟩ := h; exact ⟨v, h1, h2, h3, hb⟩
end Go.Proofs.YtmbmchbninlhpaaGreatDoor
