import Derived.Test.YtmbmchbninlhpaaGreatDoorCE1
import Derived.Test.YtmbmchbninlhpaaGreatDoorCD10
namespace Go.Proofs.YtmbmchbninlhpaaGreatDoor
open Go.RowKit

def Bq (g : Nat) (w : World) (v : Value) (B : List Int) : Prop := ∃ a cap, v = .slice a B.length cap /\ B.length <= cap /\ B.length < 1000000000000000000 /\ (B = [] ∨ ∃ b o, a = some ⟨b, o, none⟩ /\ b < g /\ b < w.heap.size /\ ∀ (i : Nat) (x : Int), B[i]? = some x -> w.cell? ⟨b, o + i, none⟩ = some (.int .u8 x))
theorem Bq.bl {g : Nat} {w w' : World} {v : Value} {B : List Int} (h : Bq g w v B) (hb : Bv g w.heap.size w w') : Bq g w' v B := by
 obtain ⟨a, cap, rfl, h0, h1, h⟩ := h
 refine ⟨a, cap, rfl, h0, h1, h.imp id ?_⟩
 rintro ⟨b, o, rfl, h2, h3, h4⟩
 exact ⟨b, o, rfl, h2, Nat.lt_of_lt_of_le h3 hb.size, fun i x hx => cell_stepV hb h3 (by omega) (h4 i x hx)⟩
def RqS (w : World) (g : Nat) (B : List Int) (s : Qs) : Prop := byt B /\ s.at_ <= B.length /\ ∃ v, Blk w g #[v, .int .i64 s.at_, .int .i64 s.er] 79 /\ Bq g w v B
theorem RqS.lt {w : World} {g : Nat} {B : List Int} {s : Qs} (h : RqS w g B s) : g < w.heap.size := h.2.2.choose_spec.1.lt
theorem RqS.low {w w' : World} {g k : Nat} {B : List Int} {s : Qs} (h : RqS w g B s) (hb : Below k w w') (hg : g < k) : RqS w' g B s := by
 obtain ⟨hy, hs, v, h1, a, cap, rfl, h2, h3, h⟩ := h
 refine ⟨hy, hs, _, (hb.block g hg).trans h1, a, cap, rfl, h2, h3, h.imp id ?_⟩
 rintro ⟨b, o, rfl, h4, h5, h6⟩
 refine ⟨b, o, rfl, h4, Nat.lt_of_lt_of_le h5 hb.size, fun i x hx => ?_⟩
 rw [hb.cell (p := ⟨b, _, none⟩) (by show b < k; omega)]
 exact h6 i x hx
theorem RqS.below {w w' : World} {g : Nat} {B : List Int} {s : Qs} (h : RqS w g B s) (hb : Below w.heap.size w w') : RqS w' g B s := h.low hb h.lt
theorem RqS.off {w : World} {g G i : Nat} {c : Value} {B : List Int} {s : Qs} (h : RqS w g B s) (hG : g < G) : RqS (w.setCell ⟨G, i, none⟩ c) g B s :=
 h.low ((Below.refl G w).setCell (p := ⟨G, i, none⟩) (Nat.le_refl _) c) hG
theorem RqS.setAt {w : World} {g : Nat} {B : List Int} {s : Qs} (h : RqS w g B s) (n : Nat) (hn : n <= B.length) : RqS (w.setCell ⟨g, 1, none⟩ (.int .i64 n)) g B ⟨n, s.er⟩ := by
 obtain ⟨hy, hs, v, h1, hq⟩ := h
 exact ⟨hy, hn, v, heap_setCell_same _ _ _ _ _ _ h1, hq.bl (Bv.set _ _ _ _)⟩
theorem RqS.setEr {w : World} {g : Nat} {B : List Int} {s : Qs} (h : RqS w g B s) (c : Int) : RqS (w.setCell ⟨g, 2, none⟩ (.int .i64 c)) g B ⟨s.at_, c⟩ := by
 obtain ⟨hy, hs, v, h1, hq⟩ := h
 exact ⟨hy, hs, v, heap_setCell_same _ _ _ _ _ _ h1, hq.bl (Bv.set _ _ _ _)⟩
theorem RqS.cells {w : World} {g : Nat} {B : List Int} {s : Qs} (h : RqS w g B s) : ∃ a cap, w.cell? ⟨g, 0, none⟩ = some (.slice a B.length cap) /\ w.cell? ⟨g, 1, none⟩ = some (.int .i64 s.at_) /\ w.cell? ⟨g, 2, none⟩ = some (.int .i64 s.er) /\ w.frozen? ⟨g, 1, none⟩ = false /\ w.frozen? ⟨g, 2, none⟩ = false := by
 obtain ⟨hy, hs, v, h1, a, cap, rfl, -⟩ := h
 obtain ⟨c0, c1, c2, -, f1, f2⟩ := three h1
 exact ⟨a, cap, c0, c1, c2, f1, f2⟩
theorem qstop_any (c : Int) (g : Nat) (B : List Int) (s : Qs) (w : World) (h : RqS w g B s) :
  Calls Tryz.prog 53 #[.pointer (some ⟨g, 0, none⟩), .int .i64 c] w fun e w' => e = .returned (.tuple #[]) /\ RqS w' g B (stp c s) /\ Bv g w.heap.size w w' := by
 have H : Hid (RqS w g B s) := h
 obtain ⟨a, cap, c0, c1, c2, f1, f2⟩ := h.cells
 clear h
 obtain ⟨at_, er⟩ := s
 simp only at c1 c2
 by_cases he : er = 0
 ·subst he
  go_enter Tryz.func53, Tryz.ntmps53
  go_wp2
  go_end0
  exact ⟨rfl, by rw [stp_0 rfl]; exact H.out.setEr c, Bv.set _ _ _ _⟩
 ·have he' : (er == 0) = false := beq_eq_false_iff_ne.2 he
  go_enter Tryz.func53, Tryz.ntmps53
  go_wp2
  go_end0
  exact ⟨rfl, by rw [stp_ne he]; exact H.out, Bv.refl _ _ _⟩
theorem run_cut (w : World) (a : Option Addr) (len cap l h : Nat) (h1 : l <= h) (h2 : h <= cap) :
  (Instr.slice 26 (.slice a len cap) (some (.int .i64 (l : Int))) (some (.int .i64 (h : Int))) none).run Tryz.prog w = .ok (.slice (if cap = l then a else a.map (·.add l)) (h - l) (cap - l)) w := by
 obtain ⟨i, z, hi, hz0, hz1, hz2, hz3⟩ := infoU8_parts
 have e1 := run_sliceBound (P := Tryz.prog) w .i64 (h : Int) cap .sliceAcap (by omega) (by omega)
 have e2 := run_sliceBound (P := Tryz.prog) w .i64 (l : Int) h .sliceB (by omega) (by omega)
 simp only [Int.toNat_natCast] at e1 e2
 simp [Instr.slice, run_underlying Tryz.underlying26, Instr.sliceBounds, e1, e2]
theorem Bq.cut {g : Nat} {w : World} {a : Option Addr} {cap l n : Nat} {B : List Int} (h : Bq g w (.slice a B.length cap) B) (hl : l + n <= B.length) : Bn w (.slice (if cap = l then a else a.map (·.add l)) n (cap - l)) ((B.drop l).take n) := by
 obtain ⟨a', cap', e, h0, h1, h⟩ := h
 cases e
 have e1 : ((B.drop l).take n).length = n := by rw [List.length_take, List.length_drop]; omega
 refine ⟨_, cap - l, by rw [e1], by omega, by omega, ?_⟩
 rcases h with rfl | ⟨b, o, rfl, h2, h3, h4⟩
 ·exact Or.inl (by simp)
 ·by_cases hn : n = 0
  ·exact Or.inl (by subst hn; simp)
  ·refine Or.inr ⟨b, o + l, ?_, h3, fun i x hx => ?_⟩
   ·rw [if_neg (by omega)]; simp [Addr.add]
   ·have hi : i < n := by have := (List.getElem?_eq_some_iff.1 hx).1; omega
    rw [List.getElem?_take_of_lt hi, List.getElem?_drop] at hx
    rw [Nat.add_assoc]; exact h4 _ x hx
set_option maxRecDepth 20000 in
set_option maxHeartbeats 2000000 in
theorem qtake_any (n : Nat) (hn : n <= 255) (g : Nat) (B : List Int) (s : Qs) (w : World) (h : RqS w g B s) :
  Calls Tryz.prog 85 #[.pointer (some ⟨g, 0, none⟩), .int .i64 n] w fun e w' => ∃ v, e = .returned v /\ Bn w' v (qTake B n s).1 /\ RqS w' g B (qTake B n s).2 /\ Bv g w.heap.size w w' := by
 have H : Hid (RqS w g B s) := h
 have HBN : Hid (∀ X, Bn X (.slice none 0 0) []) := fun X => ⟨none, 0, rfl, Nat.le_refl _, by simp, Or.inl rfl⟩
 unfold qTake
 by_cases he : s.er = 0
 ·rw [if_neg (show ¬ s.er ≠ 0 by rw [he]; simp)]
  by_cases hl : B.length < s.at_ + n
  ·rw [if_pos hl]
   have HS : Hid (∀ X, RqS X g B s -> Calls Tryz.prog 53 #[.pointer (some ⟨g, 0, none⟩), .int .i64 61] X fun e w' => e = .returned (.tuple #[]) /\ RqS w' g B ⟨s.at_, 61⟩ /\ Bv g X.heap.size X w') := fun X hX => by
    have := qstop_any 61 g B s X hX
    rwa [stp_0 he] at this
   obtain ⟨a, cap, c0, c1, c2, f1, f2⟩ := h.cells
   have hle := h.2.1
   clear h
   obtain ⟨at_, er⟩ := s
   simp only at c1 c2 he hl hle
   subst he
   have i1 : (B.length : Int) - (at_ : Int) < (n : Int) := by omega
   have i2 : (B.length : Int) < 1000000000000000000 := by obtain ⟨-, -, v, -, a, cap, -, h0, h1, -⟩ := H.out; omega
   go_enter Tryz.func85, Tryz.ntmps85
   go_wp2
   go_quiet (fail)
   go_wp2_with (go_at_call 53; refine (HS.out _ (H.out.below (below_drewN (Below.refl _ _) _))).mono ?_; rintro e w1 ⟨rfl, hs1, hb1⟩)
   go_ret
   exact ⟨_, rfl, HBN.out _, hs1, (Bv.of (below_drewN (Below.refl _ _) _)).trans hb1⟩
  ·rw [if_neg hl]
   have HQ : Hid (RqS w g B s) := h
   obtain ⟨hy, hle, v, h1, hq⟩ := h
   have HQQ : Hid (∃ a cap, v = .slice a B.length cap /\ B.length <= cap /\ B.length < 1000000000000000000) := by obtain ⟨a, cap, e, h0, h1, -⟩ := hq; exact ⟨a, cap, e, h0, h1⟩
   obtain ⟨a, cap, rfl, h0, h3⟩ := HQQ.out
   obtain ⟨c0, c1, c2, -, f1, f2⟩ := three h1
   have HC : Hid (∀ X, Bv g w.heap.size w X -> Bn X (.slice (if cap = s.at_ then a else a.map (·.add s.at_)) n (cap - s.at_)) ((B.drop s.at_).take n)) := fun X hX => (hq.bl hX).cut (by omega)
   have HSL : Hid (∀ X : World, (Instr.slice 26 (.slice a B.length cap) (some (.int .i64 (s.at_ : Int))) (some (.int .i64 ((s.at_ : Int) + (n : Int)))) none).run Tryz.prog X = .ok (.slice (if cap = s.at_ then a else a.map (·.add s.at_)) n (cap - s.at_)) X) := fun X => by
    have := run_cut X a B.length cap s.at_ (s.at_ + n) (by omega) (by omega)
    rw [show s.at_ + n - s.at_ = n by omega] at this
    exact this
   generalize (if cap = s.at_ then a else a.map (·.add s.at_)) = a' at *
   clear hq h1 HQQ
   obtain ⟨at_, er⟩ := s
   simp only at c1 c2 he hl hle HSL HC
   subst he
   have HD : Hid (decide ((B.length : Int) - (at_ : Int) < (n : Int)) = false) := decide_eq_false (by omega)
   have i2 : (B.length : Int) < 1000000000000000000 := by omega
   have i3 : (at_ : Int) < 1000000000000000000 := by omega
   have i4 : (n : Int) <= 255 := by omega
   have HL : Hid (at_ + n <= B.length) := by show _ <= _; omega
   clear hl hle h0 h3
   go_enter Tryz.func85, Tryz.ntmps85
   go_wp2
   go_quiet (fail)
   rw [HD.out]
   clear i2
   go_wp2
   have hsl := HSL.out
   go_quiet (fail)
   clear hsl
   go_wp2
   go_ret
   have e1 : ((at_ + n : Nat) : Int) = (at_ : Int) + (n : Int) := by omega
   rw [<- e1]
   have hb : ∀ N, Bv g w.heap.size w ((w.drewN N).setCell ⟨g, 1, none⟩ (.int .i64 ((at_ + n : Nat) : Int))) := fun N => (Bv.of (below_drewN (Below.refl w.heap.size w) N)).trans (Bv.set (g := g) (w.drewN N) 1 (.int .i64 ((at_ + n : Nat) : Int)) w.heap.size)
   exact ⟨_, rfl, HC.out _ (hb _), (H.out.below (below_drewN (Below.refl _ _) _)).setAt (at_ + n) HL.out, hb _⟩
 ·rw [if_pos (show s.er ≠ 0 from he)]
  obtain ⟨a, cap, c0, c1, c2, f1, f2⟩ := h.cells
  clear h
  obtain ⟨at_, er⟩ := s
  simp only at c1 c2 he
  have he' : (er != 0) = true := by simpa using he
  go_enter Tryz.func85, Tryz.ntmps85
  go_wp2
  go_ret
  exact ⟨_, rfl, HBN.out _, H.out, Bv.refl _ _ _⟩
theorem qTake_facts {B : List Int} (hy : byt B) (n : Nat) (s : Qs) : byt (qTake B n s).1 /\ (qTake B n s).1.length <= n := by
 unfold qTake
 split
 ·exact ⟨fun x hx => by simp at hx, by simp⟩
 ·split
  ·exact ⟨fun x hx => by simp at hx, by simp⟩
  ·exact ⟨fun x hx => hy x (List.mem_of_mem_drop (List.mem_of_mem_take hx)), by simp only [List.length_take]; omega⟩
set_option maxRecDepth 20000 in
set_option maxHeartbeats 2000000 in
theorem qnumber_any (k : Nat) (hk : k <= 8) (g : Nat) (B : List Int) (s : Qs) (w : World) (h : RqS w g B s) :
  Calls Tryz.prog 41 #[.pointer (some ⟨g, 0, none⟩), .int .i64 k] w fun e w' => e = .returned (.int .u64 (qNum B k s).1) /\ RqS w' g B (qNum B k s).2 /\ Bv g w.heap.size w w' := by
 have HT : Hid (Calls Tryz.prog 85 #[.pointer (some ⟨g, 0, none⟩), .int .i64 k] w fun e w' => ∃ v, e = .returned v /\ Bn w' v (qTake B k s).1 /\ RqS w' g B (qTake B k s).2 /\ Bv g w.heap.size w w') := qtake_any k (by omega) g B s w h
 obtain ⟨hy, hlen⟩ := qTake_facts h.1 k s
 unfold qNum
 simp only
 generalize qTake B k s = q at *
 obtain ⟨m, s1⟩ := q
 simp only at *
 have HY : Hid (byt m) := hy
 clear h hy
 go_enter Tryz.func41, Tryz.ntmps41
 go_wp2_with (go_at_call 85; refine HT.out.mono ?_; rintro e w1 ⟨v, rfl, ⟨a, cap, rfl, -, -, hc⟩, hr, hb⟩; have HR : Hid (RqS w1 g B s1 /\ Bv g w.heap.size w w1) := ⟨hr, hb⟩; have HC : Hid (m = [] ∨ ∃ b o, a = some ⟨b, o, none⟩ /\ b < w1.heap.size /\ ∀ (i : Nat) (x : Int), m[i]? = some x -> w1.cell? ⟨b, o + i, none⟩ = some (.int .u8 x)) := hc; clear hr hb hc)
 go_loopg [6, 7] m.length (fun j' u i wr => wr = w1 /\ ∃ j : Nat, j + j' = m.length /\ i = .int .i64 j /\ u = .int .u64 (val (m.take j)))
 case atStart => exact ⟨rfl, 0, by omega, rfl, rfl⟩
 case round =>
  obtain ⟨rfl, j, hj, rfl, rfl⟩ := hrel
  cases gk with
  | succ g' =>
   have hlt : j < m.length := by omega
   obtain ⟨x, hx⟩ : ∃ x, m[j]? = some x := ⟨_, List.getElem?_eq_getElem hlt⟩
   rcases HC.out with hm | ⟨b, o, rfl, -, hc⟩
   ·subst hm; simp at hlt
   have c0 := hc j x hx
   have hxr := HY.out x (List.mem_of_getElem? hx)
   have hv := val_rng (l := m.take j) (fun y hy => HY.out y (List.mem_of_mem_take hy))
   have HS : Hid (val (m.take (j + 1)) = val (m.take j) * 256 + x) := by show _ = _; rw [List.take_add_one, hx]; exact val_snoc _ _
   generalize val (m.take j) = q at *
   have hq : q < 72057594037927936 := by
    have e1 : (m.take j).length <= 7 := by rw [List.length_take]; omega
    have e2 := pow7 e1
    omega
   have i1 : (0 : Int) <= (j : Int) := by omega
   have i2 : (j : Int) < (m.length : Int) := by omega
   have hv0 := hv.1
   have hx0 := hxr.1
   have hx1 := hxr.2
   clear hv hx hxr hc
   go_wp2
   go_roundg g'
   case measure => omega
   case rel => exact ⟨rfl, j + 1, by omega, by go_num, by rw [HS.out]⟩
  | zero =>
   obtain rfl : j = m.length := by omega
   have hz : ¬ ((m.length : Int) < (m.length : Int)) := by omega
   have HV : Hid (val (m.take m.length) = val m) := by show _ = _; rw [List.take_length]
   generalize val (m.take m.length) = q at *
   go_wp2
   go_ret
   exact ⟨by rw [HV.out]; rfl, HR.out⟩
end Go.Proofs.YtmbmchbninlhpaaGreatDoor
