import Derived.Test.YtmbmchbninlhpaaGreatDoorCD10
import Derived.Defers
import Derived.Recover
import Derived.Test.YtmbmchbninlhpaaGreatDoorCE4
import Derived.Test.YtmbmchbninlhpaaGreatDoorCG1
import Derived.Test.YtmbmchbninlhpaaGreatDoorCG3
import Derived.Test.YtmbmchbninlhpaaGreatDoorT4
import Derived.Test.YtmbmchbninlhpaaGreatDoorSD5
namespace Go.Proofs.YtmbmchbninlhpaaGreatDoor
open Go.RowKit

theorem run_assert (w : World) (v : Value) (x : TypeId) : (Instr.typeAssert (.iface 29 v) x 29 false).run Tryz.prog w = .ok v w := by
 simp [Instr.typeAssert, run_underlying Tryz.underlying29]
def Bh (w : World) (v : Value) (l : List Int) : Prop := byt l /\ ∃ b o cap, v = .slice (some ⟨b, o, none⟩) l.length cap /\ l.length <= cap /\ l.length < 1000000000000000000 /\ b < w.heap.size /\ ∀ (i : Nat) (x : Int), l[i]? = some x -> w.cell? ⟨b, o + i, none⟩ = some (.int .u8 x)
theorem Bh.rd {w : World} {v : Value} {l : List Int} (h : Bh w v l) {X : World} (hb : Below w.heap.size w X) : RdS (X.alloc (.cells #[v] 112)) X.heap.size l := by
 obtain ⟨hy, b, o, cap, rfl, h0, h1, h2, h3⟩ := h
 have hbb := hb.trans (((below1 X (.cells #[.slice (some ⟨b, o, none⟩) l.length cap] 112))).mono hb.size)
 exact ⟨hy, _, Blk.new _ _ _, b, o, cap, rfl, h0, h1, Nat.lt_of_lt_of_le h2 hb.size, Nat.lt_of_lt_of_le h2 hbb.size, fun i x hx => cell_step hbb h2 (h3 i x hx)⟩
theorem bcell1 {w : World} {g : Nat} {v : Value} {t : TypeId} (h : Blk w g #[v] t) : w.cell? ⟨g, 0, none⟩ = some v := h.one.1
def a0 : At := ⟨zt, ⟨#[]⟩, []⟩
theorem Bh.later {w w' : World} {v : Value} {l : List Int} (h : Bh w v l) (hb : Below w.heap.size w w') : Bh w' v l := by
 obtain ⟨hy, b, o, cap, rfl, h0, h1, h2, h3⟩ := h
 exact ⟨hy, b, o, cap, rfl, h0, h1, Nat.lt_of_lt_of_le h2 hb.size, fun i x hx => cell_step hb h2 (h3 i x hx)⟩
end Go.Proofs.YtmbmchbninlhpaaGreatDoor
namespace Go.Proofs.YtmbmchbninlhpaaGreatDoor
open Go.RowKit

def qEnd (B : List Int) (s : Qs) : Qs := if s.at_ < B.length then stp 62 s else s
set_option maxRecDepth 20000 in
set_option maxHeartbeats 2000000 in
theorem qend_any (g : Nat) (B : List Int) (s : Qs) (w : World) (h : RqS w g B s) :
  Calls Tryz.prog 44 #[.pointer (some ⟨g, 0, none⟩)] w fun e w' => e = .returned (.tuple #[]) /\ RqS w' g B (qEnd B s) /\ Bv g w.heap.size w w' := by
 have H : Hid (RqS w g B s) := h
 have HST : Hid (∀ X, RqS X g B s -> Calls Tryz.prog 53 #[.pointer (some ⟨g, 0, none⟩), .int .i64 62] X fun e w' => e = .returned (.tuple #[]) /\ RqS w' g B (stp 62 s) /\ Bv g X.heap.size X w') := fun X hX => qstop_any 62 g B s X hX
 obtain ⟨a, cap, c0, c1, c2, f1, f2⟩ := h.cells
 clear h f1 f2 c2
 unfold qEnd
 by_cases hl : s.at_ < B.length
 ·rw [if_pos hl]
  have i1 : (s.at_ : Int) < (B.length : Int) := by omega
  generalize s.at_ = at9 at *
  go_enter Tryz.func44, Tryz.ntmps44
  go_wp2
  go_quiet (fail)
  go_wp2_with (go_at_call 53; refine (HST.out _ (H.out.below (below_drewN (Below.refl _ _) _))).mono ?_; rintro e w1 ⟨rfl, hs1, hb1⟩)
  go_end0
  exact ⟨rfl, hs1, (Bv.of (below_drewN (Below.refl _ _) _)).trans hb1⟩
 ·rw [if_neg hl]
  have i1 : ¬ (s.at_ : Int) < (B.length : Int) := by omega
  generalize s.at_ = at9 at *
  go_enter Tryz.func44, Tryz.ntmps44
  go_wp2
  go_quiet (fail)
  go_wp2
  go_end0
  exact ⟨rfl, H.out.below (below_drewN (Below.refl _ _) _), Bv.of (below_drewN (Below.refl _ _) _)⟩
def Br (w : World) (v : Value) (B : List Int) : Prop := byt B /\ ∃ a cap, v = .slice a B.length cap /\ B.length <= cap /\ B.length < 1000000000000000000 /\ (a = none -> cap = 0) /\ (B = [] ∨ ∃ b o, a = some ⟨b, o, none⟩ /\ b < w.heap.size /\ ∀ (i : Nat) (x : Int), B[i]? = some x -> w.cell? ⟨b, o + i, none⟩ = some (.int .u8 x))
theorem Br.later {w w' : World} {v : Value} {B : List Int} (h : Br w v B) (hb : Below w.heap.size w w') : Br w' v B := by
 obtain ⟨hy, a, cap, rfl, h0, h1, hn, h⟩ := h
 refine ⟨hy, a, cap, rfl, h0, h1, hn, h.imp id ?_⟩
 rintro ⟨b, o, rfl, h2, h3⟩
 exact ⟨b, o, rfl, Nat.lt_of_lt_of_le h2 hb.size, fun i x hx => cell_step hb h2 (h3 i x hx)⟩
theorem Br.bn {w : World} {v : Value} {B : List Int} (h : Br w v B) : Bn w v B := by
 obtain ⟨hy, a, cap, rfl, h0, h1, -, h⟩ := h
 exact ⟨a, cap, rfl, h0, by omega, h⟩
theorem Br.rq {w : World} {v : Value} {B : List Int} (h : Br w v B) {X : World} (hb : Below w.heap.size w X) : RqS (X.alloc (.cells #[v, .int .i64 0, .int .i64 0] 79)) X.heap.size B ⟨0, 0⟩ := by
 have h2 := (h.later hb).later (below1 X (.cells #[v, .int .i64 0, .int .i64 0] 79))
 obtain ⟨hy, a, cap, rfl, h0, h1, -, h⟩ := h2
 refine ⟨hy, Nat.zero_le _, _, Blk.new _ _ _, a, cap, rfl, h0, h1, ?_⟩
 obtain ⟨-, a', cap', e, -, -, -, hh⟩ := (‹Br w _ B›).later hb
 cases e
 rcases hh with hh | ⟨b, o, rfl, h3, h4⟩
 ·exact Or.inl hh
 ·rcases h with h | ⟨b', o', e, h5, h6⟩
  ·exact Or.inl h
  ·cases e
   exact Or.inr ⟨b, o, rfl, h3, h5, h6⟩
end Go.Proofs.YtmbmchbninlhpaaGreatDoor
namespace Go.Proofs.YtmbmchbninlhpaaGreatDoor
open Go.RowKit

set_option maxRecDepth 20000 in
set_option maxHeartbeats 1000000 in
theorem rbe_any (k : Nat) (hk : k <= 8) (n : Int) (w : World) :
  Calls Tryz.prog 32 #[.int .u64 n, .int .i64 k] w fun e w' => ∃ v', e = .returned v' /\ OwnB w' w.heap.size v' (be k n) /\ Below w.heap.size w w' := by
 go_enter Tryz.func32, Tryz.ntmps32
 go_wp2
 go_loopg [5, 6] k (fun g u i wr => ∃ j : Nat, j + g = k /\ i = .int .i64 ((g : Int) - 1) /\ OwnB wr w.heap.size u ((be k n).take j) /\ Below w.heap.size w wr)
 case atStart => exact ⟨0, by omega, by simp, by rw [List.take_zero]; exact ownB_nil _ _, Below.refl _ _⟩
 case round =>
  obtain ⟨j, hj, rfl, hw, hb⟩ := hrel
  have HW : Hid (OwnB wr w.heap.size u5 ((be k n).take j)) := hw
  have HB : Hid (Below w.heap.size w wr) := hb
  have hsz := hb.size
  clear hw hb
  cases gk with
  | succ g =>
   have e1 : ((g + 1 : Nat) : Int) - 1 = (g : Int) := by omega
   rw [e1]
   have i0 : (0 : Int) <= (g : Int) := by omega
   have i8 : (g : Int) <= 7 := by omega
   have hlen : ((be k n).take j).length <= 8 := by rw [List.length_take, be_len]; omega
   go_wp2_with (at_builtin; refine app8 rfl _ _ rfl w.heap.size u5 ((be k n).take j) rfl (HW.out.later (below1 _ _)) wr.heap.size [n / 2 ^ (8 * g) % 256] rfl (heap_alloc_new wr _) (by simp) (by simp only [List.length_cons, List.length_nil]; omega) (by simp; omega) ?_; intro v' w1 ho1)
   go_roundg g
   case measure => omega
   case rel =>
    refine ⟨j + 1, by omega, by go_num, ?_, HB.out.trans (((below1 _ _).mono (by omega)).trans ho1.low)⟩
    have e : (be k n).take (j + 1) = (be k n).take j ++ [n / 2 ^ (8 * g) % 256] := by rw [be_take k j n (by omega), pow8]; congr 5; omega
    rw [e]
    exact ho1.own
  | zero =>
   obtain rfl : j = k := by omega
   go_wp2
   go_ret
   refine ⟨_, rfl, ?_, HB.out⟩
   have := HW.out
   rwa [List.take_of_length_le (by rw [be_len]; exact Nat.le_refl _)] at this
set_option maxRecDepth 20000 in
set_option maxHeartbeats 2000000 in
theorem rterm_any (t : Tm) (ht : knd t) (w : World) :
  Calls Tryz.prog 36 #[t.v] w fun e w' => ∃ v', e = .returned v' /\ OwnB w' w.heap.size v' (tB t) /\ Below w.heap.size w w' := by
 obtain ⟨k, n, s⟩ := t
 obtain ⟨hk, hs⟩ := ht
 simp only at hk hs
 have HBE : Hid (∀ X : World, Calls Tryz.prog 32 #[.int .u64 (n % 18446744073709551616), .int .i64 8] X fun e w' => ∃ v', e = .returned v' /\ OwnB w' X.heap.size v' (be 8 (n % 18446744073709551616)) /\ Below X.heap.size X w') := fun X => rbe_any 8 (Nat.le_refl _) _ X
 have hl8 : (be 8 (n % 18446744073709551616)).length = 8 := be_len _ _
 rcases hk with rfl | rfl | rfl | rfl
 ·have HE : Hid (tB ⟨0, n, s⟩ = [0]) := by show _ = _; simp [tB]
  go_enter Tryz.func36, Tryz.ntmps36
  go_wp2
  go_ret
  refine ⟨_, rfl, ?_, below2 _ _ _⟩
  rw [HE.out]
  have := OwnB.lit (w.alloc (.cells #[.int .i64 0, .int .i64 n, .string s] 56)) [0] (by simp)
  rw [show (w.alloc (.cells #[.int .i64 0, .int .i64 n, .string s] 56)).heap.size = w.heap.size + 1 by simp] at this
  exact this.mono (by omega)
 ·have HE : Hid (tB ⟨1, n, s⟩ = [1] ++ be 8 (n % 18446744073709551616)) := by show _ = _; simp [tB]
  have HL : Hid (OwnB ((w.alloc (.cells #[.int .i64 1, .int .i64 n, .string s] 56)).alloc (.cells #[.int .u8 1] 5)) (w.heap.size + 1) (.slice (some ⟨w.heap.size + 1, 0, none⟩) 1 1) [1]) := by
   have := OwnB.lit (w.alloc (.cells #[.int .i64 1, .int .i64 n, .string s] 56)) [1] (by simp)
   rw [show (w.alloc (.cells #[.int .i64 1, .int .i64 n, .string s] 56)).heap.size = w.heap.size + 1 by simp] at this
   exact this
  go_enter Tryz.func36, Tryz.ntmps36
  go_wp2_with (first
   | (go_at_call 32; refine (HBE.out _).mono ?_; rintro e w1 ⟨v1, rfl, ho1, hb1⟩; have HO1 : Hid (OwnB w1 _ v1 _) := ho1; have HB1 : Hid (Below w.heap.size w w1) := below_step (below2 _ _ _) hb1; have HL1 : Hid (OwnB w1 _ _ [1]) := HL.out.later hb1; have hz : w.heap.size + 2 <= w1.heap.size := (by have := hb1.size; simpa using this); clear ho1 hb1)
   | (at_builtin; refine app8w rfl _ _ rfl (w.heap.size + 1) _ [1] rfl HL1.out v1 _ _ rfl HO1.out (by rw [hl8]; omega) (by rw [hl8]; simp) (by omega) ?_; intro v2 w2 ho2))
  go_ret
  exact ⟨_, rfl, by rw [HE.out]; exact ho2.own.mono (by omega), HB1.out.trans (ho2.low.mono (by omega))⟩
 ·have HE : Hid (tB ⟨2, n, s⟩ = [2, (s.size : Int)] ++ bl s) := by show _ = _; simp [tB, sB]
  have hm : (s.size : Int) % 256 = (s.size : Int) := by omega
  have HL : Hid (OwnB ((w.alloc (.cells #[.int .i64 2, .int .i64 n, .string s] 56)).alloc (.cells #[.int .u8 2, .int .u8 (s.size : Int)] 5)) (w.heap.size + 1) (.slice (some ⟨w.heap.size + 1, 0, none⟩) 2 2) [2, (s.size : Int)]) := by
   have := OwnB.lit (w.alloc (.cells #[.int .i64 2, .int .i64 n, .string s] 56)) [2, (s.size : Int)] (by simp)
   rw [show (w.alloc (.cells #[.int .i64 2, .int .i64 n, .string s] 56)).heap.size = w.heap.size + 1 by simp] at this
   exact this
  go_enter Tryz.func36, Tryz.ntmps36
  go_wp2_with (at_builtin; refine app8s rfl _ _ rfl (w.heap.size + 1) _ [2, (s.size : Int)] rfl HL.out s rfl (by simp; omega) (by simp) ?_; intro v2 w2 ho2)
  go_ret
  exact ⟨_, rfl, by rw [HE.out]; exact ho2.own.mono (by omega), (below2 _ _ _).trans (ho2.low.mono (by omega))⟩
 ·have HE : Hid (tB ⟨3, n, s⟩ = [3] ++ be 8 (n % 18446744073709551616)) := by show _ = _; simp [tB]
  have HL : Hid (OwnB ((w.alloc (.cells #[.int .i64 3, .int .i64 n, .string s] 56)).alloc (.cells #[.int .u8 3] 5)) (w.heap.size + 1) (.slice (some ⟨w.heap.size + 1, 0, none⟩) 1 1) [3]) := by
   have := OwnB.lit (w.alloc (.cells #[.int .i64 3, .int .i64 n, .string s] 56)) [3] (by simp)
   rw [show (w.alloc (.cells #[.int .i64 3, .int .i64 n, .string s] 56)).heap.size = w.heap.size + 1 by simp] at this
   exact this
  go_enter Tryz.func36, Tryz.ntmps36
  go_wp2_with (first
   | (go_at_call 32; refine (HBE.out _).mono ?_; rintro e w1 ⟨v1, rfl, ho1, hb1⟩; have HO1 : Hid (OwnB w1 _ v1 _) := ho1; have HB1 : Hid (Below w.heap.size w w1) := below_step (below2 _ _ _) hb1; have HL1 : Hid (OwnB w1 _ _ [3]) := HL.out.later hb1; have hz : w.heap.size + 2 <= w1.heap.size := (by have := hb1.size; simpa using this); clear ho1 hb1)
   | (at_builtin; refine app8w rfl _ _ rfl (w.heap.size + 1) _ [3] rfl HL1.out v1 _ _ rfl HO1.out (by rw [hl8]; omega) (by rw [hl8]; simp) (by omega) ?_; intro v2 w2 ho2))
  go_ret
  exact ⟨_, rfl, by rw [HE.out]; exact ho2.own.mono (by omega), HB1.out.trans (ho2.low.mono (by omega))⟩
end Go.Proofs.YtmbmchbninlhpaaGreatDoor
namespace Go.Proofs.YtmbmchbninlhpaaGreatDoor
open Go.RowKit

set_option maxRecDepth 20000 in
set_option maxHeartbeats 4000000 in
theorem ratomB_any (a : At) (ha : Fit a) (y : Value) (w : World) (hy : Ts w y a.args) :
  Calls Tryz.prog 74 #[a.v y] w fun e w' => ∃ v', e = .returned v' /\ OwnB w' w.heap.size v' (aB a) /\ Below w.heap.size w w' := by
 obtain ⟨t, nm, m⟩ := a
 obtain ⟨f1, f2, f3, f4⟩ := ha
 simp only at f1 f2 f3 f4 hy
 have HT : Hid (∀ X : World, Calls Tryz.prog 36 #[t.v] X fun e w' => ∃ v', e = .returned v' /\ OwnB w' X.heap.size v' (tB t) /\ Below X.heap.size X w') := fun X => rterm_any t f1 X
 have hl1 : (tB t).length <= 100 := by have := (tB_len t).2; have := f1.2; omega
 have HF : Hid (∀ u ∈ m, knd u) := f4
 have HY : Hid (∀ X, Below w.heap.size w X -> Ts X y m) := fun X hX => hy.later hX
 have hm1 : (nm.size : Int) % 256 = (nm.size : Int) := by omega
 have hm2 : (m.length : Int) % 256 = (m.length : Int) := by omega
 have HE : Hid (aB ⟨t, nm, m⟩ = tB t ++ [(nm.size : Int)] ++ bl nm ++ [(m.length : Int)] ++ tBs m m.length) := by show _ = _; simp [aB, sB, tBs, List.append_assoc]
 obtain ⟨ad, cap, rfl, -, -⟩ := hy
 clear f1 f4
 obtain ⟨T, hT⟩ : ∃ T, tB t = T := ⟨_, rfl⟩
 rw [hT] at HT hl1 HE
 clear hT
 obtain ⟨k, n, s⟩ := t
 go_enter Tryz.func74, Tryz.ntmps74
 go_upto_region 5 with (first
  | (go_at_call 36; refine (HT.out _).mono ?_; rintro e w1 ⟨v1, rfl, ho1, hb1⟩; have HO1 : Hid (OwnB w1 w.heap.size v1 T) := ho1.mono (by simp); have HB1 : Hid (Below w.heap.size w w1) := below_step (below1 _ _) hb1; have B1 := (Blk.new w #[.int .i64 k, .int .i64 n, .string s, .string nm, .slice ad m.length cap] 58).later hb1; have HK1 : Hid (Blk _ _ _ _) := B1; obtain ⟨p0, p1, p2, p3, p4⟩ := five B1; have hz1 := HB1.out.size; clear ho1 hb1 B1)
  | (at_builtin; refine app8 rfl _ _ rfl w.heap.size v1 T rfl (HO1.out.later (below1 _ _)) w1.heap.size [(nm.size : Int)] rfl (heap_alloc_new w1 _) (by simp) (by simp only [List.length_cons, List.length_nil]; omega) (by simp; omega) ?_; intro v2 w2 ho2; have HO2 : Hid (Wr w1 w.heap.size _ v2 w2) := Wr.ahead (below1 _ _) hz1 ho2; have hz2 := HO2.out.low.size; have B2 := HK1.out.k8 HO2.out.k8 (by decide); have HK2 : Hid (Blk _ _ _ _) := B2; clear p0 p1 p2 p3 p4; obtain ⟨p0, p1, p2, p3, p4⟩ := five B2; clear ho2 B2)
  | (at_builtin; refine app8s rfl _ _ rfl w.heap.size v2 (T ++ [(nm.size : Int)]) rfl HO2.out.own nm rfl (by simp; omega) (by omega) ?_; intro v3 w3 ho3; have HO3 : Hid (Wr w1 w.heap.size _ v3 w3) := HO2.out.step ho3; have hz3 := HO3.out.low.size; have B3 := HK1.out.k8 HO3.out.k8 (by decide); have HK3 : Hid (Blk _ _ _ _) := B3; clear p0 p1 p2 p3 p4; obtain ⟨p0, p1, p2, p3, p4⟩ := five B3; clear ho3 B3)
  | (at_builtin; refine app8 rfl _ _ rfl w.heap.size v3 (T ++ [(nm.size : Int)] ++ bl nm) rfl (HO3.out.own.later (below1 _ _)) w3.heap.size [(m.length : Int)] rfl (heap_alloc_new w3 _) (by simp) (by simp only [List.length_append, List.length_cons, List.length_nil, bl_len]; omega) (by simp; omega) ?_; intro v4 w4 ho4; have HO4 : Hid (Wr w1 w.heap.size _ v4 w4) := HO3.out.step (Wr.ahead (below1 _ _) (by omega) ho4); have hz4 := HO4.out.low.size; have B4 := HK1.out.k8 HO4.out.k8 (by decide); have HK4 : Hid (Blk _ _ _ _) := B4; clear p0 p1 p2 p3 p4; clear ho4 B4))
 go_wp2
 go_loopg [3, 4] m.length (fun g u i wr => ∃ j : Nat, j + g = m.length /\ i = .int .i64 j /\ Wr w1 w.heap.size (T ++ [(nm.size : Int)] ++ bl nm ++ [(m.length : Int)] ++ tBs m j) u wr)
 case atStart => exact ⟨0, by omega, rfl, by rw [show tBs m 0 = [] from rfl, List.append_nil]; exact HO4.out⟩
 case round =>
  obtain ⟨j, hj, rfl, hw⟩ := hrel
  have HWr : Hid (Wr w1 w.heap.size (T ++ [(nm.size : Int)] ++ bl nm ++ [(m.length : Int)] ++ tBs m j) u3 wr) := hw
  have hsz := hw.low.size
  have hbw : Below w.heap.size w wr := HB1.out.trans hw.low
  have HBw : Hid (Below w.heap.size w wr) := hbw
  obtain ⟨p0, p1, p2, p3, p4⟩ := five (HK1.out.k8 hw.k8 (by decide))
  have HKr : Hid (Blk wr _ _ _) := HK1.out.k8 hw.k8 (by decide)
  clear hw
  cases gk with
  | succ g =>
   have hlt : j < m.length := by omega
   obtain ⟨t, ht⟩ : ∃ t, m[j]? = some t := ⟨_, List.getElem?_eq_getElem hlt⟩
   obtain ⟨ad', cap', hx, -, hxx⟩ := HY.out _ hbw
   clear hbw
   simp only [Value.slice.injEq] at hx
   obtain ⟨rfl, -, rfl⟩ := hx
   rcases hxx with hxx | ⟨b, o, rfl, hbs, hxx⟩
   ·subst hxx; simp at hlt
   ·obtain ⟨c0, c1, c2⟩ := hxx j _ ht
    have hlen : (T ++ [(nm.size : Int)] ++ bl nm ++ [(m.length : Int)] ++ tBs m j).length <= 60100000 := by
     have := tBs_len HF.out j
     simp only [List.length_append, List.length_cons, List.length_nil, bl_len]; omega
    have hlt8 : 0 < (tB t).length /\ (tB t).length <= 100 := by have := tB_len t; have := (HF.out t (List.mem_of_getElem? ht)).2; omega
    have HS : Hid (tBs m (j + 1) = tBs m j ++ tB t) := tBs_succ ht
    have HPT : Hid (∀ X : World, Calls Tryz.prog 36 #[t.v] X fun e w' => ∃ v', e = .returned v' /\ OwnB w' X.heap.size v' (tB t) /\ Below X.heap.size X w') := fun X => rterm_any t (HF.out t (List.mem_of_getElem? ht)) X
    obtain ⟨U, hU⟩ : ∃ U, tB t = U := ⟨_, rfl⟩
    rw [hU] at HPT hlt8 HS
    clear hU
    obtain ⟨tk, tn, ts⟩ := t
    simp only at c0 c1 c2
    clear hxx ht
    have i1 : (0 : Int) <= (j : Int) := by omega
    have i2 : (j : Int) < (m.length : Int) := by omega
    go_wp2_with (first
     | (go_at_call 36; refine (HPT.out _).mono ?_; rintro e w5 ⟨v5, rfl, ho5, hb5⟩; have HO5 : Hid (OwnB w5 _ v5 U) := ho5; have HB5 : Hid (Below wr.heap.size wr w5) := hb5; have hz5 := hb5.size; clear ho5 hb5)
     | (at_builtin; refine app8w rfl _ _ rfl w.heap.size u3 _ rfl (HWr.out.own.later HB5.out) v5 _ U rfl HO5.out hlt8.1 (by omega) (by omega) ?_; intro v6 w6 ho6))
    go_roundg g
    case measure => omega
    case rel =>
     refine ⟨j + 1, by omega, by go_num, ?_⟩
     rw [HS.out, <- List.append_assoc]
     exact HWr.out.step (Wr.ahead HB5.out (by omega) ho6)
  | zero =>
   obtain rfl : j = m.length := by omega
   have hz : ¬ ((m.length : Int) < (m.length : Int)) := by omega
   clear hbw
   go_wp2
   go_ret
   exact ⟨_, rfl, by rw [HE.out]; exact HWr.out.own, HBw.out⟩
end Go.Proofs.YtmbmchbninlhpaaGreatDoor
namespace Go.Proofs.YtmbmchbninlhpaaGreatDoor
open Go.RowKit

theorem app8r {ops : Array Oper} {rest : List Oper} {o : Oper} {a : Act} {Q : Exit -> Act -> World -> Prop} {w : World} (hgd : o.guard = none) (s x : Operand)
  (ho : o.op = .call { callee := .builtin .append, args := #[s, x], argTypes := #[26, 26] }) (base : Nat) (v : Value) (l : List Int) (hs : a.eval s = v) (hown : OwnB w base v l)
  (y : Value) (B : List Int) (hx : a.eval x = y) (hy : Br w y B) (hlen : l.length + B.length <= 100000000) (hbase : base <= w.heap.size)
  (h : ∀ v' w', Wr w base (l ++ B) v' w' -> wpList Tryz.prog ops Q rest (a.put o.dst v') w') : wpList Tryz.prog ops Q (o :: rest) a w := by
 obtain ⟨i, z, hi, hz0, hz1, hz2, hz3⟩ := infoU8_parts
 obtain ⟨hb, ad, cap, rfl, h0, h1, hn, hc⟩ := hy
 cases ad with
 | none =>
  have hcap := hn rfl
  subst hcap
  have hB : B = [] := List.eq_nil_of_length_eq_zero (by omega)
  subst hB
  refine wpList_append_own_none hgd s x 26 ho base 5 i 1 Tryz.underlying26 hi v l.length (ibs l) hs hown hx ?_
  exact h v w ⟨by rw [List.append_nil]; exact hown, Below.refl _ _, K8.refl _⟩
 | some ad =>
  refine wpList_append_own _ hgd s x 26 ho base 5 i z 1 1 Tryz.underlying26 hi hz0 hz1 hz2 hz3 (by omega) v l.length (ibs l) hs hown ad B.length cap (ibs B) hx (by simp [ibs]) ?_ (by simp [ibs, Value.oneCell']) (by unfold maxLen; omega) (by omega) hbase ?_
  ·intro j u hj
   rcases hc with rfl | ⟨b, o', e, -, hc⟩
   ·simp [ibs] at hj
   ·cases e
    simp only [ibs, List.getElem?_map, Option.map_eq_some_iff] at hj
    obtain ⟨x, hx, rfl⟩ := hj
    rw [Addr.add_mid]; exact hc j x hx
  ·intro v' w' h1 h2 _
   refine h v' w' ⟨?_, grown_below h2 (fun k hk => (World.ownsRow.lt hown k hk).1) hbase, hown.k8 h2⟩
   unfold OwnB
   rw [List.length_append, show ibs (l ++ B) = ibs l ++ ibs B by simp [ibs]]
   exact h1
def LentB (X : World) (base : Nat) (v : Value) (B : List Int) : Prop := ∃ g cap, v = .slice (some ⟨g, 0, none⟩) B.length cap /\ B.length + 3 <= cap /\ OwnB X base (.slice (some ⟨g, 0, none⟩) (B.length + 3) cap) (B ++ [91, 92, 93])
theorem LentB.later {X X' : World} {base : Nat} {v : Value} {B : List Int} (h : LentB X base v B) (hb : Below X.heap.size X X') : LentB X' base v B := by
 obtain ⟨g, cap, rfl, h1, h2⟩ := h
 exact ⟨g, cap, rfl, h1, h2.later hb⟩
theorem LentB.cells {X : World} {base g cap : Nat} {B : List Int} (h : OwnB X base (.slice (some ⟨g, 0, none⟩) (B.length + 3) cap) (B ++ [91, 92, 93])) : g < X.heap.size /\ ∀ (i : Nat) (x : Int), (B ++ [91, 92, 93])[i]? = some x -> X.cell? ⟨g, i, none⟩ = some (.int .u8 x) := by
 refine ⟨(World.ownsRow.lt h g rfl).2, fun i x hx => ?_⟩
 have := World.ownsRow.cells h (g := g) rfl i (.int .u8 x) (by simp only [ibs, List.getElem?_map, hx, Option.map_some])
 rw [Addr.add_mid, Nat.zero_add] at this
 exact this
theorem LentB.bh {X : World} {base : Nat} {v : Value} {B : List Int} (h : LentB X base v B) (hy : byt B) (hl : B.length < 1000000000000000000) : Bh X v B := by
 obtain ⟨g, cap, rfl, h1, h2⟩ := h
 obtain ⟨h3, h4⟩ := LentB.cells h2
 refine ⟨hy, g, 0, cap, rfl, by omega, hl, h3, fun i x hx => ?_⟩
 rw [Nat.zero_add]
 exact h4 i x (by rw [List.getElem?_append_left (List.getElem?_eq_some_iff.1 hx).1]; exact hx)
theorem Bh.bn {w : World} {v : Value} {l : List Int} (h : Bh w v l) : Bn w v l := by
 obtain ⟨h1, b, o, cap, rfl, h2, h3, h4, h5⟩ := h
 exact ⟨_, cap, rfl, by omega, h3, Or.inr ⟨b, o, rfl, h4, h5⟩⟩
theorem ownB_some {w : World} {base : Nat} {v : Value} {l : List Int} (h : OwnB w base v l) (hl : 0 < l.length) : ∃ g cap, v = .slice (some ⟨g, 0, none⟩) l.length cap /\ l.length <= cap := by
 rcases h.2 with ⟨-, hn⟩ | ⟨g, cap, cur, hv, -, -, hn, -⟩
 ·omega
 ·exact ⟨g, cap, hv, hn⟩
theorem ownB_form {w : World} {base : Nat} {v : Value} {l : List Int} (h : OwnB w base v l) : ∃ a n cap, v = .slice a n cap := by
 rcases h.2 with ⟨hv, -⟩ | ⟨g, cap, cur, hv, -⟩
 ·exact ⟨_, _, _, hv⟩
 ·exact ⟨_, _, _, hv⟩
set_option maxRecDepth 20000 in
set_option maxHeartbeats 2000000 in
theorem lendB_any (v : Value) (B : List Int) (w : World) (h : Br w v B) (hl : B.length <= 2000000) :
  Calls Tryz.prog 10 #[v] w fun e w' => ∃ u, e = .returned u /\ LentB w' w.heap.size u B /\ Below w.heap.size w w' := by
 have HB : Hid (Br w v B) := h
 obtain ⟨a, cap, rfl⟩ : ∃ a cap, v = .slice a B.length cap := by obtain ⟨-, a, cap, e, -⟩ := h; exact ⟨a, cap, e⟩
 have z0 : (0 : Int) <= (B.length : Int) := by omega
 clear h
 go_enter Tryz.func10, Tryz.ntmps10
 go_wp2_with (first
  | (at_builtin; refine app8r rfl _ _ rfl w.heap.size (.slice none 0 0) [] (by rfl) (ownB_nil _ _) _ B (by rfl) HB.out (by simp; omega) (Nat.le_refl _) ?_; intro v1 w1 hw1; rw [List.nil_append] at hw1; have HW1 : Hid (Wr w w.heap.size B v1 w1) := hw1; have hz1 := hw1.low.size; obtain ⟨a1, n1, c1, rfl⟩ := ownB_form hw1.own; clear hw1)
  | (at_builtin; refine app8 rfl _ _ rfl w.heap.size _ B rfl (HW1.out.own.later (below1 _ _)) w1.heap.size [91, 92, 93] rfl (heap_alloc_new w1 _) (by simp) (by simp only [List.length_cons, List.length_nil]; omega) (by simp; omega) ?_; intro v2 w2 hw2; have HW2 : Hid (Wr w w.heap.size (B ++ [91, 92, 93]) v2 w2) := HW1.out.step (Wr.ahead (below1 _ _) hz1 hw2); obtain ⟨g2, c2, rfl, hc2⟩ := ownB_some hw2.own (by simp); rw [show (B ++ [(91 : Int), 92, 93]).length = B.length + 3 by simp] at HW2 hc2 ⊢; have hc3 : (B.length : Int) <= (c2 : Int) := (by omega); clear hw2))
 go_ret
 exact ⟨_, rfl, ⟨g2, c2, rfl, hc2, HW2.out.own⟩, HW2.out.low⟩
set_option maxRecDepth 20000 in
set_option maxHeartbeats 2000000 in
theorem keptB_any (v y : Value) (B : List Int) (base : Nat) (w : World) (h : LentB w base v B) (hy : Br w y B) (hl : B.length <= 2000000) :
  Calls Tryz.prog 14 #[v, y] w fun e w' => e = .returned (.bool true) /\ Below w.heap.size w w' := by
 have hc1 := conv_bn (w := w) (LentB.bh h hy.1 (by omega)).bn hy.1
 have hc2 := conv_bn (w := w) hy.bn hy.1
 obtain ⟨g, cap, rfl, hcap, ho⟩ := h
 obtain ⟨a, cap', rfl⟩ : ∃ a cap, y = .slice a B.length cap := by obtain ⟨-, a, cap, e, -⟩ := hy; exact ⟨a, cap, e⟩
 obtain ⟨hg, hc⟩ := LentB.cells ho
 have d0 := hc B.length 91 (by simp)
 have d1 := hc (B.length + 1) 92 (by rw [List.getElem?_append_right (by omega)]; simp)
 have d2 := hc (B.length + 2) 93 (by rw [List.getElem?_append_right (by omega)]; simp)
 have i0 : (0 : Int) <= (B.length : Int) := by omega
 have i1 : (B.length : Int) + 3 <= (cap : Int) := by omega
 have i2 : (B.length : Int) <= 2000000 := by omega
 clear ho hc hy
 go_enter Tryz.func14, Tryz.ntmps14
 go_wp2
 go_ret
 exact ⟨rfl, Below.refl _ _⟩
def okN : ByteArray := ⟨#[111, 107]⟩
theorem ok_err : At.err ⟨zt, okN, []⟩ = 0 := by decide +kernel
theorem ok_bytes : ofL (aB ⟨zt, okN, []⟩) = ⟨#[0, 2, 111, 107, 0]⟩ := by decide +kernel
theorem ok_byt : byt (aB ⟨zt, okN, []⟩) := by
 have : aB ⟨zt, okN, []⟩ = [0, 2, 111, 107, 0] := by decide +kernel
 rw [this]
 intro x hx
 simp at hx
 omega
set_option maxRecDepth 20000 in
set_option maxHeartbeats 2000000 in
theorem first6_any (w : World) : Calls Tryz.prog 15 #[] w fun e w' => e = .returned (.bool true) /\ Below w.heap.size w w' := by
 have hA := atomW_ok ⟨zt, okN, []⟩ (.slice none 0 0) w (ts_nil w) ok_err
 have HA : Hid (Calls Tryz.prog 45 #[.agg #[.int .i64 0, .int .i64 0, .string ⟨#[]⟩, .string ⟨#[111, 107]⟩, .slice none 0 0]] w fun e w' => ∃ v, e = .returned (.tuple #[v, .int .i64 0]) /\ (convert 26 9 v).run Tryz.prog w' = .ok (.string ⟨#[0, 2, 111, 107, 0]⟩) w' /\ Below w.heap.size w w') := hA.mono fun e w' ⟨v, h1, h2, h3⟩ => ⟨v, h1, by have := conv_bn (h2.bn (by decide +kernel)) ok_byt; rwa [ok_bytes] at this, h3⟩
 clear hA
 go_enter Tryz.func15, Tryz.ntmps15
 go_wp2_with (go_at_call 45; refine HA.out.mono ?_; rintro e w1 ⟨v1, rfl, hcv, hb⟩)
 go_ret
 exact ⟨rfl, hb⟩
end Go.Proofs.YtmbmchbninlhpaaGreatDoor
namespace Go.Proofs.YtmbmchbninlhpaaGreatDoor
open Go.RowKit

def c0 : Cm := ⟨(⟨zt, ⟨#[]⟩, []⟩, .slice none 0 0), [], .slice none 0 0, [], .slice none 0 0⟩
end Go.Proofs.YtmbmchbninlhpaaGreatDoor
namespace Go.Proofs.YtmbmchbninlhpaaGreatDoor
open Go.RowKit

theorem aB_byt9 {a : At} (h : Fit a) : byt (aB a) := by
 unfold aB
 refine (tB_byt h.by_).app ((sB_byt (by have := h.nm; omega)).app ?_)
 intro x hx
 rcases List.mem_cons.1 hx with rfl | hx
 ·have := h.len; omega
 ·obtain ⟨t, ht, hx⟩ := List.mem_flatMap.1 hx
  exact tB_byt (h.args t ht) x hx
theorem eB_byt9 {e : Te} (h : FitE e) : byt (eB e) := by
 intro x hx
 unfold eB at hx
 rcases List.mem_cons.1 hx with rfl | hx
 ·have := h.op; omega
 ·rcases List.mem_append.1 hx with hx | hx
  ·exact tB_byt h.l x hx
  ·exact tB_byt h.r x hx
theorem cB_byt9 {c : Cm} (h : c.chk = 0) : byt (cB c.key) := by
 obtain ⟨g1, g2, g3, g4⟩ := chk_fit h
 unfold cB
 refine (aB_byt9 (g1 _ (by simp))).app (byt.app ?_ ?_)
 ·intro x hx
  rcases List.mem_cons.1 hx with rfl | hx
  ·omega
  ·obtain ⟨a, ha, hx⟩ := List.mem_flatMap.1 hx
   exact aB_byt9 (g1 a (List.mem_cons_of_mem _ ha)) x hx
 ·intro x hx
  rcases List.mem_cons.1 hx with rfl | hx
  ·omega
  ·obtain ⟨a, ha, hx⟩ := List.mem_flatMap.1 hx
   exact eB_byt9 (g2 a ha) x hx
theorem cB_ne (x : Ck) : cB x ≠ [] := fun h => by
 have := congrArg List.length h
 simp [cB] at this
def kC (x : Ck) : Cm := ⟨(x.1, .slice none 0 0), x.2.1.map fun a => (a, .slice none 0 0), .slice none 0 0, x.2.2, .slice none 0 0⟩
theorem kC_key (x : Ck) : (kC x).key = x := by
 obtain ⟨h, b, t⟩ := x
 simp [kC, Cm.key, fsts, Function.comp_def]
end Go.Proofs.YtmbmchbninlhpaaGreatDoor
