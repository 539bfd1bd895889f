import Derived.Test.YtechceagghcipaaGreatDoorEG2
import Derived.BigQuiet
namespace Go.Proofs.YtechceagghcipaaGreatDoor
open Go.RowKit
attribute [local go_sem ↓] Go.wp_at_zero Go.wp_at_succ

def p8 (k : Int) : At := ⟨⟨0, 0, ⟨#[]⟩⟩, ⟨#[112]⟩, [⟨1, k, ⟨#[]⟩⟩]⟩
set_option maxRecDepth 20000 in
set_option maxHeartbeats 1000000 in
theorem lfact8_any (k : Int) (Y : World) : Calls Tryz.prog 14 #[.int .i64 k] Y fun e Y' => ∃ A, e = .returned ((p8 k).v (.slice (some ⟨A, 0, none⟩) 1 1)) /\ TBlk Y' A [⟨1, k, ⟨#[]⟩⟩] 1 /\ Y.heap.size <= A /\ Below Y.heap.size Y Y' := by
 go_enter Tryz.func14, Tryz.ntmps14
 go_wp2
 have hb := below2 Y (.cells #[.int .i64 0, .int .i64 0, .string ⟨#[]⟩, .string ⟨#[112]⟩, .slice (some ⟨Y.heap.size + 1, 0, none⟩) 1 1] 27) (.cells #[.int .i64 1, .int .i64 k, .string ⟨#[]⟩] 24)
 have hx := (Bk.new Y #[.int .i64 0, .int .i64 0, .string ⟨#[]⟩, .string ⟨#[112]⟩, .slice (some ⟨Y.heap.size + 1, 0, none⟩) 1 1] 27).below (below1 _ (.cells #[.int .i64 1, .int .i64 k, .string ⟨#[]⟩] 24))
 have ht : TBlk ((Y.alloc (.cells #[.int .i64 0, .int .i64 0, .string ⟨#[]⟩, .string ⟨#[112]⟩, .slice (some ⟨Y.heap.size + 1, 0, none⟩) 1 1] 27)).alloc (.cells #[.int .i64 1, .int .i64 k, .string ⟨#[]⟩] 24)) (Y.heap.size + 1) [⟨1, k, ⟨#[]⟩⟩] 1 := by
  have h1 := Bk.new (Y.alloc (.cells #[.int .i64 0, .int .i64 0, .string ⟨#[]⟩, .string ⟨#[112]⟩, .slice (some ⟨Y.heap.size + 1, 0, none⟩) 1 1] 27)) #[.int .i64 1, .int .i64 k, .string ⟨#[]⟩] 24
  rw [show (Y.alloc (.cells #[.int .i64 0, .int .i64 0, .string ⟨#[]⟩, .string ⟨#[112]⟩, .slice (some ⟨Y.heap.size + 1, 0, none⟩) 1 1] 27)).heap.size = Y.heap.size + 1 by simp] at h1
  refine ⟨_, h1, rfl, fun j t hj ht => ?_⟩
  obtain rfl : j = 0 := by omega
  cases ht
  exact ⟨rfl, rfl, rfl⟩
 obtain ⟨⟨r0, r1⟩, r2, r3, r4⟩ := five8 hx
 exact bodyPost_ret (v := (p8 k).v (.slice (some ⟨Y.heap.size + 1, 0, none⟩) 1 1)) (by simp [results, Tryz.results14, go_sem, r0, r1, r2, r3, r4, p8]) rfl ⟨Y.heap.size + 1, rfl, ht, by omega, hb⟩
set_option maxRecDepth 20000 in
set_option maxHeartbeats 1000000 in
theorem lpreds8_yes (l : List Pd) (x y : Value) (Y : World) (hx : PsP Y x l) (hy : PsP Y y l) (hl : l.length <= 1000000000) : Calls Tryz.prog 20 #[x, y] Y fun e Y' => e = .returned (.bool true) /\ Below Y.heap.size Y Y' := by
 obtain ⟨ad, cap, rfl, h⟩ : ∃ ad cap, x = .slice ad l.length cap /\ (l = [] ∨ ∃ b o, ad = some ⟨b, o, none⟩ /\ PRow Y b o l) := by
  rcases hx with ⟨rfl, rfl⟩ | ⟨ad, cap, rfl, h⟩
  ·exact ⟨none, 0, rfl, Or.inl rfl⟩
  ·refine ⟨some ad, cap, rfl, ?_⟩
   rcases h with h | ⟨b, o, rfl, h⟩
   ·exact Or.inl h
   ·exact Or.inr ⟨b, o, rfl, h⟩
 obtain ⟨ad', cap', rfl, h'⟩ : ∃ ad cap, y = .slice ad l.length cap /\ (l = [] ∨ ∃ b o, ad = some ⟨b, o, none⟩ /\ PRow Y b o l) := by
  rcases hy with ⟨rfl, rfl⟩ | ⟨ad, cap, rfl, h⟩
  ·exact ⟨none, 0, rfl, Or.inl rfl⟩
  ·refine ⟨some ad, cap, rfl, ?_⟩
   rcases h with h | ⟨b, o, rfl, h⟩
   ·exact Or.inl h
   ·exact Or.inr ⟨b, o, rfl, h⟩
 clear hx hy
 go_enter Tryz.func20, Tryz.ntmps20
 go_wp2
 go_loopg [5] l.length (fun g i wr => ∃ j : Nat, j + g = l.length /\ i = .int .i64 j /\ Below Y.heap.size Y wr)
 case atStart => exact ⟨0, by omega, rfl, Below.refl _ _⟩
 case round =>
  obtain ⟨j, hj, rfl, hb⟩ := hrel
  have HB := hm7 hb
  cases gk with
  | succ g =>
   have hlt : (j : Int) < (l.length : Int) := by omega
   have j0 : (0 : Int) <= (j : Int) := by omega
   obtain ⟨t, ht⟩ : ∃ t, l[j]? = some t := ⟨_, List.getElem?_eq_getElem (by omega)⟩
   rcases h with h | ⟨b1, o1, rfl, h⟩
   ·subst h; simp at hj
   rcases h' with h' | ⟨b2, o2, rfl, h'⟩
   ·subst h'; simp at ht
   obtain ⟨a0, a1⟩ := (h.later hb).2 j t ht
   obtain ⟨c0, c1⟩ := (h'.later hb).2 j t ht
   obtain ⟨s, n⟩ := t
   simp only at a0 a1 c0 c1
   clear h h' hb
   go_upto_region 6 with fail
   go_quiet (fail)
   go_wp2
   go_roundg g
   case measure => omega
   case rel => exact ⟨j + 1, by omega, by go_num, below_drewN HB.out _⟩
  | zero =>
   have hlt : ¬ (j : Int) < (l.length : Int) := by omega
   go_wp2
   go_ret
   exact ⟨rfl, HB.out⟩
end Go.Proofs.YtechceagghcipaaGreatDoor
