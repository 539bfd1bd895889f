import Derived.Test.YtechceagghcipaaGreatDoorAA0
import Derived.Test.YtechceagghcipaaGreatDoorRA17
namespace Go.Proofs.YtechceagghcipaaGreatDoor
open Go.RowKit
attribute [local go_sem ↓] Go.wp_at_zero Go.wp_at_succ

def or7 : List Int -> Int
 | [] => 0
 | x :: l => if x = 0 then or7 l else x
set_option maxRecDepth 20000 in
set_option maxHeartbeats 1000000 in
theorem cmpOr7_any (F : Nat -> Prop) (l : List Int) (u : Value) (w : World) (h : Li F w u l) :
  Calls Tryz.prog 44 #[u] w fun e w' => e = .returned (.int .i64 (or7 l)) /\ w' = w := by
 obtain ⟨ad, cap, rfl, g1, g2, -, h⟩ := h
 obtain ⟨n, hn⟩ : ∃ n, l.length = n := ⟨_, rfl⟩
 have hnb : n <= 9223372036854775807 := by omega
 clear g1 g2
 rw [hn]
 go_enter Tryz.func44, Tryz.ntmps44
 go_wp2
 go_loopg [8] n (fun g i wr => ∃ j : Nat, j + g = n /\ i = .int .i64 j /\ or7 l = or7 (l.drop j) /\ wr = w)
 case atStart => exact ⟨0, by omega, rfl, rfl, rfl⟩
 case round =>
  obtain ⟨j, hj, rfl, hc, rfl⟩ := hrel
  have HC := hm7 hc
  clear hc
  cases gk with
  | succ g =>
   have hlt : (j : Int) < (n : Int) := by omega
   have j0 : (0 : Int) <= (j : Int) := by omega
   obtain ⟨x, hx⟩ : ∃ x, l[j]? = some x := ⟨_, List.getElem?_eq_getElem (by omega)⟩
   rcases h with ⟨h, -⟩ | ⟨b1, o1, rfl, hb1, -, h⟩
   ·rw [h] at hx; simp at hx
   have p0 := h j x hx
   have HS : Hid (or7 l = if x = 0 then or7 (l.drop (j + 1)) else x) := by rw [HC.out, drop_cons7 hx]; rfl
   clear h hx
   by_cases hx0 : x = 0
   ·subst hx0
    go_wp2
    go_roundg g
    case measure => omega
    case rel => exact ⟨j + 1, by omega, by go_num, by rw [HS.out, if_pos trivial], rfl⟩
   ·have hk1 : (x == 0) = false := by simp [hx0]
    have hk2 : (x != 0) = true := by simp [hx0]
    go_wp2
    go_ret
    exact ⟨ret_i (by rw [HS.out, if_neg hx0]), rfl⟩
  | zero =>
   have hlt : ¬ (j : Int) < (n : Int) := by omega
   have HS : Hid (or7 l = 0) := by rw [HC.out, show l.drop j = [] from List.drop_eq_nil_of_le (by omega)]; rfl
   clear h hn
   go_wp2
   go_ret
   exact ⟨ret_i HS.out.symm, rfl⟩
structure DB7 (B : Nat) (w w' : World) : Prop extends Go.RowKit.Below B w w' where
 drawn : w.drawn <= w'.drawn
theorem DB7.refl (B : Nat) (w : World) : DB7 B w w := ⟨Go.RowKit.Below.refl _ _, Nat.le_refl _⟩
theorem DB7.trans {B : Nat} {a b c : World} (h : DB7 B a b) (k : DB7 B b c) : DB7 B a c := ⟨h.toBelow.trans k.toBelow, Nat.le_trans h.drawn k.drawn⟩
theorem DB7.mono {B B' : Nat} {w w' : World} (h : DB7 B w w') (hB : B' <= B) : DB7 B' w w' := ⟨h.toBelow.mono hB, h.drawn⟩
theorem DB7.drew {B : Nat} {a w : World} (h : DB7 B a w) : DB7 B a w.drew := ⟨h.toBelow.drew, Nat.le_trans h.drawn (Nat.le_succ _)⟩
theorem DB7.alloc {B : Nat} {a w : World} (h : DB7 B a w) (hB : B <= w.heap.size) (o : Obj) : DB7 B a (w.alloc o) := ⟨h.toBelow.alloc hB o, h.drawn⟩
theorem li_lit7 {w : World} {b n : Nat} {l : List Int} {c : Array Value} (h : Bk w b c 3) (hn : l.length = n) (hc : c.toList = ibs7 l) (hw : w64 l) (hl : n <= 1000) : Li Any w (.slice (some ⟨b, 0, none⟩) n n) l := by
 refine ⟨_, n, by rw [hn], by omega, by omega, hw, Or.inr ⟨b, 0, rfl, h.lt, trivial, fun i x hx => ?_⟩⟩
 rw [Nat.zero_add]
 refine h.cell ?_
 rw [<- Array.getElem?_toList, hc]
 simp [ibs7, hx]
def cc7 (a b : Int × Int) : Int := or7 [sg7 a.1 b.1, sg7 a.2 b.2]
theorem sg7_wf (x y : Int) : (Lit.int .i64 (sg7 x y)).wf = true := by
 rcases sg7_v x y with ⟨e, -⟩ | ⟨e, -⟩ | ⟨e, -⟩ <;> rw [e] <;> rfl
set_option maxRecDepth 20000 in
set_option maxHeartbeats 1000000 in
theorem cells7_any (a1 a2 c1 c2 : Int) (w : World) : Calls Tryz.prog 123 #[.agg #[.int .i64 a1, .int .i64 a2], .agg #[.int .i64 c1, .int .i64 c2]] w fun e w' => e = .returned (.int .i64 (cc7 (a1, a2) (c1, c2))) /\ DB7 w.heap.size w w' := by
 obtain ⟨W2, hW2⟩ : ∃ W2, (w.alloc (.cells #[.int .i64 a1, .int .i64 a2] 182)).alloc (.cells #[.int .i64 c1, .int .i64 c2] 182) = W2 := ⟨_, rfl⟩
 have hz : W2.heap.size = w.heap.size + 2 := by rw [<- hW2]; simp
 have hbw : DB7 w.heap.size w W2 := by rw [<- hW2]; exact ((DB7.refl _ _).alloc (Nat.le_refl _) _).alloc (by simp) _
 have k1 : Bk W2 w.heap.size #[.int .i64 a1, .int .i64 a2] 182 := by rw [<- hW2]; exact (Bk.new _ _ _).below (below1 _ _)
 have k2 : Bk W2 (w.heap.size + 1) #[.int .i64 c1, .int .i64 c2] 182 := by
  have := Bk.new (w.alloc (.cells #[.int .i64 a1, .int .i64 a2] 182)) #[.int .i64 c1, .int .i64 c2] 182
  rw [World.size_alloc, hW2] at this
  exact this
 have HBW := hm7 hbw
 have d0 := k1.cell (i := 0) rfl
 have d1 := k1.cell (i := 1) rfl
 have d2 := k2.cell (i := 0) rfl
 have d3 := k2.cell (i := 1) rfl
 have hg1 := k1.lt
 have hg2 := k2.lt
 have HX : Hid (or7 [sg7 a1 c1, sg7 a2 c2] = cc7 (a1, a2) (c1, c2)) := rfl
 obtain ⟨x, hx⟩ : ∃ x, sg7 a1 c1 = x := ⟨_, rfl⟩
 obtain ⟨y, hy⟩ : ∃ y, sg7 a2 c2 = y := ⟨_, rfl⟩
 have HC1 : Hid (∀ X : World, Calls Tryz.prog 46 #[.int .i64 a1, .int .i64 c1] X fun e w' => e = .returned (.int .i64 x) /\ w' = X) := fun X => by rw [<- hx]; exact cmpI7_any _ _ _
 have HC2 : Hid (∀ X : World, Calls Tryz.prog 46 #[.int .i64 a2, .int .i64 c2] X fun e w' => e = .returned (.int .i64 y) /\ w' = X) := fun X => by rw [<- hy]; exact cmpI7_any _ _ _
 have HW : Hid (w64 [x, y]) := by
  intro z hz
  simp at hz
  rcases hz with rfl | rfl
  ·rw [<- hx]; exact sg7_wf _ _
  ·rw [<- hy]; exact sg7_wf _ _
 rw [hx, hy] at HX
 clear hx hy k1 k2 hbw
 go_enter Tryz.func123, Tryz.ntmps123
 go_upto_region 1 with fail
 clear hW2
 refine wp_region_held_drew (S := fun w' => DB7 W2.heap.size W2 w') (by kernel_rfl) (DB7.refl _ _).drew (fun hH => ?_)
 revert hH
 generalize W2.drew = V0
 intro hH
 refine wTk 0 (.pointer (some ⟨w.heap.size, 0, none⟩)) rfl (by kernel_rfl) (fun _ _ _ h => h) (Or.inl ⟨by rfl, fun w' h => by clear h; go_simp⟩) hH ?_
 simp only [wA8, wB8, wC8, wD8]
 refine wTk 1 (.int .i64 a1) rfl (by kernel_rfl) (fun _ _ _ h => h) (Or.inl ⟨by rfl, fun w' h => by have q := (h.toBelow.cell (p := ⟨w.heap.size, 0, none⟩) hg1).trans d0; clear h; go_simp⟩) hH ?_
 simp only [wA8, wB8, wC8, wD8]
 refine wTk 2 (.pointer (some ⟨w.heap.size + 1, 0, none⟩)) rfl (by kernel_rfl) (fun _ _ _ h => h) (Or.inl ⟨by rfl, fun w' h => by clear h; go_simp⟩) hH ?_
 simp only [wA8, wB8, wC8, wD8]
 refine wTk 3 (.int .i64 c1) rfl (by kernel_rfl) (fun _ _ _ h => h) (Or.inl ⟨by rfl, fun w' h => by have q := (h.toBelow.cell (p := ⟨w.heap.size + 1, 0, none⟩) hg2).trans d2; clear h; go_simp⟩) hH ?_
 simp only [wA8, wB8, wC8, wD8]
 refine wTk 5 (.pointer (some ⟨w.heap.size, 1, none⟩)) rfl (by kernel_rfl) (fun _ _ _ h => h) (Or.inl ⟨by rfl, fun w' h => by clear h; go_simp⟩) hH ?_
 simp only [wA8, wB8, wC8, wD8]
 refine wTk 6 (.int .i64 a2) rfl (by kernel_rfl) (fun _ _ _ h => h) (Or.inl ⟨by rfl, fun w' h => by have q := (h.toBelow.cell (p := ⟨w.heap.size, 1, none⟩) hg1).trans d1; clear h; go_simp⟩) hH ?_
 simp only [wA8, wB8, wC8, wD8]
 refine wTk 7 (.pointer (some ⟨w.heap.size + 1, 1, none⟩)) rfl (by kernel_rfl) (fun _ _ _ h => h) (Or.inl ⟨by rfl, fun w' h => by clear h; go_simp⟩) hH ?_
 simp only [wA8, wB8, wC8, wD8]
 refine wTk 8 (.int .i64 c2) rfl (by kernel_rfl) (fun _ _ _ h => h) (Or.inl ⟨by rfl, fun w' h => by have q := (h.toBelow.cell (p := ⟨w.heap.size + 1, 1, none⟩) hg2).trans d3; clear h; go_simp⟩) hH ?_
 simp only [wA8, wB8, wC8, wD8]
 refine wRd 4 (by kernel_rfl) rfl (fun K hK => ?_)
 go_simp
 refine (HC1.out _).mono ?_
 rintro e V1 ⟨rfl, hV1⟩
 rw [hV1]
 clear hV1 V1
 refine hK.out _ _ hH (fun hH => ?_)
 clear hK K
 try simp only [wA8, wB8, wC8, wD8]
 refine wRd 9 (by kernel_rfl) rfl (fun K hK => ?_)
 go_simp
 refine (HC2.out _).mono ?_
 rintro e V1 ⟨rfl, hV1⟩
 rw [hV1]
 clear hV1 V1
 refine hK.out _ _ hH (fun hH => ?_)
 clear hK K
 try simp only [wA8, wB8, wC8, wD8]
 refine wRd 10 (by kernel_rfl) rfl (fun K hK => ?_)
 go_simp
 refine hK.out _ _ (hH.alloc hH.toBelow.size _) (fun hH => ?_)
 clear hK K
 try simp only [wA8, wB8, wC8, wD8]
 refine wRd 11 (by kernel_rfl) rfl (fun K hK => ?_)
 go_simp
 refine (cmpOr7_any Any [x, y] _ _ (li_lit7 (Bk.new _ _ _) rfl rfl HW.out (by simp))).mono ?_
 rintro e V2 ⟨rfl, hV2⟩
 rw [hV2, HX.out]
 clear hV2 V2
 refine hK.out _ _ hH (fun hH => ?_)
 clear hK K
 try simp only [wA8, wB8, wC8, wD8]
 refine wTk 12 (.int .i64 (cc7 (a1, a2) (c1, c2))) rfl (by kernel_rfl) (fun _ _ _ h => h) (Or.inl ⟨by rfl, fun w' h => by clear h; go_simp⟩) hH ?_
 simp only [wA8, wB8, wC8, wD8]
 refine wpAnyH_done (by kernel_rfl) ?_ _
 go_wp2
 go_ret
 exact ⟨rfl, HBW.out.trans (hH.mono (by omega))⟩
end Go.Proofs.YtechceagghcipaaGreatDoor
