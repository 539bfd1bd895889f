import Derived.Test.YtdfdnjkeiddfjabDoorSL1
import Derived.Test.YtdfdnjkeiddfjabDoorK5
import Derived.Test.YtdfdnjkeiddfjabDoorSX3
import Derived.Test.YtdfdnjkeiddfjabDoorSC1
import Derived.Test.YtdfdnjkeiddfjabDoorKR5
import Derived.ArgAppend
/-
  hearsaylaw25: same (of a step and itself), has, cut, line, texts.
-/
namespace Go.Proofs.YtdfdnjkeiddfjabDoor
open Go.RowKit
attribute [local go_sem ↓] Go.wp_at_zero Go.wp_at_succ

theorem convL {w : World} {v : Value} {b : ByteArray} (h : LbW (fun _ => True) w v (blK b)) : (convert 22 9 v).run Tryd.prog w = .ok (.string b) w := by
  have := conv_lb h
  rwa [ofL_bl] at this
set_option maxRecDepth 20000 in
set_option maxHeartbeats 2000000 in
theorem samL_any (d : SdO) (b : ByteArray) (a a' : Option Addr) (c c' : Nat) (w : World) (h : LbW (fun _ => True) w (.slice a b.size c) (blK b)) (h' : LbW (fun _ => True) w (.slice a' b.size c') (blK b)) :
    Calls Tryd.prog 11 #[d.v a b.size c, d.v a' b.size c'] w fun e w' => e = .returned (.bool true) ∧ Below w.heap.size w w' := by
  obtain ⟨k, who, too, tx, n, m, q⟩ := d
  have hb := below2K w (.cells #[.int .i64 k, .string who, .string too, .string tx, .slice a b.size c, .int .i64 n, .int .i64 m, .int .i64 q] 24) (.cells #[.int .i64 k, .string who, .string too, .string tx, .slice a' b.size c', .int .i64 n, .int .i64 m, .int .i64 q] 24)
  have e1 := convL (h.below hb)
  have e2 := convL (h'.below hb)
  have HB := hm7 hb
  clear h h' hb
  go_enter Tryd.func11, Tryd.ntmps11
  go_wp2
  go_ret
  exact ⟨rfl, HB.out⟩
end Go.Proofs.YtdfdnjkeiddfjabDoor
/-
  script (stage 25): the document's Read.
-/
namespace Go.Proofs.YtdfdnjkeiddfjabDoor
open Go.RowKit
attribute [local go_sem ↓] Go.wp_at_zero Go.wp_at_succ

set_option maxRecDepth 20000 in
set_option maxHeartbeats 4000000 in
theorem bread_long (s : ByteArray) (w : World) (hz : 65536 < s.size) : Calls Tryd.prog 10 #[.string s] w (RdQ w (noS 251 0)) := by
  have hz2 : (s.size : Int) > 65536 := by omega
  go_enter Tryd.func10, Tryd.ntmps10
  go_wp2
  refine endE rfl rfl rfl rfl ?_ ?_ ?_
  · exact BlkK.old w z8S _ _
  · exact BlkK.new2 w #[.int .i64 251, .int .i64 0] _ _
  · exact below2K w _ _
set_option maxRecDepth 20000 in
set_option maxHeartbeats 4000000 in
theorem bread_bad (s : ByteArray) (w : World) (hz : s.size ≤ 65536) (hQ : QOk w) (e p : Int) (hc : cutL (blK s) (s.size : Int) = ([], e, p)) (he : e ≠ 0) : Calls Tryd.prog 10 #[.string s] w (RdQ w (noS e p)) := by
  have hz2 : ¬ (s.size : Int) > 65536 := by omega
  have HQ := hm7 hQ
  have HC : Hid (∀ X, QOk X → Calls Tryd.prog 22 #[.string s, .int .i64 (s.size : Int)] X (KPost X ([], e, p))) := fun X h => by rw [← hc]; exact qcut_any s _ (by omega) X h
  have he2 : (e != 0) = true := by simpa using he
  have he3 : ¬ e = 0 := he
  clear hc hQ he
  go_enter Tryd.func10, Tryd.ntmps10
  go_upto_region 3 with (fail)
  have hr0 : RtS w ((w.alloc (.cells z8S 24)).alloc (.cells #[.int .i64 0, .int .i64 0] 32)) := ⟨BlkK.old w _ _ _, BlkK.new2 w _ _ _, below2K w _ _⟩
  simp only [z8S] at hr0
  revert hr0
  generalize (w.alloc _).alloc _ = W0
  intro hr0
  have HR0 := hm7 hr0
  have HQ0 := hm7 (HC.out W0 (HQ.out.later hr0.b))
  clear hr0
  go_upto_region 5 with (go_at_call 22; refine HQ0.out.mono ?_; rintro e' w1 ⟨v, rfl, hok, hbk⟩; have hr1 := HR0.out.later hbk; have HR1 := hm7 hr1; clear hbk hok hr1)
  have hbx := below1K w1 (.cells #[.int .i64 e, .int .i64 p] 32)
  have hfx := BlkK.new w1 #[.int .i64 e, .int .i64 p] 32
  have hr := HR1.out.later hbx
  revert hbx hfx hr
  generalize w1.alloc _ = W1
  intro hbx hfx hr
  have HR := hm7 hr
  obtain ⟨f0, f1⟩ := ft_cells hfx
  obtain ⟨⟨c0, c1, c2, c3, c4, c5, c6, c7⟩, cf, d0, d1, df⟩ := hr.cells
  have n1 : w1.heap.size ≠ w.heap.size := by have := HR1.out.d.lt; omega
  have n2 : w1.heap.size ≠ w.heap.size + 1 := by have := HR1.out.f.lt; omega
  clear hbx hfx hr
  go_region
  all_goals
    go_wp2
    obtain ⟨h1, h2, h3⟩ := rtE HR.out e p
    exact endE rfl rfl rfl rfl (bkD h1) (bkD h2) (blD h3)
end Go.Proofs.YtdfdnjkeiddfjabDoor
/-
  script (stage 25): the document's Read: no token; the row's search.
-/
namespace Go.Proofs.YtdfdnjkeiddfjabDoor
open Go.RowKit
attribute [local go_sem ↓] Go.wp_at_zero Go.wp_at_succ

set_option maxRecDepth 20000 in
set_option maxHeartbeats 4000000 in
theorem bread_none (s : ByteArray) (w : World) (hz : s.size ≤ 65536) (hQ : QOk w) (hc : cutL (blK s) (s.size : Int) = ([], 0, 0)) : Calls Tryd.prog 10 #[.string s] w (RdQ w (noS 252 s.size)) := by
  have hz2 : ¬ (s.size : Int) > 65536 := by omega
  have HQ := hm7 hQ
  have HC : Hid (∀ X, QOk X → Calls Tryd.prog 22 #[.string s, .int .i64 (s.size : Int)] X (KPost X ([], 0, 0))) := fun X h => by rw [← hc]; exact qcut_any s _ (by omega) X h
  clear hc hQ
  go_enter Tryd.func10, Tryd.ntmps10
  go_upto_region 3 with (fail)
  have hr0 : RtS w ((w.alloc (.cells z8S 24)).alloc (.cells #[.int .i64 0, .int .i64 0] 32)) := ⟨BlkK.old w _ _ _, BlkK.new2 w _ _ _, below2K w _ _⟩
  simp only [z8S] at hr0
  revert hr0
  generalize (w.alloc _).alloc _ = W0
  intro hr0
  have HR0 := hm7 hr0
  have HQ0 := hm7 (HC.out W0 (HQ.out.later hr0.b))
  clear hr0
  go_upto_region 4 with (go_at_call 22; refine HQ0.out.mono ?_; rintro e' w1 ⟨v, rfl, hok, hbk⟩; have hr1 := HR0.out.later hbk; have HR1 := hm7 hr1; have HK1 := hm7 hok; clear hbk hok hr1)
  have hbx := below1K w1 (.cells #[.int .i64 0, .int .i64 0] 32)
  have hfx := BlkK.new w1 #[.int .i64 0, .int .i64 0] 32
  have hr := HR1.out.later hbx
  obtain ⟨va, vc, rfl⟩ := HK1.out.shape
  revert hbx hfx hr
  generalize w1.alloc _ = W1
  intro hbx hfx hr
  have HR := hm7 hr
  obtain ⟨f0, f1⟩ := ft_cells hfx
  obtain ⟨⟨c0, c1, c2, c3, c4, c5, c6, c7⟩, cf, d0, d1, df⟩ := hr.cells
  clear hbx hfx hr
  go_wp2
  obtain ⟨h1, h2, h3⟩ := rtE HR.out 252 s.size
  exact endE rfl rfl rfl rfl h1 h2 h3
def RwS.cs (r : RwS) : Array Value := #[.string r.x, .int .i64 r.k, .string r.p]
/-- The row so far. -/
def rwI (t : Tk) (j : Nat) : RwS := if t.k = 1 then lsS t.x j else zrS
theorem rwI_all (t : Tk) : rwI t 24 = rwT t := rfl
theorem rwI_zero (t : Tk) : rwI t 0 = zrS := by unfold rwI; split <;> rfl
theorem rwI_no {t : Tk} {j : Nat} (h : t.k ≠ 1) : rwI t (j + 1) = rwI t j := by unfold rwI; rw [if_neg h, if_neg h]
theorem rwI_same {t : Tk} {j : Nat} (h : t.k = 1) (hx : (rwS.getD j zrS).x = t.x) : rwI t (j + 1) = rwS.getD j zrS := by
  unfold rwI
  rw [if_pos h]
  show (if (rwS.getD j zrS).x = t.x then _ else _) = _
  rw [if_pos hx]
theorem rwI_other {t : Tk} {j : Nat} (h : t.k = 1) (hx : (rwS.getD j zrS).x ≠ t.x) : rwI t (j + 1) = rwI t j := by
  unfold rwI
  rw [if_pos h, if_pos h]
  show (if (rwS.getD j zrS).x = t.x then _ else lsS t.x j) = _
  rw [if_neg hx]
theorem store3S {W : World} {G : Nat} {a b c a' b' c' : Value} {t : TypeId} (h : BlkK W G #[a, b, c] t) : BlkK (((W.setCell ⟨G, 0, none⟩ a').setCell ⟨G, 1, none⟩ b').setCell ⟨G, 2, none⟩ c') G #[a', b', c'] t := by
  have h0 : BlkK (W.setCell ⟨G, 0, none⟩ a') G #[a', b, c] t := heap_setCell_same _ _ 0 _ _ a' h
  have h1 : BlkK ((W.setCell ⟨G, 0, none⟩ a').setCell ⟨G, 1, none⟩ b') G #[a', b', c] t := heap_setCell_same _ _ 1 _ _ b' h0
  exact heap_setCell_same _ _ 2 _ _ c' h1
end Go.Proofs.YtdfdnjkeiddfjabDoor
