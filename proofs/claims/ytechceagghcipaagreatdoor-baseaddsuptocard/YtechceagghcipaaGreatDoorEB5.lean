import Derived.Test.YtechceagghcipaaGreatDoorEB4
import Derived.LoopN
namespace Go.Proofs.YtechceagghcipaaGreatDoor
open Go.RowKit
attribute [local go_sem ↓] Go.wp_at_zero Go.wp_at_succ

theorem TsP.shape {w : World} {v : Value} {l : List Tm} (h : TsP w v l) : ∃ ad cap, v = .slice ad l.length cap := by
 rcases h with ⟨rfl, rfl⟩ | ⟨ad, cap, rfl, -⟩
 ·exact ⟨none, 0, rfl⟩
 ·exact ⟨_, _, rfl⟩
set_option maxRecDepth 20000 in
set_option maxHeartbeats 2000000 in
theorem concat8_any (b : Nat) (x y : Value) (l m : List Tm) (Y : World) (hb : Bk Y b #[x, y] 25) (hx : TsP Y x l) (hy : TsP Y y m) (h0 : 0 < l.length) (hl : l.length <= 10000) (hm : m.length <= 100000000000) :
  Calls Tryz.prog 89 #[.slice (some ⟨b, 0, none⟩) 2 2] Y fun e Y' => ∃ v, e = .returned v /\ OwnT Y' Y.heap.size v (l ++ m) /\ Below Y.heap.size Y Y' := by
 have HX := hm7 hx
 have HY := hm7 hy
 have HK := hm7 hb
 obtain ⟨ax, cx, rfl⟩ := hx.shape
 obtain ⟨ay, cy, rfl⟩ := hy.shape
 have c0 := hb.cell (i := 0) rfl
 have c1 := hb.cell (i := 1) rfl
 have HG : Hid (∀ X : World, Calls Tryz.prog 121 #[.slice none 0 0, .int .i64 ((l.length : Int) + (m.length : Int))] X fun e Y' => ∃ g cap, e = .returned (.slice (some ⟨g, 0, none⟩) 0 cap) /\ OwnT Y' X.heap.size (.slice (some ⟨g, 0, none⟩) 0 cap) [] /\ Below X.heap.size X Y') := fun X => by
  have := grow8_any (l.length + m.length) (by omega) (by omega) X
  rw [show (((l.length + m.length : Nat)) : Int) = (l.length : Int) + (m.length : Int) by omega] at this
  exact this
 have HL := hm7 (show l.length + m.length <= 4000000000000 by omega)
 have HL1 := hm7 (show ([] : List Tm).length + l.length <= 4000000000000 by simp only [List.length_nil]; omega)
 have HL2 := hm7 (show ([] ++ l).length + m.length <= 4000000000000 by simp only [List.nil_append]; omega)
 have p0 : ¬ (l.length : Int) < 0 := by omega
 have p1 : ¬ (l.length : Int) + (m.length : Int) < 0 := by omega
 have p2 : (l.length : Int) <= 10000 := by omega
 have p3 : (m.length : Int) <= 100000000000 := by omega
 clear hx hy hb h0 hl hm
 go_enter Tryz.func89, Tryz.ntmps89
 go_wp2
 refine wp_loop_rounds 3 ?_
 rw [rounds_succ]; go_wp2
 rw [rounds_succ]; go_wp2
 rw [rounds_succ]; go_wp2_with (go_at_call 121; refine (HG.out _).mono ?_; clear HG; rintro e w1 ⟨g, cap, rfl, ho, hb⟩; have HO := hm7 ho; have c0 := (HK.out.below hb).cell (i := 0) rfl; have c1 := (HK.out.below hb).cell (i := 1) rfl; have HB := hm7 hb; clear ho hb)
 refine wp_loop_rounds 3 ?_
 rw [rounds_succ]; go_wp2_with (at_builtin; refine app_terms rfl _ _ rfl Y.heap.size _ [] (by rfl) HO.out _ l (by rfl) (HX.out.later HB.out) HL1.out HB.out.size ?_; intro v2 w2 ho hb hg; have HO2 := hm7 ho; have c0 := (HK.out.below (HB.out.trans hb)).cell (i := 0) rfl; have c1 := (HK.out.below (HB.out.trans hb)).cell (i := 1) rfl; have HB2 := hm7 (HB.out.trans hb); clear ho hb hg)
 rw [rounds_succ]; go_wp2_with (at_builtin; refine app_terms rfl _ _ rfl Y.heap.size _ _ (by rfl) HO2.out _ m (by rfl) (HY.out.later HB2.out) HL2.out HB2.out.size ?_; intro v3 w3 ho hb hg; have HO3 := hm7 ho; have HB3 := hm7 (HB2.out.trans hb); clear ho hb hg)
 rw [rounds_succ]; go_wp2
 go_ret
 exact ⟨_, rfl, by have := HO3.out; rw [List.nil_append] at this; exact this, HB3.out⟩
end Go.Proofs.YtechceagghcipaaGreatDoor
