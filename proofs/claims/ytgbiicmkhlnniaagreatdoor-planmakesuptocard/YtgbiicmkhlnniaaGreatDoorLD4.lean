/-
  A clause lent. (Written by LD3.py.)
-/
import Derived.Test.YtgbiicmkhlnniaaGreatDoorOQ1
import Derived.Deep.RegionHeld3
import Derived.Deep.CutRange
import Derived.BigQuiet
namespace Go.Proofs.YtgbiicmkhlnniaaGreatDoor
open Go.RowKit
attribute [local go_sem ↓] Go.wp_at_zero Go.wp_at_succ

set_option maxRecDepth 20000 in
set_option maxHeartbeats 4000000 in
theorem lendC_any (c : Cm) (w : World) (h : c.ok w) (hh : TsP w c.head.2 c.head.1.args) (hp : ∀ x ∈ c.body, TsP w x.2 x.1.args) (ht : EsP w c.tv c.tests) (hs : (Ck.terms c.key).length ≤ 4000000) (hB : BehOk w) :
    Calls Tryz.prog 4 #[c.v] w fun e w' => ∃ d : Cm, e = .returned d.v ∧ d.key = c.key ∧ Lent w.heap.size w' d ∧ Below w.heap.size w w' := by
  obtain ⟨s1, s2, s3, s4⟩ := cm_sizes hs
  have HB1 : Hid (Bx ((w.alloc (.cells c.cs 30)).alloc (.cells #[.int .i64 0, .int .i64 0, .string ⟨#[]⟩, .string ⟨#[]⟩, .slice none 0 0, .slice none 0 0, .slice none 0 0] 30)) w.heap.size c) := (Bx.new h).later (below1 _ _)
  have z1 : (w.alloc (.cells c.cs 30)).heap.size = w.heap.size + 1 := by simp
  have HB2 : Hid (CBlk ((w.alloc (.cells c.cs 30)).alloc (.cells #[.int .i64 0, .int .i64 0, .string ⟨#[]⟩, .string ⟨#[]⟩, .slice none 0 0, .slice none 0 0, .slice none 0 0] 30)) (w.heap.size + 1) zcs 30) := by
    have := CBlk.new (w.alloc (.cells c.cs 30)) zcs 30
    rw [z1] at this; exact this
  have HW0 : Hid (Below w.heap.size w ((w.alloc (.cells c.cs 30)).alloc (.cells #[.int .i64 0, .int .i64 0, .string ⟨#[]⟩, .string ⟨#[]⟩, .slice none 0 0, .slice none 0 0, .slice none 0 0] 30)) ∧ ((w.alloc (.cells c.cs 30)).alloc (.cells #[.int .i64 0, .int .i64 0, .string ⟨#[]⟩, .string ⟨#[]⟩, .slice none 0 0, .slice none 0 0, .slice none 0 0] 30)).heap.size = w.heap.size + 2) := ⟨below2 _ _ _, by simp⟩
  have HL1a : Hid (∀ X : World, Below w.heap.size w X → Calls Tryz.prog 10 #[c.head.1.v c.head.2] X fun e w' => ∃ u, e = .returned (c.head.1.v u) ∧ LentT w' X.heap.size u c.head.1.args ∧ Below X.heap.size X w') := fun X hX => lendA_any c.head.1 c.head.2 X (hh.later hX) (by omega) (hB.later hX)
  have HL2a : Hid (∀ X : World, Below w.heap.size w X → Calls Tryz.prog 11 #[c.bv] X fun e w' => ∃ u LB, e = .returned u ∧ fsts LB = fsts c.body ∧ LentA w' X.heap.size u LB ∧ Below X.heap.size X w') := fun X hX => lendAs_any c.body c.bv X (h.b.later hX) (fun x hx => (hp x hx).later hX) (by omega) (fun x hx => by have := s4 x hx; omega) (hB.later hX)
  have HT : Hid (EsP w c.tv c.tests) := ht
  have HB : Hid (BehOk w) := hB
  have hts : c.tests.length ≤ 4000000 := s3
  obtain ⟨a, cap, e1⟩ := hh.form
  obtain ⟨-, ⟨a', cap', e2⟩, ⟨a'', cap'', e3⟩, -, -⟩ := h.shape
  clear h hh hp ht hs hB s1 s2 s3 s4 z1
  obtain ⟨⟨⟨⟨k, m, s⟩, nm, ls⟩, hx⟩, body, bv, tests, tv⟩ := c
  simp only at e1 e2 e3 hts HL1a HL2a HT
  subst e1 e2 e3
  go_enter Tryz.func4, Tryz.ntmps4
  go_upto_region 1 with fail
  revert HB1 HB2 HW0
  generalize (w.alloc (.cells #[.int .i64 k, .int .i64 m, .string s, .string nm, .slice a ls.length cap, .slice a' body.length cap', .slice a'' tests.length cap''] 30)).alloc (.cells #[.int .i64 0, .int .i64 0, .string ⟨#[]⟩, .string ⟨#[]⟩, .slice none 0 0, .slice none 0 0, .slice none 0 0] 30) = W0
  intro HB1 HB2 HW0
  have HL1 : Hid (∀ X : World, Below W0.heap.size W0 X → Calls Tryz.prog 10 #[.agg #[.int .i64 k, .int .i64 m, .string s, .string nm, .slice a ls.length cap]] X fun e w' => ∃ u, e = .returned (.agg #[.int .i64 k, .int .i64 m, .string s, .string nm, u]) ∧ LentT w' X.heap.size u ls ∧ Below X.heap.size X w') := fun X hX => HL1a.out X (below_step HW0.out.1 hX)
  have HL2 : Hid (∀ X : World, Below W0.heap.size W0 X → Calls Tryz.prog 11 #[.slice a' body.length cap'] X fun e w' => ∃ u LB, e = .returned u ∧ fsts LB = fsts body ∧ LentA w' X.heap.size u LB ∧ Below X.heap.size X w') := fun X hX => HL2a.out X (below_step HW0.out.1 hX)
  clear HL1a HL2a
  go_cut [3] from 4 (fun s3 wx => ∃ G u ub LB, s3 = .pointer (some ⟨G, 0, none⟩) ∧ LC W0 wx G ⟨⟨k, m, s⟩, nm, ls⟩ u ub LB ∧ fsts LB = fsts body)
  case first =>
    refine wp_region_held_drew (S := fun w' => Below W0.heap.size W0 w') (by kernel_rfl) (Below.refl _ _).drew (fun hH => ?_)
    revert hH
    generalize W0.drew = V0
    intro hH
    refine wpAnyH_take (i := 0) (oi := ⟨_, _, _, _, _, _⟩) (v := .pointer (some ⟨w.heap.size, 0, none⟩)) rfl (by kernel_rfl) (by kernel_rfl) (by kernel_rfl) (fun _ _ _ h => h) (Or.inl ⟨by rfl, fun w' h => by clear h; go_simp⟩) hH ?_
    simp only [Act.put, List.setIfInBounds_toArray, List.set_cons_zero, List.set_cons_succ]
    refine wpAnyH_take (i := 1) (oi := ⟨_, _, _, _, _, _⟩) (v := .agg #[.int .i64 k, .int .i64 m, .string s, .string nm, .slice a ls.length cap]) rfl (by kernel_rfl) (by kernel_rfl) (by kernel_rfl) (fun _ _ _ h => h) (Or.inl ⟨by rfl, fun w' h => by obtain ⟨c0, c1, c2, c3, c4, c5, c6⟩ := cseven (CBlk.later (Hid.out HB1).b h); clear h; go_simp⟩) hH ?_
    simp only [Act.put, List.setIfInBounds_toArray, List.set_cons_zero, List.set_cons_succ]
    refine wpAnyH_take (i := 3) (oi := ⟨_, _, _, _, _, _⟩) (v := .pointer (some ⟨w.heap.size, 5, none⟩)) rfl (by kernel_rfl) (by kernel_rfl) (by kernel_rfl) (fun _ _ _ h => h) (Or.inl ⟨by rfl, fun w' h => by clear h; go_simp⟩) hH ?_
    simp only [Act.put, List.setIfInBounds_toArray, List.set_cons_zero, List.set_cons_succ]
    refine wpAnyH_take (i := 4) (oi := ⟨_, _, _, _, _, _⟩) (v := .slice a' body.length cap') rfl (by kernel_rfl) (by kernel_rfl) (by kernel_rfl) (fun _ _ _ h => h) (Or.inl ⟨by rfl, fun w' h => by obtain ⟨c0, c1, c2, c3, c4, c5, c6⟩ := cseven (CBlk.later (Hid.out HB1).b h); clear h; go_simp⟩) hH ?_
    simp only [Act.put, List.setIfInBounds_toArray, List.set_cons_zero, List.set_cons_succ]
    refine wpAnyH_ready (rs := [2, 7]) (by kernel_rfl) (by simp) ?_
    refine (AllReadyH.cons (o := ⟨_, _, _, _, _, _⟩) rfl (fun K hK => ?_) (AllReadyH.cons (o := ⟨_, _, _, _, _, _⟩) rfl (fun K hK => ?_) AllReadyH.nil))
    · go_simp
      refine (HL1.out _ hH).mono ?_
      rintro e C1 ⟨u0, rfl, hu, hb⟩
      have HSB : Hid (W0.heap.size ≤ C1.heap.size) := Nat.le_trans hH.size hb.size
      have HU : Hid (LentT C1 W0.heap.size u0 ls) := hu.mono hH.size
      obtain ⟨gu, cu, hgu, -⟩ := hu
      subst hgu
      refine hK.out _ _ (below_step hH hb) (fun hH => ?_)
      clear hK K hb
      try simp only [Act.put, List.setIfInBounds_toArray, List.set_cons_zero, List.set_cons_succ]
      refine wpAnyH_ready (rs := [5, 7]) (by kernel_rfl) (by simp) ?_
      refine (AllReadyH.cons (o := ⟨_, _, _, _, _, _⟩) rfl (fun K hK => ?_) (AllReadyH.cons (o := ⟨_, _, _, _, _, _⟩) rfl (fun K hK => ?_) AllReadyH.nil))
      · go_simp
        refine (HL2.out _ hH).mono ?_
        rintro e C2 ⟨u1, LB, rfl, hf, hl, hb⟩
        have HU : Hid (LentT C2 W0.heap.size (.slice (some ⟨gu, 0, none⟩) ls.length cu) ls) := HU.out.later hb
        skip
        have HL : Hid (LentA C2 W0.heap.size u1 LB ∧ fsts LB = fsts body) := ⟨hl.mono hH.size, hf⟩
        obtain ⟨⟨gb, cb, hgb, -⟩, -⟩ := hl
        subst hgb
        refine hK.out _ _ (below_step hH hb) (fun hH => ?_)
        clear hK K hb
        try simp only [Act.put, List.setIfInBounds_toArray, List.set_cons_zero, List.set_cons_succ]
        refine wpAnyH_take (i := 6) (oi := ⟨_, _, _, _, _, _⟩) (v := .agg #[.int .i64 k, .int .i64 m, .string s, .string nm, .slice (some ⟨gu, 0, none⟩) ls.length cu, .slice (some ⟨gb, 0, none⟩) LB.length cb, .slice none 0 0]) rfl (by kernel_rfl) (by kernel_rfl) (by kernel_rfl) (fun _ _ _ h => h) (Or.inl ⟨by rfl, fun w' h => by clear h; go_simp⟩) hH ?_
        simp only [Act.put, List.setIfInBounds_toArray, List.set_cons_zero, List.set_cons_succ]
        refine wpAnyH_ready (rs := [7]) (by kernel_rfl) (by simp) ?_
        refine (AllReadyH.cons (o := ⟨_, _, _, _, _, _⟩) rfl (fun K hK => ?_) AllReadyH.nil)
        go_simp
        obtain ⟨G, hG⟩ : ∃ G, C2.heap.size = G := ⟨_, rfl⟩
        have FG : Hid (CBlk (C2.alloc (.cells #[.int .i64 0, .int .i64 0, .string ⟨#[]⟩, .string ⟨#[]⟩, .slice none 0 0, .slice none 0 0, .slice none 0 0] 30)) G zcs 30) := by have := CBlk.new C2 zcs 30; rw [hG] at this; exact this
        have GG : Hid (W0.heap.size ≤ G) := by show _ ≤ _; rw [← hG]; exact hH.size
        have HN : Hid (NGs G (.slice (some ⟨gu, 0, none⟩) ls.length cu) (.slice (some ⟨gb, 0, none⟩) LB.length cb) LB) := by have hlu := HU.out.lt; have hlb := HL.out.1.lt; refine ⟨fun k hk => ?_, fun k hk => ?_, fun x hx k hk => ?_⟩; (have := (hlu k hk).2; omega); (have := (hlb k hk).2; omega); (have := ((HL.out.1.ts x hx).lt k hk).2; omega)
        have HU : Hid (LentT (C2.alloc (.cells #[.int .i64 0, .int .i64 0, .string ⟨#[]⟩, .string ⟨#[]⟩, .slice none 0 0, .slice none 0 0, .slice none 0 0] 30)) W0.heap.size (.slice (some ⟨gu, 0, none⟩) ls.length cu) ls) := HU.out.later (below1 _ _)
        have HL : Hid (LentA (C2.alloc (.cells #[.int .i64 0, .int .i64 0, .string ⟨#[]⟩, .string ⟨#[]⟩, .slice none 0 0, .slice none 0 0, .slice none 0 0] 30)) W0.heap.size (.slice (some ⟨gb, 0, none⟩) LB.length cb) LB ∧ fsts LB = fsts body) := ⟨HL.out.1.later (below1 _ _), HL.out.2⟩
        rw [hG]
        refine hK.out _ _ (below_step hH (below1 _ _)) (fun hH => ?_)
        clear hK K
        revert FG hH HU HL
        generalize C2.alloc (.cells #[.int .i64 0, .int .i64 0, .string ⟨#[]⟩, .string ⟨#[]⟩, .slice none 0 0, .slice none 0 0, .slice none 0 0] 30) = U1
        intro FG HU HL hH
        clear hG
        refine wpAnyH_ready (rs := [8]) (by kernel_rfl) (by simp) ?_
        refine (AllReadyH.cons (o := ⟨_, _, _, _, _, _⟩) rfl (fun K hK => ?_) AllReadyH.nil)
        obtain ⟨c0, c1, c2, c3, c4, c5, c6⟩ := cseven FG.out
        try simp only [zcs] at c0 c1 c2 c3 c4 c5 c6
        have f0 : U1.frozen? ⟨G, 0, none⟩ = false := FG.out.froz
        have f1 : U1.frozen? ⟨G, 1, none⟩ = false := FG.out.froz
        have f2 : U1.frozen? ⟨G, 2, none⟩ = false := FG.out.froz
        have f3 : U1.frozen? ⟨G, 3, none⟩ = false := FG.out.froz
        have f4 : U1.frozen? ⟨G, 4, none⟩ = false := FG.out.froz
        have f5 : U1.frozen? ⟨G, 5, none⟩ = false := FG.out.froz
        have f6 : U1.frozen? ⟨G, 6, none⟩ = false := FG.out.froz
        go_simp
        clear c0 c1 c2 c3 c4 c5 c6 f0 f1 f2 f3 f4 f5 f6
        have HLC : Hid (LC W0 (Cput U1 G (.int .i64 k) (.int .i64 m) (.string s) (.string nm) (.slice (some ⟨gu, 0, none⟩) ls.length cu) (.slice (some ⟨gb, 0, none⟩) LB.length cb) (.slice none 0 0)) G ⟨⟨k, m, s⟩, nm, ls⟩ (.slice (some ⟨gu, 0, none⟩) ls.length cu) (.slice (some ⟨gb, 0, none⟩) LB.length cb) LB) := LC.mk7 k m s nm ls _ _ LB FG.out HU.out HL.out.1 HN.out GG.out hH
        refine hK.out _ _ (bput7 hH GG.out _ _ _ _ _ _ _) (fun hH => ?_)
        clear hK K
        refine wpAnyH_done (by kernel_rfl) ?_ _
        go_wp2_with fail
        go_meet
        case rel => exact ⟨G, _, _, LB, rfl, HLC.out, HL.out.2⟩
      · go_simp
        obtain ⟨G, hG⟩ : ∃ G, C1.heap.size = G := ⟨_, rfl⟩
        have FG : Hid (CBlk (C1.alloc (.cells #[.int .i64 0, .int .i64 0, .string ⟨#[]⟩, .string ⟨#[]⟩, .slice none 0 0, .slice none 0 0, .slice none 0 0] 30)) G zcs 30) := by have := CBlk.new C1 zcs 30; rw [hG] at this; exact this
        have GG : Hid (W0.heap.size ≤ G) := by show _ ≤ _; rw [← hG]; exact hH.size
        have HN0 : Hid (∀ k, (Value.slice (some ⟨gu, 0, none⟩) ls.length cu).ownBlock = some k → k ≠ G) := fun k hk => by have := (HU.out.lt k hk).2; omega
        have HU : Hid (LentT (C1.alloc (.cells #[.int .i64 0, .int .i64 0, .string ⟨#[]⟩, .string ⟨#[]⟩, .slice none 0 0, .slice none 0 0, .slice none 0 0] 30)) W0.heap.size (.slice (some ⟨gu, 0, none⟩) ls.length cu) ls) := HU.out.later (below1 _ _)
        rw [hG]
        refine hK.out _ _ (below_step hH (below1 _ _)) (fun hH => ?_)
        clear hK K
        revert FG hH HU
        generalize C1.alloc (.cells #[.int .i64 0, .int .i64 0, .string ⟨#[]⟩, .string ⟨#[]⟩, .slice none 0 0, .slice none 0 0, .slice none 0 0] 30) = U2
        intro FG HU hH
        clear hG
        refine wpAnyH_ready (rs := [5]) (by kernel_rfl) (by simp) ?_
        refine (AllReadyH.cons (o := ⟨_, _, _, _, _, _⟩) rfl (fun K hK => ?_) AllReadyH.nil)
        go_simp
        refine (HL2.out _ hH).mono ?_
        rintro e C3 ⟨u1, LB, rfl, hf, hl, hb⟩
        have FG0 : Hid (G < U2.heap.size) := FG.out.lt
        have FG : Hid (CBlk C3 G zcs 30) := FG.out.later hb
        have HU : Hid (LentT C3 W0.heap.size (.slice (some ⟨gu, 0, none⟩) ls.length cu) ls) := HU.out.later hb
        have HN : Hid (NGs G (.slice (some ⟨gu, 0, none⟩) ls.length cu) u1 LB) := by have hg := FG0.out; refine ⟨HN0.out, fun k hk => ?_, fun x hx k hk => ?_⟩; (have := (hl.lt k hk).1; omega); (have := ((hl.ts x hx).lt k hk).1; omega)
        have HL : Hid (LentA C3 W0.heap.size u1 LB ∧ fsts LB = fsts body) := ⟨hl.mono hH.size, hf⟩
        obtain ⟨⟨gb, cb, hgb, -⟩, -⟩ := hl
        subst hgb
        refine hK.out _ _ (below_step hH hb) (fun hH => ?_)
        clear hK K hb
        try simp only [Act.put, List.setIfInBounds_toArray, List.set_cons_zero, List.set_cons_succ]
        refine wpAnyH_take (i := 6) (oi := ⟨_, _, _, _, _, _⟩) (v := .agg #[.int .i64 k, .int .i64 m, .string s, .string nm, .slice (some ⟨gu, 0, none⟩) ls.length cu, .slice (some ⟨gb, 0, none⟩) LB.length cb, .slice none 0 0]) rfl (by kernel_rfl) (by kernel_rfl) (by kernel_rfl) (fun _ _ _ h => h) (Or.inl ⟨by rfl, fun w' h => by clear h; go_simp⟩) hH ?_
        simp only [Act.put, List.setIfInBounds_toArray, List.set_cons_zero, List.set_cons_succ]
        refine wpAnyH_ready (rs := [8]) (by kernel_rfl) (by simp) ?_
        refine (AllReadyH.cons (o := ⟨_, _, _, _, _, _⟩) rfl (fun K hK => ?_) AllReadyH.nil)
        obtain ⟨c0, c1, c2, c3, c4, c5, c6⟩ := cseven FG.out
        try simp only [zcs] at c0 c1 c2 c3 c4 c5 c6
        have f0 : C3.frozen? ⟨G, 0, none⟩ = false := FG.out.froz
        have f1 : C3.frozen? ⟨G, 1, none⟩ = false := FG.out.froz
        have f2 : C3.frozen? ⟨G, 2, none⟩ = false := FG.out.froz
        have f3 : C3.frozen? ⟨G, 3, none⟩ = false := FG.out.froz
        have f4 : C3.frozen? ⟨G, 4, none⟩ = false := FG.out.froz
        have f5 : C3.frozen? ⟨G, 5, none⟩ = false := FG.out.froz
        have f6 : C3.frozen? ⟨G, 6, none⟩ = false := FG.out.froz
        go_simp
        clear c0 c1 c2 c3 c4 c5 c6 f0 f1 f2 f3 f4 f5 f6
        have HLC : Hid (LC W0 (Cput C3 G (.int .i64 k) (.int .i64 m) (.string s) (.string nm) (.slice (some ⟨gu, 0, none⟩) ls.length cu) (.slice (some ⟨gb, 0, none⟩) LB.length cb) (.slice none 0 0)) G ⟨⟨k, m, s⟩, nm, ls⟩ (.slice (some ⟨gu, 0, none⟩) ls.length cu) (.slice (some ⟨gb, 0, none⟩) LB.length cb) LB) := LC.mk7 k m s nm ls _ _ LB FG.out HU.out HL.out.1 HN.out GG.out hH
        refine hK.out _ _ (bput7 hH GG.out _ _ _ _ _ _ _) (fun hH => ?_)
        clear hK K
        refine wpAnyH_done (by kernel_rfl) ?_ _
        go_wp2_with fail
        go_meet
        case rel => exact ⟨G, _, _, LB, rfl, HLC.out, HL.out.2⟩
    · go_simp
      obtain ⟨G, hG⟩ : ∃ G, V0.heap.size = G := ⟨_, rfl⟩
      have FG : Hid (CBlk (V0.alloc (.cells #[.int .i64 0, .int .i64 0, .string ⟨#[]⟩, .string ⟨#[]⟩, .slice none 0 0, .slice none 0 0, .slice none 0 0] 30)) G zcs 30) := by have := CBlk.new V0 zcs 30; rw [hG] at this; exact this
      have GG : Hid (W0.heap.size ≤ G) := by show _ ≤ _; rw [← hG]; exact hH.size
      rw [hG]
      refine hK.out _ _ (below_step hH (below1 _ _)) (fun hH => ?_)
      clear hK K
      revert FG hH 
      generalize V0.alloc (.cells #[.int .i64 0, .int .i64 0, .string ⟨#[]⟩, .string ⟨#[]⟩, .slice none 0 0, .slice none 0 0, .slice none 0 0] 30) = U3
      intro FG  hH
      clear hG
      refine wpAnyH_ready (rs := [2]) (by kernel_rfl) (by simp) ?_
      refine (AllReadyH.cons (o := ⟨_, _, _, _, _, _⟩) rfl (fun K hK => ?_) AllReadyH.nil)
      go_simp
      refine (HL1.out _ hH).mono ?_
      rintro e C4 ⟨u0, rfl, hu, hb⟩
      have HSB : Hid (W0.heap.size ≤ C4.heap.size) := Nat.le_trans hH.size hb.size
      have HN0 : Hid (∀ k, u0.ownBlock = some k → k ≠ G) := fun k hk => by have := (hu.lt k hk).1; have := FG.out.lt; omega
      have FG : Hid (CBlk C4 G zcs 30) := FG.out.later hb
      have HU : Hid (LentT C4 W0.heap.size u0 ls) := hu.mono hH.size
      obtain ⟨gu, cu, hgu, -⟩ := hu
      subst hgu
      refine hK.out _ _ (below_step hH hb) (fun hH => ?_)
      clear hK K hb
      try simp only [Act.put, List.setIfInBounds_toArray, List.set_cons_zero, List.set_cons_succ]
      refine wpAnyH_ready (rs := [5]) (by kernel_rfl) (by simp) ?_
      refine (AllReadyH.cons (o := ⟨_, _, _, _, _, _⟩) rfl (fun K hK => ?_) AllReadyH.nil)
      go_simp
      refine (HL2.out _ hH).mono ?_
      rintro e C5 ⟨u1, LB, rfl, hf, hl, hb⟩
      have FG0 : Hid (G < C4.heap.size) := FG.out.lt
      have FG : Hid (CBlk C5 G zcs 30) := FG.out.later hb
      have HU : Hid (LentT C5 W0.heap.size (.slice (some ⟨gu, 0, none⟩) ls.length cu) ls) := HU.out.later hb
      have HN : Hid (NGs G (.slice (some ⟨gu, 0, none⟩) ls.length cu) u1 LB) := by have hg := FG0.out; refine ⟨HN0.out, fun k hk => ?_, fun x hx k hk => ?_⟩; (have := (hl.lt k hk).1; omega); (have := ((hl.ts x hx).lt k hk).1; omega)
      have HL : Hid (LentA C5 W0.heap.size u1 LB ∧ fsts LB = fsts body) := ⟨hl.mono hH.size, hf⟩
      obtain ⟨⟨gb, cb, hgb, -⟩, -⟩ := hl
      subst hgb
      refine hK.out _ _ (below_step hH hb) (fun hH => ?_)
      clear hK K hb
      try simp only [Act.put, List.setIfInBounds_toArray, List.set_cons_zero, List.set_cons_succ]
      refine wpAnyH_take (i := 6) (oi := ⟨_, _, _, _, _, _⟩) (v := .agg #[.int .i64 k, .int .i64 m, .string s, .string nm, .slice (some ⟨gu, 0, none⟩) ls.length cu, .slice (some ⟨gb, 0, none⟩) LB.length cb, .slice none 0 0]) rfl (by kernel_rfl) (by kernel_rfl) (by kernel_rfl) (fun _ _ _ h => h) (Or.inl ⟨by rfl, fun w' h => by clear h; go_simp⟩) hH ?_
      simp only [Act.put, List.setIfInBounds_toArray, List.set_cons_zero, List.set_cons_succ]
      refine wpAnyH_ready (rs := [8]) (by kernel_rfl) (by simp) ?_
      refine (AllReadyH.cons (o := ⟨_, _, _, _, _, _⟩) rfl (fun K hK => ?_) AllReadyH.nil)
      obtain ⟨c0, c1, c2, c3, c4, c5, c6⟩ := cseven FG.out
      try simp only [zcs] at c0 c1 c2 c3 c4 c5 c6
      have f0 : C5.frozen? ⟨G, 0, none⟩ = false := FG.out.froz
      have f1 : C5.frozen? ⟨G, 1, none⟩ = false := FG.out.froz
      have f2 : C5.frozen? ⟨G, 2, none⟩ = false := FG.out.froz
      have f3 : C5.frozen? ⟨G, 3, none⟩ = false := FG.out.froz
      have f4 : C5.frozen? ⟨G, 4, none⟩ = false := FG.out.froz
      have f5 : C5.frozen? ⟨G, 5, none⟩ = false := FG.out.froz
      have f6 : C5.frozen? ⟨G, 6, none⟩ = false := FG.out.froz
      go_simp
      clear c0 c1 c2 c3 c4 c5 c6 f0 f1 f2 f3 f4 f5 f6
      have HLC : Hid (LC W0 (Cput C5 G (.int .i64 k) (.int .i64 m) (.string s) (.string nm) (.slice (some ⟨gu, 0, none⟩) ls.length cu) (.slice (some ⟨gb, 0, none⟩) LB.length cb) (.slice none 0 0)) G ⟨⟨k, m, s⟩, nm, ls⟩ (.slice (some ⟨gu, 0, none⟩) ls.length cu) (.slice (some ⟨gb, 0, none⟩) LB.length cb) LB) := LC.mk7 k m s nm ls _ _ LB FG.out HU.out HL.out.1 HN.out GG.out hH
      refine hK.out _ _ (bput7 hH GG.out _ _ _ _ _ _ _) (fun hH => ?_)
      clear hK K
      refine wpAnyH_done (by kernel_rfl) ?_ _
      go_wp2_with fail
      go_meet
      case rel => exact ⟨G, _, _, LB, rfl, HLC.out, HL.out.2⟩
  case rest =>
  obtain ⟨G, u, ub, LB, rfl, hlc, hf⟩ := hcut
  rename World => w3
  have HF : Hid (fsts LB = fsts body) := hf
  have HLC : Hid (LC W0 w3 G ⟨⟨k, m, s⟩, nm, ls⟩ u ub LB) := hlc
  have hlb : LB.length = body.length := by have := congrArg List.length hf; simpa [fsts] using this
  have HLB : Hid (LB.length = body.length) := hlb
  obtain ⟨⟨gb, cb, hgb, -⟩, -⟩ := hlc.hb
  obtain ⟨gu, cu, hgu, -⟩ := hlc.hu
  simp only at hgu
  subst hgb hgu
  obtain ⟨c0, c1, c2, c3, c4, c5, c6⟩ := cseven hlc.bo
  obtain ⟨e0, e1, e2, e3, e4, e5, e6⟩ := cseven (HB1.out.later hlc.bw).b
  have HT3 : Hid (EsP w3 (.slice a'' tests.length cap'') tests) := (HT.out.later HW0.out.1).later hlc.bw
  have HS3 : Hid (W0.heap.size ≤ w3.heap.size) := hlc.bw.size
  clear hlc hf hlb HL1 HL2 HT
  obtain ⟨uz, huz⟩ : ∃ z : Value, z = .slice none 0 0 := ⟨_, rfl⟩
  rw [← huz] at c6
  have HUZ : Hid (uz = .slice none 0 0) := huz
  clear huz
  go_upto_region 3 with (at_builtin; refine eapp_list rfl _ _ rfl (by show uz = _; exact HUZ.out) _ tests (by rfl) HT3.out (by omega) ?_; intro v1 w4 hown hb; obtain ⟨sa, sc, rfl⟩ := OwnE.form hown; have HO4 : Hid (OwnE w4 w3.heap.size (.slice sa tests.length sc) tests) := hown; have hlc4 := HLC.out; have HA4 : Hid (Ag W0.heap.size G w3 w4) := (Ag.refl _ _ _).below hb; have hbo := hlc4.bo.later hb; have HBO4 : Hid (CBlk w4 G #[.int .i64 k, .int .i64 m, .string s, .string nm, .slice (some ⟨gu, 0, none⟩) ls.length cu, .slice (some ⟨gb, 0, none⟩) LB.length cb, .slice none 0 0] 30) := hbo; have HW4 : Hid (Below W0.heap.size W0 w4) := below_step hlc4.bw hb; have HG4 : Hid (G < w3.heap.size) := hlc4.bo.lt; have f6 : w4.frozen? ⟨G, 6, none⟩ = false := hbo.froz; clear c0 c1 c2 c3 c4 c5 c6 e0 e1 e2 e3 e4 e5 e6; obtain ⟨c0, c1, c2, c3, c4, c5, c6⟩ := cseven hbo; clear hown hb hlc4 hbo)
  have hne1 : ∀ q, (Value.slice sa tests.length sc).ownBlock = some q → q ≠ G := fun q hq => by have := (HO4.out.lt q hq).1; have := HG4.out; omega
  have KO : Hid (OwnE (w4.setCell ⟨G, 6, none⟩ (.slice sa tests.length sc)) w3.heap.size (.slice sa tests.length sc) tests) := HO4.out.off hne1
  have KA : Hid (Ag W0.heap.size G w3 (w4.setCell ⟨G, 6, none⟩ (.slice sa tests.length sc))) := HA4.out.set
  have KB : Hid (CBlk (w4.setCell ⟨G, 6, none⟩ (.slice sa tests.length sc)) G #[.int .i64 k, .int .i64 m, .string s, .string nm, .slice (some ⟨gu, 0, none⟩) ls.length cu, .slice (some ⟨gb, 0, none⟩) LB.length cb, (.slice sa tests.length sc)] 30) := by have := HBO4.out.set 6 (.slice sa tests.length sc); simp at this; exact this
  have KW : Hid (Below W0.heap.size W0 (w4.setCell ⟨G, 6, none⟩ (.slice sa tests.length sc))) := HW4.out.setCell (show W0.heap.size ≤ G from HLC.out.gw) _
  clear c0 c1 c2 c3 c4 c5 c6 f6 HO4 HA4 HBO4 HW4 HT3 hne1
  revert KO KA KB KW
  generalize w4.setCell ⟨G, 6, none⟩ (.slice sa tests.length sc) = w5
  intro KO KA KB KW
  obtain ⟨c0, c1, c2, c3, c4, c5, c6⟩ := cseven KB.out
  obtain ⟨-, -, -, -, -, b0, b1, b2, b3, b4, b5, b6⟩ := (HB.out.later HW0.out.1).later KW.out
  have HG5 : Hid (CBlk (w5.alloc (.cells #[.int .i64 903, .int .i64 0, .int .i64 0, .string ⟨#[]⟩, .int .i64 0, .int .i64 0, .string ⟨#[]⟩] 46)) w5.heap.size #[.int .i64 903, .int .i64 0, .int .i64 0, .string ⟨#[]⟩, .int .i64 0, .int .i64 0, .string ⟨#[]⟩] 46) := CBlk.new _ _ _
  have HO5 : Hid (OwnE (w5.alloc (.cells #[.int .i64 903, .int .i64 0, .int .i64 0, .string ⟨#[]⟩, .int .i64 0, .int .i64 0, .string ⟨#[]⟩] 46)) w3.heap.size (.slice sa tests.length sc) tests) := KO.out.later (below1 _ _)
  have HX5 : Hid (Below w5.heap.size w5 (w5.alloc (.cells #[.int .i64 903, .int .i64 0, .int .i64 0, .string ⟨#[]⟩, .int .i64 0, .int .i64 0, .string ⟨#[]⟩] 46))) := below1 _ _
  go_upto_region 4 with (at_builtin; refine eapp_one rfl _ _ rfl w3.heap.size _ tests (by rfl) HO5.out w5.heap.size bE (by rfl) HG5.out (ecell_one _) (by omega) (Nat.le_trans KA.out.s HX5.out.size) ?_; intro v2 w6 hown hb hg ha; obtain ⟨g2, cap2, rfl, hcap⟩ := ownE_some hown; have hcap' : (tests.length : Int) ≤ (cap2 : Int) := (by omega); have HO6 : Hid (OwnE w6 w3.heap.size (.slice (some ⟨g2, 0, none⟩) (tests.length + 1) cap2) (tests ++ [bE])) := hown; have HA6 : Hid (Ag W0.heap.size G w3 w6) := (KA.out.below (HX5.out.mono KA.out.s)).below hb; have hbb := HX5.out; have hs5 := KA.out.s; have hb56 : Below w3.heap.size w5 w6 := ((HX5.out.mono hs5).trans hb); have hbo : CBlk w6 G #[.int .i64 k, .int .i64 m, .string s, .string nm, .slice (some ⟨gu, 0, none⟩) ls.length cu, .slice (some ⟨gb, 0, none⟩) LB.length cb, .slice sa tests.length sc] 30 := (hb56.block G HG4.out).trans KB.out; have HBO6 : Hid (CBlk w6 G #[.int .i64 k, .int .i64 m, .string s, .string nm, .slice (some ⟨gu, 0, none⟩) ls.length cu, .slice (some ⟨gb, 0, none⟩) LB.length cb, .slice sa tests.length sc] 30) := hbo; have HW6 : Hid (Below W0.heap.size W0 w6) := KW.out.trans (hb56.mono HS3.out); have f6 : w6.frozen? ⟨G, 6, none⟩ = false := hbo.froz; clear c0 c1 c2 c3 c4 c5 c6 b0 b1 b2 b3 b4 b5 b6; obtain ⟨c0, c1, c2, c3, c4, c5, c6⟩ := cseven hbo; clear hown hb hg ha hbb hs5 hb56 hbo)
  have hne2 : ∀ q, (Value.slice (some ⟨g2, 0, none⟩) (tests.length + 1) cap2).ownBlock = some q → q ≠ G := fun q hq => by have := (HO6.out.lt q hq).1; have := HG4.out; omega
  have LO : Hid (OwnE (w6.setCell ⟨G, 6, none⟩ (.slice (some ⟨g2, 0, none⟩) (tests.length + 1) cap2)) w3.heap.size (.slice (some ⟨g2, 0, none⟩) (tests.length + 1) cap2) (tests ++ [bE])) := HO6.out.off hne2
  have LA_ : Hid (Ag W0.heap.size G w3 (w6.setCell ⟨G, 6, none⟩ (.slice (some ⟨g2, 0, none⟩) (tests.length + 1) cap2))) := HA6.out.set
  have LB_ : Hid (CBlk (w6.setCell ⟨G, 6, none⟩ (.slice (some ⟨g2, 0, none⟩) (tests.length + 1) cap2)) G #[.int .i64 k, .int .i64 m, .string s, .string nm, .slice (some ⟨gu, 0, none⟩) ls.length cu, .slice (some ⟨gb, 0, none⟩) LB.length cb, .slice (some ⟨g2, 0, none⟩) (tests.length + 1) cap2] 30) := by have := HBO6.out.set 6 (.slice (some ⟨g2, 0, none⟩) (tests.length + 1) cap2); simp at this; exact this
  have LW : Hid (Below W0.heap.size W0 (w6.setCell ⟨G, 6, none⟩ (.slice (some ⟨g2, 0, none⟩) (tests.length + 1) cap2))) := HW6.out.setCell (show W0.heap.size ≤ G from HLC.out.gw) _
  have HNE : Hid (g2 ≠ G) := hne2 g2 rfl
  clear c0 c1 c2 c3 c4 c5 c6 f6 HO6 HA6 HBO6 HW6 hne2 KO KA KB KW HG5 HO5 HX5
  revert LO LA_ LB_ LW
  generalize w6.setCell ⟨G, 6, none⟩ (.slice (some ⟨g2, 0, none⟩) (tests.length + 1) cap2) = w7
  intro LO LA_ LB_ LW
  obtain ⟨c0, c1, c2, c3, c4, c5, c6⟩ := cseven LB_.out
  obtain ⟨e0, e1, e2, e3, e4, e5, e6⟩ := cseven (HB1.out.later LW.out).b
  have f6 : w7.frozen? ⟨G, 6, none⟩ = false := LB_.out.froz
  go_upto_region 5 with fail
  have MO : Hid (OwnE (w7.setCell ⟨G, 6, none⟩ (.slice (some ⟨g2, 0, none⟩) tests.length cap2)) w3.heap.size (.slice (some ⟨g2, 0, none⟩) (tests.length + 1) cap2) (tests ++ [bE])) := LO.out.off fun q hq => by have e : g2 = q := Option.some.inj hq; rw [← e]; exact HNE.out
  have MA_ : Hid (Ag W0.heap.size G w3 (w7.setCell ⟨G, 6, none⟩ (.slice (some ⟨g2, 0, none⟩) tests.length cap2))) := LA_.out.set
  have MB : Hid (CBlk (w7.setCell ⟨G, 6, none⟩ (.slice (some ⟨g2, 0, none⟩) tests.length cap2)) G #[.int .i64 k, .int .i64 m, .string s, .string nm, .slice (some ⟨gu, 0, none⟩) ls.length cu, .slice (some ⟨gb, 0, none⟩) LB.length cb, .slice (some ⟨g2, 0, none⟩) tests.length cap2] 30) := by have := LB_.out.set 6 (.slice (some ⟨g2, 0, none⟩) tests.length cap2); simp at this; exact this
  have MW : Hid (Below W0.heap.size W0 (w7.setCell ⟨G, 6, none⟩ (.slice (some ⟨g2, 0, none⟩) tests.length cap2))) := LW.out.setCell (show W0.heap.size ≤ G from HLC.out.gw) _
  clear c0 c1 c2 c3 c4 c5 c6 e0 e1 e2 e3 e4 e5 e6 f6 LO LA_ LB_ LW
  revert MO MA_ MB MW
  generalize w7.setCell ⟨G, 6, none⟩ (.slice (some ⟨g2, 0, none⟩) tests.length cap2) = w8
  intro MO MA_ MB MW
  obtain ⟨c0, c1, c2, c3, c4, c5, c6⟩ := cseven MB.out
  have hr := HB2.out.later MW.out
  obtain ⟨r0, r1, r2, r3, r4, r5, r6⟩ := cseven hr
  have hfr : ∀ i, w8.frozen? ⟨w.heap.size + 1, i, none⟩ = false := fun i => hr.froz
  have q0 := hfr 0
  have q1 := hfr 1
  have q2 := hfr 2
  have q3 := hfr 3
  have q4 := hfr 4
  have q5 := hfr 5
  have q6 := hfr 6
  clear hr hfr
  go_wp2
  have hw2 := HW0.out.2
  have nd : w.heap.size + 1 < W0.heap.size := by omega
  have ng : w.heap.size + 1 < w3.heap.size := by have := HS3.out; omega
  have hag := (((((((MA_.out.low (i := 0) (v := .int .i64 k) nd).low (i := 1) (v := .int .i64 m) nd).low (i := 2) (v := .string s) nd).low (i := 3) (v := .string nm) nd).low (i := 4) (v := .slice (some ⟨gu, 0, none⟩) ls.length cu) nd).low (i := 5) (v := .slice (some ⟨gb, 0, none⟩) LB.length cb) nd).low (i := 6) (v := .slice (some ⟨g2, 0, none⟩) tests.length cap2) nd)
  have nw : w.heap.size ≤ w.heap.size + 1 := by omega
  have hbw : Below w.heap.size w w8 := below_step HW0.out.1 MW.out
  refine bodyPost_ret (v := Cm.v ⟨(⟨⟨k, m, s⟩, nm, ls⟩, .slice (some ⟨gu, 0, none⟩) ls.length cu), LB, .slice (some ⟨gb, 0, none⟩) LB.length cb, tests, .slice (some ⟨g2, 0, none⟩) tests.length cap2⟩) (by simp [results, Tryz.results4, go_sem, Cm.v, r0, r1, r2, r3, r4, r5, r6]) rfl
    ⟨⟨(⟨⟨k, m, s⟩, nm, ls⟩, .slice (some ⟨gu, 0, none⟩) ls.length cu), LB, .slice (some ⟨gb, 0, none⟩) LB.length cb, tests, .slice (some ⟨g2, 0, none⟩) tests.length cap2⟩, rfl, ?_, ⟨?_, ?_, ?_⟩, ((((((hbw.setCell nw _).setCell nw _).setCell nw _).setCell nw _).setCell nw _).setCell nw _).setCell nw _⟩
  · unfold Cm.key; simp only; rw [HF.out]
  · exact (HLC.out.hu.ag hag HLC.out.n.a).mono (by omega)
  · exact (HLC.out.hb.ag hag HLC.out.n.b HLC.out.n.c).mono (by omega)
  · exact ⟨g2, cap2, rfl, (((((((MO.out.set ng).set ng).set ng).set ng).set ng).set ng).set ng).mono (by have := HS3.out; omega)⟩
end Go.Proofs.YtgbiicmkhlnniaaGreatDoor
