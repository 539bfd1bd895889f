/-
  hearsaylaw25: lend; ScriptPrints' walk.
-/
import Derived.Test.YtdfdnjkeiddfjabDoorSRB
import Derived.Test.YtdfdnjkeiddfjabDoorSL2
import Derived.ArgAppend
namespace Go.Proofs.YtdfdnjkeiddfjabDoor
open Go.RowKit
attribute [local go_sem ↓] Go.wp_at_zero Go.wp_at_succ

theorem two_src8 {w : World} {b : Nat} {x y : Int} (h : BlkK w b #[.int .u8 x, .int .u8 y] 5) : (Value.slice (some ⟨b, 0, none⟩) 2 2 = .slice none 0 0 ∧ 2 = 0 ∧ [Value.int .u8 x, .int .u8 y] = []) ∨ ∃ (ad : Addr) (c : Nat), Value.slice (some ⟨b, 0, none⟩) 2 2 = .slice (some ad) 2 c ∧ [Value.int .u8 x, .int .u8 y].length = 2 * 1 ∧ ∀ (j : Nat) u, [Value.int .u8 x, .int .u8 y][j]? = some u → w.cell? (ad.add j) = some u :=
  Or.inr ⟨⟨b, 0, none⟩, 2, rfl, rfl, fun j u hu => World.news_of_block (cs := #[.int .u8 x, .int .u8 y]) (t := 5) (fr := (0, 0)) h j u (by simpa using hu)⟩
theorem row7_some {w : World} {base n m : Nat} {e : TypeId} {v : Value} {xs : List Value} (h : w.ownsRow base e n v m xs) (hm : 0 < m) : ∃ g cap, v = .slice (some ⟨g, 0, none⟩) m cap ∧ m ≤ cap := by
  rcases h.2 with ⟨rfl, hn⟩ | ⟨g, cap, cur, hv, _, _, hc, _⟩
  · omega
  · exact ⟨g, cap, hv, hc⟩
theorem OwW.laterL {w w' : World} {base : Nat} {v : Value} {l : List Int} (h : OwW w base v l) (hb : Below w.heap.size w w') : OwW w' base v l := row7_below h hb
set_option maxRecDepth 20000 in
set_option maxHeartbeats 2000000 in
theorem lendL_any (b : ByteArray) (a : Option Addr) (c : Nat) (w : World) (hb : LbW (fun _ => True) w (.slice a b.size c) (blK b)) (hs : b.size ≤ 9000000) : Calls Tryd.prog 5 #[.slice a b.size c] w fun e w' => ∃ g cap, e = .returned (.slice (some ⟨g, 0, none⟩) b.size cap) ∧ b.size + 2 ≤ cap ∧ OwW w' w.heap.size (.slice (some ⟨g, 0, none⟩) (b.size + 2) cap) (blK b ++ [91, 92]) ∧ Below w.heap.size w w' := by
  have HS := hm7 (lb_src hb)
  obtain ⟨n, hn⟩ : ∃ n, b.size = n := ⟨_, rfl⟩
  have hl : (blK b).length = n := by rw [bl_len, hn]
  rw [hl] at HS
  rw [hn] at HS hs ⊢
  have HL := hm7 hl
  clear hb hn hl
  go_enter Tryd.func5, Tryd.ntmps5
  go_wp2_with (first
    | (at_builtin; refine gappW Tryd.underlying22 Tryd.infoU8W rfl (by omega) rfl _ _ rfl w.heap.size (.slice none 0 0) 0 [] rfl (World.ownsRow_nil _ _ _ _) (.slice a n c) n (ubW (blK b)) rfl HS.out (ubW_one _) (by omega) (by omega) (Nat.le_refl _) ?_; intro v5 w5 ho5 hg5 hv5; simp only [Nat.zero_add, List.nil_append] at ho5; obtain ⟨a5, c5, rfl, -⟩ := row7_form ho5; have HO5 := hm7 (And.intro ho5 hg5); have HZ5 := hm7 hg5.size; clear ho5 hg5 hv5)
    | (at_builtin; refine gappW Tryd.underlying22 Tryd.infoU8W rfl (by omega) rfl _ _ rfl w.heap.size (.slice a5 n c5) n (ubW (blK b)) rfl (row7_below HO5.out.1 (below1K w5 (.cells #[.int .u8 91, .int .u8 92] 5))) (.slice (some ⟨w5.heap.size, 0, none⟩) 2 2) 2 [.int .u8 91, .int .u8 92] rfl (two_src8 (BlkK.new w5 _ _)) (by simp [Value.oneCell']) (by omega) (by omega) (by simp; have := HZ5.out; omega) ?_; intro v6 w6 ho6 hg6 hv6; obtain ⟨g6, c6, rfl, hc6⟩ := row7_some ho6 (by omega); have HO6 := hm7 (And.intro ho6 (And.intro hg6 hc6)); have n0 : (0 : Int) ≤ (n : Int) := (by omega); have n1 : (n : Int) ≤ (c6 : Int) := (by omega); have n2 : n ≤ c6 := (by omega); clear ho6 hg6 hv6))
  go_ret
  refine ⟨g6, c6, rfl, HO6.out.2.2, ?_, ?_⟩
  · unfold OwW
    rw [List.length_append, HL.out, ubW_app]
    exact HO6.out.1
  · have hb5 : Below w.heap.size w w5 := Fr.belowL (P := fun _ => False) (Fr.grown HO5.out.2 fun k hk => by cases hk) (fun _ h => h.elim) (Nat.le_refl _)
    refine (hb5.trans ((below1K w5 (.cells #[.int .u8 91, .int .u8 92] 5)).mono HZ5.out)).trans (Fr.belowL (Fr.grown HO6.out.2.1 (P := fun k => (Value.slice a5 n c5).ownBlock = some k) fun k hk => hk) (fun k hk => (World.ownsRow.lt HO5.out.1 k hk).1) (by simp; have := HZ5.out; omega))
theorem OwW.setL {w : World} {base g i : Nat} {v u : Value} {l : List Int} (h : OwW w base v l) (hg : ∀ k, v.ownBlock = some k → k ≠ g) : OwW (w.setCell ⟨g, i, none⟩ u) base v l :=
  row7 h fun k hk => heap_setCell_other _ _ _ _ (hg k hk)
set_option maxRecDepth 20000 in
set_option maxHeartbeats 8000000 in
theorem sprints_any (d : SdO) (b : ByteArray) (a : Option Addr) (c : Nat) (ho : OkS d b) (w : World) (hE : EnS w) (hb : LbW (fun _ => True) w (.slice a b.size c) (blK b)) : Calls Tryd.prog 3 #[d.v a b.size c] w fun e w' => e = .returned (.bool true) ∧ Below w.heap.size w w' := by
  have HE := hm7 hE
  have HO := hm7 ho
  obtain ⟨pr, hpr⟩ : ∃ pr, prS d b = pr := ⟨_, rfl⟩
  have HPA : Hid (∀ (X : World) a c, EnS X → LbW (fun _ => True) X (.slice a b.size c) (blK b) → Calls Tryd.prog 6 #[d.v a b.size c] X fun e w' => e = .returned (.tuple #[.string (pr.getD ⟨#[]⟩), .bool pr.isSome]) ∧ Below X.heap.size X w') := fun X a c h hl => by rw [← hpr]; exact aSPrint_any d b a c ho X h hl
  have HPB : Hid (∀ (X : World) a c, EnS X → LbW (fun _ => True) X (.slice a b.size c) (blK b) → Calls Tryd.prog 7 #[d.v a b.size c] X fun e w' => e = .returned (.tuple #[.string (pr.getD ⟨#[]⟩), .bool pr.isSome]) ∧ Below X.heap.size X w') := fun X a c h hl => by rw [← hpr]; exact bSPrint_any d b a c ho X h.env hl
  have HLN : Hid (∀ X, LbW (fun _ => True) X (.slice a b.size c) (blK b) → Calls Tryd.prog 5 #[.slice a b.size c] X fun e w' => ∃ g cap, e = .returned (.slice (some ⟨g, 0, none⟩) b.size cap) ∧ b.size + 2 ≤ cap ∧ OwW w' X.heap.size (.slice (some ⟨g, 0, none⟩) (b.size + 2) cap) (blK b ++ [91, 92]) ∧ Below X.heap.size X w') := fun X h => lendL_any b a c X h (by have := ho.b; omega)
  have HF : Hid (∀ X, EnS X → Calls Tryd.prog 8 #[] X fun e w' => e = .returned (.bool true) ∧ Below X.heap.size X w') := fun X h => first_any X h
  obtain ⟨S, hS⟩ : ∃ S, pr.getD ⟨#[]⟩ = S := ⟨_, rfl⟩
  obtain ⟨o, hoo⟩ : ∃ o, pr.isSome = o := ⟨_, rfl⟩
  rw [hS, hoo] at HPA HPB
  clear hS hoo hpr pr
  have hsb := ho.b
  obtain ⟨W1, hW1⟩ : ∃ W, w.alloc (.cells (d.cs (.slice a b.size c)) 24) = W := ⟨_, rfl⟩
  have hb1 : Below w.heap.size w W1 := by rw [← hW1]; exact below1K w _
  have hB1 : BxS W1 w.heap.size d (.slice a b.size c) b := ⟨by rw [← hW1]; exact BlkK.new w _ _, hb.below hb1⟩
  have hz1 : W1.heap.size = w.heap.size + 1 := by rw [← hW1]; simp
  have HZ1 := hm7 hz1
  have HB1 := hm7 hB1
  have HW1 := hm7 hb1
  obtain ⟨c0, c1, c2, c3, c4, c5, c6, c7⟩ := hB1.cells
  simp only [SdO.cs] at hW1
  clear hb1 hB1 hb hE ho hz1
  go_enter Tryd.func3, Tryd.ntmps3
  go_upto_region 2 with (fail)
  have hb2 := below1K W1 (.cells (d.cs (.slice a b.size c)) 24)
  have hr2 := BlkK.new W1 (d.cs (.slice a b.size c)) 24
  simp only [SdO.cs] at hb2 hr2
  revert hb2 hr2
  generalize W1.alloc _ = W2
  intro hb2 hr2
  have HB2 := hm7 (HB1.out.later hb2)
  have HR2 := hm7 hr2
  have HW2 := hm7 (below_stepK HW1.out hb2)
  have HL2 := hm7 (HLN.out W2 HB2.out.lb)
  have HD2 := hm7 hb2
  clear c0 c1 c2 c3 c4 c5 c6 c7
  have c4 : W2.cell? ⟨w.heap.size, 4, none⟩ = some (.slice a b.size c) := cell8 HB2.out.blk 4 _ rfl
  clear hb2 hr2
  go_upto_region 3 with (go_at_call 5; refine HL2.out.mono ?_; rintro e w3 ⟨g, cap, rfl, hcap, ho3, hb3⟩; have HO3 := hm7 ho3; have hr3 := HR2.out.later hb3; have HR3 := hm7 hr3; have HB3 := hm7 (HB2.out.later hb3); have HW3 := hm7 (below_stepK HW2.out hb3); have HD3 := hm7 (below_stepK HD2.out hb3); have HS3 := hm7 HR2.out.lt; have d4 := cell8 hr3 4 _ rfl; have e4 := froz8 hr3 4; have HCP := hm7 hcap; clear ho3 hb3 hr3 hcap)
  have hk3 : ∀ k, (Value.slice (some ⟨g, 0, none⟩) (b.size + 2) cap).ownBlock = some k → k ≠ W1.heap.size := fun k hk => by
    have := (World.ownsRow.lt HO3.out k hk).1
    have := HS3.out
    omega
  have hO : OwW (w3.setCell ⟨W1.heap.size, 4, none⟩ (.slice (some ⟨g, 0, none⟩) b.size cap)) W2.heap.size (.slice (some ⟨g, 0, none⟩) (b.size + 2) cap) (blK b ++ [91, 92]) := HO3.out.setL hk3
  have hR : BlkK (w3.setCell ⟨W1.heap.size, 4, none⟩ (.slice (some ⟨g, 0, none⟩) b.size cap)) W1.heap.size (d.cs (.slice (some ⟨g, 0, none⟩) b.size cap)) 24 := heap_setCell_same _ _ 4 _ _ _ HR3.out
  have hD : Below W1.heap.size W1 (w3.setCell ⟨W1.heap.size, 4, none⟩ (.slice (some ⟨g, 0, none⟩) b.size cap)) := HD3.out.setCell (Nat.le_refl _) _
  have hW : Below w.heap.size w (w3.setCell ⟨W1.heap.size, 4, none⟩ (.slice (some ⟨g, 0, none⟩) b.size cap)) := HW3.out.setCell (by have := HZ1.out; show w.heap.size ≤ W1.heap.size; omega) _
  clear c4 d4 e4 hk3
  revert hO hR hD hW
  generalize World.setCell _ _ _ = W4
  intro hO hR hD hW
  have hby : bytW (blK b ++ [91, 92]) := fun x hx => by
    rcases List.mem_append.1 hx with hx | hx
    · exact bl_byt b x hx
    · simp only [List.mem_cons, List.not_mem_nil, or_false] at hx
      omega
  have hlb := (hO.lb hby).take (k := b.size) (by omega)
  rw [List.take_left' (bl_len b)] at hlb
  have hB4 : BxS W4 W1.heap.size d (.slice (some ⟨g, 0, none⟩) b.size cap) b := ⟨hR, hlb.mono fun _ _ _ => trivial⟩
  have HY4 := hm7 hB4
  have HX4 := hm7 (HB1.out.later hD)
  have HW4 := hm7 hW
  have HE4 := hm7 (HE.out.later hW)
  have HO4 := hm7 hO
  have HBY := hm7 hby
  have HP4 := hm7 (HPA.out W4 _ _ HE4.out hB4.lb)
  obtain ⟨c0, c1, c2, c3, c4, c5, c6, c7⟩ := hB4.cells
  clear hO hR hD hW hby hlb hB4
  go_upto_region 4 with (go_at_call 6; refine HP4.out.mono ?_; rintro e w5 ⟨rfl, hb5⟩)
  have HY5 := hm7 (HY4.out.later hb5)
  have HX5 := hm7 (HX4.out.later hb5)
  have HW5 := hm7 (below_stepK HW4.out hb5)
  have HE5 := hm7 (HE4.out.later hb5)
  have HO5 := hm7 (HO4.out.laterL hb5)
  have HP5 := hm7 (HPB.out w5 _ _ HE5.out HX5.out.lb)
  clear c0 c1 c2 c3 c4 c5 c6 c7 hb5
  obtain ⟨c0, c1, c2, c3, c4, c5, c6, c7⟩ := HX5.out.cells
  go_upto_region 5 with (go_at_call 7; refine HP5.out.mono ?_; rintro e w6 ⟨rfl, hb6⟩)
  have hX6 := HX5.out.later hb6
  have hY6 := HY5.out.later hb6
  have HW6 := hm7 (below_stepK HW5.out hb6)
  have HE6 := hm7 (HE5.out.later hb6)
  have hlb6 := (HO5.out.laterL hb6).lb HBY.out
  have e1 := convL hX6.lb
  have e2 := convL hY6.lb
  clear c0 c1 c2 c3 c4 c5 c6 c7 hb6
  have c4 : w6.cell? ⟨w.heap.size, 4, none⟩ = some (.slice a b.size c) := cell8 hX6.blk 4 _ rfl
  have d4 : w6.cell? ⟨W1.heap.size, 4, none⟩ = some (.slice (some ⟨g, 0, none⟩) b.size cap) := cell8 hY6.blk 4 _ rfl
  obtain ⟨ga, gc, hgv, -, -, -, hgm⟩ := hlb6
  have hne : blK b ++ [91, 92] ≠ [] := by simp
  obtain ⟨gb, go, hgo, -, -, hcell⟩ := hgm.resolve_left (fun h => hne h.1)
  simp only [Value.slice.injEq] at hgv
  obtain ⟨rfl, -, rfl⟩ := hgv
  simp only [Option.some.injEq, Addr.mk.injEq, and_true] at hgo
  obtain ⟨rfl, rfl⟩ := hgo
  have q1 := hcell b.size 91 (by rw [List.getElem?_append_right (by rw [bl_len]; exact Nat.le_refl _), bl_len, Nat.sub_self]; rfl)
  have q2 := hcell (b.size + 1) 92 (by rw [List.getElem?_append_right (by rw [bl_len]; omega), bl_len, Nat.add_sub_cancel_left]; rfl)
  obtain ⟨n, hn⟩ : ∃ n, b.size = n := ⟨_, rfl⟩
  have n0 : (0 : Int) ≤ (n : Int) := by omega
  have n1 : (n : Int) + 2 ≤ (cap : Int) := by have := HCP.out; omega
  have n2 : (0 : Int) ≤ (n : Int) + 2 := by omega
  have n3 : (n : Int) ≤ 2000000 := by omega
  have n4 : n + 2 ≤ cap := by have := HCP.out; omega
  have n5 : (n : Int) < (n : Int) + 2 := by omega
  have n6 : (n : Int) + 1 < (n : Int) + 2 := by omega
  have n7 : (0 : Int) ≤ (n : Int) + 1 := by omega
  rw [Nat.zero_add] at q1 q2
  clear hX6 hY6 hgm hne hcell
  rw [hn] at c4 d4 e1 e2 q1 q2 ⊢
  clear hsb
  go_wp2_with (go_at_call 8; refine (HF.out _ HE6.out).mono ?_; rintro e wz ⟨rfl, hbz⟩; have HBZ := hm7 hbz; clear hbz)
  go_ret
  exact ⟨rfl, below_stepK HW6.out HBZ.out⟩
end Go.Proofs.YtdfdnjkeiddfjabDoor
