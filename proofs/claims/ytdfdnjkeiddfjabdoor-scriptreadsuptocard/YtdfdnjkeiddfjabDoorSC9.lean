/-
  script (stage 25): the document's put of bytes, shown of bytes.
-/
import Derived.Test.YtdfdnjkeiddfjabDoorSC6
import Derived.Test.YtdfdnjkeiddfjabDoorWR2
namespace Go.Proofs.YtdfdnjkeiddfjabDoor
open Go.RowKit
attribute [local go_sem ↓] Go.wp_at_zero Go.wp_at_succ

/-- Bytes of a call's own that may have come out of a text. -/
def OwY (w : World) (base : Nat) (v : Value) (l : List Int) : Prop :=
  (v = .slice none 0 0 ∧ l = []) ∨
  ∃ g cap cur fz, v = .slice (some ⟨g, 0, none⟩) l.length cap ∧ base ≤ g ∧ w.heap[g]? = some (.cells cur 5 fz) ∧ (fz = (0, 0) ∨ fz = (cap, cap + 1)) ∧ l.length ≤ cap ∧ cap ≤ maxLen ∧ cur.size = cap ∧ cur.toList.take l.length = ubW l
theorem OwY.conv (X : World) (s : ByteArray) (hs : s.size ≤ 9000000) : OwY (Lib.bytesWorld X 5 s) X.heap.size (.slice (some ⟨X.heap.size, 0, none⟩) s.size (grownCap X s.size 0 5)) (blK s) := by
  have h1 := grownCap_ge X s.size 0 5
  have hz : (Lib.bytesCells X 5 s).size = grownCap X s.size 0 5 := by
    simp [Lib.bytesCells]; omega
  refine Or.inr ⟨_, _, _, _, by rw [bl_len], Nat.le_refl _, Lib.bytesWorld_at_new X _ s, Or.inr (by rw [hz]), by rw [bl_len]; exact h1, grownCap_le_maxLen _ _ _ _ (by unfold maxLen; omega), hz, ?_⟩
  rw [bl_len]
  simp only [Lib.bytesCells, Array.toList_append, Array.toList_map]
  rw [List.take_append_of_le_length (by simp)]
  rw [List.take_of_length_le (by simp)]
  simp [ubW, blK]
theorem OwY.later {w w' : World} {base : Nat} {v : Value} {l : List Int} (h : OwY w base v l) (hb : Below w.heap.size w w') : OwY w' base v l := by
  rcases h with h | ⟨g, cap, cur, fz, h1, h2, h3, h4⟩
  · exact Or.inl h
  · exact Or.inr ⟨g, cap, cur, fz, h1, h2, (hb.block g (Array.getElem?_eq_some_iff.1 h3).1).trans h3, h4⟩
theorem OwY.mono {w : World} {base base' : Nat} {v : Value} {l : List Int} (h : OwY w base v l) (hb : base' ≤ base) : OwY w base' v l := by
  rcases h with h | ⟨g, cap, cur, fz, h1, h2, h4⟩
  · exact Or.inl h
  · exact Or.inr ⟨g, cap, cur, fz, h1, Nat.le_trans hb h2, h4⟩
theorem OwY.set {w : World} {base g i : Nat} {v u : Value} {l : List Int} (h : OwY w base v l) (hg : g < base) : OwY (w.setCell ⟨g, i, none⟩ u) base v l := by
  rcases h with h | ⟨g', cap, cur, fz, h1, h2, h3, h4⟩
  · exact Or.inl h
  · exact Or.inr ⟨g', cap, cur, fz, h1, h2, (heap_setCell_other _ _ _ _ (show g' ≠ g by omega)).trans h3, h4⟩
theorem cell8 {X : World} {g : Nat} {c : Array Value} {t : TypeId} (h : BlkK X g c t) (j : Nat) (v : Value) (hv : c[j]? = some v) : X.cell? ⟨g, j, none⟩ = some v := by
  unfold World.cell?
  simp only
  rw [h]
  exact hv
theorem froz8 {X : World} {g : Nat} {c : Array Value} {t : TypeId} (h : BlkK X g c t) (j : Nat) : X.frozen? ⟨g, j, none⟩ = false := by
  simp [World.frozen?, show X.heap[g]? = _ from h]
theorem store8 {W : World} {G : Nat} {a0 a1 a2 a3 a4 a5 a6 a7 b0 b1 b2 b3 b4 b5 b6 b7 : Value} {t : TypeId} (h : BlkK W G #[a0, a1, a2, a3, a4, a5, a6, a7] t) :
    BlkK ((((((((W.setCell ⟨G, 0, none⟩ b0).setCell ⟨G, 1, none⟩ b1).setCell ⟨G, 2, none⟩ b2).setCell ⟨G, 3, none⟩ b3).setCell ⟨G, 4, none⟩ b4).setCell ⟨G, 5, none⟩ b5).setCell ⟨G, 6, none⟩ b6).setCell ⟨G, 7, none⟩ b7) G #[b0, b1, b2, b3, b4, b5, b6, b7] t := by
  have h0 : BlkK (W.setCell ⟨G, 0, none⟩ b0) G #[b0, a1, a2, a3, a4, a5, a6, a7] t := heap_setCell_same _ _ 0 _ _ b0 h
  have h1 : BlkK ((W.setCell ⟨G, 0, none⟩ b0).setCell ⟨G, 1, none⟩ b1) G #[b0, b1, a2, a3, a4, a5, a6, a7] t := heap_setCell_same _ _ 1 _ _ b1 h0
  have h2 : BlkK (((W.setCell ⟨G, 0, none⟩ b0).setCell ⟨G, 1, none⟩ b1).setCell ⟨G, 2, none⟩ b2) G #[b0, b1, b2, a3, a4, a5, a6, a7] t := heap_setCell_same _ _ 2 _ _ b2 h1
  have h3 : BlkK ((((W.setCell ⟨G, 0, none⟩ b0).setCell ⟨G, 1, none⟩ b1).setCell ⟨G, 2, none⟩ b2).setCell ⟨G, 3, none⟩ b3) G #[b0, b1, b2, b3, a4, a5, a6, a7] t := heap_setCell_same _ _ 3 _ _ b3 h2
  have h4 : BlkK (((((W.setCell ⟨G, 0, none⟩ b0).setCell ⟨G, 1, none⟩ b1).setCell ⟨G, 2, none⟩ b2).setCell ⟨G, 3, none⟩ b3).setCell ⟨G, 4, none⟩ b4) G #[b0, b1, b2, b3, b4, a5, a6, a7] t := heap_setCell_same _ _ 4 _ _ b4 h3
  have h5 : BlkK ((((((W.setCell ⟨G, 0, none⟩ b0).setCell ⟨G, 1, none⟩ b1).setCell ⟨G, 2, none⟩ b2).setCell ⟨G, 3, none⟩ b3).setCell ⟨G, 4, none⟩ b4).setCell ⟨G, 5, none⟩ b5) G #[b0, b1, b2, b3, b4, b5, a6, a7] t := heap_setCell_same _ _ 5 _ _ b5 h4
  have h6 : BlkK (((((((W.setCell ⟨G, 0, none⟩ b0).setCell ⟨G, 1, none⟩ b1).setCell ⟨G, 2, none⟩ b2).setCell ⟨G, 3, none⟩ b3).setCell ⟨G, 4, none⟩ b4).setCell ⟨G, 5, none⟩ b5).setCell ⟨G, 6, none⟩ b6) G #[b0, b1, b2, b3, b4, b5, b6, a7] t := heap_setCell_same _ _ 6 _ _ b6 h5
  have h7 : BlkK ((((((((W.setCell ⟨G, 0, none⟩ b0).setCell ⟨G, 1, none⟩ b1).setCell ⟨G, 2, none⟩ b2).setCell ⟨G, 3, none⟩ b3).setCell ⟨G, 4, none⟩ b4).setCell ⟨G, 5, none⟩ b5).setCell ⟨G, 6, none⟩ b6).setCell ⟨G, 7, none⟩ b7) G #[b0, b1, b2, b3, b4, b5, b6, b7] t := heap_setCell_same _ _ 7 _ _ b7 h6
  exact h7
set_option maxRecDepth 20000 in
set_option maxHeartbeats 2000000 in
theorem putS_98 (d : SdO) (a : Option Addr) (bn bc : Nat) (t : Tk) (ht : t.x.size ≤ 9000000) (w : World) : Calls Tryd.prog 24 #[d.v a bn bc, .int .u8 98, t.v] w fun e w' => ∃ a' c', e = .returned ((putS 98 d t).v a' t.x.size c') ∧ OwY w' w.heap.size (.slice a' t.x.size c') (blK t.x) ∧ Below w.heap.size w w' := by
  obtain ⟨k, who, too, tx, n, m, q⟩ := d
  obtain ⟨tk, x, tn, ta, te⟩ := t
  obtain ⟨W1, hW1⟩ : ∃ W, w.alloc (.cells #[.int .i64 k, .string who, .string too, .string tx, .slice a bn bc, .int .i64 n, .int .i64 m, .int .i64 q] 24) = W := ⟨_, rfl⟩
  obtain ⟨W2, hW2⟩ : ∃ W, W1.alloc (.cells #[.int .i64 tk, .string x, .int .i64 tn, .int .i64 ta, .int .i64 te] 60) = W := ⟨_, rfl⟩
  obtain ⟨W3, hW3⟩ : ∃ W, W2.alloc (.cells #[.int .i64 0, .string ⟨#[]⟩, .string ⟨#[]⟩, .string ⟨#[]⟩, .slice none 0 0, .int .i64 0, .int .i64 0, .int .i64 0] 24) = W := ⟨_, rfl⟩
  obtain ⟨W4, hW4⟩ : ∃ W, Lib.bytesWorld W3 5 x = W := ⟨_, rfl⟩
  have hcv := conv_str W3 x
  have hY : OwY W4 W3.heap.size (.slice (some ⟨W3.heap.size, 0, none⟩) x.size (grownCap W3 x.size 0 5)) (blK x) := by rw [← hW4]; exact OwY.conv W3 x ht
  have hb1 : Below w.heap.size w W1 := by rw [← hW1]; exact below1K w _
  have hb2 : Below W1.heap.size W1 W2 := by rw [← hW2]; exact below1K W1 _
  have hb3 : Below W2.heap.size W2 W3 := by rw [← hW3]; exact below1K W2 _
  have hb4 : Below W3.heap.size W3 W4 := by rw [← hW4]; exact below_conv W3 x
  have z1 : W1.heap.size = w.heap.size + 1 := by rw [← hW1]; simp
  have z2 : W2.heap.size = W1.heap.size + 1 := by rw [← hW2]; simp
  have z3 : W3.heap.size = W2.heap.size + 1 := by rw [← hW3]; simp
  have hd1 : BlkK W1 w.heap.size #[.int .i64 k, .string who, .string too, .string tx, .slice a bn bc, .int .i64 n, .int .i64 m, .int .i64 q] 24 := by rw [← hW1]; exact BlkK.new w _ _
  have ht2 : BlkK W2 W1.heap.size #[.int .i64 tk, .string x, .int .i64 tn, .int .i64 ta, .int .i64 te] 60 := by rw [← hW2]; exact BlkK.new W1 _ _
  have hr3 : BlkK W3 W2.heap.size #[.int .i64 0, .string ⟨#[]⟩, .string ⟨#[]⟩, .string ⟨#[]⟩, .slice none 0 0, .int .i64 0, .int .i64 0, .int .i64 0] 24 := by rw [← hW3]; exact BlkK.new W2 _ _
  have hd4 := ((hd1.later hb2).later hb3).later hb4
  have ht3 := ht2.later hb3
  have hr4 := hr3.later hb4
  rw [hW4] at hcv
  obtain ⟨C, hC⟩ : ∃ C, grownCap W3 x.size 0 5 = C := ⟨_, rfl⟩
  rw [hC] at hcv hY
  obtain ⟨W5, hW5⟩ : ∃ W, W4.setCell ⟨w.heap.size, 4, none⟩ (.slice (some ⟨W3.heap.size, 0, none⟩) x.size C) = W := ⟨_, rfl⟩
  have hd5 : BlkK W5 w.heap.size #[.int .i64 k, .string who, .string too, .string tx, .slice (some ⟨W3.heap.size, 0, none⟩) x.size C, .int .i64 n, .int .i64 m, .int .i64 q] 24 := by rw [← hW5]; exact heap_setCell_same _ _ 4 _ _ _ hd4
  have hr5 : BlkK W5 W2.heap.size #[.int .i64 0, .string ⟨#[]⟩, .string ⟨#[]⟩, .string ⟨#[]⟩, .slice none 0 0, .int .i64 0, .int .i64 0, .int .i64 0] 24 := by rw [← hW5]; exact hr4.other (by omega)
  have y1 := cell8 ht3 1 _ rfl
  have y2 := cell8 hd4 4 _ rfl
  have y3 := froz8 hd4 4
  have d0 := cell8 hd5 0 _ rfl
  have d1 := cell8 hd5 1 _ rfl
  have d2 := cell8 hd5 2 _ rfl
  have d3 := cell8 hd5 3 _ rfl
  have d4 := cell8 hd5 4 _ rfl
  have d5 := cell8 hd5 5 _ rfl
  have d6 := cell8 hd5 6 _ rfl
  have d7 := cell8 hd5 7 _ rfl
  have r0 := cell8 hr5 0 _ rfl
  have r1 := cell8 hr5 1 _ rfl
  have r2 := cell8 hr5 2 _ rfl
  have r3 := cell8 hr5 3 _ rfl
  have r4 := cell8 hr5 4 _ rfl
  have r5 := cell8 hr5 5 _ rfl
  have r6 := cell8 hr5 6 _ rfl
  have r7 := cell8 hr5 7 _ rfl
  have s0 := froz8 hr5 0
  have s1 := froz8 hr5 1
  have s2 := froz8 hr5 2
  have s3 := froz8 hr5 3
  have s4 := froz8 hr5 4
  have s5 := froz8 hr5 5
  have s6 := froz8 hr5 6
  have s7 := froz8 hr5 7
  have HR := hm7 hr5
  have HY := hm7 hY
  have hb03 : Below w.heap.size w W3 := (hb1.trans (hb2.mono (by omega))).trans (hb3.mono (by omega))
  have HB := hm7 (hb03.trans (hb4.mono (by omega)))
  have HZ := hm7 (And.intro z1 (And.intro z2 z3))
  have HG : Hid (W4.heap[W3.heap.size]? = W4.heap[W3.heap.size]?) := rfl
  clear hb1 hb2 hb3 hb4 hb03 z1 z2 z3 hd1 ht2 hr3 hd4 ht3 hr4 hd5 hr5 hY
  go_enter Tryd.func24, Tryd.ntmps24
  go_wp2
  obtain ⟨z1, z2, z3⟩ := HZ.out
  have hY5 : OwY W5 W3.heap.size (.slice (some ⟨W3.heap.size, 0, none⟩) x.size C) (blK x) := by rw [← hW5]; exact HY.out.set (by omega)
  have hB5 : Below w.heap.size w W5 := by rw [← hW5]; exact HB.out.setCell (Nat.le_refl _) _
  refine bodyPost_ret (ret_dS rfl _ _ W2.heap.size _ rfl (store8 HR.out) ⟨_, _, _, _, _, _, _, _, rfl⟩) rfl ?_
  have hg : W2.heap.size < W3.heap.size := by omega
  have hw : w.heap.size ≤ W2.heap.size := by omega
  exact ⟨_, _, rfl, ((((((((hY5.set hg).set hg).set hg).set hg).set hg).set hg).set hg).set hg).mono (by omega), (((((((hB5.setCell hw _).setCell hw _).setCell hw _).setCell hw _).setCell hw _).setCell hw _).setCell hw _).setCell hw _⟩
/-- Bytes as a text. -/
theorem conv_zero (p : Option Addr) (c : Nat) (w : World) : (convert 22 9 (.slice p 0 c)).run Tryd.prog w = .ok (.string ⟨#[]⟩) w := by
  rw [run_convert_bytes_string w 22 9 5 _ 0 c Tryd.underlying22 Tryd.underlying5 Tryd.underlying9]
  cases p <;> simp [Conv.bytesToString, loadCells]
  all_goals rfl
theorem conv_lb {F : Nat → Prop} {w : World} {v : Value} {l : List Int} (h : LbW F w v l) : (convert 22 9 v).run Tryd.prog w = .ok (.string (ofL l)) w := by
  obtain ⟨a, cap, rfl, h1, h2, h3, h4⟩ := h
  rcases h4 with ⟨rfl, -⟩ | ⟨b, o, rfl, -, -, h4⟩
  · exact conv_zero a cap w
  · have e := run_convert_bytes_back (P := Tryd.prog) w 22 9 5 ⟨b, o, none⟩ cap (i2b l) Tryd.underlying22 Tryd.underlying5 Tryd.underlying9 (fun j hj => by
      have hj' : j < l.length := by simpa [i2b] using hj
      rw [Go.WideShapes.add_plain, h4 j l[j] (List.getElem?_eq_getElem hj')]
      have := h3 l[j] (List.getElem_mem hj')
      simp [i2b]; omega)
    rw [show (i2b l).length = l.length by simp [i2b]] at e
    exact e
/-- What came out of a text lies in a block of its own. -/
theorem OwY.lb {w : World} {base : Nat} {v : Value} {l : List Int} (h : OwY w base v l) (hw : bytW l) : LbW (fun b => base ≤ b ∧ v.ownBlock = some b) w v l := by
  rcases h with ⟨rfl, rfl⟩ | ⟨g, cap, cur, fz, rfl, hb, hg, -, hn, hc, hs, ht⟩
  · exact LbW.nil _ _
  · refine ⟨_, cap, rfl, hn, by unfold maxLen at hc; omega, hw, Or.inr ⟨g, 0, rfl, (Array.getElem?_eq_some_iff.1 hg).1, ⟨hb, rfl⟩, fun i x hx => ?_⟩⟩
    have hi := (List.getElem?_eq_some_iff.1 hx).1
    unfold World.cell?
    simp only
    rw [hg]
    simp only [Nat.zero_add]
    have h1 : (cur.toList.take l.length)[i]? = (ubW l)[i]? := by rw [ht]
    rw [List.getElem?_take_of_lt (by omega)] at h1
    rw [← Array.getElem?_toList, h1]
    simp [ubW, hx]
theorem bl_bytW (s : ByteArray) : bytW (blK s) := bl_byt s
theorem Fr.belowL {P : Nat → Prop} {B : Nat} {w w' : World} (h : Fr P w w') (hP : ∀ k, P k → B ≤ k) (hB : B ≤ w.heap.size) : Below B w w' :=
  ⟨h.os, h.tape, h.output, h.size, fun k hk => h.block k (by omega) fun hp => by have := hP k hp; omega⟩
theorem BlkK.frL {P : Nat → Prop} {w w' : World} {g : Nat} {c : Array Value} {t : TypeId} (h : BlkK w g c t) (hf : Fr P w w') (hn : ¬ P g) : BlkK w' g c t := (hf.block _ h.lt hn).trans h
end Go.Proofs.YtdfdnjkeiddfjabDoor
