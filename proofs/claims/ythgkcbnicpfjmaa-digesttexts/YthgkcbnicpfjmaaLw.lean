/-
  hearsaylaw01.DigestTexts, for every digest and text.
-/
import Derived.Test.YthgkcbnicpfjmaaEq
import Derived.Test.YthgkcbnicpfjmaaRf
namespace Go.Proofs.Ythgkcbnicpfjmaa
open Go.RowKit

theorem range_later {b o : Nat} {w wx : World} {cs : List Value} (hb : Below w.heap.size w wx) (h : w.rangeAt b o cs) : wx.rangeAt b o cs := fun j v hv => cell_later hb (h j v hv)
theorem setRow_other (w : World) (g : Nat) (C : Array Value) (k : Nat) (h : k ≠ g) : (w.setRow g C).heap[k]? = w.heap[k]? := by
  simp only [World.setRow, Array.getElem?_modify]; rw [if_neg (fun e => h e.symm)]
theorem range_block {w : World} {b : Nat} {C : Array Value} {t : TypeId} {fr : Nat × Nat} (h : w.heap[b]? = some (.cells C t fr)) : w.rangeAt b 0 C.toList := fun j v hv => by
  rw [Nat.zero_add, cell_of_row _ _ _ _ _ _ h]; simpa using hv

def dlist (f : Nat → Int) : List Value := (List.range 32).map fun i => Value.int .u8 (f i)
theorem law_facts (xs : List Int) (s : ByteArray) (w w1 w2 : World) (Z1 Z2 : Array Value)
    (hb1 : Below (w.alloc (.cells (xs.map (Value.int .u8)).toArray 23)).heap.size (w.alloc (.cells (xs.map (Value.int .u8)).toArray 23)) w1)
    (hb2 : Below ((w1.alloc (.cells Z1 23)).setRow w1.heap.size (dcells (fhF s))).heap.size ((w1.alloc (.cells Z1 23)).setRow w1.heap.size (dcells (fhF s))) w2) :
    ((w2.alloc (.cells Z2 23)).setRow w2.heap.size (dcells (fhF s))).rangeAt w.heap.size 0 (xs.map (Value.int .u8)) ∧
    ((w2.alloc (.cells Z2 23)).setRow w2.heap.size (dcells (fhF s))).rangeAt w1.heap.size 0 (dlist (fhF s)) ∧
    ((w2.alloc (.cells Z2 23)).setRow w2.heap.size (dcells (fhF s))).rangeAt w2.heap.size 0 (dlist (fhF s)) ∧
    Below w.heap.size w ((w2.alloc (.cells Z2 23)).setRow w2.heap.size (dcells (fhF s))) := by
  have z1 := hb1.size
  have z2 := hb2.size
  simp at z1 z2
  have a1 : w1.heap[w.heap.size]? = some (.cells (xs.map (Value.int .u8)).toArray 23 (0, 0)) := (hb1.block _ (by simp)).trans (heap_alloc_new _ _)
  have a2 : ((w1.alloc (.cells Z1 23)).setRow w1.heap.size (dcells (fhF s))).heap[w.heap.size]? = some (.cells (xs.map (Value.int .u8)).toArray 23 (0, 0)) := by
    rw [setRow_other _ _ _ _ (by omega), Below.heap_alloc _ _ _ (by omega)]; exact a1
  have a3 : ((w1.alloc (.cells Z1 23)).setRow w1.heap.size (dcells (fhF s))).heap[w1.heap.size]? = some (.cells (dcells (fhF s)) 23 (0, 0)) := setRow_heap _ _ _ _ _ _ (heap_alloc_new _ _)
  have b1 : w2.heap[w.heap.size]? = some (.cells (xs.map (Value.int .u8)).toArray 23 (0, 0)) := (hb2.block _ (by simp; omega)).trans a2
  have b2 : w2.heap[w1.heap.size]? = some (.cells (dcells (fhF s)) 23 (0, 0)) := (hb2.block _ (by simp)).trans a3
  refine ⟨?_, ?_, ?_, ?_⟩
  · refine range_block (C := (xs.map (Value.int .u8)).toArray) (t := 23) (fr := (0, 0)) ?_
    rw [setRow_other _ _ _ _ (by omega), Below.heap_alloc _ _ _ (by omega)]; exact b1
  · refine range_block (C := dcells (fhF s)) (t := 23) (fr := (0, 0)) ?_
    rw [setRow_other _ _ _ _ (by omega), Below.heap_alloc _ _ _ (by omega)]; exact b2
  · refine range_block (C := dcells (fhF s)) (t := 23) (fr := (0, 0)) ?_
    exact setRow_heap _ _ _ _ _ _ (heap_alloc_new _ _)
  · have c1 : Below w.heap.size w w1 := ((Below.refl _ _).alloc (Nat.le_refl _) _).trans (hb1.mono (by simp))
    have c2 : Below w.heap.size w w2 := (below_setRow (c1.alloc (by omega) _) (by omega) _).trans (hb2.mono (by simp; omega))
    exact below_setRow (c2.alloc (by omega) _) (by omega) _

attribute [local go_sem ↓] Go.wp_at_zero Go.wp_at_succ
set_option maxHeartbeats 1000000 in
theorem law_any (xs : List Int) (s : ByteArray) (w : World) (hl : xs.length = 32) (hr : ∀ x ∈ xs, 0 ≤ x ∧ x ≤ 255) (hs : s.size ≤ maxLen) :
    Calls Try.prog 3 #[.agg (xs.map (Value.int .u8)).toArray, .string s] w fun e w' => e = .returned (.bool true) ∧ Below w.heap.size w w' := by
  go_enter Try.func3, Try.ntmps3
  go_wp2_with (first
    | (go_at_call 4; refine (fh_any _ _).mono ?_; rintro e w1 ⟨rfl, hb1⟩)
    | (refine wpList_store_row rfl 23 (.tmp 5) (.tmp 12) rfl w1.heap.size (dcells (fhF s)) rfl (by rfl) 23 _ (heap_alloc_new _ _) (by rw [Try.size23, dcells_size]) (by rw [dcells_size]; rfl) (dcells_one _) ?_)
    | (go_at_call 5; refine (rf_any _ _ hs).mono ?_; rintro e w2 ⟨rfl, hb2⟩)
    | (refine wpList_store_row rfl 23 (.tmp 7) (.tmp 17) rfl w2.heap.size (dcells (fhF s)) rfl (by rfl) 23 _ (heap_alloc_new _ _) (by rw [Try.size23, dcells_size]) (by rw [dcells_size]; rfl) (dcells_one _) ?_))
  have F := law_facts xs s w w1 w2 _ (dcells fun _ => 0) hb1 hb2
  rw [dcells_zero] at F
  clear hb1 hb2
  revert F
  generalize World.setRow (World.alloc w2 _) w2.heap.size (dcells (fhF s)) = W
  rintro ⟨r2, r5, r7, hbel⟩
  have hu := Try.underlying23
  have hi1 : (Try.prog.info? 23).map (·.size) = some (xs.map (Value.int .u8)).length := by rw [Try.size23]; simp [hl]
  have hi2 : (Try.prog.info? 23).map (·.size) = some (dlist (fhF s)).length := by rw [Try.size23]; simp [dlist]
  have hg := fun x y a b W => run_eqGuard_digest x y a b W
  have he : ∀ W, (binOp .eql 23 (.agg (dlist (fhF s)).toArray) (.agg (dlist (fhF s)).toArray)).run Try.prog W = .ok (.bool true) W := fun W => run_eql_digest (fhF s) W
  have HB : Hid (Below w.heap.size w W) := hbel
  clear hbel hs
  refine wp_region_held_drew (S := (fun w' => w'.rangeAt w.heap.size 0 (xs.map (Value.int .u8)) ∧ w'.rangeAt w1.heap.size 0 (dlist (fhF s)) ∧ w'.rangeAt w2.heap.size 0 (dlist (fhF s)))) (by kernel_rfl) ⟨by simpa using r2, by simpa using r5, by simpa using r7⟩ (fun hHeld => ?_)
  refine wpAnyH_take (i := 0) (oi := ⟨_, _, _, _, _, _⟩) (v := .agg (dlist (fhF s)).toArray) rfl (by kernel_rfl) (by kernel_rfl) (by kernel_rfl) (fun _ _ _ h => h) (yieldsIf_load_mid (by rfl) _ _ rfl _ _ rfl _ _ (fun _ h => h.2.1) hu rfl hi2) hHeld ?_
  simp only [Act.put, List.setIfInBounds_toArray, List.set_cons_zero, List.set_cons_succ]
  refine wpAnyH_take (i := 1) (oi := ⟨_, _, _, _, _, _⟩) (v := .agg (dlist (fhF s)).toArray) rfl (by kernel_rfl) (by kernel_rfl) (by kernel_rfl) (fun _ _ _ h => h) (yieldsIf_load_mid (by rfl) _ _ rfl _ _ rfl _ _ (fun _ h => h.2.2) hu rfl hi2) hHeld ?_
  simp only [Act.put, List.setIfInBounds_toArray, List.set_cons_zero, List.set_cons_succ]
  refine wpAnyH_take (i := 2) (oi := ⟨_, _, _, _, _, _⟩) (v := .bool true) rfl (by kernel_rfl) (by kernel_rfl) (by kernel_rfl) (fun _ _ _ h => h) (Or.inl ⟨by rfl, fun w _ => by go_simp⟩) hHeld ?_
  simp only [Act.put, List.setIfInBounds_toArray, List.set_cons_zero, List.set_cons_succ]
  refine wpAnyH_take (i := 3) (oi := ⟨_, _, _, _, _, _⟩) (v := .bool true) rfl (by kernel_rfl) (by kernel_rfl) (by kernel_rfl) (fun _ _ _ h => h) (Or.inl ⟨by rfl, fun w _ => by go_simp⟩) hHeld ?_
  simp only [Act.put, List.setIfInBounds_toArray, List.set_cons_zero, List.set_cons_succ]
  refine wpAnyH_take (i := 4) (oi := ⟨_, _, _, _, _, _⟩) (v := .int .i64 (M.fhE s)) rfl (by kernel_rfl) (by kernel_rfl) (by kernel_rfl) (fun _ _ _ h => h) (Or.inl ⟨by rfl, fun w _ => by go_simp⟩) hHeld ?_
  simp only [Act.put, List.setIfInBounds_toArray, List.set_cons_zero, List.set_cons_succ]
  refine wpAnyH_take (i := 5) (oi := ⟨_, _, _, _, _, _⟩) (v := .int .i64 (M.fhE s)) rfl (by kernel_rfl) (by kernel_rfl) (by kernel_rfl) (fun _ _ _ h => h) (Or.inl ⟨by rfl, fun w _ => by go_simp⟩) hHeld ?_
  simp only [Act.put, List.setIfInBounds_toArray, List.set_cons_zero, List.set_cons_succ]
  refine wpAnyH_take (i := 6) (oi := ⟨_, _, _, _, _, _⟩) (v := .bool true) rfl (by kernel_rfl) (by kernel_rfl) (by kernel_rfl) (fun _ _ _ h => h) (Or.inl ⟨by rfl, fun w _ => by go_simp⟩) hHeld ?_
  simp only [Act.put, List.setIfInBounds_toArray, List.set_cons_zero, List.set_cons_succ]
  refine wpAnyH_take (i := 7) (oi := ⟨_, _, _, _, _, _⟩) (v := .bool true) rfl (by kernel_rfl) (by kernel_rfl) (by kernel_rfl) (fun _ _ _ h => h) (Or.inl ⟨by rfl, fun w _ => by go_simp⟩) hHeld ?_
  simp only [Act.put, List.setIfInBounds_toArray, List.set_cons_zero, List.set_cons_succ]
  refine wpAnyH_take (i := 8) (oi := ⟨_, _, _, _, _, _⟩) (v := .bool true) rfl (by kernel_rfl) (by kernel_rfl) (by kernel_rfl) (fun _ _ _ h => h) (Or.inl ⟨by rfl, fun w _ => by go_simp⟩) hHeld ?_
  simp only [Act.put, List.setIfInBounds_toArray, List.set_cons_zero, List.set_cons_succ]
  refine wpAnyH_take (i := 9) (oi := ⟨_, _, _, _, _, _⟩) (v := .agg (xs.map (Value.int .u8)).toArray) rfl (by kernel_rfl) (by kernel_rfl) (by kernel_rfl) (fun _ _ _ h => h) (yieldsIf_load_mid (by rfl) _ _ rfl _ _ rfl _ _ (fun _ h => h.1) hu rfl hi1) hHeld ?_
  simp only [Act.put, List.setIfInBounds_toArray, List.set_cons_zero, List.set_cons_succ]
  refine wpAnyH_take (i := 11) (oi := ⟨_, _, _, _, _, _⟩) (v := .agg (xs.map (Value.int .u8)).toArray) rfl (by kernel_rfl) (by kernel_rfl) (by kernel_rfl) (fun _ _ _ h => h) (yieldsIf_load_mid (by rfl) _ _ rfl _ _ rfl _ _ (fun _ h => h.1) hu rfl hi1) hHeld ?_
  simp only [Act.put, List.setIfInBounds_toArray, List.set_cons_zero, List.set_cons_succ]
  refine wpAnyH_ready (rs := [10]) (by kernel_rfl) (by simp) ?_
  refine AllReadyH.cons (o := ⟨_, _, _, _, _, _⟩) rfl (fun K hK => ?_) AllReadyH.nil
  go_simp
  refine (hx_any xs _ hl hr).mono ?_
  rintro e w3 ⟨rfl, hb3⟩
  refine hK.out _ _ ⟨range_later hb3 hHeld.1, range_later hb3 hHeld.2.1, range_later hb3 hHeld.2.2⟩ (fun hHeld3 => ?_)
  clear hK K
  refine wpAnyH_ready (rs := [12]) (by kernel_rfl) (by simp) ?_
  refine AllReadyH.cons (o := ⟨_, _, _, _, _, _⟩) rfl (fun K hK => ?_) AllReadyH.nil
  go_simp
  refine (rh_any xs _ hl hr).mono ?_
  rintro e w4 ⟨rfl, hb4⟩
  refine hK.out _ _ ⟨range_later hb4 hHeld3.1, range_later hb4 hHeld3.2.1, range_later hb4 hHeld3.2.2⟩ (fun hHeld4 => ?_)
  clear hK K
  refine wpAnyH_take (i := 13) (oi := ⟨_, _, _, _, _, _⟩) (v := .bool true) rfl (by kernel_rfl) (by kernel_rfl) (by kernel_rfl) (fun _ _ _ h => h) (Or.inl ⟨by rfl, fun w _ => by go_simp⟩) hHeld4 ?_
  simp only [Act.put, List.setIfInBounds_toArray, List.set_cons_zero, List.set_cons_succ]
  refine wpAnyH_take (i := 14) (oi := ⟨_, _, _, _, _, _⟩) (v := .bool true) rfl (by kernel_rfl) (by kernel_rfl) (by kernel_rfl) (fun _ _ _ h => h) (Or.inl ⟨by rfl, fun w _ => by go_simp⟩) hHeld4 ?_
  simp only [Act.put, List.setIfInBounds_toArray, List.set_cons_zero, List.set_cons_succ]
  refine wpAnyH_take (i := 15) (oi := ⟨_, _, _, _, _, _⟩) (v := .bool true) rfl (by kernel_rfl) (by kernel_rfl) (by kernel_rfl) (fun _ _ _ h => h) (Or.inl ⟨by rfl, fun w _ => by go_simp⟩) hHeld4 ?_
  simp only [Act.put, List.setIfInBounds_toArray, List.set_cons_zero, List.set_cons_succ]
  refine wpAnyH_done (by kernel_rfl) ?_ _
  go_wp2
  go_ret
  exact ⟨rfl, (HB.out.drew.trans (hb3.mono HB.out.size)).trans (hb4.mono (Nat.le_trans HB.out.size hb3.size))⟩
end Go.Proofs.Ythgkcbnicpfjmaa
