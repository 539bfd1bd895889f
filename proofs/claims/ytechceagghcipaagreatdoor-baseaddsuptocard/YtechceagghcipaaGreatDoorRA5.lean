import Derived.Test.YtechceagghcipaaGreatDoorAA0
import Derived.Test.YtechceagghcipaaGreatDoorRA4
namespace Go.Proofs.YtechceagghcipaaGreatDoor
open Go.RowKit
attribute [local go_sem ↓] Go.wp_at_zero Go.wp_at_succ

theorem txi_some {rows : List (List Int)} {k : ByteArray} {i : Nat} (h : txi rows k = some i) : ∃ r, rows[i]? = some r /\ tx r = k := by
 unfold txi at h
 obtain ⟨hi, h1, -⟩ := List.findIdx?_eq_some_iff_getElem.1 h
 exact ⟨_, List.getElem?_eq_getElem hi, by simpa using h1⟩
theorem txi_none {rows : List (List Int)} {k : ByteArray} (h : txi rows k = none) : ∀ r ∈ rows, tx r ≠ k := by
 unfold txi at h
 rw [List.findIdx?_eq_none_iff] at h
 intro r hr
 simpa using h r hr
def part7 (s : St7) (r : List Int) : Int := match txi s.rows (tx r) with
 | none => 0
 | some i => if i < s.nf then 1 else if i < s.xf then 2 else 4
theorem Mp.below {P : Program} {k : TypeId} {w w' : World} {b n : Nat} {f : ByteArray -> Option Value} (h : Mp P k w b n f) (hb : Below w.heap.size w w') : Mp P k w' b n f := h.same (hb.block b h.lt)
theorem zero7 (X : World) : (zeroValue 3).run Tryz.prog X = .ok (.int .i64 0) X := by kernel_rfl
theorem Mp.int {w : World} {b n : Nat} {rows : List (List Int)} {s : ByteArray} (h : Mp Tryz.prog 9 w b n (plF rows)) (hs : s.size <= 1000000000000) :
  (Instr.lookup 113 (.map (some b)) (.string s) true).run Tryz.prog w = .ok (.tuple #[.int .i64 (((txi rows s).getD 0 : Nat) : Int), .bool (txi rows s).isSome]) w := by
 have := h.has Tryz.underlying9 Tryz.underlying113 (zero7 w) (s := s) (by unfold maxLen; omega)
 rw [this]
 unfold plF
 cases txi rows s <;> rfl
set_option maxRecDepth 20000 in
set_option maxHeartbeats 1000000 in
theorem part7_any (g : Nat) (F S G : Nat -> Prop) (m : Nat) (s : St7) (v : Value) (r : List Int) (w : World) (h : RM w g F S m s) (hv : Li G w v r) (hl : r.length <= 10000000000) :
  Calls Tryz.prog 111 #[.pointer (some ⟨g, 0, none⟩), v] w fun e w' => e = .returned (.int .i64 (part7 s r)) /\ Below w.heap.size w w' := by
 obtain ⟨rv, rvs, mp, mx, nx, t, f, -, h⟩ := h
 obtain ⟨⟨c0, c1, c2, c3⟩, c4, c5, c6, c7⟩ := eight7 h.b
 have hg := h.b.lt
 have HT : Hid (∀ X : World, Below w.heap.size w X -> Calls Tryz.prog 58 #[v] X fun e w' => e = .returned (.string (tx r)) /\ Below X.heap.size X w') := fun X hX => text_any G r v X (hv.below hX) hl
 obtain ⟨pb, hpb⟩ : ∃ pb, pb = (txi s.rows (tx r)).isSome := ⟨_, rfl⟩
 obtain ⟨pi, hpi⟩ : ∃ pi : Int, pi = (((txi s.rows (tx r)).getD 0 : Nat) : Int) := ⟨_, rfl⟩
 have HL : Hid (∀ X : World, Below w.heap.size w X -> (Instr.lookup 113 (.map (some mp)) (.string (tx r)) true).run Tryz.prog X = .ok (.tuple #[.int .i64 pi, .bool pb]) X) := fun X hX => by
  rw [hpb, hpi]; exact (h.p.below hX).int (by rw [tx_size]; omega)
 have HE : Hid (part7 s r = if pb = true then (if pi < (s.nf : Int) then 1 else if pi < (s.xf : Int) then 2 else 4) else 0) := by
  show _ = _
  unfold part7
  rw [hpb, hpi]
  cases txi s.rows (tx r) with
  | none => rfl
  | some i => simp
 obtain ⟨a, cap, rfl, -⟩ := hv
 clear hpb hpi h
 generalize r.length = rl at *
 go_enter Tryz.func111, Tryz.ntmps111
 go_upto_region 1 with fail
 refine wp_region_held_drew (S := fun w' => Below w.heap.size w w') (by kernel_rfl) (Below.refl _ _).drew (fun hH => ?_)
 revert hH
 generalize w.drew = V0
 intro hH
 refine wTk 0 (.pointer (some ⟨g, 0, none⟩)) rfl (by kernel_rfl) (fun _ _ _ h => h) (Or.inl ⟨by rfl, fun w' h => by clear h; go_simp⟩) hH ?_
 simp only [wA8, wB8, wC8, wD8]
 refine wTk 1 (.pointer (some ⟨g, 0, none⟩)) rfl (by kernel_rfl) (fun _ _ _ h => h) (Or.inl ⟨by rfl, fun w' h => by clear h; go_simp⟩) hH ?_
 simp only [wA8, wB8, wC8, wD8]
 refine wTk 2 (.pointer (some ⟨g, 4, none⟩)) rfl (by kernel_rfl) (fun _ _ _ h => h) (Or.inl ⟨by rfl, fun w' h => by clear h; go_simp⟩) hH ?_
 simp only [wA8, wB8, wC8, wD8]
 refine wTk 3 (.map (some mp)) rfl (by kernel_rfl) (fun _ _ _ h => h) (Or.inl ⟨by rfl, fun w' h => by have q4 := (h.cell (p := ⟨g, 4, none⟩) hg).trans c4; clear h; go_simp⟩) hH ?_
 simp only [wA8, wB8, wC8, wD8]
 refine wTk 4 (.slice a rl cap) rfl (by kernel_rfl) (fun _ _ _ h => h) (Or.inl ⟨by rfl, fun w' h => by clear h; go_simp⟩) hH ?_
 simp only [wA8, wB8, wC8, wD8]
 refine wRd 5 (by kernel_rfl) rfl (fun K hK => ?_)
 go_simp
 refine (HT.out _ hH).mono ?_
 rintro e V1 ⟨rfl, hb⟩
 refine hK.out _ _ (hH.trans (hb.mono hH.size)) (fun hH => ?_)
 clear hK K hb
 try simp only [wA8, wB8, wC8, wD8]
 refine wTk 6 (.tuple #[.int .i64 pi, .bool pb]) rfl (by kernel_rfl) (fun _ _ _ h => h) (Or.inl ⟨by rfl, fun w' h => by have hl := HL.out w' h; clear h; go_simp⟩) hH ?_
 simp only [wA8, wB8, wC8, wD8]
 refine wTk 7 (.tuple #[.int .i64 pi, .bool pb]) rfl (by kernel_rfl) (fun _ _ _ h => h) (Or.inl ⟨by rfl, fun w' h => by clear h; go_simp⟩) hH ?_
 simp only [wA8, wB8, wC8, wD8]
 refine wTk 8 (.int .i64 pi) rfl (by kernel_rfl) (fun _ _ _ h => h) (Or.inl ⟨by rfl, fun w' h => by clear h; go_simp⟩) hH ?_
 simp only [wA8, wB8, wC8, wD8]
 refine wTk 9 (.bool pb) rfl (by kernel_rfl) (fun _ _ _ h => h) (Or.inl ⟨by rfl, fun w' h => by clear h; go_simp⟩) hH ?_
 simp only [wA8, wB8, wC8, wD8]
 refine wTk 10 (.int .i64 pi) rfl (by kernel_rfl) (fun _ _ _ h => h) (Or.inl ⟨by rfl, fun w' h => by clear h; go_simp⟩) hH ?_
 simp only [wA8, wB8, wC8, wD8]
 refine wTk 11 (.bool pb) rfl (by kernel_rfl) (fun _ _ _ h => h) (Or.inl ⟨by rfl, fun w' h => by clear h; go_simp⟩) hH ?_
 simp only [wA8, wB8, wC8, wD8]
 refine wpAnyH_done (by kernel_rfl) ?_ _
 have q2 := (hH.cell (p := ⟨g, 2, none⟩) hg).trans c2
 have q3 := (hH.cell (p := ⟨g, 3, none⟩) hg).trans c3
 cases pb with
 | false =>
  go_wp2
  go_ret
  exact ⟨ret_i (by rw [HE.out]; rfl), hH⟩
 | true =>
  by_cases i1 : pi < (s.nf : Int)
  ·go_wp2
   go_ret
   exact ⟨ret_i (by rw [HE.out, if_pos trivial, if_pos i1]), hH⟩
  ·by_cases i2 : pi < (s.xf : Int)
   ·go_wp2
    go_ret
    exact ⟨ret_i (by rw [HE.out, if_pos trivial, if_neg (by omega), if_pos i2]), hH⟩
   ·go_wp2
    go_ret
    exact ⟨ret_i (by rw [HE.out, if_pos trivial, if_neg (by omega), if_neg (by omega)]), hH⟩
end Go.Proofs.YtechceagghcipaaGreatDoor
