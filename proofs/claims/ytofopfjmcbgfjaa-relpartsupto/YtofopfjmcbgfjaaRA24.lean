/-
  law 7: small, wide.
-/
import Derived.Test.YtofopfjmcbgfjaaRA23
import Derived.Laws.CopyOwn
namespace Go.Proofs.Ytofopfjmcbgfjaa
open Go.RowKit
attribute [local go_sem ↓] Go.wp_at_zero Go.wp_at_succ

def sm7 (x : Int) : Nat := (x.tmod 6).natAbs
theorem sm7_le (x : Int) : sm7 x ≤ 5 := by
  unfold sm7
  rw [Int.natAbs_tmod]
  exact Nat.le_of_lt_succ (Nat.mod_lt _ (by decide))
set_option maxHeartbeats 1000000 in
theorem small7_any (x : Int) (w : World) : Calls Try.prog 9 #[.int .i64 x] w fun e w' => e = .returned (.int .i64 (sm7 x : Int)) ∧ w' = w := by
  have h5 := sm7_le x
  unfold sm7 at h5 ⊢
  obtain ⟨r, hr⟩ : ∃ r, x.tmod 6 = r := ⟨_, rfl⟩
  rw [hr] at h5 ⊢
  have h6 : IntKind.i64.wrap r = r := by rw [IntKind.wrap_i64]; omega
  have h7 : IntKind.i64.wrap (-r) = -r := by rw [IntKind.wrap_i64]; omega
  by_cases h0 : r < 0
  · go_enter Try.func9, Try.ntmps9
    go_wp2
    go_ret
    exact ⟨ret_i (by omega), rfl⟩
  · go_enter Try.func9, Try.ntmps9
    go_wp2
    go_ret
    exact ⟨ret_i (by omega), rfl⟩
/-- A row brought to a width. -/
def wd7 (k : Nat) (l : List Int) : List Int := l.take k ++ List.replicate (k - l.length) 0
theorem wd7_len (k : Nat) (l : List Int) : (wd7 k l).length = k := by simp [wd7]; omega
theorem wd7_w {k : Nat} {l : List Int} (h : w64 l) : w64 (wd7 k l) := by
  intro x hx
  simp only [wd7, List.mem_append, List.mem_replicate] at hx
  rcases hx with hx | ⟨-, rfl⟩
  · exact h x (List.mem_of_mem_take hx)
  · rfl
theorem made_ints (k : Nat) : madeCells #[.int .i64 0] k = (List.replicate k (Value.int .i64 0)).toArray := by
  apply Array.ext
  · simp [madeCells]
  · intro i h1 h2
    simp [madeCells, Nat.mod_one]
theorem mk_ints (k : Nat) (hk : k ≤ 10000000000) (w : World) : (Instr.makeSlice 23 (.int .i64 (k : Int)) (.int .i64 (k : Int))).run Try.prog w = .ok (.slice (some ⟨w.heap.size, 0, none⟩) k k) (w.alloc (.cells (List.replicate k (Value.int .i64 0)).toArray 3)) := by
  obtain ⟨i, hi, h0, h1, h2⟩ := info7 Try.infoInt7
  have h := run_make (P := Try.prog) w 23 3 i _ Try.underlying23 hi h0 .i64 .i64 k k (by omega) (by omega) (by rw [h2]; omega) (by omega)
  rw [h1] at h
  rw [h]
  have e : madeCells (Value.int IntKind.i64 0).cells (Int.toNat (k : Int) * 1) = (List.replicate k (Value.int .i64 0)).toArray := by
    rw [Int.toNat_natCast, Nat.mul_one]; exact made_ints k
  rw [e]
  simp
theorem splice_wd (k : Nat) (l : List Int) : splice (List.replicate k (Value.int .i64 0)) 0 (ibs7 (l.take k)) = ibs7 (wd7 k l) := by
  unfold splice ibs7 wd7
  simp
  omega
set_option maxRecDepth 20000 in
set_option maxHeartbeats 1000000 in
theorem wide7_any (F : Nat → Prop) (v : Value) (l : List Int) (k : Nat) (w : World) (h : Li F w v l) (hk : k ≤ 10000000000) :
    Calls Try.prog 17 #[v, .int .i64 (k : Int)] w fun e w' => ∃ v', e = .returned v' ∧ OwI w' w.heap.size v' (wd7 k l) ∧ Below w.heap.size w w' := by
  have H := hm7 h
  obtain ⟨a, cap, rfl, -, -, -, h4⟩ := h
  have hmk := mk_ints k hk w
  obtain ⟨cs, hcs⟩ : ∃ cs, ibs7 (l.take k) = cs := ⟨_, rfl⟩
  obtain ⟨Z, hZ⟩ : ∃ Z, List.replicate k (Value.int .i64 0) = Z := ⟨_, rfl⟩
  rw [hZ] at hmk
  have hcl : cs.length = Nat.min l.length k := by rw [← hcs, ibs7_len, List.length_take, Nat.min_comm]
  have hZl : Z.length = k := by rw [← hZ]; simp
  have HSP : Hid (splice Z 0 cs = ibs7 (wd7 k l)) := by rw [← hZ, ← hcs]; exact splice_wd k l
  have h1c : ∀ v ∈ cs, v.oneCell' = true := by
    intro v hv
    rw [← hcs] at hv
    simp only [ibs7, List.mem_map] at hv
    obtain ⟨x, -, rfl⟩ := hv
    rfl
  have hpos : 0 < cs.length → ∃ ad, a = some ad ∧ ∀ j v, cs[j]? = some v → (w.alloc (.cells Z.toArray 3)).cell? (ad.add j) = some v := by
    intro h0
    rcases h4 with ⟨rfl, -⟩ | ⟨b, o, rfl, hb, -, hc⟩
    · rw [hcl] at h0; simp at h0
    · refine ⟨_, rfl, fun j v hj => ?_⟩
      rw [← hcs] at hj
      simp only [ibs7, List.getElem?_map, Option.map_eq_some_iff] at hj
      obtain ⟨x, hx, rfl⟩ := hj
      rw [Go.WideShapes.add_plain, (below1 w _).cell (p := ⟨b, o + j, none⟩) hb]
      refine hc j x ?_
      rw [List.getElem?_take] at hx
      split at hx
      · exact hx
      · cases hx
  have HH1 := hm7 h1c
  have HPOS := hm7 hpos
  have HCS := hm7 hcs
  have HZ := hm7 hZ
  have hfit : 0 + cs.length ≤ Z.length := by rw [hcl, hZl]; have : Nat.min l.length k ≤ k := Nat.min_le_right _ _; omega
  clear h4 hcs hZ h1c hpos
  obtain ⟨n, hn⟩ : ∃ n, l.length = n := ⟨_, rfl⟩
  rw [hn] at hcl ⊢
  have hsz : (Try.prog.info? 3).map (·.size) = some 1 := by kernel_rfl
  go_enter Try.func17, Try.ntmps17
  go_wp2_with (refine wpList_copy_splice rfl _ _ _ _ rfl 3 Try.underlying23 hsz _ _ _ _ _ _ rfl rfl w.heap.size 0 Z 3 (heap_alloc_new _ _) cs hcl (fun h0 => ⟨rfl, HPOS.out h0⟩) hfit HH1.out w.heap.size w (below1 _ _) (Nat.le_refl _) ?_; intro w2 HG hB2)
  go_ret
  refine ⟨_, rfl, ?_, hB2⟩
  unfold OwI
  rw [wd7_len]
  refine ⟨by rw [ibs7_len, wd7_len, Nat.mul_one], Or.inr ⟨w.heap.size, k, (splice Z 0 cs).toArray, rfl, Nat.le_refl _, HG.out, Nat.le_refl _, by unfold maxLen; omega, ?_, ?_⟩⟩
  · rw [HSP.out]; simp [ibs7_len, wd7_len]
  · rw [HSP.out, Nat.mul_one, List.take_of_length_le]
    simp [ibs7_len, wd7_len]
end Go.Proofs.Ytofopfjmcbgfjaa
