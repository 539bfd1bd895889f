/-
  wire: the program's copied; what a row of messages gives to append.
-/
import Derived.Test.YtboomeeipnfbmaaWRS
import Derived.Laws.AppendOwnNone
import Derived.Laws.MakeOwn
import Derived.Laws.CopyOwn
namespace Go.Proofs.Ytboomeeipnfbmaa
open Go.RowKit
attribute [local go_sem ↓] Go.wp_at_zero Go.wp_at_succ

theorem mk_bytesW (k : Nat) (hk : k ≤ 140737488355328) (w : World) : (Instr.makeSlice 24 (.int .i64 (k : Int)) (.int .i64 (k : Int))).run Try.prog w = .ok (.slice (some ⟨w.heap.size, 0, none⟩) k k) (w.alloc (.cells (ubW (List.replicate k 0)).toArray 5)) := by
  obtain ⟨i, hi, h0, h1, h2⟩ := infoW Try.infoU8W
  have h := run_make (P := Try.prog) w 24 5 i _ Try.underlying24 hi h0 .i64 .i64 k k (by omega) (by omega) (by rw [h2]; omega) (by omega)
  rw [h1] at h
  rw [h]
  have e : madeCells (Value.int IntKind.u8 0).cells (Int.toNat (k : Int) * 1) = (ubW (List.replicate k 0)).toArray := by
    rw [Int.toNat_natCast, Nat.mul_one]
    apply Array.ext
    · simp [madeCells, ubW]
    · intro i h1 h2
      simp [madeCells, Nat.mod_one, ubW, Value.cells]
  rw [e]
  simp
set_option maxRecDepth 20000 in
set_option maxHeartbeats 1000000 in
theorem copiedW_any {F : Nat → Prop} {v : Value} {l : List Int} {w : World} (h : LbW F w v l) (hl : l.length ≤ 140737488355328) :
    Calls Try.prog 29 #[v] w fun e w' => ∃ v', e = .returned v' ∧ OwW w' w.heap.size v' l ∧ Below w.heap.size w w' := by
  have HSR := hm7 (lb_src (h.below (below1 w (.cells (ubW (List.replicate l.length 0)).toArray 5))))
  obtain ⟨a, cap, rfl, -⟩ := h
  obtain ⟨n, hn⟩ : ∃ n, l.length = n := ⟨_, rfl⟩
  rw [hn] at hl HSR ⊢
  have hmk := mk_bytesW n hl w
  obtain ⟨cs, hcs⟩ : ∃ cs, ubW l = cs := ⟨_, rfl⟩
  obtain ⟨Z, hZ⟩ : ∃ Z, ubW (List.replicate n 0) = Z := ⟨_, rfl⟩
  rw [hZ] at hmk HSR
  have hcl : cs.length = n := by rw [← hcs, ubW_len, hn]
  have hZl : Z.length = n := by rw [← hZ, ubW_len]; simp
  have HH1 : Hid (∀ v ∈ cs, v.oneCell' = true) := by rw [← hcs]; exact ubW_one l
  have HPOS : Hid (0 < cs.length → ∃ ad, a = some ad ∧ ∀ (j : Nat) v, cs[j]? = some v → (w.alloc (.cells Z.toArray 5)).cell? (ad.add j) = some v) := fun h0 => by
    rcases HSR.out with ⟨-, e, -⟩ | ⟨ad, c, e, -, hc⟩
    · omega
    · simp only [Value.slice.injEq] at e
      exact ⟨ad, e.1, fun j v hj => hc j v (by rw [hcs]; exact hj)⟩
  have HCS := hm7 hcs
  have HN := hm7 hn
  have hmin : cs.length = Nat.min n n := by rw [hcl]; exact (Nat.min_self n).symm
  have hfit : 0 + cs.length ≤ Z.length := by omega
  clear HSR hcs hZ hn
  have hsz : (Try.prog.info? 5).map (·.size) = some 1 := by kernel_rfl
  go_enter Try.func29, Try.ntmps29
  go_wp2_with (refine wpList_copy_splice rfl _ _ _ _ rfl 5 Try.underlying24 hsz _ _ _ _ _ _ rfl rfl w.heap.size 0 Z 5 (heap_alloc_new _ _) cs hmin (fun h0 => ⟨rfl, HPOS.out h0⟩) hfit HH1.out w.heap.size w (below1 _ _) (Nat.le_refl _) ?_; intro w2 HG hB2)
  go_ret
  refine ⟨_, rfl, ?_, hB2⟩
  have hs : splice Z 0 cs = cs := by unfold splice; simp; omega
  have hg := HG.out
  rw [hs] at hg
  unfold OwW
  rw [HN.out, HCS.out]
  exact ⟨by omega, Or.inr ⟨w.heap.size, n, cs.toArray, rfl, Nat.le_refl _, hg, Nat.le_refl _, by unfold maxLen; omega, by simp [hcl], by rw [Nat.mul_one, List.take_of_length_le]; simp [hcl]⟩⟩
theorem two_one (L : List (Value × Value)) (h : ∀ q ∈ L, q.1.oneCell' = true ∧ q.2.oneCell' = true) : ∀ u ∈ twoW L, u.oneCell' = true := fun u hu => by
  unfold twoW at hu
  rw [List.mem_flatMap] at hu
  obtain ⟨q, hq, hu⟩ := hu
  simp at hu
  rcases hu with rfl | rfl
  · exact (h q hq).1
  · exact (h q hq).2
end Go.Proofs.Ytboomeeipnfbmaa
