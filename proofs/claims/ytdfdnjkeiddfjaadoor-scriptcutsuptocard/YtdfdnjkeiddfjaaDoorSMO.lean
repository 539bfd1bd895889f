/-
  script (stage 25): the program's said: no row has the name.
-/
import Derived.Test.YtdfdnjkeiddfjaaDoorSMN
namespace Go.Proofs.YtdfdnjkeiddfjaaDoor
open Go.RowKit
attribute [local go_sem ↓] Go.wp_at_zero Go.wp_at_succ
attribute [local go_sem] run_store_funcA

set_option maxRecDepth 20000 in
set_option maxHeartbeats 8000000 in
theorem said_none (L : List Tk) (lv : Value) (len : Int) (w : World) (hk : Ks w lv L) (hE : EnS w) (hL : L.length ≤ 9000000) (hf : rwA.find? (fun r => decide (r.x = ((tkA L 0 [1]).getD zTk).x)) = none) : Calls Tryd.prog 21 #[lv, .int .i64 len] w (RdQ w (noS 252 (plA L len 0))) := by
  have HSZ : Hid (L.length ≤ 9000000) := hL
  have HKS := hm7 hk
  have HT := hm7 hE.tbl
  obtain ⟨a, cap, rfl, -⟩ := id hk
  obtain ⟨lv, hlv⟩ : ∃ v, Value.slice a L.length cap = v := ⟨_, rfl⟩
  rw [hlv] at HKS ⊢
  obtain ⟨T, hT⟩ : ∃ T, (tkA L 0 [1]).getD zTk = T := ⟨_, rfl⟩
  obtain ⟨ok, hok⟩ : ∃ ok, (tkA L 0 [1]).isSome = ok := ⟨_, rfl⟩
  have HTT := hm7 hT
  have HOK := hm7 hok
  rw [hT] at hf
  have HF := hm7 hf
  obtain ⟨pl, hpl⟩ : ∃ p, plA L len 0 = p := ⟨_, rfl⟩
  have HPL := hm7 hpl
  rw [hpl]
  clear hk hE hL hf hT hok hpl hlv
  have hr0 : RtS w ((w.alloc (.cells z8S 24)).alloc (.cells #[.int .i64 0, .int .i64 0] 27)) := ⟨BlkK.old w _ _ _, BlkK.new2 w _ _ _, below2K w _ _⟩
  have hz0 : ((w.alloc (.cells z8S 24)).alloc (.cells #[.int .i64 0, .int .i64 0] 27)).heap.size = w.heap.size + 2 := by simp
  simp only [z8S] at hr0 hz0
  go_enter Tryd.func21, Tryd.ntmps21
  go_upto_region 1 with (fail)
  revert hr0 hz0
  generalize (w.alloc _).alloc _ = W0
  intro hr0 hz0
  have HR0 := hm7 hr0
  have HZ0 := hm7 hz0
  have HOV : Hid (Calls Tryd.prog 31 #[lv, .int .i64 len] W0 fun e w' => e = .returned (.tuple #[tkV W0.heap.size, plV W0.heap.size]) ∧ OvA w' W0.heap.size lv L len 0 ∧ Below W0.heap.size W0 w') := overA_any lv L len W0 (HKS.out.later hr0.b)
  obtain ⟨B, hB⟩ : ∃ B, W0.heap.size = B := ⟨_, rfl⟩
  rw [hB] at HOV
  simp only [tkV, plV] at HOV
  have HBB := hm7 hB
  clear hr0 hz0 hB
  go_upto_region 2 with (go_at_call 31; refine HOV.out.mono ?_; rintro e w1 ⟨rfl, hv1, hb1⟩; have HV1 := hm7 hv1; have HR1 := hm7 (HR0.out.later (by rw [HBB.out]; exact hb1)); clear hv1 hb1)
  have HP1 : Hid (Calls Tryd.prog 47 #[.pointer (some ⟨B + 2, 0, none⟩), .pointer (some ⟨B, 0, none⟩), .pointer (some ⟨B + 1, 0, none⟩)] w1 fun e w' => e = .returned (.int .i64 pl) ∧ w' = w1) := by rw [← HPL.out]; exact placeA_any HV1.out
  go_upto_region 3 with (go_at_call 47; refine HP1.out.mono ?_; rintro e wx ⟨rfl, e2⟩; rw [e2]; clear e2)
  have hb2 := below1K w1 (.cells #[.int .i64 1] 3)
  have hi2 : IntsA (w1.alloc (.cells #[.int .i64 1] 3)) w1.heap.size 0 [1] := by
    intro i y hi
    refine cell8 (BlkK.new w1 #[.int .i64 1] 3) (0 + i) _ ?_
    match i, hi with
    | 0, hi => cases hi; rfl
  obtain ⟨W2, hW2⟩ : ∃ W, w1.alloc (.cells #[.int .i64 1] 3) = W := ⟨_, rfl⟩
  rw [hW2] at hb2 hi2
  have HTK : Hid (Calls Tryd.prog 46 #[.slice (some ⟨w1.heap.size, 0, none⟩) 1 1, .pointer (some ⟨B + 2, 0, none⟩), .pointer (some ⟨B, 0, none⟩)] W2 fun e W' => e = .returned (.tuple #[T.v, .bool ok]) ∧ OvA W' B lv L len (0 + if ok = true then 1 else 0) ∧ Fr (fun b => b = B + 2) W2 W') := by
    have := takeA_any (HV1.out.later hb2) HSZ.out w1.heap.size 0 1 [1] hi2 (by simp)
    unfold TkQ at this
    rw [HTT.out, HOK.out] at this
    exact this
  have HR2 := hm7 (HR1.out.later hb2)
  clear hb2 hi2
  obtain ⟨tk, tx, tn, ta, te⟩ := T
  simp only [Tk.v] at HTK
  go_upto_region 4 with (go_at_call 46; refine HTK.out.mono ?_; rintro e w3 ⟨rfl, hv3, hf3⟩; have HV3 := hm7 hv3; have HR3 := hm7 (HR2.out.fr hf3 (fun x hx => by have := HZ0.out; have := HBB.out; omega)); clear hv3 hf3)
  have hb4 := below1K w3 (.cells #[.int .i64 tk, .string tx, .int .i64 tn, .int .i64 ta, .int .i64 te] 43)
  have hk4 := BlkK.new w3 #[.int .i64 tk, .string tx, .int .i64 tn, .int .i64 ta, .int .i64 te] 43
  revert hb4 hk4
  generalize w3.alloc _ = W4
  intro hb4 hk4
  have x1 := cell8 hk4 1 _ rfl
  have HV4 := hm7 (HV3.out.later hb4)
  have HR4 := hm7 (HR3.out.later hb4)
  have HRN : Hid (Calls Tryd.prog 32 #[.string tx] W4 fun e w' => e = .returned (.tuple #[((rwA.find? fun r => decide (r.x = tx)).getD zrA).v, .bool (rwA.find? fun r => decide (r.x = tx)).isSome]) ∧ Below W4.heap.size W4 w') := rowNamedA_any tx W4 (HT.out.later HR4.out.b)
  clear hb4 hk4
  have hfo : rwA.find? (fun r => decide (r.x = tx)) = none := HF.out
  rw [hfo] at HRN
  simp only [Option.getD_none, Option.isSome_none, RoA.v, zrA] at HRN
  clear hfo
  go_upto_region 5 with (go_at_call 32; refine HRN.out.mono ?_; rintro e w5 ⟨rfl, hb5⟩; have HR5 := hm7 (HR4.out.later hb5); clear hb5)
  have hb6 := below1K w5 (.cells #[.string ⟨#[]⟩, .int .i64 0, .int .i64 0, .int .i64 0, .int .i64 0] 55)
  revert hb6
  generalize w5.alloc _ = W6
  intro hb6
  have hr6 := HR5.out.later hb6
  have HR6 := hm7 hr6
  obtain ⟨⟨c0, c1, c2, c3, c4, c5, c6, c7⟩, cf, d0, d1, df⟩ := hr6.cells
  clear hb6 hr6 x1
  go_wp2
  obtain ⟨h1, h2, h3⟩ := rtE HR6.out 252 pl
  exact endE rfl rfl rfl rfl h1 h2 h3
end Go.Proofs.YtdfdnjkeiddfjaaDoor
