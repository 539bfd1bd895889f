/-
  script (stage 25): a number is taken.
-/
import Derived.Test.YtdfdnjkeiddfjaaDoorSM7
namespace Go.Proofs.YtdfdnjkeiddfjaaDoor
open Go.RowKit
attribute [local go_sem ↓] Go.wp_at_zero Go.wp_at_succ
attribute [local go_sem] run_store_funcA

set_option maxRecDepth 20000 in
set_option maxHeartbeats 2000000 in
theorem takeA_5 {W : World} {B : Nat} {lv : Value} {L : List Tk} {len : Int} {n : Nat} (h : OvA W B lv L len n) (hL : L.length ≤ 9000000) (g : Nat) (gd : Nat) (d : SdO) (v : Value) (hB : B + 3 ≤ gd) (hd : BlkK W gd (d.v0 v) 24) (hg : BlkK W g #[.func (.func 58) #[] #[]] 100) :
    Calls Tryd.prog 74 #[tkV B, .pointer (some ⟨gd, 0, none⟩), .pointer (some ⟨g, 0, none⟩)] W (PkQ W B gd lv L len n 5 d v) := by
  obtain ⟨W1, hW1⟩ : ∃ X, W.alloc (.cells #[.int .i64 4] 3) = X := ⟨_, rfl⟩
  have hb1 : Below W.heap.size W W1 := by rw [← hW1]; exact below1K W _
  have hk1 : BlkK W1 W.heap.size #[.int .i64 4] 3 := by rw [← hW1]; exact BlkK.new W _ _
  have hi1 : IntsA W1 W.heap.size 0 [4] := by
    intro i y hi
    refine cell8 hk1 (0 + i) _ ?_
    match i, hi with
    | 0, hi => cases hi; rfl
  have HV1 := hm7 (h.later hb1)
  have HD1 := hm7 (hd.later hb1)
  have HB1 := hm7 hb1
  have HW := hm7 h.x.lt
  have HBB := hm7 hB
  have HGL := hm7 hd.lt
  have HG1 := hm7 (hg.later hb1)
  obtain ⟨T, hT⟩ : ∃ T, (tkA L n [4]).getD zTk = T := ⟨_, rfl⟩
  obtain ⟨ok, hok⟩ : ∃ ok, (tkA L n [4]).isSome = ok := ⟨_, rfl⟩
  have HT := hm7 hT
  have HOK := hm7 hok
  have HTK : Hid (Calls Tryd.prog 46 #[.slice (some ⟨W.heap.size, 0, none⟩) 1 1, .pointer (some ⟨B + 2, 0, none⟩), .pointer (some ⟨B, 0, none⟩)] W1 fun e W' => e = .returned (.tuple #[T.v, .bool ok]) ∧ OvA W' B lv L len (n + if ok = true then 1 else 0) ∧ Fr (fun b => b = B + 2) W1 W') := by
    have := takeA_any (HV1.out) hL W.heap.size 0 1 [4] hi1 (by simp)
    unfold TkQ at this
    rw [hT, hok] at this
    exact this
  clear h hL hd hb1 hk1 hi1 hT hok hB hg
  obtain ⟨tk, tx, tn, ta, te⟩ := T
  simp only [Tk.v] at HTK
  simp only [tkV]
  go_enter Tryd.func74, Tryd.ntmps74
  go_upto_region 2 with (go_at_call 46; refine HTK.out.mono ?_; rintro e w2 ⟨rfl, hv2, hf2⟩; have HV2 := hm7 hv2; have HF2 := hm7 hf2; clear hv2 hf2)
  have hb3 := below1K w2 (.cells #[.int .i64 tk, .string tx, .int .i64 tn, .int .i64 ta, .int .i64 te] 43)
  have hk3 := BlkK.new w2 #[.int .i64 tk, .string tx, .int .i64 tn, .int .i64 ta, .int .i64 te] 43
  have hv3 := HV2.out.later hb3
  have hd2 := HD1.out.frL HF2.out (by have := HBB.out; omega)
  have hd3 := hd2.later hb3
  have hg3 := (HG1.out.frL HF2.out (fun e => by subst e; have := HG1.out; have h2 := HV1.out.x; rw [BlkK] at this h2; rw [h2] at this; cases this)).later hb3
  have hf3 : Fr (fun x => x = B + 2 ∨ x = gd) W (w2.alloc (.cells #[.int .i64 tk, .string tx, .int .i64 tn, .int .i64 ta, .int .i64 te] 43)) := (((Fr.of HB1.out).tr (HF2.out.mono fun x _ hx => Or.inl hx)).then hb3)
  revert hb3 hk3 hv3 hd3 hf3 hg3
  generalize w2.alloc _ = W3
  intro hb3 hk3 hv3 hd3 hg3 hf3
  have x1 := cell8 hk3 1 _ rfl
  have x2 := cell8 hk3 2 _ rfl
  have y0 := cell8 hd3 5 _ rfl
  have y1 := froz8 hd3 5
  have z0 := cell8 hg3 0 _ rfl
  have HV3 := hm7 hv3
  have HD3 := hm7 hd3
  have HF3 := hm7 hf3
  clear hb3 hk3 hv3 hd3 hf3 hd2
  go_region_with (go_at_call 58; refine (fldA_3 gd _).mono ?_; rintro e wx ⟨rfl, rfl⟩)
  all_goals
    · go_wp2
      go_ret
      refine pk_end (v' := v) (T := ⟨tk, tx, tn, ta, te⟩) (ok := ok) HT.out HOK.out (fun k => ft_4 k 5 (by omega)) ?_ ?_ ?_ (Or.inl ⟨rfl, by decide⟩) rfl
      · first | exact HF3.out.set (Or.inl (Or.inr rfl)) | exact (HF3.out.set (Or.inl (Or.inr rfl))).drew
      · first | exact HV3.out.fr (P := fun x => x = gd) ((Fr.refl (fun x => x = gd) _).set (Or.inl rfl)) fun x hx => by have := HBB.out; omega | exact HV3.out.fr (P := fun x => x = gd) ((Fr.refl (fun x => x = gd) _).set (Or.inl rfl)).drew fun x hx => by have := HBB.out; omega
      · rw [show putS (letA 5) d ⟨tk, tx, tn, ta, te⟩ = { d with n := tn } from by simp [letA, putS]]
        exact heap_setCell_same _ _ 5 _ _ (.int .i64 tn) HD3.out
set_option maxRecDepth 20000 in
set_option maxHeartbeats 2000000 in
theorem takeA_6 {W : World} {B : Nat} {lv : Value} {L : List Tk} {len : Int} {n : Nat} (h : OvA W B lv L len n) (hL : L.length ≤ 9000000) (g : Nat) (gd : Nat) (d : SdO) (v : Value) (hB : B + 3 ≤ gd) (hd : BlkK W gd (d.v0 v) 24) (hg : BlkK W g #[.func (.func 59) #[] #[]] 100) :
    Calls Tryd.prog 74 #[tkV B, .pointer (some ⟨gd, 0, none⟩), .pointer (some ⟨g, 0, none⟩)] W (PkQ W B gd lv L len n 6 d v) := by
  obtain ⟨W1, hW1⟩ : ∃ X, W.alloc (.cells #[.int .i64 4] 3) = X := ⟨_, rfl⟩
  have hb1 : Below W.heap.size W W1 := by rw [← hW1]; exact below1K W _
  have hk1 : BlkK W1 W.heap.size #[.int .i64 4] 3 := by rw [← hW1]; exact BlkK.new W _ _
  have hi1 : IntsA W1 W.heap.size 0 [4] := by
    intro i y hi
    refine cell8 hk1 (0 + i) _ ?_
    match i, hi with
    | 0, hi => cases hi; rfl
  have HV1 := hm7 (h.later hb1)
  have HD1 := hm7 (hd.later hb1)
  have HB1 := hm7 hb1
  have HW := hm7 h.x.lt
  have HBB := hm7 hB
  have HGL := hm7 hd.lt
  have HG1 := hm7 (hg.later hb1)
  obtain ⟨T, hT⟩ : ∃ T, (tkA L n [4]).getD zTk = T := ⟨_, rfl⟩
  obtain ⟨ok, hok⟩ : ∃ ok, (tkA L n [4]).isSome = ok := ⟨_, rfl⟩
  have HT := hm7 hT
  have HOK := hm7 hok
  have HTK : Hid (Calls Tryd.prog 46 #[.slice (some ⟨W.heap.size, 0, none⟩) 1 1, .pointer (some ⟨B + 2, 0, none⟩), .pointer (some ⟨B, 0, none⟩)] W1 fun e W' => e = .returned (.tuple #[T.v, .bool ok]) ∧ OvA W' B lv L len (n + if ok = true then 1 else 0) ∧ Fr (fun b => b = B + 2) W1 W') := by
    have := takeA_any (HV1.out) hL W.heap.size 0 1 [4] hi1 (by simp)
    unfold TkQ at this
    rw [hT, hok] at this
    exact this
  clear h hL hd hb1 hk1 hi1 hT hok hB hg
  obtain ⟨tk, tx, tn, ta, te⟩ := T
  simp only [Tk.v] at HTK
  simp only [tkV]
  go_enter Tryd.func74, Tryd.ntmps74
  go_upto_region 2 with (go_at_call 46; refine HTK.out.mono ?_; rintro e w2 ⟨rfl, hv2, hf2⟩; have HV2 := hm7 hv2; have HF2 := hm7 hf2; clear hv2 hf2)
  have hb3 := below1K w2 (.cells #[.int .i64 tk, .string tx, .int .i64 tn, .int .i64 ta, .int .i64 te] 43)
  have hk3 := BlkK.new w2 #[.int .i64 tk, .string tx, .int .i64 tn, .int .i64 ta, .int .i64 te] 43
  have hv3 := HV2.out.later hb3
  have hd2 := HD1.out.frL HF2.out (by have := HBB.out; omega)
  have hd3 := hd2.later hb3
  have hg3 := (HG1.out.frL HF2.out (fun e => by subst e; have := HG1.out; have h2 := HV1.out.x; rw [BlkK] at this h2; rw [h2] at this; cases this)).later hb3
  have hf3 : Fr (fun x => x = B + 2 ∨ x = gd) W (w2.alloc (.cells #[.int .i64 tk, .string tx, .int .i64 tn, .int .i64 ta, .int .i64 te] 43)) := (((Fr.of HB1.out).tr (HF2.out.mono fun x _ hx => Or.inl hx)).then hb3)
  revert hb3 hk3 hv3 hd3 hf3 hg3
  generalize w2.alloc _ = W3
  intro hb3 hk3 hv3 hd3 hg3 hf3
  have x1 := cell8 hk3 1 _ rfl
  have x2 := cell8 hk3 2 _ rfl
  have y0 := cell8 hd3 6 _ rfl
  have y1 := froz8 hd3 6
  have z0 := cell8 hg3 0 _ rfl
  have HV3 := hm7 hv3
  have HD3 := hm7 hd3
  have HF3 := hm7 hf3
  clear hb3 hk3 hv3 hd3 hf3 hd2
  go_region_with (go_at_call 59; refine (fldA_4 gd _).mono ?_; rintro e wx ⟨rfl, rfl⟩)
  all_goals
    · go_wp2
      go_ret
      refine pk_end (v' := v) (T := ⟨tk, tx, tn, ta, te⟩) (ok := ok) HT.out HOK.out (fun k => ft_4 k 6 (by omega)) ?_ ?_ ?_ (Or.inl ⟨rfl, by decide⟩) rfl
      · first | exact HF3.out.set (Or.inl (Or.inr rfl)) | exact (HF3.out.set (Or.inl (Or.inr rfl))).drew
      · first | exact HV3.out.fr (P := fun x => x = gd) ((Fr.refl (fun x => x = gd) _).set (Or.inl rfl)) fun x hx => by have := HBB.out; omega | exact HV3.out.fr (P := fun x => x = gd) ((Fr.refl (fun x => x = gd) _).set (Or.inl rfl)).drew fun x hx => by have := HBB.out; omega
      · rw [show putS (letA 6) d ⟨tk, tx, tn, ta, te⟩ = { d with m := tn } from by simp [letA, putS]]
        exact heap_setCell_same _ _ 6 _ _ (.int .i64 tn) HD3.out
set_option maxRecDepth 20000 in
set_option maxHeartbeats 2000000 in
theorem takeA_7 {W : World} {B : Nat} {lv : Value} {L : List Tk} {len : Int} {n : Nat} (h : OvA W B lv L len n) (hL : L.length ≤ 9000000) (g : Nat) (gd : Nat) (d : SdO) (v : Value) (hB : B + 3 ≤ gd) (hd : BlkK W gd (d.v0 v) 24) (hg : BlkK W g #[.func (.func 60) #[] #[]] 100) :
    Calls Tryd.prog 74 #[tkV B, .pointer (some ⟨gd, 0, none⟩), .pointer (some ⟨g, 0, none⟩)] W (PkQ W B gd lv L len n 7 d v) := by
  obtain ⟨W1, hW1⟩ : ∃ X, W.alloc (.cells #[.int .i64 4] 3) = X := ⟨_, rfl⟩
  have hb1 : Below W.heap.size W W1 := by rw [← hW1]; exact below1K W _
  have hk1 : BlkK W1 W.heap.size #[.int .i64 4] 3 := by rw [← hW1]; exact BlkK.new W _ _
  have hi1 : IntsA W1 W.heap.size 0 [4] := by
    intro i y hi
    refine cell8 hk1 (0 + i) _ ?_
    match i, hi with
    | 0, hi => cases hi; rfl
  have HV1 := hm7 (h.later hb1)
  have HD1 := hm7 (hd.later hb1)
  have HB1 := hm7 hb1
  have HW := hm7 h.x.lt
  have HBB := hm7 hB
  have HGL := hm7 hd.lt
  have HG1 := hm7 (hg.later hb1)
  obtain ⟨T, hT⟩ : ∃ T, (tkA L n [4]).getD zTk = T := ⟨_, rfl⟩
  obtain ⟨ok, hok⟩ : ∃ ok, (tkA L n [4]).isSome = ok := ⟨_, rfl⟩
  have HT := hm7 hT
  have HOK := hm7 hok
  have HTK : Hid (Calls Tryd.prog 46 #[.slice (some ⟨W.heap.size, 0, none⟩) 1 1, .pointer (some ⟨B + 2, 0, none⟩), .pointer (some ⟨B, 0, none⟩)] W1 fun e W' => e = .returned (.tuple #[T.v, .bool ok]) ∧ OvA W' B lv L len (n + if ok = true then 1 else 0) ∧ Fr (fun b => b = B + 2) W1 W') := by
    have := takeA_any (HV1.out) hL W.heap.size 0 1 [4] hi1 (by simp)
    unfold TkQ at this
    rw [hT, hok] at this
    exact this
  clear h hL hd hb1 hk1 hi1 hT hok hB hg
  obtain ⟨tk, tx, tn, ta, te⟩ := T
  simp only [Tk.v] at HTK
  simp only [tkV]
  go_enter Tryd.func74, Tryd.ntmps74
  go_upto_region 2 with (go_at_call 46; refine HTK.out.mono ?_; rintro e w2 ⟨rfl, hv2, hf2⟩; have HV2 := hm7 hv2; have HF2 := hm7 hf2; clear hv2 hf2)
  have hb3 := below1K w2 (.cells #[.int .i64 tk, .string tx, .int .i64 tn, .int .i64 ta, .int .i64 te] 43)
  have hk3 := BlkK.new w2 #[.int .i64 tk, .string tx, .int .i64 tn, .int .i64 ta, .int .i64 te] 43
  have hv3 := HV2.out.later hb3
  have hd2 := HD1.out.frL HF2.out (by have := HBB.out; omega)
  have hd3 := hd2.later hb3
  have hg3 := (HG1.out.frL HF2.out (fun e => by subst e; have := HG1.out; have h2 := HV1.out.x; rw [BlkK] at this h2; rw [h2] at this; cases this)).later hb3
  have hf3 : Fr (fun x => x = B + 2 ∨ x = gd) W (w2.alloc (.cells #[.int .i64 tk, .string tx, .int .i64 tn, .int .i64 ta, .int .i64 te] 43)) := (((Fr.of HB1.out).tr (HF2.out.mono fun x _ hx => Or.inl hx)).then hb3)
  revert hb3 hk3 hv3 hd3 hf3 hg3
  generalize w2.alloc _ = W3
  intro hb3 hk3 hv3 hd3 hg3 hf3
  have x1 := cell8 hk3 1 _ rfl
  have x2 := cell8 hk3 2 _ rfl
  have y0 := cell8 hd3 7 _ rfl
  have y1 := froz8 hd3 7
  have z0 := cell8 hg3 0 _ rfl
  have HV3 := hm7 hv3
  have HD3 := hm7 hd3
  have HF3 := hm7 hf3
  clear hb3 hk3 hv3 hd3 hf3 hd2
  go_region_with (go_at_call 60; refine (fldA_5 gd _).mono ?_; rintro e wx ⟨rfl, rfl⟩)
  all_goals
    · go_wp2
      go_ret
      refine pk_end (v' := v) (T := ⟨tk, tx, tn, ta, te⟩) (ok := ok) HT.out HOK.out (fun k => ft_4 k 7 (by omega)) ?_ ?_ ?_ (Or.inl ⟨rfl, by decide⟩) rfl
      · first | exact HF3.out.set (Or.inl (Or.inr rfl)) | exact (HF3.out.set (Or.inl (Or.inr rfl))).drew
      · first | exact HV3.out.fr (P := fun x => x = gd) ((Fr.refl (fun x => x = gd) _).set (Or.inl rfl)) fun x hx => by have := HBB.out; omega | exact HV3.out.fr (P := fun x => x = gd) ((Fr.refl (fun x => x = gd) _).set (Or.inl rfl)).drew fun x hx => by have := HBB.out; omega
      · rw [show putS (letA 7) d ⟨tk, tx, tn, ta, te⟩ = { d with q := tn } from by simp [letA, putS]]
        exact heap_setCell_same _ _ 7 _ _ (.int .i64 tn) HD3.out
end Go.Proofs.YtdfdnjkeiddfjaaDoor
