import Derived.Test.YtdfdnjkeiddfjaaDoorSM7
import Derived.Test.YtdfdnjkeiddfjaaDoorWR2
import Derived.Test.YtdfdnjkeiddfjaaDoorSML
import Derived.Test.YtdfdnjkeiddfjaaDoorSMX
import Derived.Test.YtdfdnjkeiddfjaaDoorSMD
import Derived.Test.YtdfdnjkeiddfjaaDoorSME
/-
  script (stage 25): bytes are taken.
-/
namespace Go.Proofs.YtdfdnjkeiddfjaaDoor
open Go.RowKit
attribute [local go_sem ↓] Go.wp_at_zero Go.wp_at_succ
attribute [local go_sem] run_store_funcA

set_option maxRecDepth 20000 in
set_option maxHeartbeats 2000000 in
theorem takeA_4 {W : World} {B : Nat} {lv : Value} {L : List Tk} {len : Int} {n : Nat} (h : OvA W B lv L len n) (hL : L.length ≤ 9000000) (hx : ∀ t ∈ L, t.x.size ≤ 9000000) (gd : Nat) (d : SdO) (v : Value) (hB : B + 3 ≤ gd) (hd : BlkK W gd (d.v0 v) 24) :
    Calls Tryd.prog 54 #[tkV B, .pointer (some ⟨gd, 0, none⟩)] W (PkQ W B gd lv L len n 4 d v) := by
  obtain ⟨W1, hW1⟩ : ∃ X, W.alloc (.cells #[.int .i64 3] 3) = X := ⟨_, rfl⟩
  have hb1 : Below W.heap.size W W1 := by rw [← hW1]; exact below1K W _
  have hk1 : BlkK W1 W.heap.size #[.int .i64 3] 3 := by rw [← hW1]; exact BlkK.new W _ _
  have hi1 : IntsA W1 W.heap.size 0 [3] := by
    intro i y hi
    refine cell8 hk1 (0 + i) _ ?_
    match i, hi with
    | 0, hi => cases hi; rfl
  have HV1 := hm7 (h.later hb1)
  have HD1 := hm7 (hd.later hb1)
  have HB1 := hm7 hb1
  have HW := hm7 h.x.lt
  have HBB := hm7 hB
  have HGL := hm7 hd.lt
  obtain ⟨T, hT⟩ : ∃ T, (tkA L n [3]).getD zTk = T := ⟨_, rfl⟩
  obtain ⟨ok, hok⟩ : ∃ ok, (tkA L n [3]).isSome = ok := ⟨_, rfl⟩
  have HT := hm7 hT
  have HX : Hid (T.x.size ≤ 9000000) := by
    show T.x.size ≤ 9000000
    rw [← hT]
    unfold tkA
    cases ht : L[n]? with
    | none => exact Nat.zero_le _
    | some t =>
      have := hx t (List.mem_of_getElem? ht)
      by_cases hm : t.k ∈ ([3] : List Int)
      · simp only [Option.bind_some, if_pos hm, Option.getD_some]; exact this
      · simp only [Option.bind_some, if_neg hm]; exact Nat.zero_le _
  have HOK := hm7 hok
  have HTK : Hid (Calls Tryd.prog 46 #[.slice (some ⟨W.heap.size, 0, none⟩) 1 1, .pointer (some ⟨B + 2, 0, none⟩), .pointer (some ⟨B, 0, none⟩)] W1 fun e W' => e = .returned (.tuple #[T.v, .bool ok]) ∧ OvA W' B lv L len (n + if ok = true then 1 else 0) ∧ Fr (fun b => b = B + 2) W1 W') := by
    have := takeA_any (HV1.out) hL W.heap.size 0 1 [3] hi1 (by simp)
    unfold TkQ at this
    rw [hT, hok] at this
    exact this
  clear h hL hx hd hb1 hk1 hi1 hT hok hB
  obtain ⟨tk, tx, tn, ta, te⟩ := T
  simp only [Tk.v] at HTK
  simp only [tkV]
  go_enter Tryd.func54, Tryd.ntmps54
  go_upto_region 2 with (go_at_call 46; refine HTK.out.mono ?_; rintro e w2 ⟨rfl, hv2, hf2⟩; have HV2 := hm7 hv2; have HF2 := hm7 hf2; clear hv2 hf2)
  have hb3 := below1K w2 (.cells #[.int .i64 tk, .string tx, .int .i64 tn, .int .i64 ta, .int .i64 te] 43)
  have hk3 := BlkK.new w2 #[.int .i64 tk, .string tx, .int .i64 tn, .int .i64 ta, .int .i64 te] 43
  have hv3 := HV2.out.later hb3
  have hd2 := HD1.out.frL HF2.out (by have := HBB.out; omega)
  have hd3 := hd2.later hb3
  have hf3 : Fr (fun x => x = B + 2 ∨ x = gd) W (w2.alloc (.cells #[.int .i64 tk, .string tx, .int .i64 tn, .int .i64 ta, .int .i64 te] 43)) := (((Fr.of HB1.out).tr (HF2.out.mono fun x _ hx => Or.inl hx)).then hb3)
  revert hb3 hk3 hv3 hd3 hf3
  generalize w2.alloc _ = W3
  intro hb3 hk3 hv3 hd3 hf3
  have x1 := cell8 hk3 1 _ rfl
  have x2 := cell8 hk3 2 _ rfl
  obtain ⟨W4, hW4⟩ : ∃ W, Lib.bytesWorld W3 5 tx = W := ⟨_, rfl⟩
  have hcv := conv_str W3 tx
  have hY : OwY W4 W3.heap.size (.slice (some ⟨W3.heap.size, 0, none⟩) tx.size (grownCap W3 tx.size 0 5)) (blK tx) := by rw [← hW4]; exact OwY.conv W3 tx HX.out
  have hb4 : Below W3.heap.size W3 W4 := by rw [← hW4]; exact below_conv W3 tx
  rw [hW4] at hcv
  obtain ⟨C, hC⟩ : ∃ C, grownCap W3 tx.size 0 5 = C := ⟨_, rfl⟩
  rw [hC] at hcv hY
  have hd4 := hd3.later hb4
  have y0 := cell8 hd4 4 _ rfl
  have y1 := froz8 hd4 4
  have HD4 := hm7 hd4
  have HY := hm7 hY
  have HB4 := hm7 hb4
  have HG4 := hm7 hd3.lt
  have HS3 := hm7 hf3.size
  clear hW4 hC hb4 hY hd4
  have HV3 := hm7 hv3
  have HD3 := hm7 hd3
  have HF3 := hm7 hf3
  clear hb3 hk3 hv3 hd3 hf3 hd2
  · go_wp2
    go_ret
    · refine pk_end (v' := .slice (some ⟨W3.heap.size, 0, none⟩) tx.size C) (T := ⟨tk, tx, tn, ta, te⟩) (ok := ok) HT.out HOK.out (fun k => ft_3 k 4 (by omega)) ?_ ?_ ?_ (Or.inr ⟨by decide, _, _, rfl, ?_⟩) rfl
      · exact (HF3.out.then HB4.out).set (Or.inl (Or.inr rfl))
      · exact (HV3.out.later HB4.out).fr (P := fun x => x = gd) ((Fr.refl (fun x => x = gd) _).set (Or.inl rfl)) fun x hx => by have := HBB.out; omega
      · rw [show putS (letA 4) d ⟨tk, tx, tn, ta, te⟩ = d from by simp [letA, putS]]
        exact heap_setCell_same _ _ 4 _ _ _ HD4.out
      · exact (HY.out.set HG4.out).mono HS3.out
end Go.Proofs.YtdfdnjkeiddfjaaDoor
/-
  script (stage 25): a part is taken, whichever it is; what the tokens of a line say.
-/
namespace Go.Proofs.YtdfdnjkeiddfjaaDoor
open Go.RowKit

theorem PtA.take {W : World} {B : Nat} {lv : Value} {L : List Tk} {len : Int} {n : Nat} (h : OvA W B lv L len n) (hL : L.length ≤ 9000000) (hx : ∀ t ∈ L, t.x.size ≤ 9000000) (gd : Nat) (d : SdO) (v : Value) (hB : B + 3 ≤ gd) (hd : BlkK W gd (d.v0 v) 24) {p : Int} {pv : Value} (hp : PtA W p pv) :
    ∃ f c f2 c2 f3 c3, pv = .agg #[.func (.func f) #[] c, .func (.func f2) #[] c2, .func (.func f3) #[] c3] ∧ (∀ (args : Array Value) (X : World), (callFunc f args).run Tryd.prog X = .ok (.enter f args) X) ∧ Calls Tryd.prog f (#[tkV B, .pointer (some ⟨gd, 0, none⟩)] ++ c) W (PkQ W B gd lv L len n p d v) := by
  rcases hp with ⟨rfl, rfl⟩ | ⟨rfl, rfl⟩ | ⟨g, rfl, (⟨rfl, hg⟩ | ⟨rfl, hg⟩)⟩ | ⟨g, rfl, (⟨rfl, hg⟩ | ⟨rfl, hg⟩ | ⟨rfl, hg⟩)⟩
  · exact ⟨_, _, _, _, _, _, rfl, enters_of Tryd.func51 (by kernel_rfl) rfl, takeA_3 h hL gd d v hB hd⟩
  · exact ⟨_, _, _, _, _, _, rfl, enters_of Tryd.func54 (by kernel_rfl) rfl, takeA_4 h hL hx gd d v hB hd⟩
  · exact ⟨_, _, _, _, _, _, rfl, enters_of Tryd.func69 (by kernel_rfl) rfl, takeA_1 h hL g gd d v hB hd hg⟩
  · exact ⟨_, _, _, _, _, _, rfl, enters_of Tryd.func69 (by kernel_rfl) rfl, takeA_2 h hL g gd d v hB hd hg⟩
  · exact ⟨_, _, _, _, _, _, rfl, enters_of Tryd.func74 (by kernel_rfl) rfl, takeA_5 h hL g gd d v hB hd hg⟩
  · exact ⟨_, _, _, _, _, _, rfl, enters_of Tryd.func74 (by kernel_rfl) rfl, takeA_6 h hL g gd d v hB hd hg⟩
  · exact ⟨_, _, _, _, _, _, rfl, enters_of Tryd.func74 (by kernel_rfl) rfl, takeA_7 h hL g gd d v hB hd hg⟩
theorem PtA.fr {P : Nat → Prop} {W W' : World} {p : Int} {v : Value} (h : PtA W p v) (hf : Fr P W W') (hn : ∀ g c t, (t = 97 ∨ t = 100) → BlkK W g c t → ¬ P g) : PtA W' p v := by
  have key : ∀ g c t, (t = 97 ∨ t = 100) → BlkK W g c t → BlkK W' g c t := fun g c t ht hb => hb.frL hf (hn g c t ht hb)
  rcases h with h | h | ⟨g, e, h⟩ | ⟨g, e, h⟩
  · exact Or.inl h
  · exact Or.inr (Or.inl h)
  · exact Or.inr (Or.inr (Or.inl ⟨g, e, h.imp (fun h => ⟨h.1, key _ _ _ (Or.inl rfl) h.2⟩) fun h => ⟨h.1, key _ _ _ (Or.inl rfl) h.2⟩⟩))
  · exact Or.inr (Or.inr (Or.inr ⟨g, e, h.imp (fun h => ⟨h.1, key _ _ _ (Or.inr rfl) h.2⟩) fun h => h.imp (fun h => ⟨h.1, key _ _ _ (Or.inr rfl) h.2⟩) fun h => ⟨h.1, key _ _ _ (Or.inr rfl) h.2⟩⟩))
theorem PLA.fr {P : Nat → Prop} {W W' : World} {B : Nat} {v : Value} {ps : List Int} {l : List (Value × Value × Value)} (h : PLA W B v ps l) (hf : Fr P W W') (hn : ∀ g, P g → (∃ c, BlkK W g c 3) ∨ ∃ c, BlkK W g c 24) : PLA W' B v ps l := by
  have hnn : ∀ g c t, (t = 97 ∨ t = 100) → BlkK W g c t → ¬ P g := fun g c t ht hb hp => by
    rcases hn g hp with ⟨c', h'⟩ | ⟨c', h'⟩
    · have := hb.symm.trans h'
      rcases ht with rfl | rfl <;> cases this
    · have := hb.symm.trans h'
      rcases ht with rfl | rfl <;> cases this
  refine ⟨rowS h.r fun g hg => hf.block g (h.r.lt g hg).2 fun hp => ?_, h.n, fun i p hi => (h.p i p hi).imp fun _ hx => ⟨hx.1, hx.2.fr hf hnn⟩⟩
  rcases h.r.2 with ⟨hv, -⟩ | ⟨g', cap, cur, rfl, -, hg', -⟩
  · rw [hv] at hg; cases hg
  · cases hg
    rcases hn _ hp with ⟨c', h'⟩ | ⟨c', h'⟩
    · have := h'.symm.trans hg'; cases this
    · have := h'.symm.trans hg'; cases this
/-- What the first token says. -/
theorem said_ways (L : List Tk) (len : Int) :
    (rwA.find? (fun r => decide (r.x = ((tkA L 0 [1]).getD zTk).x)) = none ∧ rlS len L = noS 252 (plA L len 0)) ∨
    ∃ j t l, j < 24 ∧ L = t :: l ∧ tkA L 0 [1] = some t ∧ rwA.find? (fun r => decide (r.x = t.x)) = some (rwA.getD j zrA) ∧ rlS len L = goS len ((rwA.getD j zrA).ps.map letA) l { zdS with k := (rwA.getD j zrA).k } ⟨#[]⟩ := by
  cases L with
  | nil => exact Or.inl ⟨find_none, rfl⟩
  | cons t l =>
    by_cases hk : t.k = 1
    · have h0 : tkA (t :: l) 0 [1] = some t := by
        show (if t.k ∈ ([1] : List Int) then some t else none) = some t
        rw [if_pos (by simp [hk])]
      have hw : rwT t = lsS t.x 24 := if_pos hk
      rcases find_name t.x with ⟨h1, h2⟩ | ⟨j, hj, h1, h2⟩
      · refine Or.inl ⟨by rw [h0]; exact h1, ?_⟩
        show (if (rwT t).k = 0 then noS 252 t.a else _) = noS 252 t.a
        rw [hw, h2]
        rfl
      · refine Or.inr ⟨j, t, l, hj, rfl, h0, h1, ?_⟩
        obtain ⟨q1, q2, q3, q4⟩ := rwA_S hj
        have q5 := rw_k q1
        show (if (rwT t).k = 0 then noS 252 t.a else goS len (blK (rwT t).p) l { zdS with k := (rwT t).k } ⟨#[]⟩) = _
        rw [hw, h2, q4, q5, ← q2, if_neg (by rw [q2]; omega)]
    · have h0 : tkA (t :: l) 0 [1] = none := by
        show (if t.k ∈ ([1] : List Int) then some t else none) = none
        rw [if_neg (by simpa using hk)]
      have hw : rwT t = zrS := if_neg hk
      refine Or.inl ⟨by rw [h0]; exact find_none, ?_⟩
      show (if (rwT t).k = 0 then noS 252 t.a else _) = noS 252 t.a
      rw [hw]
      rfl
theorem plA_at {L : List Tk} {len : Int} {n : Nat} {t : Tk} (h : L[n]? = some t) : plA L len n = t.a := by unfold plA; rw [h]; rfl
theorem plA_end {L : List Tk} {len : Int} {n : Nat} (h : L[n]? = none) : plA L len n = len := by unfold plA; rw [h]; rfl
theorem RtS.fr {P : Nat → Prop} {w wx wy : World} (h : RtS w wx) (hf : Fr P wx wy) (hp : ∀ x, P x → w.heap.size + 2 ≤ x) : RtS w wy :=
  ⟨h.d.frL hf fun q => by have := hp _ q; omega, h.f.frL hf fun q => by have := hp _ q; omega, h.b.trans (hf.belowL (fun k hk => by have := hp k hk; omega) h.b.size)⟩
end Go.Proofs.YtdfdnjkeiddfjaaDoor
