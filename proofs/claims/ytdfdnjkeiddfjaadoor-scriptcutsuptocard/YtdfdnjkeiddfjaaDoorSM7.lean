/-
  script (stage 25): a part of a line is taken: the next token into the step's field.
-/
import Derived.Test.YtdfdnjkeiddfjaaDoorSM6
import Derived.Test.YtdfdnjkeiddfjaaDoorSM0
namespace Go.Proofs.YtdfdnjkeiddfjaaDoor
open Go.RowKit
attribute [local go_sem ↓] Go.wp_at_zero Go.wp_at_succ
attribute [local go_sem] run_store_funcA

/-- A part's letter. -/
def letA (p : Int) : Int := if p = 1 then 119 else if p = 2 then 111 else if p = 3 then 116 else if p = 4 then 98 else if p = 5 then 110 else if p = 6 then 109 else 107
def PkQ (W : World) (B gd : Nat) (lv : Value) (L : List Tk) (len : Int) (n : Nat) (p : Int) (d : SdO) (v : Value) (e : Ending) (W' : World) : Prop :=
  Fr (fun x => x = B + 2 ∨ x = gd) W W' ∧
  ((∃ t, L[n]? = some t ∧ ftS (letA p) t.k = true ∧ e = .returned (.bool true) ∧ OvA W' B lv L len (n + 1) ∧ ∃ v', BlkK W' gd ((putS (letA p) d t).v0 v') 24 ∧ ((v' = v ∧ letA p ≠ 98) ∨ (letA p = 98 ∧ ∃ a' c', v' = .slice a' t.x.size c' ∧ OwY W' W.heap.size v' (blK t.x)))) ∨
   ((∀ t, L[n]? = some t → ftS (letA p) t.k = false) ∧ e = .returned (.bool false) ∧ OvA W' B lv L len n))
theorem pk_end {W W' : World} {B gd : Nat} {lv : Value} {L : List Tk} {len : Int} {n : Nat} {p : Int} {d : SdO} {v v' : Value} {e : Ending} {ks : List Int} {T : Tk} {ok : Bool} (hT : (tkA L n ks).getD zTk = T) (hok : (tkA L n ks).isSome = ok)
    (hft : ∀ k, (k ∈ ks) ↔ ftS (letA p) k = true) (hf : Fr (fun x => x = B + 2 ∨ x = gd) W W') (hv : OvA W' B lv L len (n + if ok = true then 1 else 0)) (hb : BlkK W' gd ((putS (letA p) d T).v0 v') 24)
    (hvv : (v' = v ∧ letA p ≠ 98) ∨ (letA p = 98 ∧ ∃ a' c', v' = .slice a' T.x.size c' ∧ OwY W' W.heap.size v' (blK T.x))) (he : e = .returned (.bool ok)) : PkQ W B gd lv L len n p d v e W' := by
  refine ⟨hf, ?_⟩
  cases ht : L[n]? with
  | none =>
    have h0 : tkA L n ks = none := by unfold tkA; rw [ht]; rfl
    rw [h0] at hok
    subst hok
    exact Or.inr ⟨fun t h => (by cases h), he, hv⟩
  | some t =>
    by_cases hm : t.k ∈ ks
    · have h0 : tkA L n ks = some t := by unfold tkA; rw [ht]; exact if_pos hm
      rw [h0] at hok hT
      subst hok
      cases hT
      exact Or.inl ⟨t, rfl, (hft _).1 hm, he, hv, v', hb, hvv⟩
    · have h0 : tkA L n ks = none := by unfold tkA; rw [ht]; exact if_neg hm
      rw [h0] at hok
      subst hok
      refine Or.inr ⟨fun u h => ?_, he, hv⟩
      cases h
      cases hq : ftS (letA p) t.k with
      | false => rfl
      | true => exact absurd ((hft _).2 hq) hm
theorem ft_13 (k : Int) (p : Int) (hp : p = 1 ∨ p = 2) : (k ∈ ([1, 3] : List Int)) ↔ ftS (letA p) k = true := by
  rcases hp with rfl | rfl <;> simp [ftS, letA]
theorem ft_3 (k : Int) (p : Int) (hp : p = 3 ∨ p = 4) : (k ∈ ([3] : List Int)) ↔ ftS (letA p) k = true := by
  rcases hp with rfl | rfl <;> simp [ftS, letA]
theorem ft_4 (k : Int) (p : Int) (hp : p = 5 ∨ p = 6 ∨ p = 7) : (k ∈ ([4] : List Int)) ↔ ftS (letA p) k = true := by
  rcases hp with rfl | rfl | rfl <;> simp [ftS, letA]
theorem fldA_1 (g : Nat) (w : World) : Calls Tryd.prog 49 #[.pointer (some ⟨g, 0, none⟩)] w fun e w' => e = .returned (.pointer (some ⟨g, 1, none⟩)) ∧ w' = w := by
  go_enter Tryd.func49, Tryd.ntmps49
  go_wp2
  go_ret
  exact ⟨rfl, rfl⟩
theorem fldA_2 (g : Nat) (w : World) : Calls Tryd.prog 50 #[.pointer (some ⟨g, 0, none⟩)] w fun e w' => e = .returned (.pointer (some ⟨g, 2, none⟩)) ∧ w' = w := by
  go_enter Tryd.func50, Tryd.ntmps50
  go_wp2
  go_ret
  exact ⟨rfl, rfl⟩
theorem fldA_3 (g : Nat) (w : World) : Calls Tryd.prog 58 #[.pointer (some ⟨g, 0, none⟩)] w fun e w' => e = .returned (.pointer (some ⟨g, 5, none⟩)) ∧ w' = w := by
  go_enter Tryd.func58, Tryd.ntmps58
  go_wp2
  go_ret
  exact ⟨rfl, rfl⟩
theorem fldA_4 (g : Nat) (w : World) : Calls Tryd.prog 59 #[.pointer (some ⟨g, 0, none⟩)] w fun e w' => e = .returned (.pointer (some ⟨g, 6, none⟩)) ∧ w' = w := by
  go_enter Tryd.func59, Tryd.ntmps59
  go_wp2
  go_ret
  exact ⟨rfl, rfl⟩
theorem fldA_5 (g : Nat) (w : World) : Calls Tryd.prog 60 #[.pointer (some ⟨g, 0, none⟩)] w fun e w' => e = .returned (.pointer (some ⟨g, 7, none⟩)) ∧ w' = w := by
  go_enter Tryd.func60, Tryd.ntmps60
  go_wp2
  go_ret
  exact ⟨rfl, rfl⟩
set_option maxRecDepth 20000 in
set_option maxHeartbeats 2000000 in
theorem takeA_3 {W : World} {B : Nat} {lv : Value} {L : List Tk} {len : Int} {n : Nat} (h : OvA W B lv L len n) (hL : L.length ≤ 9000000) (gd : Nat) (d : SdO) (v : Value) (hB : B + 3 ≤ gd) (hd : BlkK W gd (d.v0 v) 24) :
    Calls Tryd.prog 51 #[tkV B, .pointer (some ⟨gd, 0, none⟩)] W (PkQ W B gd lv L len n 3 d v) := by
  obtain ⟨W1, hW1⟩ : ∃ X, W.alloc (.cells #[.int .i64 3] 3) = X := ⟨_, rfl⟩
  have hb1 : Below W.heap.size W W1 := by rw [← hW1]; exact below1K W _
  have hk1 : BlkK W1 W.heap.size #[.int .i64 3] 3 := by rw [← hW1]; exact BlkK.new W _ _
  have hi1 : IntsA W1 W.heap.size 0 [3] := by
    intro i y hi
    refine cell8 hk1 (0 + i) _ ?_
    match i, hi with
    | 0, hi => cases hi; rfl
  have HV1 := hm7 (h.later hb1)
  have HD1 := hm7 (hd.later hb1)
  have HB1 := hm7 hb1
  have HW := hm7 h.x.lt
  have HBB := hm7 hB
  have HGL := hm7 hd.lt
  obtain ⟨T, hT⟩ : ∃ T, (tkA L n [3]).getD zTk = T := ⟨_, rfl⟩
  obtain ⟨ok, hok⟩ : ∃ ok, (tkA L n [3]).isSome = ok := ⟨_, rfl⟩
  have HT := hm7 hT
  have HOK := hm7 hok
  have HTK : Hid (Calls Tryd.prog 46 #[.slice (some ⟨W.heap.size, 0, none⟩) 1 1, .pointer (some ⟨B + 2, 0, none⟩), .pointer (some ⟨B, 0, none⟩)] W1 fun e W' => e = .returned (.tuple #[T.v, .bool ok]) ∧ OvA W' B lv L len (n + if ok = true then 1 else 0) ∧ Fr (fun b => b = B + 2) W1 W') := by
    have := takeA_any (HV1.out) hL W.heap.size 0 1 [3] hi1 (by simp)
    unfold TkQ at this
    rw [hT, hok] at this
    exact this
  clear h hL hd hb1 hk1 hi1 hT hok hB
  obtain ⟨tk, tx, tn, ta, te⟩ := T
  simp only [Tk.v] at HTK
  simp only [tkV]
  go_enter Tryd.func51, Tryd.ntmps51
  go_upto_region 2 with (go_at_call 46; refine HTK.out.mono ?_; rintro e w2 ⟨rfl, hv2, hf2⟩; have HV2 := hm7 hv2; have HF2 := hm7 hf2; clear hv2 hf2)
  have hb3 := below1K w2 (.cells #[.int .i64 tk, .string tx, .int .i64 tn, .int .i64 ta, .int .i64 te] 43)
  have hk3 := BlkK.new w2 #[.int .i64 tk, .string tx, .int .i64 tn, .int .i64 ta, .int .i64 te] 43
  have hv3 := HV2.out.later hb3
  have hd2 := HD1.out.frL HF2.out (by have := HBB.out; omega)
  have hd3 := hd2.later hb3
  have hf3 : Fr (fun x => x = B + 2 ∨ x = gd) W (w2.alloc (.cells #[.int .i64 tk, .string tx, .int .i64 tn, .int .i64 ta, .int .i64 te] 43)) := (((Fr.of HB1.out).tr (HF2.out.mono fun x _ hx => Or.inl hx)).then hb3)
  revert hb3 hk3 hv3 hd3 hf3
  generalize w2.alloc _ = W3
  intro hb3 hk3 hv3 hd3 hf3
  have x1 := cell8 hk3 1 _ rfl
  have x2 := cell8 hk3 2 _ rfl
  have y0 := cell8 hd3 3 _ rfl
  have y1 := froz8 hd3 3
  have HV3 := hm7 hv3
  have HD3 := hm7 hd3
  have HF3 := hm7 hf3
  clear hb3 hk3 hv3 hd3 hf3 hd2
  · go_wp2
    go_ret
    · refine pk_end (v' := v) (T := ⟨tk, tx, tn, ta, te⟩) (ok := ok) HT.out HOK.out (fun k => ft_3 k 3 (by omega)) ?_ ?_ ?_ (Or.inl ⟨rfl, by decide⟩) rfl
      · first | exact HF3.out.set (Or.inl (Or.inr rfl)) | exact (HF3.out.set (Or.inl (Or.inr rfl))).drew
      · first | exact HV3.out.fr (P := fun x => x = gd) ((Fr.refl (fun x => x = gd) _).set (Or.inl rfl)) fun x hx => by have := HBB.out; omega | exact HV3.out.fr (P := fun x => x = gd) ((Fr.refl (fun x => x = gd) _).set (Or.inl rfl)).drew fun x hx => by have := HBB.out; omega
      · rw [show putS (letA 3) d ⟨tk, tx, tn, ta, te⟩ = { d with tx := tx } from by simp [letA, putS]]
        exact heap_setCell_same _ _ 3 _ _ (.string tx) HD3.out
end Go.Proofs.YtdfdnjkeiddfjaaDoor
