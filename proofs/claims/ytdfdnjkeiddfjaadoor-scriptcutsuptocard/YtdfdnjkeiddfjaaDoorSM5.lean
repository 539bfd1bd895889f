/-
  script (stage 25): is a number among a row of numbers?
-/
import Derived.Test.YtdfdnjkeiddfjaaDoorSC9
import Derived.Test.YtdfdnjkeiddfjaaDoorK4
namespace Go.Proofs.YtdfdnjkeiddfjaaDoor
open Go.RowKit
attribute [local go_sem ↓] Go.wp_at_zero Go.wp_at_succ

def IntsA (W : World) (b o : Nat) (l : List Int) : Prop := ∀ i y, l[i]? = some y → W.cell? ⟨b, o + i, none⟩ = some (.int .i64 y)
/-- Where a number stands first. -/
def ixA (x : Int) : Nat → List Int → Int
  | _, [] => -1
  | j, y :: l => if x = y then (j : Int) else ixA x (j + 1) l
theorem ixA_drop (x : Int) (l : List Int) (j : Nat) (y : Int) (h : l[j]? = some y) : ixA x j (l.drop j) = if x = y then (j : Int) else ixA x (j + 1) (l.drop (j + 1)) := by
  obtain ⟨h1, h2⟩ := List.getElem?_eq_some_iff.1 h
  rw [List.drop_eq_getElem_cons h1, h2]
  rfl
theorem ixA_ge (x : Int) : ∀ (l : List Int) (j : Nat), decide (ixA x j l ≥ 0) = decide (x ∈ l)
  | [], j => by simp [ixA]
  | y :: l, j => by
    unfold ixA
    by_cases h : x = y
    · rw [if_pos h]; simp [h]
    · rw [if_neg h, ixA_ge x l (j + 1)]; simp [h]
set_option maxHeartbeats 1000000 in
theorem indexI_any (b o cap : Nat) (l : List Int) (x : Int) (w : World) (h : IntsA w b o l) (hl : l.length ≤ 100) :
    Calls Tryd.prog 61 #[.slice (some ⟨b, o, none⟩) l.length cap, .int .i64 x] w fun e w' => e = .returned (.int .i64 (ixA x 0 l)) ∧ w' = w := by
  obtain ⟨R, hR⟩ : ∃ R, ixA x 0 l = R := ⟨_, rfl⟩
  have HR0 : Hid (ixA x 0 (l.drop 0) = R) := hR
  obtain ⟨n, hn⟩ : ∃ n, l.length = n := ⟨_, rfl⟩
  have HN := hm7 hn
  have HL := hm7 hl
  have HC := hm7 h
  rw [hR, hn]
  clear hR hn hl h
  go_enter Tryd.func61, Tryd.ntmps61
  go_upto_region 2 with (fail)
  go_loopg [5, 8] n (fun g _ i wr => ∃ j : Nat, j + g = n ∧ i = .int .i64 j ∧ ixA x j (l.drop j) = R ∧ wr = w)
  case atStart => exact ⟨0, by omega, rfl, HR0.out, rfl⟩
  case round =>
    obtain ⟨j, hj, rfl, hr, rfl⟩ := hrel
    have HR := hm7 hr
    have HJ := hm7 hj
    clear hr hj HR0
    cases gk with
    | succ g =>
      have i0 : j < n := by have := HJ.out; omega
      have i1 : (j : Int) < (n : Int) := by omega
      have i2 : (0 : Int) ≤ (j : Int) := by omega
      obtain ⟨y, hy⟩ : ∃ y, l[j]? = some y := ⟨_, List.getElem?_eq_getElem (by rw [HN.out]; exact i0)⟩
      have hc := HC.out j y hy
      have HS := hm7 (ixA_drop x l j y hy)
      clear hy
      by_cases hq : x = y
      · have e1 : (x == y) = true := by simpa using hq
        have HQ : Hid ((j : Int) = R) := by show _ = _; rw [← HR.out, HS.out, if_pos hq]
        clear hq
        go_wp2
        go_ret
        exact ⟨by rw [HQ.out]; rfl, rfl⟩
      · have e1 : (x == y) = false := by simpa using hq
        have HQ : Hid (ixA x (j + 1) (l.drop (j + 1)) = R) := by show _ = _; rw [← HR.out, HS.out, if_neg hq]
        have hw : (n : Int) ≤ 100 := by have := HN.out; have := HL.out; omega
        clear hq
        go_wp2
        go_roundg g
        case measure => omega
        case rel => exact ⟨j + 1, by have := HJ.out; omega, by go_num, HQ.out, rfl⟩
    | zero =>
      have i1 : ¬ (j : Int) < (n : Int) := by have := HJ.out; omega
      have HQ : Hid ((-1 : Int) = R) := by
        show _ = _
        rw [← HR.out, List.drop_eq_nil_of_le (by rw [HN.out]; have := HJ.out; omega)]
        rfl
      go_wp2
      go_ret
      exact ⟨by rw [← HQ.out]; rfl, rfl⟩
set_option maxHeartbeats 1000000 in
theorem containsI_any (b o cap : Nat) (l : List Int) (x : Int) (w : World) (h : IntsA w b o l) (hl : l.length ≤ 100) :
    Calls Tryd.prog 34 #[.slice (some ⟨b, o, none⟩) l.length cap, .int .i64 x] w fun e w' => e = .returned (.bool (decide (x ∈ l))) ∧ w' = w := by
  have HC := hm7 (indexI_any b o cap l x w h hl)
  have HG := hm7 (ixA_ge x l 0)
  obtain ⟨R, hR⟩ : ∃ R, ixA x 0 l = R := ⟨_, rfl⟩
  obtain ⟨n, hn⟩ : ∃ n, l.length = n := ⟨_, rfl⟩
  rw [hR] at HC HG
  rw [hn] at HC ⊢
  rw [← HG.out]
  clear hR hn hl h
  go_enter Tryd.func34, Tryd.ntmps34
  go_wp2_with (go_at_call 61; refine HC.out.mono ?_; rintro e w1 ⟨rfl, rfl⟩)
  go_ret
  exact ⟨rfl, rfl⟩
end Go.Proofs.YtdfdnjkeiddfjaaDoor
