import Derived.Test.YtechceagghcipaaGreatDoorRA11
import Derived.Laws.BitsAllLaws
import Derived.WalkLawsBesides
namespace Go.Proofs.YtechceagghcipaaGreatDoor
open Go.RowKit
attribute [local go_sem ↓] Go.wp_at_zero Go.wp_at_succ

theorem nan7_any (x : Int) (w : World) : Calls Tryz.prog 70 #[.int .i64 x] w fun e w' => e = .returned (.bool false) /\ w' = w := by
 go_enter Tryz.func70, Tryz.ntmps70
 go_wp2
 go_ret
 exact ⟨ret_b (by simp), rfl⟩
theorem nan7s_any (x : Int) (w : World) : Calls Tryz.prog 189 #[.int .i64 x] w fun e w' => e = .returned (.bool false) /\ w' = w := by
 go_enter Tryz.func189, Tryz.ntmps189
 go_wp2
 go_ret
 exact ⟨ret_b (by simp), rfl⟩
theorem less7_any (x y : Int) (w : World) : Calls Tryz.prog 188 #[.int .i64 x, .int .i64 y] w fun e w' => e = .returned (.bool (decide (x < y))) /\ w' = w := by
 go_enter Tryz.func188, Tryz.ntmps188
 go_wp2_with (go_at_call 70; refine (nan7_any _ _).mono ?_; rintro e w1 ⟨rfl, rfl⟩)
 go_ret
 exact ⟨rfl, rfl⟩
def Rise7 (l : List Int) : Prop := ∀ (i j : Nat) (x y : Int), i <= j -> l[i]? = some x -> l[j]? = some y -> x <= y
def BS7 (l : List Int) (t : Int) (n : Nat) (w : World) (e : Ending) (w' : World) : Prop := ∃ (i : Nat) (b : Bool), e = .returned (.tuple #[.int .i64 (i : Int), .bool b]) /\ i <= n /\ (∀ (k : Nat) (x : Int), l[k]? = some x -> (k < i ↔ x < t)) /\ Below w.heap.size w w'
set_option maxRecDepth 20000 in
set_option maxHeartbeats 1000000 in
theorem bsearch7_any (F : Nat -> Prop) (l : List Int) (v : Value) (t : Int) (w : World) (h : Li F w v l) (hr : Rise7 l) (hl : l.length <= 10000000000) :
  Calls Tryz.prog 158 #[v, .int .i64 t] w (BS7 l t l.length w) := by
 obtain ⟨a, cap, rfl, -, -, -, h4⟩ := h
 obtain ⟨n, hn⟩ : ∃ n, l.length = n := ⟨_, rfl⟩
 have HN := hm7 hn
 rw [hn] at hl ⊢
 clear hn
 go_enter Tryz.func158, Tryz.ntmps158
 go_wp2
 go_loopg [7, 8] n (fun g u v wr => ∃ i j : Nat, i + g = j /\ j <= n /\ u = .int .i64 i /\ v = .int .i64 j /\ (∀ (k : Nat) (x : Int), l[k]? = some x -> k < i -> x < t) /\ (∀ (k : Nat) (x : Int), l[k]? = some x -> j <= k -> t <= x) /\ Below w.heap.size w wr)
 case atStart => exact ⟨0, n, by omega, by omega, rfl, rfl, fun k x _ hk => by omega, fun k x hk hj => by have := (List.getElem?_eq_some_iff.1 hk).1; have := HN.out; omega, Below.refl _ _⟩
 case round =>
  obtain ⟨i, j, hg, hj, rfl, rfl, hlo, hhi, hb⟩ := hrel
  have HLO := hm7 hlo
  have HHI := hm7 hhi
  have HB := hm7 hb
  clear hlo hhi
  cases gk with
  | succ g =>
   have hlt : (i : Int) < (j : Int) := by omega
   obtain ⟨m, hm⟩ : ∃ m, (i + j) / 2 = m := ⟨_, rfl⟩
   have hm1 : i <= m := by omega
   have hm2 : m < j := by omega
   have e1 : ((i : Int) + (j : Int)) / 2 = (m : Int) := by omega
   have m0 : (0 : Int) <= (m : Int) := by omega
   have m1 : (m : Int) < (n : Int) := by omega
   have b0 : (0 : Int) <= (i : Int) + (j : Int) := by omega
   have b1 : (i : Int) + (j : Int) < 9223372036854775808 := by omega
   obtain ⟨x, hx⟩ : ∃ x, l[m]? = some x := ⟨_, List.getElem?_eq_getElem (by have := HN.out; omega)⟩
   have HX := hm7 hx
   rcases h4 with ⟨h4, -⟩ | ⟨b, o, rfl, hbl, -, h4⟩
   ·rw [h4] at hx; simp at hx
   have p0 := h4 m x hx
   rw [<- hb.cell (p := ⟨b, _, none⟩) hbl] at p0
   have HM := hm7 hm
   clear h4 hx hb hm
   by_cases hxt : x < t
   ·have hd : decide (x < t) = true := decide_eq_true hxt
    go_wp2_with (go_at_call 188; refine (less7_any _ _ _).mono ?_; rintro e w1 ⟨rfl, rfl⟩; rw [hd])
    go_roundg (j - (m + 1))
    case measure => omega
    case rel => exact ⟨m + 1, j, by omega, hj, by go_num, rfl, fun k y hk hlt => Int.lt_of_le_of_lt (hr k m y x (by omega) hk HX.out) hxt, HHI.out, HB.out⟩
   ·have hd : decide (x < t) = false := decide_eq_false hxt
    go_wp2_with (go_at_call 188; refine (less7_any _ _ _).mono ?_; rintro e w1 ⟨rfl, rfl⟩; rw [hd])
    go_roundg (m - i)
    case measure => omega
    case rel => exact ⟨i, m, by omega, by omega, rfl, rfl, HLO.out, fun k y hk hle => Int.le_trans (by omega) (hr m k x y hle HX.out hk), HB.out⟩
  | zero =>
   obtain rfl : i = j := by omega
   have hlt : ¬ (i : Int) < (i : Int) := by omega
   have HP : Hid (∀ (k : Nat) (x : Int), l[k]? = some x -> (k < i ↔ x < t)) := fun k x hk => ⟨HLO.out k x hk, fun hx => by
    rcases Nat.lt_or_ge k i with h | h
    ·exact h
    ·have := HHI.out k x hk h; omega⟩
   have hi0 : (0 : Int) <= (i : Int) := by omega
   by_cases hin : i < n
   ·have hin2 : (i : Int) < (n : Int) := by omega
    obtain ⟨x, hx⟩ : ∃ x, l[i]? = some x := ⟨_, List.getElem?_eq_getElem (by have := HN.out; omega)⟩
    rcases h4 with ⟨h4, -⟩ | ⟨b, o, rfl, hbl, -, h4⟩
    ·rw [h4] at hx; simp at hx
    have p0 := h4 i x hx
    rw [<- hb.cell (p := ⟨b, _, none⟩) hbl] at p0
    clear h4 hx hb hg
    by_cases hxt : x = t
    ·have he : (x == t) = true := by simp [hxt]
     go_wp2_with (go_at_call 189; refine (nan7s_any _ _).mono ?_; rintro e w1 ⟨rfl, rfl⟩)
     go_ret2
     exact ⟨i, true, rfl, hj, HP.out, HB.out⟩
    ·have he : (x == t) = false := by simp [hxt]
     go_wp2_with (go_at_call 189; refine (nan7s_any _ _).mono ?_; rintro e w1 ⟨rfl, rfl⟩)
     go_ret2
     exact ⟨i, false, rfl, hj, HP.out, HB.out⟩
   ·have hin2 : ¬ (i : Int) < (n : Int) := by omega
    clear h4 hb hg
    go_wp2
    go_ret2
    exact ⟨i, false, rfl, hj, HP.out, HB.out⟩
end Go.Proofs.YtechceagghcipaaGreatDoor
