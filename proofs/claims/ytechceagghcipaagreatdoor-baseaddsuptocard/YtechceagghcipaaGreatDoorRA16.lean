import Derived.Test.YtechceagghcipaaGreatDoorRA15
import Derived.Deep.QuietTactic
namespace Go.Proofs.YtechceagghcipaaGreatDoor
open Go.RowKit
attribute [local go_sem ↓] Go.wp_at_zero Go.wp_at_succ

def sg7 (x y : Int) : Int := if x < y then -1 else if y < x then 1 else 0
def cmpR : List Int -> List Int -> Int
 | [], [] => 0
 | [], _ :: _ => -1
 | _ :: _, [] => 1
 | x :: a, y :: b => if sg7 x y = 0 then cmpR a b else sg7 x y
theorem cmpR_refl : ∀ a : List Int, cmpR a a = 0
 | [] => rfl
 | x :: a => by have : sg7 x x = 0 := by simp [sg7]
        rw [cmpR, if_pos this, cmpR_refl a]
theorem cmpR_neg : ∀ a b : List Int, cmpR b a = - cmpR a b
 | [], [] => rfl
 | [], _ :: _ => rfl
 | _ :: _, [] => rfl
 | x :: a, y :: b => by
  have h : sg7 y x = - sg7 x y := by unfold sg7; (repeat' split) <;> omega
  rw [cmpR, cmpR, cmpR_neg a b]
  by_cases e : sg7 x y = 0
  ·rw [if_pos e, if_pos (by omega)]
  ·rw [if_neg e, if_neg (by omega), h]
theorem cmpR_eq : ∀ {a b : List Int}, cmpR a b = 0 -> a = b
 | [], [], _ => rfl
 | [], _ :: _, h => by simp [cmpR] at h
 | _ :: _, [], h => by simp [cmpR] at h
 | x :: a, y :: b, h => by
  rw [cmpR] at h
  by_cases e : sg7 x y = 0
  ·rw [if_pos e] at h
   have : x = y := by unfold sg7 at e; (repeat' split at e) <;> omega
   rw [this, cmpR_eq h]
  ·rw [if_neg e] at h; exact absurd h e
theorem sg7_v (x y : Int) : (sg7 x y = -1 /\ x < y) ∨ (sg7 x y = 0 /\ x = y) ∨ (sg7 x y = 1 /\ y < x) := by unfold sg7; (repeat' split) <;> omega
theorem cmpR_lt : ∀ {a b c : List Int}, cmpR a b < 0 -> cmpR b c < 0 -> cmpR a c < 0
 | [], [], _, h, _ => by simp [cmpR] at h
 | [], _ :: _, [], _, h => by simp [cmpR] at h
 | [], _ :: _, _ :: _, _, _ => by simp [cmpR]
 | _ :: _, [], _, h, _ => by simp [cmpR] at h
 | _ :: _, _ :: _, [], _, h => by simp [cmpR] at h
 | x :: a, y :: b, z :: c, h1, h2 => by
  rw [cmpR] at h1 h2 ⊢
  rcases sg7_v x y with ⟨e1, k1⟩ | ⟨e1, k1⟩ | ⟨e1, k1⟩ <;> rcases sg7_v y z with ⟨e2, k2⟩ | ⟨e2, k2⟩ | ⟨e2, k2⟩ <;> rcases sg7_v x z with ⟨e3, k3⟩ | ⟨e3, k3⟩ | ⟨e3, k3⟩ <;> simp [e1, e2, e3] at h1 h2 ⊢ <;> first | omega | exact cmpR_lt h1 h2
theorem cmpR_le {a b c : List Int} (h1 : cmpR a b <= 0) (h2 : cmpR b c <= 0) : cmpR a c <= 0 := by
 by_cases e1 : cmpR a b = 0
 ·rw [cmpR_eq e1]; exact h2
 ·by_cases e2 : cmpR b c = 0
  ·rw [<- cmpR_eq e2]; exact h1
  ·have := cmpR_lt (a := a) (b := b) (c := c) (by omega) (by omega); omega
theorem cmpI7_any (x y : Int) (w : World) : Calls Tryz.prog 46 #[.int .i64 x, .int .i64 y] w fun e w' => e = .returned (.int .i64 (sg7 x y)) /\ w' = w := by
 go_enter Tryz.func46, Tryz.ntmps46
 go_wp2_with (go_at_call 70; refine (nan7_any _ _).mono ?_; rintro e w1 ⟨rfl, rfl⟩)
 all_goals go_ret
 all_goals refine ⟨ret_i ?_, rfl⟩
 all_goals (unfold sg7; repeat' split) <;> omega
theorem drop_cons7 {l : List Int} {j : Nat} {x : Int} (h : l[j]? = some x) : l.drop j = x :: l.drop (j + 1) := by
 obtain ⟨h1, h2⟩ := List.getElem?_eq_some_iff.1 h
 rw [List.drop_eq_getElem_cons h1, h2]
set_option maxRecDepth 20000 in
set_option maxHeartbeats 1000000 in
theorem compareI7_any (F G : Nat -> Prop) (a b : List Int) (u v : Value) (w : World) (h : Li F w u a) (h' : Li G w v b) :
  Calls Tryz.prog 129 #[u, v] w fun e w' => e = .returned (.int .i64 (cmpR a b)) /\ w' = w := by
 obtain ⟨ad, cap, rfl, g1, g2, -, h⟩ := h
 obtain ⟨ad', cap', rfl, -, -, -, h'⟩ := h'
 obtain ⟨n, hn⟩ : ∃ n, a.length = n := ⟨_, rfl⟩
 have hnb : n <= 9223372036854775807 := by omega
 clear g1 g2
 obtain ⟨n', hn'⟩ : ∃ n, b.length = n := ⟨_, rfl⟩
 rw [hn, hn']
 go_enter Tryz.func129, Tryz.ntmps129
 go_wp2
 go_loopg [11] n (fun g i wr => ∃ j : Nat, j + g = n /\ i = .int .i64 j /\ j <= n' /\ cmpR a b = cmpR (a.drop j) (b.drop j) /\ wr = w)
 case atStart => exact ⟨0, by omega, rfl, by omega, rfl, rfl⟩
 case round =>
  obtain ⟨j, hj, rfl, hjn, hc, rfl⟩ := hrel
  have HC := hm7 hc
  have HN := hm7 hn
  have HN2 := hm7 hn'
  clear hc
  cases gk with
  | succ g =>
   have hlt : (j : Int) < (n : Int) := by omega
   have j0 : (0 : Int) <= (j : Int) := by omega
   obtain ⟨x, hx⟩ : ∃ x, a[j]? = some x := ⟨_, List.getElem?_eq_getElem (by omega)⟩
   rcases h with ⟨h, -⟩ | ⟨b1, o1, rfl, hb1, -, h⟩
   ·rw [h] at hx; simp at hx
   have p0 := h j x hx
   by_cases hjb : j < n'
   ·have HJB := hm7 hjb
    have HJ := hm7 hj
    have hge : ¬ (n' : Int) <= (j : Int) := by omega
    have hlt2 : (j : Int) < (n' : Int) := by omega
    obtain ⟨y, hy⟩ : ∃ y, b[j]? = some y := ⟨_, List.getElem?_eq_getElem (by omega)⟩
    rcases h' with ⟨h', -⟩ | ⟨b2, o2, rfl, hb2, -, h'⟩
    ·rw [h'] at hy; simp at hy
    have q0 := h' j y hy
    have HS : Hid (cmpR a b = if sg7 x y = 0 then cmpR (a.drop (j + 1)) (b.drop (j + 1)) else sg7 x y) := by rw [HC.out, drop_cons7 hx, drop_cons7 hy]; rfl
    obtain ⟨k, hk⟩ : ∃ k, sg7 x y = k := ⟨_, rfl⟩
    have HK := hm7 hk
    rw [hk] at HS
    clear h h' hx hy hk hn hn'
    by_cases hk0 : k = 0
    ·subst hk0
     go_wp2_with (go_at_call 46; refine (cmpI7_any _ _ _).mono ?_; rintro e w1 ⟨rfl, rfl⟩; rw [HK.out])
     go_roundg g
     case measure => omega
     case rel => exact ⟨j + 1, by have := HJ.out; omega, by go_num, HJB.out, by rw [HS.out, if_pos trivial], rfl⟩
    ·have hk1 : (k == 0) = false := by simp [hk0]
     have hk2 : (k != 0) = true := by simp [hk0]
     go_wp2_with (go_at_call 46; refine (cmpI7_any _ _ _).mono ?_; rintro e w1 ⟨rfl, rfl⟩; rw [HK.out])
     go_ret
     exact ⟨ret_i (by rw [HS.out, if_neg hk0]), rfl⟩
   ·have hge : (n' : Int) <= (j : Int) := by omega
    have HS : Hid (cmpR a b = 1) := by rw [HC.out, drop_cons7 hx, show b.drop j = [] from List.drop_eq_nil_of_le (by omega)]; rfl
    clear h h' hx hn hn'
    go_wp2
    go_ret
    exact ⟨ret_i HS.out.symm, rfl⟩
  | zero =>
   have hlt : ¬ (j : Int) < (n : Int) := by omega
   have e1 : a.drop j = [] := List.drop_eq_nil_of_le (by omega)
   by_cases hnn : n < n'
   ·have hq : (n : Int) < (n' : Int) := by omega
    have HS : Hid (cmpR a b = -1) := by
     rw [HC.out, e1]
     obtain ⟨y, hy⟩ : ∃ y, b[j]? = some y := ⟨_, List.getElem?_eq_getElem (by omega)⟩
     rw [drop_cons7 hy]; rfl
    clear h h' hn hn' e1 hj
    go_wp2
    go_ret
    exact ⟨ret_i HS.out.symm, rfl⟩
   ·have hq : ¬ (n : Int) < (n' : Int) := by omega
    have HS : Hid (cmpR a b = 0) := by
     rw [HC.out, e1, List.drop_eq_nil_of_le (by omega)]; rfl
    clear h h' hn hn' e1 hj
    go_wp2
    go_ret
    exact ⟨ret_i HS.out.symm, rfl⟩
end Go.Proofs.YtechceagghcipaaGreatDoor
