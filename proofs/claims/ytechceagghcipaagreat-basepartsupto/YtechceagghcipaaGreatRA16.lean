import Derived.Test.YtechceagghcipaaGreatRA14
import Derived.Deep.QuietTactic
/-
  rel: Len.
-/
namespace Go.Proofs.YtechceagghcipaaGreat
open Go.RowKit
attribute [local go_sem ↓] Go.wp_at_zero Go.wp_at_succ

theorem pcs7_get : ∀ (l : List (Int × Int)) (j : Nat) (p : Int × Int), l[j]? = some p → (pcs7 l)[j * 2]? = some (.int .i64 p.1) ∧ (pcs7 l)[j * 2 + 1]? = some (.int .i64 p.2)
  | x :: l, 0, p, h => by
    simp at h
    subst h
    exact ⟨rfl, rfl⟩
  | x :: l, j + 1, p, h => by
    have := pcs7_get l j p (by simpa using h)
    rw [show (j + 1) * 2 = (j * 2 + 1) + 1 by omega]
    exact this
theorem OwSt.at_ {w : World} {base cap n j : Nat} {a : Option Addr} {l : List (Int × Int)} {p : Int × Int} (h : OwSt w base (.slice a n cap) l) (hn : l.length = n) (hp : l[j]? = some p) : ∃ g, a = some ⟨g, 0, none⟩ ∧ base ≤ g ∧ g < w.heap.size ∧ w.cell? ⟨g, j * 2, none⟩ = some (.int .i64 p.1) ∧ w.cell? ⟨g, j * 2 + 1, none⟩ = some (.int .i64 p.2) := by
  obtain ⟨h1, h2⟩ := pcs7_get l j p hp
  unfold OwSt at h
  rw [hn] at h
  obtain ⟨g, e1, q1, q2, q3, -⟩ := row7_at h h1
  obtain ⟨g', e2, -, -, q4, -⟩ := row7_at h h2
  subst e1
  cases e2
  exact ⟨g, rfl, q1, q2, q3, q4⟩
def sum7 (l : List (Int × Int)) : Int := l.foldl (fun n p => n + (p.2 - p.1)) 0
theorem sum7_snoc (l : List (Int × Int)) (j : Nat) (p : Int × Int) (h : l[j]? = some p) : sum7 (l.take (j + 1)) = sum7 (l.take j) + (p.2 - p.1) := by
  rw [List.take_add_one, h]
  simp [sum7]
theorem sts7_len (s : St7) (parts : Int) : (sts7 s parts).length ≤ 3 := by
  unfold sts7
  split <;> split <;> split <;> simp
theorem sts7_mem {s : St7} (ho : s.Ok) {parts : Int} {p : Int × Int} (h : p ∈ sts7 s parts) : 0 ≤ p.1 ∧ p.1 ≤ p.2 ∧ p.2 ≤ (s.rows.length : Int) := by
  have h1 := ho.a
  have h2 := ho.b
  simp only [sts7, List.mem_append] at h
  rcases h with h | h | h <;> split at h <;> simp at h <;> subst h <;> simp <;> omega
theorem sum7_take {s : St7} (ho : s.Ok) (parts : Int) : ∀ j, 0 ≤ sum7 ((sts7 s parts).take j) ∧ sum7 ((sts7 s parts).take j) ≤ (s.rows.length : Int) * j
  | 0 => by simp [sum7]
  | j + 1 => by
    have ih := sum7_take ho parts j
    cases hp : (sts7 s parts)[j]? with
    | none =>
      rw [List.take_of_length_le (by have := List.getElem?_eq_none_iff.1 hp; omega)]
      rw [List.take_of_length_le (by have := List.getElem?_eq_none_iff.1 hp; omega)] at ih
      refine ⟨ih.1, Int.le_trans ih.2 ?_⟩
      have : (s.rows.length : Int) * ((j + 1 : Nat) : Int) = (s.rows.length : Int) * (j : Int) + (s.rows.length : Int) := by rw [Int.natCast_add, Int.mul_add]; simp
      omega
    | some p =>
      obtain ⟨q1, q2, q3⟩ := sts7_mem ho (List.mem_of_getElem? hp)
      rw [sum7_snoc _ _ _ hp]
      have : (s.rows.length : Int) * ((j + 1 : Nat) : Int) = (s.rows.length : Int) * (j : Int) + (s.rows.length : Int) := by rw [Int.natCast_add, Int.mul_add]; simp
      omega
def len7 (s : St7) (parts : Int) : Int := sum7 (sts7 s parts)
set_option maxRecDepth 20000 in
set_option maxHeartbeats 2000000 in
theorem len7_any (g : Nat) (F S : Nat → Prop) (m : Nat) (s : St7) (parts : Int) (w : World) (h : RM w g F S m s) :
    Calls Tryz.prog 29 #[.pointer (some ⟨g, 0, none⟩), .int .i64 parts] w fun e w' => e = .returned (.int .i64 (len7 s parts)) ∧ Below w.heap.size w w' := by
  have HST : Hid (Calls Tryz.prog 64 #[.pointer (some ⟨g, 0, none⟩), .int .i64 parts] w fun e w' => ∃ v, e = .returned v ∧ OwSt w' w.heap.size v (sts7 s parts) ∧ Below w.heap.size w w') := stretches7_any g F S m s parts w h
  have HOK := hm7 h.ok
  clear h
  obtain ⟨L, hL⟩ : ∃ L, sts7 s parts = L := ⟨_, rfl⟩
  have HM : Hid (∀ p ∈ L, 0 ≤ p.1 ∧ p.1 ≤ p.2 ∧ p.2 ≤ 10000000000) := fun p hp => by
    have := sts7_mem HOK.out (parts := parts) (hL ▸ hp)
    have := HOK.out.c
    omega
  have HT : Hid (∀ j, 0 ≤ sum7 (L.take j) ∧ sum7 (L.take j) ≤ (s.rows.length : Int) * j) := by rw [← hL]; exact sum7_take HOK.out parts
  have hLL : L.length ≤ 3 := by rw [← hL]; exact sts7_len _ _
  have HLE : Hid (len7 s parts = sum7 L) := by show _ = _; rw [len7, hL]
  rw [hL] at HST
  clear hL
  obtain ⟨n, hn⟩ : ∃ n, L.length = n := ⟨_, rfl⟩
  have HN := hm7 hn
  rw [hn] at hLL
  clear hn
  go_enter Tryz.func29, Tryz.ntmps29
  go_upto_region 3 with (go_at_call 64; refine HST.out.mono ?_; rintro e w1 ⟨v, rfl, ho, hb⟩; obtain ⟨a, cap, hv, -⟩ := row7_form ho; rw [HN.out] at hv; subst hv; have HO := hm7 ho; have HB := hm7 hb; clear ho hb)
  go_loopg [5, 12] n (fun g u i wr => ∃ j : Nat, j + g = n ∧ u = .int .i64 (sum7 (L.take j)) ∧ i = .int .i64 j ∧ Below w1.heap.size w1 wr)
  case atStart => exact ⟨0, by omega, rfl, rfl, Below.refl _ _⟩
  case round =>
    obtain ⟨j, hj, rfl, rfl, hb⟩ := hrel
    have HB2 := hm7 hb
    cases gk with
    | succ g =>
      have hlt : (j : Int) < (n : Int) := by omega
      have j0 : (0 : Int) ≤ (j : Int) := by omega
      obtain ⟨⟨x, y⟩, hp⟩ : ∃ p, L[j]? = some p := ⟨_, List.getElem?_eq_getElem (by have := HN.out; omega)⟩
      obtain ⟨bg, e, -, hbl, q0, q1⟩ := HO.out.at_ HN.out hp
      subst e
      rw [← hb.cell (p := ⟨bg, _, none⟩) hbl] at q0 q1
      have HS : Hid (sum7 (L.take (j + 1)) = sum7 (L.take j) + (y - x)) := sum7_snoc L j _ hp
      obtain ⟨T, hT⟩ : ∃ T, sum7 (L.take j) = T := ⟨_, rfl⟩
      have hxy := HM.out _ (List.mem_of_getElem? hp)
      simp only at hxy q0 q1
      obtain ⟨x1, x2, x3⟩ := hxy
      have t1 := HT.out j
      rw [hT] at t1
      have t2 : T ≤ 30000000000 := by
        have h1 := HOK.out.c
        have : (s.rows.length : Int) * (j : Int) ≤ 10000000000 * 3 := Int.mul_le_mul (by omega) (by omega) (by omega) (by omega)
        omega
      have t0 := t1.1
      rw [hT] at HS ⊢
      have b1 : wr.heap.size < (wr.alloc (.cells #[.int .i64 x, .int .i64 y] 134)).heap.size := by simp
      clear hp hb t1 hT
      go_wp2
      go_roundg g
      case measure => omega
      case rel => exact ⟨j + 1, by omega, by rw [HS.out], by go_num, HB2.out.trans ((below1 wr _).mono HB2.out.size)⟩
    | zero =>
      have hlt : ¬ (j : Int) < (n : Int) := by omega
      have HE : Hid (sum7 (L.take j) = len7 s parts) := by rw [HLE.out, List.take_of_length_le (by have := HN.out; omega)]; rfl
      obtain ⟨T, hT⟩ : ∃ T, sum7 (L.take j) = T := ⟨_, rfl⟩
      rw [hT] at HE ⊢
      clear hb hT
      go_wp2
      go_ret
      exact ⟨ret_i HE.out, HB.out.trans (HB2.out.mono HB.out.size)⟩
end Go.Proofs.YtechceagghcipaaGreat
/-
  The order of rows: slices.Compare of numbers.
-/
namespace Go.Proofs.YtechceagghcipaaGreat
open Go.RowKit
attribute [local go_sem ↓] Go.wp_at_zero Go.wp_at_succ

def sg7 (x y : Int) : Int := if x < y then -1 else if y < x then 1 else 0
/-- The order of rows. -/
def cmpR : List Int → List Int → Int
  | [], [] => 0
  | [], _ :: _ => -1
  | _ :: _, [] => 1
  | x :: a, y :: b => if sg7 x y = 0 then cmpR a b else sg7 x y
theorem cmpR_refl : ∀ a : List Int, cmpR a a = 0
  | [] => rfl
  | x :: a => by have : sg7 x x = 0 := by simp [sg7]
                 rw [cmpR, if_pos this, cmpR_refl a]
theorem cmpR_neg : ∀ a b : List Int, cmpR b a = - cmpR a b
  | [], [] => rfl
  | [], _ :: _ => rfl
  | _ :: _, [] => rfl
  | x :: a, y :: b => by
    have h : sg7 y x = - sg7 x y := by unfold sg7; (repeat' split) <;> omega
    rw [cmpR, cmpR, cmpR_neg a b]
    by_cases e : sg7 x y = 0
    · rw [if_pos e, if_pos (by omega)]
    · rw [if_neg e, if_neg (by omega), h]
theorem cmpR_eq : ∀ {a b : List Int}, cmpR a b = 0 → a = b
  | [], [], _ => rfl
  | [], _ :: _, h => by simp [cmpR] at h
  | _ :: _, [], h => by simp [cmpR] at h
  | x :: a, y :: b, h => by
    rw [cmpR] at h
    by_cases e : sg7 x y = 0
    · rw [if_pos e] at h
      have : x = y := by unfold sg7 at e; (repeat' split at e) <;> omega
      rw [this, cmpR_eq h]
    · rw [if_neg e] at h; exact absurd h e
theorem sg7_v (x y : Int) : (sg7 x y = -1 ∧ x < y) ∨ (sg7 x y = 0 ∧ x = y) ∨ (sg7 x y = 1 ∧ y < x) := by unfold sg7; (repeat' split) <;> omega
theorem cmpR_lt : ∀ {a b c : List Int}, cmpR a b < 0 → cmpR b c < 0 → cmpR a c < 0
  | [], [], _, h, _ => by simp [cmpR] at h
  | [], _ :: _, [], _, h => by simp [cmpR] at h
  | [], _ :: _, _ :: _, _, _ => by simp [cmpR]
  | _ :: _, [], _, h, _ => by simp [cmpR] at h
  | _ :: _, _ :: _, [], _, h => by simp [cmpR] at h
  | x :: a, y :: b, z :: c, h1, h2 => by
    rw [cmpR] at h1 h2 ⊢
    rcases sg7_v x y with ⟨e1, k1⟩ | ⟨e1, k1⟩ | ⟨e1, k1⟩ <;> rcases sg7_v y z with ⟨e2, k2⟩ | ⟨e2, k2⟩ | ⟨e2, k2⟩ <;> rcases sg7_v x z with ⟨e3, k3⟩ | ⟨e3, k3⟩ | ⟨e3, k3⟩ <;> simp [e1, e2, e3] at h1 h2 ⊢ <;> first | omega | exact cmpR_lt h1 h2
theorem cmpR_le {a b c : List Int} (h1 : cmpR a b ≤ 0) (h2 : cmpR b c ≤ 0) : cmpR a c ≤ 0 := by
  by_cases e1 : cmpR a b = 0
  · rw [cmpR_eq e1]; exact h2
  · by_cases e2 : cmpR b c = 0
    · rw [← cmpR_eq e2]; exact h1
    · have := cmpR_lt (a := a) (b := b) (c := c) (by omega) (by omega); omega
theorem cmpI7_any (x y : Int) (w : World) : Calls Tryz.prog 36 #[.int .i64 x, .int .i64 y] w fun e w' => e = .returned (.int .i64 (sg7 x y)) ∧ w' = w := by
  go_enter Tryz.func36, Tryz.ntmps36
  go_wp2_with (go_at_call 70; refine (nan7_any _ _).mono ?_; rintro e w1 ⟨rfl, rfl⟩)
  all_goals go_ret
  all_goals refine ⟨ret_i ?_, rfl⟩
  all_goals (unfold sg7; repeat' split) <;> omega
theorem drop_cons7 {l : List Int} {j : Nat} {x : Int} (h : l[j]? = some x) : l.drop j = x :: l.drop (j + 1) := by
  obtain ⟨h1, h2⟩ := List.getElem?_eq_some_iff.1 h
  rw [List.drop_eq_getElem_cons h1, h2]
set_option maxRecDepth 20000 in
set_option maxHeartbeats 1000000 in
theorem compareI7_any (F G : Nat → Prop) (a b : List Int) (u v : Value) (w : World) (h : Li F w u a) (h' : Li G w v b) :
    Calls Tryz.prog 108 #[u, v] w fun e w' => e = .returned (.int .i64 (cmpR a b)) ∧ w' = w := by
  obtain ⟨ad, cap, rfl, g1, g2, -, h⟩ := h
  obtain ⟨ad', cap', rfl, -, -, -, h'⟩ := h'
  obtain ⟨n, hn⟩ : ∃ n, a.length = n := ⟨_, rfl⟩
  have hnb : n ≤ 9223372036854775807 := by omega
  clear g1 g2
  obtain ⟨n', hn'⟩ : ∃ n, b.length = n := ⟨_, rfl⟩
  rw [hn, hn']
  go_enter Tryz.func108, Tryz.ntmps108
  go_wp2
  go_loopg [11] n (fun g i wr => ∃ j : Nat, j + g = n ∧ i = .int .i64 j ∧ j ≤ n' ∧ cmpR a b = cmpR (a.drop j) (b.drop j) ∧ wr = w)
  case atStart => exact ⟨0, by omega, rfl, by omega, rfl, rfl⟩
  case round =>
    obtain ⟨j, hj, rfl, hjn, hc, rfl⟩ := hrel
    have HC := hm7 hc
    have HN := hm7 hn
    have HN2 := hm7 hn'
    clear hc
    cases gk with
    | succ g =>
      have hlt : (j : Int) < (n : Int) := by omega
      have j0 : (0 : Int) ≤ (j : Int) := by omega
      obtain ⟨x, hx⟩ : ∃ x, a[j]? = some x := ⟨_, List.getElem?_eq_getElem (by omega)⟩
      rcases h with ⟨h, -⟩ | ⟨b1, o1, rfl, hb1, -, h⟩
      · rw [h] at hx; simp at hx
      have p0 := h j x hx
      by_cases hjb : j < n'
      · have HJB := hm7 hjb
        have HJ := hm7 hj
        have hge : ¬ (n' : Int) ≤ (j : Int) := by omega
        have hlt2 : (j : Int) < (n' : Int) := by omega
        obtain ⟨y, hy⟩ : ∃ y, b[j]? = some y := ⟨_, List.getElem?_eq_getElem (by omega)⟩
        rcases h' with ⟨h', -⟩ | ⟨b2, o2, rfl, hb2, -, h'⟩
        · rw [h'] at hy; simp at hy
        have q0 := h' j y hy
        have HS : Hid (cmpR a b = if sg7 x y = 0 then cmpR (a.drop (j + 1)) (b.drop (j + 1)) else sg7 x y) := by rw [HC.out, drop_cons7 hx, drop_cons7 hy]; rfl
        obtain ⟨k, hk⟩ : ∃ k, sg7 x y = k := ⟨_, rfl⟩
        have HK := hm7 hk
        rw [hk] at HS
        clear h h' hx hy hk hn hn'
        by_cases hk0 : k = 0
        · subst hk0
          go_wp2_with (go_at_call 36; refine (cmpI7_any _ _ _).mono ?_; rintro e w1 ⟨rfl, rfl⟩; rw [HK.out])
          go_roundg g
          case measure => omega
          case rel => exact ⟨j + 1, by have := HJ.out; omega, by go_num, HJB.out, by rw [HS.out, if_pos trivial], rfl⟩
        · have hk1 : (k == 0) = false := by simp [hk0]
          have hk2 : (k != 0) = true := by simp [hk0]
          go_wp2_with (go_at_call 36; refine (cmpI7_any _ _ _).mono ?_; rintro e w1 ⟨rfl, rfl⟩; rw [HK.out])
          go_ret
          exact ⟨ret_i (by rw [HS.out, if_neg hk0]), rfl⟩
      · have hge : (n' : Int) ≤ (j : Int) := by omega
        have HS : Hid (cmpR a b = 1) := by rw [HC.out, drop_cons7 hx, show b.drop j = [] from List.drop_eq_nil_of_le (by omega)]; rfl
        clear h h' hx hn hn'
        go_wp2
        go_ret
        exact ⟨ret_i HS.out.symm, rfl⟩
    | zero =>
      have hlt : ¬ (j : Int) < (n : Int) := by omega
      have e1 : a.drop j = [] := List.drop_eq_nil_of_le (by omega)
      by_cases hnn : n < n'
      · have hq : (n : Int) < (n' : Int) := by omega
        have HS : Hid (cmpR a b = -1) := by
          rw [HC.out, e1]
          obtain ⟨y, hy⟩ : ∃ y, b[j]? = some y := ⟨_, List.getElem?_eq_getElem (by omega)⟩
          rw [drop_cons7 hy]; rfl
        clear h h' hn hn' e1 hj
        go_wp2
        go_ret
        exact ⟨ret_i HS.out.symm, rfl⟩
      · have hq : ¬ (n : Int) < (n' : Int) := by omega
        have HS : Hid (cmpR a b = 0) := by
          rw [HC.out, e1, List.drop_eq_nil_of_le (by omega)]; rfl
        clear h h' hn hn' e1 hj
        go_wp2
        go_ret
        exact ⟨ret_i HS.out.symm, rfl⟩
end Go.Proofs.YtechceagghcipaaGreat
