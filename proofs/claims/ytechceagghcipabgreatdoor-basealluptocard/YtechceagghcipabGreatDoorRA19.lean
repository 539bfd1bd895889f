import Derived.Test.YtechceagghcipabGreatDoorRA14
import Derived.Deep.QuietTactic
namespace Go.Proofs.YtechceagghcipabGreatDoor
open Go.RowKit
attribute [local go_sem ↓] Go.wp_at_zero Go.wp_at_succ
theorem pcs7_get : ∀ (l : List (Int × Int)) (j : Nat) (p : Int × Int), l[j]? = some p -> (pcs7 l)[j * 2]? = some (.int .i64 p.1) /\ (pcs7 l)[j * 2 + 1]? = some (.int .i64 p.2)
 | x :: l, 0, p, h => by
  simp at h
  subst h
  exact ⟨rfl, rfl⟩
 | x :: l, j + 1, p, h => by
  have := pcs7_get l j p (by simpa using h)
  rw [show (j + 1) * 2 = (j * 2 + 1) + 1 by omega]
  exact this
theorem OwSt.at_ {w : World} {base cap n j : Nat} {a : Option Addr} {l : List (Int × Int)} {p : Int × Int} (h : OwSt w base (.slice a n cap) l) (hn : l.length = n) (hp : l[j]? = some p) : ∃ g, a = some ⟨g, 0, none⟩ /\ base <= g /\ g < w.heap.size /\ w.cell? ⟨g, j * 2, none⟩ = some (.int .i64 p.1) /\ w.cell? ⟨g, j * 2 + 1, none⟩ = some (.int .i64 p.2) := by
 obtain ⟨h1, h2⟩ := pcs7_get l j p hp
 unfold OwSt at h
 rw [hn] at h
 obtain ⟨g, e1, q1, q2, q3, -⟩ := row7_at h h1
 obtain ⟨g', e2, -, -, q4, -⟩ := row7_at h h2
 subst e1
 cases e2
 exact ⟨g, rfl, q1, q2, q3, q4⟩
def sum7 (l : List (Int × Int)) : Int := l.foldl (fun n p => n + (p.2 - p.1)) 0
theorem sum7_snoc (l : List (Int × Int)) (j : Nat) (p : Int × Int) (h : l[j]? = some p) : sum7 (l.take (j + 1)) = sum7 (l.take j) + (p.2 - p.1) := by
 rw [List.take_add_one, h]
 simp [sum7]
theorem sts7_len (s : St7) (parts : Int) : (sts7 s parts).length <= 3 := by
 unfold sts7
 split <;> split <;> split <;> simp
theorem sts7_mem {s : St7} (ho : s.Ok) {parts : Int} {p : Int × Int} (h : p ∈ sts7 s parts) : 0 <= p.1 /\ p.1 <= p.2 /\ p.2 <= (s.rows.length : Int) := by
 have h1 := ho.a
 have h2 := ho.b
 simp only [sts7, List.mem_append] at h
 rcases h with h | h | h <;> split at h <;> simp at h <;> subst h <;> simp <;> omega
theorem sum7_take {s : St7} (ho : s.Ok) (parts : Int) : ∀ j, 0 <= sum7 ((sts7 s parts).take j) /\ sum7 ((sts7 s parts).take j) <= (s.rows.length : Int) * j
 | 0 => by simp [sum7]
 | j + 1 => by
  have ih := sum7_take ho parts j
  cases hp : (sts7 s parts)[j]? with
  | none =>
   rw [List.take_of_length_le (by have := List.getElem?_eq_none_iff.1 hp; omega)]
   rw [List.take_of_length_le (by have := List.getElem?_eq_none_iff.1 hp; omega)] at ih
   refine ⟨ih.1, Int.le_trans ih.2 ?_⟩
   have : (s.rows.length : Int) * ((j + 1 : Nat) : Int) = (s.rows.length : Int) * (j : Int) + (s.rows.length : Int) := by rw [Int.natCast_add, Int.mul_add]; simp
   omega
  | some p =>
   obtain ⟨q1, q2, q3⟩ := sts7_mem ho (List.mem_of_getElem? hp)
   rw [sum7_snoc _ _ _ hp]
   have : (s.rows.length : Int) * ((j + 1 : Nat) : Int) = (s.rows.length : Int) * (j : Int) + (s.rows.length : Int) := by rw [Int.natCast_add, Int.mul_add]; simp
   omega
def len7 (s : St7) (parts : Int) : Int := sum7 (sts7 s parts)
set_option maxRecDepth 20000 in
set_option maxHeartbeats 2000000 in
theorem len7_any (g : Nat) (F S : Nat -> Prop) (m : Nat) (s : St7) (parts : Int) (w : World) (h : RM w g F S m s) :
  Calls Tryz.prog 44 #[.pointer (some ⟨g, 0, none⟩), .int .i64 parts] w fun e w' => e = .returned (.int .i64 (len7 s parts)) /\ Below w.heap.size w w' := by
 have HST : Hid (Calls Tryz.prog 75 #[.pointer (some ⟨g, 0, none⟩), .int .i64 parts] w fun e w' => ∃ v, e = .returned v /\ OwSt w' w.heap.size v (sts7 s parts) /\ Below w.heap.size w w') := stretches7_any g F S m s parts w h
 have HOK := hm7 h.ok
 clear h
 obtain ⟨L, hL⟩ : ∃ L, sts7 s parts = L := ⟨_, rfl⟩
 have HM : Hid (∀ p ∈ L, 0 <= p.1 /\ p.1 <= p.2 /\ p.2 <= 10000000000) := fun p hp => by
  have := sts7_mem HOK.out (parts := parts) (hL ▸ hp)
  have := HOK.out.c
  omega
 have HT : Hid (∀ j, 0 <= sum7 (L.take j) /\ sum7 (L.take j) <= (s.rows.length : Int) * j) := by rw [<- hL]; exact sum7_take HOK.out parts
 have hLL : L.length <= 3 := by rw [<- hL]; exact sts7_len _ _
 have HLE : Hid (len7 s parts = sum7 L) := by show _ = _; rw [len7, hL]
 rw [hL] at HST
 clear hL
 obtain ⟨n, hn⟩ : ∃ n, L.length = n := ⟨_, rfl⟩
 have HN := hm7 hn
 rw [hn] at hLL
 clear hn
 go_enter Tryz.func44, Tryz.ntmps44
 go_upto_region 3 with (go_at_call 75; refine HST.out.mono ?_; rintro e w1 ⟨v, rfl, ho, hb⟩; obtain ⟨a, cap, hv, -⟩ := row7_form ho; rw [HN.out] at hv; subst hv; have HO := hm7 ho; have HB := hm7 hb; clear ho hb)
 go_loopg [5, 12] n (fun g u i wr => ∃ j : Nat, j + g = n /\ u = .int .i64 (sum7 (L.take j)) /\ i = .int .i64 j /\ Below w1.heap.size w1 wr)
 case atStart => exact ⟨0, by omega, rfl, rfl, Below.refl _ _⟩
 case round =>
  obtain ⟨j, hj, rfl, rfl, hb⟩ := hrel
  have HB2 := hm7 hb
  cases gk with
  | succ g =>
   have hlt : (j : Int) < (n : Int) := by omega
   have j0 : (0 : Int) <= (j : Int) := by omega
   obtain ⟨⟨x, y⟩, hp⟩ : ∃ p, L[j]? = some p := ⟨_, List.getElem?_eq_getElem (by have := HN.out; omega)⟩
   obtain ⟨bg, e, -, hbl, q0, q1⟩ := HO.out.at_ HN.out hp
   subst e
   rw [<- hb.cell (p := ⟨bg, _, none⟩) hbl] at q0 q1
   have HS : Hid (sum7 (L.take (j + 1)) = sum7 (L.take j) + (y - x)) := sum7_snoc L j _ hp
   obtain ⟨T, hT⟩ : ∃ T, sum7 (L.take j) = T := ⟨_, rfl⟩
   have hxy := HM.out _ (List.mem_of_getElem? hp)
   simp only at hxy q0 q1
   obtain ⟨x1, x2, x3⟩ := hxy
   have t1 := HT.out j
   rw [hT] at t1
   have t2 : T <= 30000000000 := by
    have h1 := HOK.out.c
    have : (s.rows.length : Int) * (j : Int) <= 10000000000 * 3 := Int.mul_le_mul (by omega) (by omega) (by omega) (by omega)
    omega
   have t0 := t1.1
   rw [hT] at HS ⊢
   have b1 : wr.heap.size < (wr.alloc (.cells #[.int .i64 x, .int .i64 y] 128)).heap.size := by simp
   clear hp hb t1 hT
   go_wp2
   go_roundg g
   case measure => omega
   case rel => exact ⟨j + 1, by omega, by rw [HS.out], by go_num, HB2.out.trans ((below1 wr _).mono HB2.out.size)⟩
  | zero =>
   have hlt : ¬ (j : Int) < (n : Int) := by omega
   have HE : Hid (sum7 (L.take j) = len7 s parts) := by rw [HLE.out, List.take_of_length_le (by have := HN.out; omega)]; rfl
   obtain ⟨T, hT⟩ : ∃ T, sum7 (L.take j) = T := ⟨_, rfl⟩
   rw [hT] at HE ⊢
   clear hb hT
   go_wp2
   go_ret
   exact ⟨ret_i HE.out, HB.out.trans (HB2.out.mono HB.out.size)⟩
end Go.Proofs.YtechceagghcipabGreatDoor
namespace Go.Proofs.YtechceagghcipabGreatDoor
open Go.RowKit
attribute [local go_sem ↓] Go.wp_at_zero Go.wp_at_succ
def sg7 (x y : Int) : Int := if x < y then -1 else if y < x then 1 else 0
def cmpR : List Int -> List Int -> Int
 | [], [] => 0
 | [], _ :: _ => -1
 | _ :: _, [] => 1
 | x :: a, y :: b => if sg7 x y = 0 then cmpR a b else sg7 x y
theorem cmpR_refl : ∀ a : List Int, cmpR a a = 0
 | [] => rfl
 | x :: a => by
  have : sg7 x x = 0 := by simp [sg7]
  rw [cmpR, if_pos this, cmpR_refl a]
theorem cmpR_neg : ∀ a b : List Int, cmpR b a = - cmpR a b
 | [], [] => rfl
 | [], _ :: _ => rfl
 | _ :: _, [] => rfl
 | x :: a, y :: b => by
  have h : sg7 y x = - sg7 x y := by unfold sg7; (repeat' split) <;> omega
  rw [cmpR, cmpR, cmpR_neg a b]
  by_cases e : sg7 x y = 0
  ·rw [if_pos e, if_pos (by omega)]
  ·rw [if_neg e, if_neg (by omega), h]
theorem cmpR_eq : ∀ {a b : List Int}, cmpR a b = 0 -> a = b
 | [], [], _ => rfl
 | [], _ :: _, h => by simp [cmpR] at h
 | _ :: _, [], h => by simp [cmpR] at h
 | x :: a, y :: b, h => by
  rw [cmpR] at h
  by_cases e : sg7 x y = 0
  ·rw [if_pos e] at h
   have : x = y := by unfold sg7 at e; (repeat' split at e) <;> omega
   rw [this, cmpR_eq h]
  ·rw [if_neg e] at h; exact absurd h e
theorem sg7_v (x y : Int) : (sg7 x y = -1 /\ x < y) ∨ (sg7 x y = 0 /\ x = y) ∨ (sg7 x y = 1 /\ y < x) := by unfold sg7; (repeat' split) <;> omega
theorem cmpR_lt : ∀ {a b c : List Int}, cmpR a b < 0 -> cmpR b c < 0 -> cmpR a c < 0
 | [], [], _, h, _ => by simp [cmpR] at h
 | [], _ :: _, [], _, h => by simp [cmpR] at h
 | [], _ :: _, _ :: _, _, _ => by simp [cmpR]
 | _ :: _, [], _, h, _ => by simp [cmpR] at h
 | _ :: _, _ :: _, [], _, h => by simp [cmpR] at h
 | x :: a, y :: b, z :: c, h1, h2 => by
  rw [cmpR] at h1 h2 ⊢
  rcases sg7_v x y with ⟨e1, k1⟩ | ⟨e1, k1⟩ | ⟨e1, k1⟩ <;> rcases sg7_v y z with ⟨e2, k2⟩ | ⟨e2, k2⟩ | ⟨e2, k2⟩ <;> rcases sg7_v x z with ⟨e3, k3⟩ | ⟨e3, k3⟩ | ⟨e3, k3⟩ <;> simp [e1, e2, e3] at h1 h2 ⊢ <;> first | omega | exact cmpR_lt h1 h2
theorem cmpR_le {a b c : List Int} (h1 : cmpR a b <= 0) (h2 : cmpR b c <= 0) : cmpR a c <= 0 := by
 by_cases e1 : cmpR a b = 0
 ·rw [cmpR_eq e1]; exact h2
 ·by_cases e2 : cmpR b c = 0
  ·rw [<- cmpR_eq e2]; exact h1
  ·have := cmpR_lt (a := a) (b := b) (c := c) (by omega) (by omega); omega
theorem cmpI7_any (x y : Int) (w : World) : Calls Tryz.prog 54 #[.int .i64 x, .int .i64 y] w fun e w' => e = .returned (.int .i64 (sg7 x y)) /\ w' = w := by
 go_enter Tryz.func54, Tryz.ntmps54
 go_wp2_with (go_at_call 86; refine (nan7_any _ _).mono ?_; rintro e w1 ⟨rfl, rfl⟩)
 all_goals go_ret
 all_goals refine ⟨ret_i ?_, rfl⟩
 all_goals (unfold sg7; repeat' split) <;> omega
theorem drop_cons7 {l : List Int} {j : Nat} {x : Int} (h : l[j]? = some x) : l.drop j = x :: l.drop (j + 1) := by
 obtain ⟨h1, h2⟩ := List.getElem?_eq_some_iff.1 h
 rw [List.drop_eq_getElem_cons h1, h2]
set_option maxRecDepth 20000 in
set_option maxHeartbeats 1000000 in
theorem compareI7_any (F G : Nat -> Prop) (a b : List Int) (u v : Value) (w : World) (h : Li F w u a) (h' : Li G w v b) :
  Calls Tryz.prog 133 #[u, v] w fun e w' => e = .returned (.int .i64 (cmpR a b)) /\ w' = w := by
 obtain ⟨ad, cap, rfl, g1, g2, -, h⟩ := h
 obtain ⟨ad', cap', rfl, -, -, -, h'⟩ := h'
 obtain ⟨n, hn⟩ : ∃ n, a.length = n := ⟨_, rfl⟩
 have hnb : n <= 9223372036854775807 := by omega
 clear g1 g2
 obtain ⟨n', hn'⟩ : ∃ n, b.length = n := ⟨_, rfl⟩
 rw [hn, hn']
 go_enter Tryz.func133, Tryz.ntmps133
 go_wp2
 go_loopg [11] n (fun g i wr => ∃ j : Nat, j + g = n /\ i = .int .i64 j /\ j <= n' /\ cmpR a b = cmpR (a.drop j) (b.drop j) /\ wr = w)
 case atStart => exact ⟨0, by omega, rfl, by omega, rfl, rfl⟩
 case round =>
  obtain ⟨j, hj, rfl, hjn, hc, rfl⟩ := hrel
  have HC := hm7 hc
  have HN := hm7 hn
  have HN2 := hm7 hn'
  clear hc
  cases gk with
  | succ g =>
   have hlt : (j : Int) < (n : Int) := by omega
   have j0 : (0 : Int) <= (j : Int) := by omega
   obtain ⟨x, hx⟩ : ∃ x, a[j]? = some x := ⟨_, List.getElem?_eq_getElem (by omega)⟩
   rcases h with ⟨h, -⟩ | ⟨b1, o1, rfl, hb1, -, h⟩
   ·rw [h] at hx; simp at hx
   have p0 := h j x hx
   by_cases hjb : j < n'
   ·have HJB := hm7 hjb
    have HJ := hm7 hj
    have hge : ¬ (n' : Int) <= (j : Int) := by omega
    have hlt2 : (j : Int) < (n' : Int) := by omega
    obtain ⟨y, hy⟩ : ∃ y, b[j]? = some y := ⟨_, List.getElem?_eq_getElem (by omega)⟩
    rcases h' with ⟨h', -⟩ | ⟨b2, o2, rfl, hb2, -, h'⟩
    ·rw [h'] at hy; simp at hy
    have q0 := h' j y hy
    have HS : Hid (cmpR a b = if sg7 x y = 0 then cmpR (a.drop (j + 1)) (b.drop (j + 1)) else sg7 x y) := by rw [HC.out, drop_cons7 hx, drop_cons7 hy]; rfl
    obtain ⟨k, hk⟩ : ∃ k, sg7 x y = k := ⟨_, rfl⟩
    have HK := hm7 hk
    rw [hk] at HS
    clear h h' hx hy hk hn hn'
    by_cases hk0 : k = 0
    ·subst hk0
     go_wp2_with (go_at_call 54; refine (cmpI7_any _ _ _).mono ?_; rintro e w1 ⟨rfl, rfl⟩; rw [HK.out])
     go_roundg g
     case measure => omega
     case rel => exact ⟨j + 1, by have := HJ.out; omega, by go_num, HJB.out, by rw [HS.out, if_pos trivial], rfl⟩
    ·have hk1 : (k == 0) = false := by simp [hk0]
     have hk2 : (k != 0) = true := by simp [hk0]
     go_wp2_with (go_at_call 54; refine (cmpI7_any _ _ _).mono ?_; rintro e w1 ⟨rfl, rfl⟩; rw [HK.out])
     go_ret
     exact ⟨ret_i (by rw [HS.out, if_neg hk0]), rfl⟩
   ·have hge : (n' : Int) <= (j : Int) := by omega
    have HS : Hid (cmpR a b = 1) := by rw [HC.out, drop_cons7 hx, show b.drop j = [] from List.drop_eq_nil_of_le (by omega)]; rfl
    clear h h' hx hn hn'
    go_wp2
    go_ret
    exact ⟨ret_i HS.out.symm, rfl⟩
  | zero =>
   have hlt : ¬ (j : Int) < (n : Int) := by omega
   have e1 : a.drop j = [] := List.drop_eq_nil_of_le (by omega)
   by_cases hnn : n < n'
   ·have hq : (n : Int) < (n' : Int) := by omega
    have HS : Hid (cmpR a b = -1) := by
     rw [HC.out, e1]
     obtain ⟨y, hy⟩ : ∃ y, b[j]? = some y := ⟨_, List.getElem?_eq_getElem (by omega)⟩
     rw [drop_cons7 hy]; rfl
    clear h h' hn hn' e1 hj
    go_wp2
    go_ret
    exact ⟨ret_i HS.out.symm, rfl⟩
   ·have hq : ¬ (n : Int) < (n' : Int) := by omega
    have HS : Hid (cmpR a b = 0) := by
     rw [HC.out, e1, List.drop_eq_nil_of_le (by omega)]; rfl
    clear h h' hn hn' e1 hj
    go_wp2
    go_ret
    exact ⟨ret_i HS.out.symm, rfl⟩
end Go.Proofs.YtechceagghcipabGreatDoor
namespace Go.Proofs.YtechceagghcipabGreatDoor
open Go.RowKit
attribute [local go_sem ↓] Go.wp_at_zero Go.wp_at_succ
def srtR (l : List (List Int)) : Prop := l.Pairwise fun a b => cmpR a b <= 0
def rws7 (rows : List (List Int)) (l : List Int) : List (List Int) := l.map fun i => rows[i.toNat]?.getD []
def pls7 (s : St7) (cols : List Nat) (nums : List Int) : List Int := nat7 (grp s.rows cols s.rows.length (tx nums))
def sel7 (s : St7) (parts : Int) (cols : List Nat) (nums : List Int) : List (List Int) := (sts7 s parts).flatMap fun p => rws7 s.rows (wn7 p.1 p.2 (pls7 s cols nums))
theorem pls7_rise (s : St7) (cols : List Nat) (nums : List Int) : Rise7 (pls7 s cols nums) := by
 have hp : (grp s.rows cols s.rows.length (tx nums)).Pairwise (· < ·) := List.Pairwise.filter _ List.pairwise_lt_range
 intro i j x y hij hx hy
 simp only [pls7, nat7, List.getElem?_map, Option.map_eq_some_iff] at hx hy
 obtain ⟨a, ha, rfl⟩ := hx
 obtain ⟨b, hb, rfl⟩ := hy
 rcases Nat.lt_or_ge i j with h | h
 ·obtain ⟨h1, e1⟩ := List.getElem?_eq_some_iff.1 ha
  obtain ⟨h2, e2⟩ := List.getElem?_eq_some_iff.1 hb
  have := List.pairwise_iff_getElem.1 hp i j h1 h2 h
  omega
 ·have : i = j := by omega
  subst this
  rw [ha] at hb
  cases hb
  exact Int.le_refl _
theorem pls7_lt {s : St7} {cols : List Nat} {nums : List Int} : ∀ x ∈ pls7 s cols nums, 0 <= x /\ x < (s.rows.length : Int) := by
 intro x hx
 simp only [pls7, nat7, List.mem_map] at hx
 obtain ⟨i, hi, rfl⟩ := hx
 have := grp_lt i hi
 omega
theorem sel_len (rows : List (List Int)) (l : List Int) : ∀ L : List (Int × Int), (L.flatMap fun p => rws7 rows (wn7 p.1 p.2 l)).length <= L.length * l.length
 | [] => by simp
 | p :: L => by
  have ih := sel_len rows l L
  have h1 : (rws7 rows (wn7 p.1 p.2 l)).length <= l.length := by
   rw [rws7, List.length_map, wn7]
   exact List.length_filter_le _ _
  rw [List.flatMap_cons, List.length_append, List.length_cons, Nat.succ_mul]
  omega
theorem pls7_len {s : St7} (ho : s.Ok) (cols : List Nat) (nums : List Int) : (pls7 s cols nums).length <= 10000000000 := by
 rw [pls7, nat7_len]
 have := grp_len s.rows cols s.rows.length (tx nums)
 have := ho.c
 omega
structure FD (w1 : World) (S : Nat -> Prop) (V : World) (v : Value) (P : List (List Int × Value)) (R : List (List Int)) : Prop where
 b : Below w1.heap.size w1 V
 o : V.ownsRow w1.heap.size 67 1 v P.length (P.map Prod.snd)
 p : ∀ p ∈ P, Li S w1 p.2 p.1
 r : P.map Prod.fst = R
theorem FD.start (w1 : World) (S : Nat -> Prop) : FD w1 S w1 (.slice none 0 0) [] [] := ⟨Below.refl _ _, World.ownsRow_nil _ _ _ _, by intro p hp; simp at hp, rfl⟩
theorem FD.later {w1 V V' : World} {S : Nat -> Prop} {v : Value} {P : List (List Int × Value)} {R : List (List Int)} (h : FD w1 S V v P R) (hb : Below V.heap.size V V') : FD w1 S V' v P R := ⟨h.b.trans (hb.mono h.b.size), row7_below h.o hb, h.p, h.r⟩
theorem FD.more {w1 V V2 : World} {S : Nat -> Prop} {v : Value} {P : List (List Int × Value)} {R : List (List Int)} {r : List Int} {u : Value} {g2 c2 n : Nat} (h : FD w1 S V v P R) (hn : P.length = n) (hu : Li S w1 u r) (ho : V2.ownsRow w1.heap.size 67 1 (.slice (some ⟨g2, 0, none⟩) (n + 1) c2) (n + 1) (P.map Prod.snd ++ [u])) (hg : (V.alloc (.cells #[u] 67)).grownBy V2 v.ownBlock) :
  FD w1 S V2 (.slice (some ⟨g2, 0, none⟩) (n + 1) c2) (P ++ [(r, u)]) (R ++ [r]) := by
 have f1 : Fr (fun b => w1.heap.size <= b) (V.alloc (.cells #[u] 67)) V2 := Fr.grown hg fun b hb => (h.o.lt b hb).1
 have l1 := f1.low (Nat.le_trans h.b.size (by simp))
 refine ⟨h.b.trans (((below1 V (.cells #[u] 67)).mono h.b.size).trans l1), ?_, ?_, ?_⟩
 ·rw [List.length_append, hn, List.map_append]; exact ho
 ·intro p hp
  rcases List.mem_append.1 hp with hp | hp
  ·exact h.p p hp
  ·rw [List.mem_singleton] at hp; rw [hp]; exact hu
 ·rw [List.map_append, h.r]; rfl
def SO7 (base : Nat) (v : Value) (P : List (List Int × Value)) (w : World) (e : Ending) (w' : World) : Prop :=
 e = .returned (.tuple #[]) /\ ∃ P' : List (List Int × Value), w'.ownsRow base 67 1 v P.length (P'.map Prod.snd) /\ P'.Perm P /\ srtR (P'.map Prod.fst) /\ Fr (fun b => base <= b) w w'
def SortOK7 : Prop := ∀ (base : Nat) (v : Value) (P : List (List Int × Value)) (w : World), base <= w.heap.size -> w.ownsRow base 67 1 v P.length (P.map Prod.snd) -> (∀ p ∈ P, Li (fun b => b < base) w p.2 p.1) -> P.length <= 100000000000 -> Calls Tryz.prog 132 #[v, .func (.func 133) #[] #[]] w (SO7 base v P w)
def FO (w : World) (g : Nat) (F S G : Nat -> Prop) (m : Nat) (s : St7) (parts : Int) (cols : List Nat) (nums : List Int) (e : Ending) (w' : World) : Prop :=
 ∃ (v : Value) (F' : Nat -> Prop) (P : List (List Int × Value)) (B : Nat), e = .returned v /\ RM w' g F' (fun b => S b ∨ G b) (m + 1) s /\ Fr F w w' /\ (∀ b, F b -> F' b) /\ (∀ b, F' b -> (F b ∨ w.heap.size <= b) /\ b < B) /\ w.heap.size <= B /\ B <= w'.heap.size /\ w'.ownsRow B 67 1 v P.length (P.map Prod.snd) /\ (∀ p ∈ P, Li (fun b => S b ∨ G b) w' p.2 p.1) /\ (P.map Prod.fst).Perm (sel7 s parts cols nums) /\ srtR (P.map Prod.fst)
set_option maxRecDepth 20000 in
set_option maxHeartbeats 2000000 in
theorem found7_any (hsort : SortOK7) (g : Nat) (F S G N : Nat -> Prop) (m : Nat) (s : St7) (parts : Int) (cols : List Nat) (nums : List Int) (sv nv : Value) (w : World) (h : RM w g F S m s) (hset : Li G w sv (nat7 cols)) (hG : ∀ b, G b -> ¬ F b /\ b < w.heap.size) (hcl : cols.length <= 10000000000) (hcw : ∀ c ∈ cols, c < s.wd)
  (hnv : Li N w nv nums) (hN : ∀ b, N b -> ¬ F b) (hnl : nums.length <= 10000000000) (hm : m <= 100000000000000) :
  Calls Tryz.prog 105 #[.pointer (some ⟨g, 0, none⟩), .int .i64 parts, sv, nv] w (FO w g F S G m s parts cols nums) := by
 have HPO := hm7 (placesOf7_any g F S G N m s cols nums sv nv w h hset hG hcl hcw hnv hN hnl hm)
 have HOK := hm7 h.ok
 obtain ⟨na, nn, nc, rfl⟩ : ∃ a n c, nv = .slice a n c := by obtain ⟨a, c, e, -⟩ := hnv; exact ⟨_, _, _, e⟩
 obtain ⟨sa, sn, sc, rfl⟩ : ∃ a n c, sv = .slice a n c := by obtain ⟨a, c, e, -⟩ := hset; exact ⟨_, _, _, e⟩
 have HSO := hm7 hsort
 clear h hset hnv hG hN hcw hsort
 go_enter Tryz.func105, Tryz.ntmps105
 go_upto_region 3 with (go_at_call 130; refine HPO.out.mono ?_; rintro e w1 ⟨pv, F', rfl, hrm, hfr, ha, hd, hpl⟩; have HRM := hm7 hrm; have HFR := hm7 hfr; have HA := hm7 ha; have HD := hm7 hd; have HPL := hm7 hpl; obtain ⟨pa, pn, pc, rfl⟩ : ∃ a n c, pv = .slice a n c := (by obtain ⟨a, c, e, -⟩ := hpl; exact ⟨_, _, _, e⟩); clear hrm hfr ha hd hpl)
 have HST := hm7 (stretches7_any g F' _ (m + 1) s parts w1 HRM.out)
 obtain ⟨L, hL⟩ : ∃ L, sts7 s parts = L := ⟨_, rfl⟩
 have HL := hm7 hL
 rw [hL] at HST
 obtain ⟨n, hn⟩ : ∃ n, L.length = n := ⟨_, rfl⟩
 have HN := hm7 hn
 clear hL hn
 go_upto_region 4 with (go_at_call 75; refine HST.out.mono ?_; rintro e w2 ⟨v, rfl, ho, hb⟩; obtain ⟨a, cap, hv, -⟩ := row7_form ho; rw [HN.out] at hv; subst hv; have HO := hm7 ho; have HB := hm7 hb; clear ho hb)
 obtain ⟨rv, rvs, mp, mx, nx, tt, ff, -, hx⟩ := HRM.out.below HB.out
 obtain ⟨ra, rc, hrv, -⟩ := row7_form hx.r.1
 have hbk := hx.b
 rw [hrv] at hbk
 have HBK := hm7 hbk
 have hrr := hx.r.1
 rw [hrv] at hrr
 have HRR := hm7 hrr
 have HRL := hm7 hx.r.2
 have HFL : Hid (∀ b, F' b -> b < w2.heap.size) := fun b hb => (hx.q b hb).2
 have HPL2 : Hid (Li F' w2 (.slice pa pn pc) (pls7 s cols nums)) := HPL.out.below HB.out
 have HSL : Hid (∀ b, S b ∨ G b -> b < w2.heap.size) := hx.q2
 have HXX : Hid (RM w2 g F' (fun b => S b ∨ G b) (m + 1) s) := HRM.out.below HB.out
 have hgl : g < w2.heap.size := hx.b.lt
 have hrows : (s.rows.length : Int) <= 10000000000 := by have := HOK.out.c; omega
 have hnb : n <= 3 := by have := sts7_len s parts; rw [HL.out, HN.out] at this; exact this
 clear hx hrv hbk hrr HPL HPO HST
 go_loopg [10, 23] n (fun gg u i wr => ∃ (j : Nat) (P : List (List Int × Value)), j + gg = n /\ i = .int .i64 j /\ FD w2 (fun b => S b ∨ G b) wr u P ((L.take j).flatMap fun p => rws7 s.rows (wn7 p.1 p.2 (pls7 s cols nums))))
 case atStart => exact ⟨0, [], by omega, rfl, FD.start _ _⟩
 case round =>
  obtain ⟨j, P, hj, rfl, hfd⟩ := hrel
  have HFD := hm7 hfd
  obtain ⟨ua, uc, hu, -⟩ := row7_form hfd.o
  obtain ⟨un, hun⟩ : ∃ un, P.length = un := ⟨_, rfl⟩
  rw [hun] at hu
  subst hu
  have HUN := hm7 hun
  clear hfd hun
  cases gk with
  | succ gg =>
   have hlt : (j : Int) < (n : Int) := by omega
   have j0 : (0 : Int) <= (j : Int) := by omega
   obtain ⟨⟨x, y⟩, hp⟩ : ∃ p, L[j]? = some p := ⟨_, List.getElem?_eq_getElem (by have := HN.out; omega)⟩
   obtain ⟨bg, e, -, hbl, q0, q1⟩ := HO.out.at_ HN.out hp
   subst e
   rw [<- HFD.out.b.cell (p := ⟨bg, _, none⟩) hbl] at q0 q1
   have hxy := sts7_mem HOK.out (parts := parts) (p := (x, y)) (by rw [HL.out]; exact List.mem_of_getElem? hp)
   simp only at hxy q0 q1
   obtain ⟨x1, x2, x3⟩ := hxy
   have HNX : Hid ((L.take (j + 1)).flatMap (fun p => rws7 s.rows (wn7 p.1 p.2 (pls7 s cols nums))) = (L.take j).flatMap (fun p => rws7 s.rows (wn7 p.1 p.2 (pls7 s cols nums))) ++ rws7 s.rows (wn7 x y (pls7 s cols nums))) := by
    show _ = _
    rw [List.take_add_one, hp, List.flatMap_append]
    simp
   obtain ⟨R0, hR0⟩ : ∃ R0, (L.take j).flatMap (fun p => rws7 s.rows (wn7 p.1 p.2 (pls7 s cols nums))) = R0 := ⟨_, rfl⟩
   have HR0 : Hid (R0.length <= 30000000000) := by
    show _ <= _
    rw [<- hR0]
    have h1 := sel_len s.rows (pls7 s cols nums) (L.take j)
    have h2 := pls7_len HOK.out cols nums
    have h3 : (L.take j).length <= 3 := by rw [List.length_take, HN.out]; have := sts7_len s parts; rw [HL.out, HN.out] at this; omega
    have := Nat.mul_le_mul h3 h2
    omega
   rw [hR0] at HNX HFD
   have HWI : Hid (∀ X : World, Li F' X (.slice pa pn pc) (pls7 s cols nums) -> Calls Tryz.prog 131 #[.agg #[.int .i64 x, .int .i64 y], .slice pa pn pc] X fun e w' => ∃ v', e = .returned v' /\ Li F' w' v' (wn7 x y (pls7 s cols nums)) /\ Below X.heap.size X w') := fun X hX => within7_any F' _ _ x y X hX (pls7_rise _ _ _) (by rw [pls7, nat7_len]; have := grp_len s.rows cols s.rows.length (tx nums); have := HOK.out.c; omega) x2
   obtain ⟨wl, hwl⟩ : ∃ wl, wn7 x y (pls7 s cols nums) = wl := ⟨_, rfl⟩
   have HWL := hm7 hwl
   have HWM : Hid (∀ z ∈ wl, 0 <= z /\ z < (s.rows.length : Int)) := fun z hz => pls7_lt z (by rw [<- hwl, wn7] at hz; exact (List.mem_filter.1 hz).1)
   rw [hwl] at HWI HNX
   obtain ⟨wn, hwn⟩ : ∃ wn, wl.length = wn := ⟨_, rfl⟩
   have HWN := hm7 hwn
   have HP0 := hm7 hp
   have hwnb : wn <= 10000000000 := by
    rw [<- HWN.out, <- HWL.out, wn7]
    exact Nat.le_trans (List.length_filter_le _ _) (pls7_len HOK.out cols nums)
   clear hp hR0 hwl hwn
   have HB3 : Hid (Below wr.heap.size wr (wr.alloc (.cells #[.int .i64 x, .int .i64 y] 128))) := below1 _ _
   go_upto_region 7 with (go_at_call 131; refine (HWI.out _ ((HPL2.out.below HFD.out.b).below HB3.out)).mono ?_; rintro e w3 ⟨v3, rfl, hl3, hb3⟩; obtain ⟨va, vc, hv3, -, -, -, hvl⟩ := hl3; rw [HWN.out] at hv3; subst hv3; have HV3 := hm7 hvl; have HB4 := hm7 hb3; clear hvl hb3)
   have HFD3 : Hid (FD w2 (fun b => S b ∨ G b) w3 (.slice ua un uc) P R0) := (HFD.out.later HB3.out).later HB4.out
   clear HFD HB3 HB4 HWI q0 q1
   go_loopg [10, 31] wn (fun gg2 u i wr => ∃ (k : Nat) (P2 : List (List Int × Value)), k + gg2 = wn /\ i = .int .i64 k /\ FD w2 (fun b => S b ∨ G b) wr u P2 (R0 ++ rws7 s.rows (wl.take k)) /\ Fr (fun b => w2.heap.size <= b) w3 wr)
   case atStart => exact ⟨0, P, by omega, rfl, by have := HFD3.out; simpa [rws7] using this, Fr.refl _ _⟩
   case round =>
    obtain ⟨k, P2, hk, rfl, hfd, hfr⟩ := hrel
    have HFD := hm7 hfd
    have HFR2 := hm7 hfr
    obtain ⟨ua, uc, hu, -⟩ := row7_form hfd.o
    obtain ⟨un, hun⟩ : ∃ un, P2.length = un := ⟨_, rfl⟩
    rw [hun] at hu
    subst hu
    have HUN2 := hm7 hun
    have hunb : un <= 100000000000 := by
     have h1 := congrArg List.length hfd.r
     rw [List.length_map, hun, List.length_append] at h1
     have h2 : (rws7 s.rows (wl.take k)).length <= wn := by rw [rws7, List.length_map, List.length_take, HWN.out]; omega
     have h3 : wn <= 10000000000 := by
      rw [<- HWN.out, <- HWL.out, wn7]
      exact Nat.le_trans (List.length_filter_le _ _) (pls7_len HOK.out cols nums)
     have := HR0.out
     omega
    clear hfd hun
    cases gk with
    | succ gg2 =>
     have hlt2 : (k : Int) < (wn : Int) := by omega
     have k0 : (0 : Int) <= (k : Int) := by omega
     obtain ⟨z, hz⟩ : ∃ z, wl[k]? = some z := ⟨_, List.getElem?_eq_getElem (by have := HWN.out; omega)⟩
     obtain ⟨z0, z1⟩ := HWM.out z (List.mem_of_getElem? hz)
     obtain ⟨zi, rfl⟩ : ∃ zi : Nat, z = (zi : Int) := ⟨z.toNat, by omega⟩
     have hv3 := HV3.out
     rcases hv3 with ⟨hv3, -⟩ | ⟨b3, o3, e3, hl3, hF3, hc3⟩
     ·rw [hv3] at hz; simp at hz
     subst e3
     have p0 := hc3 k _ hz
     have p1 := hfr.cell hl3 (by have := HFL.out b3 hF3; omega) p0
     obtain ⟨r, hr⟩ : ∃ r, s.rows[zi]? = some r := ⟨_, List.getElem?_eq_getElem (by omega)⟩
     obtain ⟨ru, hru, hrl⟩ := HRL.out zi r hr
     obtain ⟨rg, er, -, hrg, hrc, -⟩ := row7_at HRR.out hru
     subst er
     have hrc2 := (HFD.out.b.cell (p := ⟨rg, zi, none⟩) hrg).trans hrc
     have c1 := (HBK.out.below HFD.out.b).cell (i := 1) rfl
     have HRU := hm7 hrl
     obtain ⟨rua, run, ruc, rfl⟩ : ∃ a n c, ru = .slice a n c := by obtain ⟨a, c, e, -⟩ := hrl; exact ⟨_, _, _, e⟩
     have HNX2 : Hid (R0 ++ rws7 s.rows (wl.take (k + 1)) = (R0 ++ rws7 s.rows (wl.take k)) ++ [r]) := by
      show _ = _
      rw [List.take_add_one, hz, List.append_assoc]
      simp [rws7, hr]
     clear hz hc3 p0 hr hru hrl hrc hfr HV3
     go_wp2_with (at_builtin; refine gapp Tryz.underlying107 Tryz.infoInts7 rfl (by omega) rfl _ _ rfl w2.heap.size (.slice ua un uc) un (P2.map Prod.snd) rfl (by have q := HFD.out.o; rw [HUN2.out] at q; exact row7_below q (below1 _ _)) wr.heap.size (.slice rua run ruc) rfl (Bk.new _ _ _) rfl (by omega) (by have := HFD.out.b.size; simp; omega) ?_; intro g2 c2 w5 ho5 hg5 hv5 hl5)
     go_roundg gg2
     case measure => omega
     case rel =>
      refine ⟨k + 1, _, by omega, by go_num, by rw [HNX2.out]; exact HFD.out.more HUN2.out HRU.out ho5 hg5, (HFR2.out.alloc _).tr (Fr.grown hg5 fun b hb => (HFD.out.o.lt b hb).1)⟩
    | zero =>
     have hlt2 : ¬ (k : Int) < (wn : Int) := by omega
     have HE : Hid (wl.take k = wl) := List.take_of_length_le (by have := HWN.out; omega)
     clear hfr
     go_wp2
     go_roundg gg
     case measure => omega
     case rel => exact ⟨j + 1, P2, by omega, by go_num, by rw [HNX.out]; have := HFD.out; rwa [HE.out] at this⟩
  | zero =>
   have hlt : ¬ (j : Int) < (n : Int) := by omega
   have HE : Hid (L.take j = L) := List.take_of_length_le (by have := HN.out; omega)
   have hfd := HFD.out
   rw [HE.out] at hfd
   have HSE : Hid ((P.map Prod.fst).Perm (sel7 s parts cols nums)) := by
    show List.Perm _ _
    rw [hfd.r, sel7, HL.out]
   have hPl : P.length <= 100000000000 := by
    have h1 := congrArg List.length hfd.r
    rw [List.length_map] at h1
    have h2 := sel_len s.rows (pls7 s cols nums) L
    have h3 := pls7_len HOK.out cols nums
    have h4 : L.length <= 3 := by have := sts7_len s parts; rwa [HL.out] at this
    have := Nat.mul_le_mul h4 h3
    omega
   have ho := hfd.o
   have HSR : Hid (Calls Tryz.prog 132 #[.slice ua un uc, .func (.func 133) #[] #[]] wr (SO7 w2.heap.size (.slice ua un uc) P wr)) := HSO.out w2.heap.size _ P wr hfd.b.size ho (fun p hp => ((hfd.p p hp).below hfd.b).mono fun b _ hb => HSL.out b hb) hPl
   have HBW := hm7 hfd.b
   have HPP := hm7 hfd.p
   clear hfd ho hPl
   go_wp2_with (go_at_call 132; refine HSR.out.mono ?_; rintro e w5 ⟨rfl, P', ho5, hpm, hsr, hf5⟩)
   go_ret
   have hF5 : Fr (fun b => w2.heap.size <= b) w2 w5 := (Fr.of HBW.out).tr hf5
   have hb5 : Below w2.heap.size w2 w5 := hF5.low (Nat.le_refl _)
   have hlen := hpm.length_eq
   rw [<- hlen] at ho5
   exact ⟨_, F', P', w2.heap.size, rfl, HXX.out.below hb5, (HFR.out.then HB.out).then hb5, HA.out, fun b hb => ⟨HD.out b hb, HFL.out b hb⟩, Nat.le_trans HFR.out.size HB.out.size, hb5.size, ho5, fun p hp => (HPP.out p (hpm.mem_iff.1 hp)).below hb5, (hpm.map Prod.fst).trans HSE.out, hsr⟩
end Go.Proofs.YtechceagghcipabGreatDoor
