import Derived.Test.YtechceagghcipabGreatDoorRA11
import Derived.Laws.BitsAllLaws
import Derived.WalkLawsBesides
namespace Go.Proofs.YtechceagghcipabGreatDoor
open Go.RowKit
attribute [local go_sem ↓] Go.wp_at_zero Go.wp_at_succ
theorem nan7_any (x : Int) (w : World) : Calls Tryz.prog 86 #[.int .i64 x] w fun e w' => e = .returned (.bool false) /\ w' = w := by
 go_enter Tryz.func86, Tryz.ntmps86
 go_wp2
 go_ret
 exact ⟨ret_b (by simp), rfl⟩
theorem nan7s_any (x : Int) (w : World) : Calls Tryz.prog 176 #[.int .i64 x] w fun e w' => e = .returned (.bool false) /\ w' = w := by
 go_enter Tryz.func176, Tryz.ntmps176
 go_wp2
 go_ret
 exact ⟨ret_b (by simp), rfl⟩
theorem less7_any (x y : Int) (w : World) : Calls Tryz.prog 175 #[.int .i64 x, .int .i64 y] w fun e w' => e = .returned (.bool (decide (x < y))) /\ w' = w := by
 go_enter Tryz.func175, Tryz.ntmps175
 go_wp2_with (go_at_call 86; refine (nan7_any _ _).mono ?_; rintro e w1 ⟨rfl, rfl⟩)
 go_ret
 exact ⟨rfl, rfl⟩
def Rise7 (l : List Int) : Prop := ∀ (i j : Nat) (x y : Int), i <= j -> l[i]? = some x -> l[j]? = some y -> x <= y
def BS7 (l : List Int) (t : Int) (n : Nat) (w : World) (e : Ending) (w' : World) : Prop := ∃ (i : Nat) (b : Bool), e = .returned (.tuple #[.int .i64 (i : Int), .bool b]) /\ i <= n /\ (∀ (k : Nat) (x : Int), l[k]? = some x -> (k < i ↔ x < t)) /\ Below w.heap.size w w'
set_option maxRecDepth 20000 in
set_option maxHeartbeats 1000000 in
theorem bsearch7_any (F : Nat -> Prop) (l : List Int) (v : Value) (t : Int) (w : World) (h : Li F w v l) (hr : Rise7 l) (hl : l.length <= 10000000000) :
  Calls Tryz.prog 156 #[v, .int .i64 t] w (BS7 l t l.length w) := by
 obtain ⟨a, cap, rfl, -, -, -, h4⟩ := h
 obtain ⟨n, hn⟩ : ∃ n, l.length = n := ⟨_, rfl⟩
 have HN := hm7 hn
 rw [hn] at hl ⊢
 clear hn
 go_enter Tryz.func156, Tryz.ntmps156
 go_wp2
 go_loopg [7, 8] n (fun g u v wr => ∃ i j : Nat, i + g = j /\ j <= n /\ u = .int .i64 i /\ v = .int .i64 j /\ (∀ (k : Nat) (x : Int), l[k]? = some x -> k < i -> x < t) /\ (∀ (k : Nat) (x : Int), l[k]? = some x -> j <= k -> t <= x) /\ Below w.heap.size w wr)
 case atStart => exact ⟨0, n, by omega, by omega, rfl, rfl, fun k x _ hk => by omega, fun k x hk hj => by have := (List.getElem?_eq_some_iff.1 hk).1; have := HN.out; omega, Below.refl _ _⟩
 case round =>
  obtain ⟨i, j, hg, hj, rfl, rfl, hlo, hhi, hb⟩ := hrel
  have HLO := hm7 hlo
  have HHI := hm7 hhi
  have HB := hm7 hb
  clear hlo hhi
  cases gk with
  | succ g =>
   have hlt : (i : Int) < (j : Int) := by omega
   obtain ⟨m, hm⟩ : ∃ m, (i + j) / 2 = m := ⟨_, rfl⟩
   have hm1 : i <= m := by omega
   have hm2 : m < j := by omega
   have e1 : ((i : Int) + (j : Int)) / 2 = (m : Int) := by omega
   have m0 : (0 : Int) <= (m : Int) := by omega
   have m1 : (m : Int) < (n : Int) := by omega
   have b0 : (0 : Int) <= (i : Int) + (j : Int) := by omega
   have b1 : (i : Int) + (j : Int) < 9223372036854775808 := by omega
   obtain ⟨x, hx⟩ : ∃ x, l[m]? = some x := ⟨_, List.getElem?_eq_getElem (by have := HN.out; omega)⟩
   have HX := hm7 hx
   rcases h4 with ⟨h4, -⟩ | ⟨b, o, rfl, hbl, -, h4⟩
   ·rw [h4] at hx; simp at hx
   have p0 := h4 m x hx
   rw [<- hb.cell (p := ⟨b, _, none⟩) hbl] at p0
   have HM := hm7 hm
   clear h4 hx hb hm
   by_cases hxt : x < t
   ·have hd : decide (x < t) = true := decide_eq_true hxt
    go_wp2_with (go_at_call 175; refine (less7_any _ _ _).mono ?_; rintro e w1 ⟨rfl, rfl⟩; rw [hd])
    go_roundg (j - (m + 1))
    case measure => omega
    case rel => exact ⟨m + 1, j, by omega, hj, by go_num, rfl, fun k y hk hlt => Int.lt_of_le_of_lt (hr k m y x (by omega) hk HX.out) hxt, HHI.out, HB.out⟩
   ·have hd : decide (x < t) = false := decide_eq_false hxt
    go_wp2_with (go_at_call 175; refine (less7_any _ _ _).mono ?_; rintro e w1 ⟨rfl, rfl⟩; rw [hd])
    go_roundg (m - i)
    case measure => omega
    case rel => exact ⟨i, m, by omega, by omega, rfl, rfl, HLO.out, fun k y hk hle => Int.le_trans (by omega) (hr m k x y hle HX.out hk), HB.out⟩
  | zero =>
   obtain rfl : i = j := by omega
   have hlt : ¬ (i : Int) < (i : Int) := by omega
   have HP : Hid (∀ (k : Nat) (x : Int), l[k]? = some x -> (k < i ↔ x < t)) := fun k x hk => ⟨HLO.out k x hk, fun hx => by
    rcases Nat.lt_or_ge k i with h | h
    ·exact h
    ·have := HHI.out k x hk h; omega⟩
   have hi0 : (0 : Int) <= (i : Int) := by omega
   by_cases hin : i < n
   ·have hin2 : (i : Int) < (n : Int) := by omega
    obtain ⟨x, hx⟩ : ∃ x, l[i]? = some x := ⟨_, List.getElem?_eq_getElem (by have := HN.out; omega)⟩
    rcases h4 with ⟨h4, -⟩ | ⟨b, o, rfl, hbl, -, h4⟩
    ·rw [h4] at hx; simp at hx
    have p0 := h4 i x hx
    rw [<- hb.cell (p := ⟨b, _, none⟩) hbl] at p0
    clear h4 hx hb hg
    by_cases hxt : x = t
    ·have he : (x == t) = true := by simp [hxt]
     go_wp2_with (go_at_call 176; refine (nan7s_any _ _).mono ?_; rintro e w1 ⟨rfl, rfl⟩)
     go_ret2
     exact ⟨i, true, rfl, hj, HP.out, HB.out⟩
    ·have he : (x == t) = false := by simp [hxt]
     go_wp2_with (go_at_call 176; refine (nan7s_any _ _).mono ?_; rintro e w1 ⟨rfl, rfl⟩)
     go_ret2
     exact ⟨i, false, rfl, hj, HP.out, HB.out⟩
   ·have hin2 : ¬ (i : Int) < (n : Int) := by omega
    clear h4 hb hg
    go_wp2
    go_ret2
    exact ⟨i, false, rfl, hj, HP.out, HB.out⟩
end Go.Proofs.YtechceagghcipabGreatDoor
namespace Go.Proofs.YtechceagghcipabGreatDoor
open Go.RowKit
attribute [local go_sem ↓] Go.wp_at_zero Go.wp_at_succ
def wn7 (a b : Int) (l : List Int) : List Int := l.filter fun x => decide (a <= x /\ x < b)
theorem wn7_cut {l : List Int} {a b : Int} {i j : Nat} (hi : ∀ (k : Nat) (x : Int), l[k]? = some x -> (k < i ↔ x < a)) (hj : ∀ (k : Nat) (x : Int), l[k]? = some x -> (k < j ↔ x < b)) (hij : i <= j) : (l.take j).drop i = wn7 a b l := by
 have e : l = l.take i ++ ((l.take j).drop i ++ l.drop j) := by
  have h1 : l.take i = (l.take j).take i := by rw [List.take_take, Nat.min_eq_left hij]
  rw [h1, <- List.append_assoc, List.take_append_drop, List.take_append_drop]
 have g1 : (l.take i).filter (fun x => decide (a <= x /\ x < b)) = [] := by
  rw [List.filter_eq_nil_iff]
  intro x hx
  obtain ⟨k, hk⟩ := List.getElem?_of_mem hx
  rw [List.getElem?_take] at hk
  split at hk
  ·have := (hi k x hk).1 (by assumption)
   simp; omega
  ·cases hk
 have g2 : ((l.take j).drop i).filter (fun x => decide (a <= x /\ x < b)) = (l.take j).drop i := by
  rw [List.filter_eq_self]
  intro x hx
  obtain ⟨k, hk⟩ := List.getElem?_of_mem hx
  rw [List.getElem?_drop, List.getElem?_take] at hk
  split at hk
  ·have h1 := (hj (i + k) x hk).1 (by assumption)
   have h2 : ¬ x < a := fun h => by have := (hi (i + k) x hk).2 h; omega
   simp; omega
  ·cases hk
 have g3 : (l.drop j).filter (fun x => decide (a <= x /\ x < b)) = [] := by
  rw [List.filter_eq_nil_iff]
  intro x hx
  obtain ⟨k, hk⟩ := List.getElem?_of_mem hx
  rw [List.getElem?_drop] at hk
  have h2 : ¬ x < b := fun h => by have := (hj (j + k) x hk).2 h; omega
  simp; omega
 conv => rhs; rw [e]
 unfold wn7
 rw [List.filter_append, List.filter_append, g1, g2, g3]
 simp
theorem Li.cut {F : Nat -> Prop} {w : World} {b o cap : Nat} {l : List Int} {i j : Nat} (h : Li F w (.slice (some ⟨b, o, none⟩) l.length cap) l) (hij : i <= j) (hj : j <= l.length) (o' : Nat) (ho : o' = o + i ∨ j = i) : Li F w (.slice (some ⟨b, o', none⟩) (j - i) (cap - i)) ((l.take j).drop i) := by
 obtain ⟨a, cap', e, h1, h2, h3, h4⟩ := h
 simp only [Value.slice.injEq] at e
 obtain ⟨rfl, -, rfl⟩ := e
 have hl : ((l.take j).drop i).length = j - i := by rw [List.length_drop, List.length_take]; omega
 refine ⟨_, cap - i, by rw [hl], by omega, by omega, fun x hx => h3 x (List.mem_of_mem_take (List.mem_of_mem_drop hx)), ?_⟩
 by_cases hz : j = i
 ·exact Or.inl ⟨List.eq_nil_of_length_eq_zero (by rw [hl]; omega), fun e => by cases e⟩
 ·rcases h4 with ⟨h4, -⟩ | ⟨b', o2, e, h5, h6, h7⟩
  ·rw [h4] at hj; simp at hj; omega
  ·cases e
   refine Or.inr ⟨b, o', rfl, h5, h6, fun k x hk => ?_⟩
   rw [List.getElem?_drop, List.getElem?_take] at hk
   split at hk
   ·have := h7 (i + k) x hk
    rcases ho with rfl | ho
    ·rw [Nat.add_assoc]; exact this
    ·exact absurd ho hz
   ·cases hk
theorem bs_le {l : List Int} {a b : Int} {i j : Nat} (hj1 : i <= l.length) (hi : ∀ (k : Nat) (x : Int), l[k]? = some x -> (k < i ↔ x < a)) (hj : ∀ (k : Nat) (x : Int), l[k]? = some x -> (k < j ↔ x < b)) (hab : a <= b) : i <= j := by
 rcases Nat.lt_or_ge j i with h | h
 ·obtain ⟨x, hx⟩ : ∃ x, l[j]? = some x := ⟨_, List.getElem?_eq_getElem (by omega)⟩
  have h1 := (hi j x hx).1 h
  have h2 := (hj j x hx).2 (by omega)
  omega
 ·exact h
set_option maxRecDepth 20000 in
set_option maxHeartbeats 1000000 in
theorem within7_any (F : Nat -> Prop) (l : List Int) (v : Value) (a b : Int) (w : World) (h : Li F w v l) (hr : Rise7 l) (hl : l.length <= 10000000000) (hab : a <= b) :
  Calls Tryz.prog 131 #[.agg #[.int .i64 a, .int .i64 b], v] w fun e w' => ∃ v', e = .returned v' /\ Li F w' v' (wn7 a b l) /\ Below w.heap.size w w' := by
 have HL := hm7 h
 have HBS : Hid (∀ (X : World) (t : Int), Li F X v l -> Calls Tryz.prog 156 #[v, .int .i64 t] X (BS7 l t l.length X)) := fun X t hX => bsearch7_any F l v t X hX hr hl
 obtain ⟨ad, cap, rfl, hc, hc2, -, h4⟩ := h
 obtain ⟨n, hn⟩ : ∃ n, l.length = n := ⟨_, rfl⟩
 have HN := hm7 hn
 rw [hn] at HL HBS hl hc ⊢
 go_enter Tryz.func131, Tryz.ntmps131
 have HB0 : Hid (Below w.heap.size w (w.alloc (.cells #[.int .i64 a, .int .i64 b] 128))) := below1 _ _
 have HK0 : Hid (Bk (w.alloc (.cells #[.int .i64 a, .int .i64 b] 128)) w.heap.size #[.int .i64 a, .int .i64 b] 128) := Bk.new _ _ _
 go_upto_region 1 with fail
 revert HB0 HK0
 generalize w.alloc (.cells #[.int .i64 a, .int .i64 b] 128) = W0
 intro HB0 HK0
 have c0 := HK0.out.cell (i := 0) rfl
 go_upto_region 2 with (go_at_call 156; refine (HBS.out _ a (HL.out.below HB0.out)).mono ?_; rintro e W1 ⟨i, bi, rfl, hi1, hi2, hb⟩; have HI := hm7 hi2; have HB1 := hm7 hb; clear hi2 hb)
 have c1 := (HK0.out.below HB1.out).cell (i := 1) rfl
 go_upto_region 3 with (go_at_call 156; refine (HBS.out _ b ((HL.out.below HB0.out).below HB1.out)).mono ?_; rintro e W2 ⟨j, bj, rfl, hj1, hj2, hb⟩; have HJ := hm7 hj2; have HB2 := hm7 hb; clear hj2 hb)
 have hij : i <= j := bs_le (by rw [hn]; exact hi1) HI.out HJ.out hab
 have HBE : Hid (Below w.heap.size w W2) := (HB0.out.trans (HB1.out.mono HB0.out.size)).trans (HB2.out.mono (Nat.le_trans HB0.out.size HB1.out.size))
 have HLE : Hid (Li F W2 (.slice ad n cap) l) := HL.out.below HBE.out
 have i0 : (0 : Int) <= (i : Int) := by omega
 have i1 : (i : Int) <= (j : Int) := by omega
 have i2 : (j : Int) <= (cap : Int) := by omega
 clear c0 c1 HB0 HB1 HB2 HK0 HBS HL hn
 cases ad with
 | none =>
  rcases h4 with ⟨e, hz⟩ | ⟨b', o', e, -⟩
  ·have hz := hz rfl
   have hn0 : n = 0 := by rw [<- HN.out, e]; rfl
   subst hz
   subst hn0
   obtain rfl : j = 0 := by omega
   obtain rfl : i = 0 := by omega
   have HE : Hid (wn7 a b l = []) := by rw [e]; rfl
   clear e
   go_wp2
   go_ret
   exact ⟨_, rfl, by rw [HE.out]; exact Li.nil _ _, HBE.out⟩
  ·cases e
 | some ad =>
  rcases h4 with ⟨e, -⟩ | ⟨gb, go, e, h4⟩
  ·have hn0 : n = 0 := by rw [<- HN.out, e]; rfl
   subst hn0
   obtain rfl : j = 0 := by omega
   obtain rfl : i = 0 := by omega
   have HE : Hid (wn7 a b l = []) := by rw [e]; rfl
   clear e
   go_wp2
   go_ret
   refine ⟨_, rfl, ?_, HBE.out⟩
   rw [HE.out]
   exact ⟨some ad, cap, rfl, by simp, hc2, (by intro x hx; simp at hx), Or.inl ⟨rfl, fun e => by cases e⟩⟩
  cases e
  clear h4
  by_cases hci : cap = i
  ·have hn1 : n = i := by omega
   have hj2 : j = i := by omega
   subst hci
   subst hn1
   subst hj2
   go_wp2
   go_ret
   refine ⟨_, rfl, ?_, HBE.out⟩
   have hq := HLE.out
   rw [<- HN.out] at hq
   have := hq.cut (i := j) (j := j) (Nat.le_refl _) (by rw [HN.out]; exact Nat.le_refl _) go (Or.inr rfl)
   rw [wn7_cut HI.out HJ.out (Nat.le_refl _)] at this
   simpa [HN.out] using this
  ·go_wp2
   go_ret
   refine ⟨_, rfl, ?_, HBE.out⟩
   have hq := HLE.out
   rw [<- HN.out] at hq
   have := hq.cut (i := i) (j := j) hij (by rw [HN.out]; exact hj1) (go + i) (Or.inl rfl)
   rw [wn7_cut HI.out HJ.out hij] at this
   exact this
end Go.Proofs.YtechceagghcipabGreatDoor
