import Derived.Test.YtcpjiahdaplhlaaGreatDoorSV5
import Derived.Test.YtcpjiahdaplhlaaGreatDoorK18
import Derived.Test.YtcpjiahdaplhlaaGreatDoorSY25
import Derived.Test.YtcpjiahdaplhlaaGreatDoorSV6
import Derived.Test.YtcpjiahdaplhlaaGreatDoorK37
import Derived.Test.YtcpjiahdaplhlaaGreatDoorSY26
import Derived.Test.YtcpjiahdaplhlaaGreatDoorSY0
import Derived.BigQuiet
/-
  PLAIN: the tokens of two texts with a line's end between them.
-/
namespace Go.Proofs.YtcpjiahdaplhlaaGreatDoor
open Go.RowKit

theorem bl_appJ5 (s t : ByteArray) : blK (s ++ t) = blK s ++ blK t := by
  unfold blK
  rw [← List.map_append]
  have : (s ++ t).data = s.data ++ t.data := ByteArray.data_append
  rw [this, Array.toList_append]
end Go.Proofs.YtcpjiahdaplhlaaGreatDoor
/-
  PLAIN: what is read of two texts laid together.
-/
namespace Go.Proofs.YtcpjiahdaplhlaaGreatDoor
open Go.RowKit

theorem pg5_cut {s : ByteArray} {most : Int} {T : List Tk} (h : cutL (blK s) most = (T, 0, 0)) : pg5 s most = pp5 T s.size [] 0 := by
  unfold pg5 pp5
  rw [h]
  rfl
end Go.Proofs.YtcpjiahdaplhlaaGreatDoor
/-
  SyntaxTokens: PLAIN: variables called otherwise; the text spelt anew says the same, or is refused at the same token.
-/
namespace Go.Proofs.YtcpjiahdaplhlaaGreatDoor
open Go.RowKit

/-- The name of the variable number k. -/
def nq5 (k : Nat) : ByteArray := ofL [81, 95, 97 + ((k % 26 : Nat) : Int), 97 + ((k / 26 % 26 : Nat) : Int), 97 + ((k / 676 % 26 : Nat) : Int), 97 + ((k / 17576 % 26 : Nat) : Int)]
theorem nq5_byt (k : Nat) : byt [81, 95, 97 + ((k % 26 : Nat) : Int), 97 + ((k / 26 % 26 : Nat) : Int), 97 + ((k / 676 % 26 : Nat) : Int), 97 + ((k / 17576 % 26 : Nat) : Int)] := fun x hx => by
  simp only [List.mem_cons, List.not_mem_nil, or_false] at hx
  omega
theorem bl_nq5 (k : Nat) : blK (nq5 k) = [81, 95, 97 + ((k % 26 : Nat) : Int), 97 + ((k / 26 % 26 : Nat) : Int), 97 + ((k / 676 % 26 : Nat) : Int), 97 + ((k / 17576 % 26 : Nat) : Int)] := bl_ofL (nq5_byt k)
theorem nq5_inj {a b : Nat} (ha : a < 456976) (hb : b < 456976) (h : nq5 a = nq5 b) : a = b := by
  have h1 := congrArg blK h
  rw [bl_nq5, bl_nq5] at h1
  simp only [List.cons.injEq, and_true, true_and] at h1
  omega
theorem nq5_us (k : Nat) : nq5 k ≠ us5 := fun h => by
  have h1 := congrArg ByteArray.size h
  unfold nq5 at h1
  rw [ofL_sz] at h1
  have h2 : us5.size = 1 := rfl
  simp [h2] at h1
theorem low_rnb : ∀ r : Nat, r < 26 → rnb (97 + (r : Int)) = true := by decide
theorem nq5_vrb (k : Nat) : vrb (nq5 k) = true := vrb_of (nq5_byt k) (by decide) fun x hx => by
  simp only [List.mem_cons, List.not_mem_nil, or_false] at hx
  rcases hx with rfl | rfl | rfl | rfl | rfl | rfl
  · decide
  · decide
  · exact low_rnb _ (Nat.mod_lt _ (by decide))
  · exact low_rnb _ (Nat.mod_lt _ (by decide))
  · exact low_rnb _ (Nat.mod_lt _ (by decide))
  · exact low_rnb _ (Nat.mod_lt _ (by decide))
/-- The number of a name in a list; how many there are, if it isn't there. -/
def ix5 (x : ByteArray) : List ByteArray → Nat
  | [] => 0
  | y :: r => if y = x then 0 else ix5 x r + 1
theorem ix5_mem {x : ByteArray} : ∀ {l : List ByteArray}, x ∈ l → ix5 x l < l.length ∧ l[ix5 x l]? = some x ∧ ∀ m, ix5 x (l ++ m) = ix5 x l
  | y :: r, h => by
    by_cases e : y = x
    · have e1 : ∀ m, ix5 x (y :: m) = 0 := fun m => if_pos e
      rw [e1]
      exact ⟨by simp, by rw [← e]; rfl, fun m => e1 _⟩
    · have e1 : ∀ m, ix5 x (y :: m) = ix5 x m + 1 := fun m => if_neg e
      have h1 : x ∈ r := by
        rcases List.mem_cons.1 h with h | h
        · exact absurd h.symm e
        · exact h
      obtain ⟨g1, g2, g3⟩ := ix5_mem h1
      rw [e1]
      refine ⟨by rw [List.length_cons]; omega, by simpa using g2, fun m => ?_⟩
      rw [List.cons_append, e1, g3]
theorem ix5_not {x : ByteArray} : ∀ {l : List ByteArray}, ¬ x ∈ l → ix5 x l = l.length ∧ ix5 x (l ++ [x]) = l.length
  | [], _ => ⟨rfl, if_pos rfl⟩
  | y :: r, h => by
    have e : ¬ y = x := fun e => h (by rw [e]; exact List.mem_cons_self ..)
    have e1 : ∀ m, ix5 x (y :: m) = ix5 x m + 1 := fun m => if_neg e
    obtain ⟨g1, g2⟩ := ix5_not (l := r) fun h1 => h (List.mem_cons_of_mem _ h1)
    rw [List.cons_append, e1, e1, g1, g2, List.length_cons]
    exact ⟨rfl, rfl⟩
theorem ix5_iff {x : ByteArray} {l : List ByteArray} : ix5 x l = l.length ↔ ¬ x ∈ l := ⟨fun h h1 => by have := (ix5_mem h1).1; omega, fun h => (ix5_not h).1⟩
/-- The names met so far. -/
def vq5 (t : Tk) : Prop := t.k = 2 ∧ t.x ≠ us5
instance (t : Tk) : Decidable (vq5 t) := by unfold vq5; exact inferInstance
def ad5 (ns : List ByteArray) (t : Tk) : List ByteArray := if vq5 t then (if ix5 t.x ns = ns.length then ns ++ [t.x] else ns) else ns
def ns5 (l : List Tk) : List ByteArray := l.foldl ad5 []
theorem ns5_snoc (l : List Tk) (t : Tk) : ns5 (l ++ [t]) = ad5 (ns5 l) t := by unfold ns5; rw [List.foldl_append]; rfl
theorem ad5_pre (ns : List ByteArray) (t : Tk) : ∃ m, ad5 ns t = ns ++ m ∧ m.length ≤ 1 := by
  unfold ad5
  split
  · split
    · exact ⟨[t.x], rfl, by simp⟩
    · exact ⟨[], by simp, by simp⟩
  · exact ⟨[], by simp, by simp⟩
theorem fold_pre : ∀ (l : List Tk) (ns : List ByteArray), ∃ m, l.foldl ad5 ns = ns ++ m ∧ m.length ≤ l.length
  | [], ns => ⟨[], by simp, Nat.le_refl _⟩
  | t :: r, ns => by
    obtain ⟨m, e, h⟩ := ad5_pre ns t
    obtain ⟨m', e', h'⟩ := fold_pre r (ad5 ns t)
    refine ⟨m ++ m', ?_, by rw [List.length_append, List.length_cons]; omega⟩
    show r.foldl ad5 (ad5 ns t) = _
    rw [e', e, List.append_assoc]
theorem ns5_take (l : List Tk) (i : Nat) : ∃ m, ns5 l = ns5 (l.take i) ++ m := by
  obtain ⟨m, e, -⟩ := fold_pre (l.drop i) (ns5 (l.take i))
  refine ⟨m, ?_⟩
  rw [← e]
  unfold ns5
  rw [← List.foldl_append, List.take_append_drop]
theorem ns5_len (l : List Tk) : (ns5 l).length ≤ l.length := by
  obtain ⟨m, e, h⟩ := fold_pre l []
  unfold ns5
  rw [e]; simpa using h
theorem ad5_has {ns : List ByteArray} {t : Tk} (h : vq5 t) : t.x ∈ ad5 ns t := by
  unfold ad5
  rw [if_pos h]
  by_cases hm : t.x ∈ ns
  · rw [if_neg fun e => ix5_iff.1 e hm]; exact hm
  · rw [if_pos (ix5_iff.2 hm)]; simp
theorem ns5_has {l : List Tk} {t : Tk} (ht : t ∈ l) (h : vq5 t) : t.x ∈ ns5 l := by
  obtain ⟨i, hi⟩ := List.getElem?_of_mem ht
  obtain ⟨m, e⟩ := ns5_take l (i + 1)
  rw [e]
  refine List.mem_append_left _ ?_
  rw [List.take_add_one, hi, Option.toList_some, ns5_snoc]
  exact ad5_has h
/-- What a name is now. -/
def rh_ (N : List ByteArray) (x : ByteArray) : ByteArray := if x = us5 then us5 else nq5 (ix5 x N)
def rt5 (N : List ByteArray) (t : Tk) : Tk := if vq5 t then { t with x := nq5 (ix5 t.x N) } else t
theorem rt5_k (N : List ByteArray) (t : Tk) : (rt5 N t).k = t.k := by unfold rt5; split <;> rfl
theorem rt5_n (N : List ByteArray) (t : Tk) : (rt5 N t).n = t.n := by unfold rt5; split <;> rfl
theorem rt5_x (N : List ByteArray) {t : Tk} (h : t.k ≠ 2) : (rt5 N t).x = t.x := by
  unfold rt5
  rw [if_neg fun h1 => h h1.1]
theorem rt5_v (N : List ByteArray) {t : Tk} (h : t.k = 2) : (rt5 N t).x = rh_ N t.x := by
  unfold rt5 rh_
  by_cases e : t.x = us5
  · rw [if_neg fun h1 => h1.2 e, if_pos e]; exact e
  · rw [if_pos ⟨h, e⟩, if_neg e]
/-- The number that is found among the names so far is the number at the end. -/
theorem idx_pre {l : List Tk} {i : Nat} {t : Tk} (ht : l[i]? = some t) (h : vq5 t) : ix5 t.x (ns5 l) = ix5 t.x (ns5 (l.take i)) := by
  obtain ⟨m, e⟩ := ns5_take l (i + 1)
  have e1 : ns5 (l.take (i + 1)) = ad5 (ns5 (l.take i)) t := by rw [List.take_add_one, ht, Option.toList_some, ns5_snoc]
  rw [e, e1, (ix5_mem (ad5_has h)).2.2]
  unfold ad5
  rw [if_pos h]
  by_cases hm : t.x ∈ ns5 (l.take i)
  · rw [if_neg fun e => ix5_iff.1 e hm]
  · rw [if_pos (ix5_iff.2 hm), (ix5_not hm).1, (ix5_not hm).2]
theorem rt5_ok {N : List ByteArray} {t : Tk} (h : okt t ∧ (spl t).isSome = true) : okt (rt5 N t) ∧ (spl (rt5 N t)).isSome = true := by
  unfold rt5
  by_cases e : vq5 t
  · rw [if_pos e]
    obtain ⟨⟨h1, h2, h3⟩, h4⟩ := h
    have hn : t.n = 0 := by
      unfold spl at h4
      rw [if_neg (by rw [e.1]; decide), if_pos e.1] at h4
      split at h4
      · rename_i h5; exact h5.2
      · cases h4
    refine ⟨⟨?_, h2, h3⟩, ?_⟩
    · show (nq5 _).size ≤ 2000000
      unfold nq5
      rw [ofL_sz]
      simp
    · unfold spl
      rw [if_neg (by rw [e.1]; decide), if_pos e.1, if_pos ⟨nq5_vrb _, hn⟩]
      rfl
  · rw [if_neg e]; exact h
/-- The text's tokens, spelt anew. -/
def st5 (K : Nat → Int) (l : List Tk) : List Int := bt5 K 0 (l.map (rt5 (ns5 l)))
def cn5 (K : Nat → Int) (l : List Tk) : Cn5 := ⟨fun x => x = us5 ∨ x ∈ ns5 l, rh_ (ns5 l), fun p => (of5 K 0 ((l.map (rt5 (ns5 l))).take (wh5 p l)) 0 : Int)⟩
theorem tq_st (K : Nat → Int) {l : List Tk} {L : Nat} (hu : Up5 L 0 l) (hl : l.length ≤ 456976) : Tq5 (cn5 K l) l (wt5 K 0 0 (l.map (rt5 (ns5 l)))) L (st5 K l).length where
  len := by rw [wt5_len, List.length_map]
  at_ i t ht := by
    have h1 : (l.map (rt5 (ns5 l)))[i]? = some (rt5 (ns5 l) t) := by rw [List.getElem?_map, ht]; rfl
    refine ⟨_, wt5_get K _ 0 0 i _ h1, ⟨rt5_k _ t, rt5_n _ t, fun h => rt5_x _ h, fun h => ⟨?_, rt5_v _ h⟩⟩, ?_⟩
    · show t.x = us5 ∨ t.x ∈ ns5 l
      by_cases e : t.x = us5
      · exact Or.inl e
      · exact Or.inr (ns5_has (List.mem_of_getElem? ht) ⟨h, e⟩)
    · show ((of5 K 0 _ 0 : Nat) : Int) = ((of5 K 0 ((l.map (rt5 (ns5 l))).take (wh5 t.a l)) 0 : Nat) : Int)
      rw [wh5_at l 0 i t hu ht]
  pl := by
    show ((of5 K 0 ((l.map (rt5 (ns5 l))).take (wh5 (L : Int) l)) 0 : Nat) : Int) = _
    rw [wh5_end l 0 hu, ← List.length_map (f := rt5 (ns5 l)), List.take_length, of5_len, Nat.zero_add]
    rfl
  inj x y hx hy h := by
    have hz : ∀ z ∈ ns5 l, ix5 z (ns5 l) < 456976 := fun z hz => by
      have h1 := (ix5_mem hz).1
      have h2 := ns5_len l
      omega
    have h : rh_ (ns5 l) x = rh_ (ns5 l) y := h
    unfold rh_ at h
    by_cases ex : x = us5
    · by_cases ey : y = us5
      · rw [ex, ey]
      · rw [if_pos ex, if_neg ey] at h
        exact absurd h.symm (nq5_us _)
    · by_cases ey : y = us5
      · rw [if_neg ex, if_pos ey] at h
        exact absurd h (nq5_us _)
      · rw [if_neg ex, if_neg ey] at h
        have hx : x ∈ ns5 l := hx.resolve_left ex
        have hy : y ∈ ns5 l := hy.resolve_left ey
        have h1 := nq5_inj (hz x hx) (hz y hy) h
        have h2 := (ix5_mem hx).2.1
        rw [h1, (ix5_mem hy).2.1] at h2
        exact (Option.some.inj h2).symm
  us x _ := by
    show rh_ (ns5 l) x = us5 ↔ x = us5
    unfold rh_
    by_cases ex : x = us5
    · rw [if_pos ex]; exact ⟨fun _ => ex, fun _ => rfl⟩
    · rw [if_neg ex]; exact ⟨fun h => absurd h (nq5_us _), fun h => absurd h ex⟩
end Go.Proofs.YtcpjiahdaplhlaaGreatDoor
/-
  SyntaxTokens: PLAIN: what the text spelt anew says.
-/
namespace Go.Proofs.YtcpjiahdaplhlaaGreatDoor
open Go.RowKit

theorem cut_ok {s : ByteArray} {m : Int} {l : List Tk} (h : cutL (blK s) m = (l, 0, 0)) : (s.size : Int) ≤ m ∧ ct (s.size + 1) (blK s) 0 [] = (l, 0, 0) := by
  unfold cutL at h
  rw [bl_len] at h
  by_cases e : m < (s.size : Int)
  · rw [if_pos e] at h
    have h1 : (41 : Int) = 0 := congrArg (fun z => z.2.1) h
    exact absurd h1 (by decide)
  · rw [if_neg e] at h
    exact ⟨by omega, h⟩
theorem cut_more {s : ByteArray} {m m' : Int} {l : List Tk} (h : cutL (blK s) m = (l, 0, 0)) (hm : m ≤ m') : cutL (blK s) m' = (l, 0, 0) := by
  obtain ⟨h1, h2⟩ := cut_ok h
  unfold cutL
  rw [bl_len, if_neg (by omega)]
  exact h2
/-- What is known of the tokens. -/
theorem cut_facts {s : ByteArray} {m : Int} {l : List Tk} (hs : s.size ≤ 1048576) (h : cutL (blK s) m = (l, 0, 0)) : Up5 s.size 0 l ∧ l.length ≤ s.size ∧ ∀ t ∈ l, okt t ∧ (spl t).isSome = true := by
  obtain ⟨-, h2⟩ := cut_ok h
  have h3 := ct_has (s.size + 1) (blK s) 0 [] s.size (bl_byt s) (by rw [bl_len]; exact Nat.le_refl _) (fun t ht => by cases ht)
  rw [h2] at h3
  obtain ⟨g1, -, -, g2⟩ := h3
  refine ⟨?_, by simpa [bl_len] using g2, fun t ht => ?_⟩
  · obtain ⟨T, hT, hP⟩ := ct_places (blK s) (s.size + 1) 0 0 [] false (by rw [List.drop_zero, bl_len]; omega) (Nat.le_refl _) (Nat.zero_le _) rfl (fun h => by cases h) (by rw [List.drop_zero, h2])
    rw [List.drop_zero, List.nil_append, h2] at hT
    have hT : l = T := hT
    rw [hT]
    have := up_pl _ _ _ hP
    rw [bl_len] at this
    exact this
  · obtain ⟨a, b, c, d⟩ := g1 t ht
    exact ⟨⟨by omega, c, d⟩, a⟩
theorem st5_byt (K : Nat → Int) (l : List Tk) : byt (st5 K l) := bt5_byt K _ 0
/-- The text spelt anew is cut. -/
theorem cut_st (K : Nat → Int) {l : List Tk} (ho : ∀ t ∈ l, okt t ∧ (spl t).isSome = true) {m : Int} (hm : ((st5 K l).length : Int) ≤ m) : cutL (blK (ofL (st5 K l))) m = (wt5 K 0 0 (l.map (rt5 (ns5 l))), 0, 0) := by
  rw [bl_ofL (st5_byt K l)]
  unfold cutL
  rw [if_neg (by omega)]
  unfold st5
  rw [ct_bt5 K _ 0 _ 0 [] (fun t ht => by
    obtain ⟨u, hu, rfl⟩ := List.mem_map.1 ht
    exact rt5_ok (ho u hu)) (Nat.lt_succ_self _), List.nil_append]
theorem pg_st (K : Nat → Int) {s : ByteArray} {m : Int} {l : List Tk} (hm : m ≤ 32768) (h : cutL (blK s) m = (l, 0, 0)) (hz : (st5 K l).length ≤ 32768) :
    pg5 (ofL (st5 K l)) 1048576 = mvE5 (cn5 K l) (pg5 s 1048576) := by
  obtain ⟨h1, -⟩ := cut_ok h
  obtain ⟨g1, g2, g3⟩ := cut_facts (by omega) h
  rw [pg5_cut (cut_more h (by omega)), pg5_cut (cut_st K g3 (by omega)), ofL_sz]
  exact sq_pp (tq_st K g1 (by omega)) _ [] 0 (Nat.zero_le _) rfl
theorem qg_st (K : Nat → Int) {s : ByteArray} {m M : Int} {l : List Tk} (hm : m ≤ 32768) (hM : 32768 ≤ M) (h : cutL (blK s) m = (l, 0, 0)) (hz : (st5 K l).length ≤ 32768) :
    qg5 (ofL (st5 K l)) M = mvE5 (cn5 K l) (qg5 s M) := by
  obtain ⟨h1, -⟩ := cut_ok h
  obtain ⟨g1, g2, g3⟩ := cut_facts (by omega) h
  unfold qg5
  rw [cut_more h (by omega), cut_st K g3 (by omega), ofL_sz]
  exact sq_qy (tq_st K g1 (by omega))
/-- Where a fault lies: at the token where it lay. -/
theorem pi_st (K : Nat → Int) (l : List Tk) (p : Int) : (cn5 K l).π p = (of5 K 0 ((l.map (rt5 (ns5 l))).take (wh5 p l)) 0 : Int) := rfl
end Go.Proofs.YtcpjiahdaplhlaaGreatDoor
/-
  law 5: fill, where, bare.
-/
namespace Go.Proofs.YtcpjiahdaplhlaaGreatDoor
open Go.RowKit
attribute [local go_sem ↓] Go.wp_at_zero Go.wp_at_succ

theorem fill5_any (k : Int) (w : World) : Calls Tryz.prog 38 #[.int .i64 k] w fun e w' => e = .returned (.string (fl5 k)) ∧ w' = w := by
  unfold fl5
  by_cases q0 : k = 0
  · subst q0
    go_enter Tryz.func38, Tryz.ntmps38
    go_wp2
    go_ret
    exact ⟨rfl, rfl⟩
  rw [if_neg q0]
  have n0 : (k == 0) = false := beq_eq_false_iff_ne.2 q0
  by_cases q1 : k = 1
  · subst q1
    go_enter Tryz.func38, Tryz.ntmps38
    go_wp2
    go_ret
    exact ⟨rfl, rfl⟩
  rw [if_neg q1]
  have n1 : (k == 1) = false := beq_eq_false_iff_ne.2 q1
  by_cases q2 : k = 2
  · subst q2
    go_enter Tryz.func38, Tryz.ntmps38
    go_wp2
    go_ret
    exact ⟨rfl, rfl⟩
  rw [if_neg q2]
  have n2 : (k == 2) = false := beq_eq_false_iff_ne.2 q2
  clear q0 q1 q2
  go_enter Tryz.func38, Tryz.ntmps38
  go_wp2
  go_ret
  exact ⟨rfl, rfl⟩
theorem wh5_le (p : Int) : ∀ l : List Tk, wh5 p l ≤ l.length
  | [] => Nat.le_refl _
  | t :: r => by
    have := wh5_le p r
    show (if t.a < p then wh5 p r + 1 else 0) ≤ r.length + 1
    split <;> omega
theorem wh5_lt (p : Int) : ∀ (l : List Tk) (j : Nat), j < wh5 p l → ∃ t, l[j]? = some t ∧ t.a < p
  | [], j, h => by exact absurd h (by show ¬ j < 0; omega)
  | t :: r, j, h => by
    have h : j < if t.a < p then wh5 p r + 1 else 0 := h
    by_cases e : t.a < p
    · rw [if_pos e] at h
      cases j with
      | zero => exact ⟨t, rfl, e⟩
      | succ j => exact wh5_lt p r j (by omega)
    · rw [if_neg e] at h; omega
theorem wh5_stop (p : Int) : ∀ l : List Tk, wh5 p l = l.length ∨ ∃ t, l[wh5 p l]? = some t ∧ ¬ t.a < p
  | [] => Or.inl rfl
  | t :: r => by
    by_cases e : t.a < p
    · have e1 : wh5 p (t :: r) = wh5 p r + 1 := if_pos e
      rw [e1]
      rcases wh5_stop p r with h | ⟨u, h, hu⟩
      · exact Or.inl (by rw [h]; rfl)
      · exact Or.inr ⟨u, h, hu⟩
    · have e1 : wh5 p (t :: r) = 0 := if_neg e
      rw [e1]
      exact Or.inr ⟨t, rfl, e⟩
set_option maxRecDepth 20000 in
set_option maxHeartbeats 2000000 in
theorem where5_any (l : List Tk) (p : Int) (v : Value) (w : World) (h : Ks w v l) (hl : l.length ≤ 2000000) :
    Calls Tryz.prog 13 #[v, .int .i64 p] w fun e w' => e = .returned (.int .i64 (wh5 p l : Int)) ∧ Below w.heap.size w w' := by
  obtain ⟨va, vc, rfl, hm⟩ := h
  obtain ⟨n, hn⟩ : ∃ n, l.length = n := ⟨_, rfl⟩
  obtain ⟨q, hq⟩ : ∃ q, wh5 p l = q := ⟨_, rfl⟩
  have hql := wh5_le p l
  rw [hq, hn] at hql
  rw [hn] at hl ⊢
  rw [hq]
  have HN := hm7 hn
  have HQ := hm7 hq
  have HM := hm7 hm
  clear hn hq hm
  go_enter Tryz.func13, Tryz.ntmps13
  go_wp2
  go_loopg [5] q (fun g i wr => ∃ j : Nat, j + g = q ∧ i = .int .i64 (j : Int) ∧ wr = w)
  case atStart => exact ⟨0, by omega, rfl, rfl⟩
  case round =>
    obtain ⟨j, hj, rfl, hw⟩ := hrel
    rw [hw]
    clear hw
    cases gk with
    | succ g =>
      obtain ⟨t, ht, hta⟩ := wh5_lt p l j (by rw [HQ.out]; omega)
      have hM : ∃ b o, va = some ⟨b, o, none⟩ ∧ w.cell? ⟨b, o + j * 5 + 3, none⟩ = some (.int .i64 t.a) := by
        rcases HM.out with e | ⟨b, o, e, -, hc⟩
        · rw [e] at ht; simp at ht
        · exact ⟨b, o, e, (hc j t ht).2.2.2.1⟩
      obtain ⟨b, o, rfl, c3⟩ := hM
      have i0 : (0 : Int) ≤ (j : Int) := by omega
      have i1 : (j : Int) < (n : Int) := by omega
      clear ht
      go_wp2
      go_roundg g
      case measure => omega
      case rel => exact ⟨j + 1, by omega, by go_num, rfl⟩
    | zero =>
      obtain rfl : j = q := by omega
      rcases wh5_stop p l with e | ⟨t, ht, hta⟩
      · have i1 : ¬ (j : Int) < (n : Int) := by have := HQ.out; have := HN.out; omega
        clear e
        go_wp2
        go_ret
        exact ⟨rfl, Below.refl _ _⟩
      · rw [HQ.out] at ht
        have hM : ∃ b o, va = some ⟨b, o, none⟩ ∧ w.cell? ⟨b, o + j * 5 + 3, none⟩ = some (.int .i64 t.a) := by
          rcases HM.out with e | ⟨b, o, e, -, hc⟩
          · rw [e] at ht; simp at ht
          · exact ⟨b, o, e, (hc j t ht).2.2.2.1⟩
        obtain ⟨b, o, rfl, c3⟩ := hM
        have i0 : (0 : Int) ≤ (j : Int) := by omega
        have i1 : (j : Int) < (n : Int) := by
          have := (List.getElem?_eq_some_iff.1 ht).1
          have := HN.out
          omega
        clear ht
        go_wp2
        go_ret
        exact ⟨rfl, Below.refl _ _⟩
/-- A token without its places. -/
def bar5 (t : Tk) : Tk := ⟨t.k, t.x, t.n, 0, 0⟩
set_option maxRecDepth 20000 in
set_option maxHeartbeats 2000000 in
theorem bare5_any (l : List Tk) (v : Value) (w : World) (h : Ks w v l) (hl : l.length ≤ 2000000) :
    Calls Tryz.prog 10 #[v] w fun e w' => ∃ v', e = .returned v' ∧ OwnK w' w.heap.size v' (l.map bar5) ∧ Below w.heap.size w w' := by
  obtain ⟨va, vc, rfl, hm⟩ := h
  obtain ⟨n, hn⟩ : ∃ n, l.length = n := ⟨_, rfl⟩
  rw [hn] at hl ⊢
  have HN := hm7 hn
  have HM := hm7 hm
  clear hn hm
  go_enter Tryz.func10, Tryz.ntmps10
  go_wp2
  go_loopg [3, 4] n (fun g u i wr => ∃ j : Nat, j + g = n ∧ i = .int .i64 (j : Int) ∧ OwnK wr w.heap.size u ((l.take j).map bar5) ∧ Below w.heap.size w wr)
  case atStart => exact ⟨0, by omega, rfl, OwnK.nil _ _, Below.refl _ _⟩
  case round =>
    obtain ⟨j, hj, rfl, ho, hb⟩ := hrel
    have HB := hm7 hb
    have HO := hm7 ho
    have HLJ : Hid (((l.take j).map bar5).length = j) := by show _ = _; rw [List.length_map, List.length_take, HN.out]; omega
    obtain ⟨ua, uc, huf, -⟩ := row7_form ho
    rw [HLJ.out] at huf
    subst huf
    have hsz := hb.size
    clear hb ho
    cases gk with
    | succ g =>
      obtain ⟨t, ht⟩ : ∃ t, l[j]? = some t := ⟨_, List.getElem?_eq_getElem (by have := HN.out; omega)⟩
      have hM : ∃ b o, va = some ⟨b, o, none⟩ ∧ b < w.heap.size ∧ w.cell? ⟨b, o + j * 5, none⟩ = some (.int .i64 t.k) ∧ w.cell? ⟨b, o + j * 5 + 1, none⟩ = some (.string t.x) ∧ w.cell? ⟨b, o + j * 5 + 2, none⟩ = some (.int .i64 t.n) ∧ w.cell? ⟨b, o + j * 5 + 3, none⟩ = some (.int .i64 t.a) ∧ w.cell? ⟨b, o + j * 5 + 4, none⟩ = some (.int .i64 t.e) := by
        rcases HM.out with e | ⟨b, o, e, hlt, hc⟩
        · rw [e] at ht; simp at ht
        · exact ⟨b, o, e, hlt, hc j t ht⟩
      obtain ⟨b, o, rfl, hlt, c0, c1, c2, c3, c4⟩ := hM
      have d0 := cell_step HB.out hlt c0
      have d1 := cell_step HB.out hlt c1
      have d2 := cell_step HB.out hlt c2
      have d3 := cell_step HB.out hlt c3
      have d4 := cell_step HB.out hlt c4
      have HTK : Hid ((l.take (j + 1)).map bar5 = (l.take j).map bar5 ++ [bar5 t]) := by
        show _ = _
        rw [List.take_add_one, ht, Option.toList_some, List.map_append]
        rfl
      clear c0 c1 c2 c3 c4 hlt ht
      obtain ⟨tk, tx, tn, ta, te⟩ := t
      simp only at d0 d1 d2 d3 d4
      have i0 : (0 : Int) ≤ (j : Int) := by omega
      have i1 : (j : Int) < (n : Int) := by omega
      have HBK := hm7 (heap_alloc2_new wr (.cells #[.int .i64 tk, .string tx, .int .i64 tn, .int .i64 0, .int .i64 0] 64) (.cells #[.int .i64 tk, .string tx, .int .i64 tn, .int .i64 0, .int .i64 0] 64))
      have HB2 := hm7 (below2 wr (.cells #[.int .i64 tk, .string tx, .int .i64 tn, .int .i64 0, .int .i64 0] 64) (.cells #[.int .i64 tk, .string tx, .int .i64 tn, .int .i64 0, .int .i64 0] 64))
      have HO2 := hm7 (HO.out.later HB2.out)
      go_wp2_with (at_builtin; refine app_tok rfl _ _ rfl w.heap.size (.slice ua j uc) ((l.take j).map bar5) rfl HO2.out (wr.heap.size + 1) ⟨tk, tx, tn, 0, 0⟩ rfl HBK.out (by rw [HLJ.out]; omega) (Nat.le_trans hsz HB2.out.size) ?_; intro v5 w5 ho5 hb5 hg5; have HO5 := hm7 ho5; have HB5 := hm7 hb5; clear ho5 hb5 hg5)
      try go_wp2
      go_roundg g
      case measure => omega
      case rel => exact ⟨j + 1, by omega, by go_num, by rw [HTK.out]; exact HO5.out, (below_step HB.out HB2.out).trans HB5.out⟩
    | zero =>
      obtain rfl : j = n := by omega
      have i1 : ¬ (j : Int) < (j : Int) := by omega
      go_wp2
      go_ret
      refine ⟨_, rfl, ?_, HB.out⟩
      have := HO.out
      rw [List.take_of_length_le (by rw [HN.out]; exact Nat.le_refl _)] at this
      exact this
end Go.Proofs.YtcpjiahdaplhlaaGreatDoor
