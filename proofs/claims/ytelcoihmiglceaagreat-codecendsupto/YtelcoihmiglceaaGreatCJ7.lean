import Derived.Test.YtelcoihmiglceaaGreatCD1
import Derived.Test.YtelcoihmiglceaaGreatCG3
import Derived.Test.YtelcoihmiglceaaGreatCG1
import Derived.Test.YtelcoihmiglceaaGreatCR4
import Derived.Test.YtelcoihmiglceaaGreatCP3
import Derived.Test.YtelcoihmiglceaaGreatSD4
import Derived.Test.YtelcoihmiglceaaGreatW3
import Derived.Test.YtelcoihmiglceaaGreatCL8
namespace Go.Proofs.YtelcoihmiglceaaGreat
open Go.RowKit

theorem fold_be (k : Nat) (n : Int) : ∀ v : Int, (be k n).foldl (fun v b => v * 256 + b) v = v * (256 : Int) ^ k + n % (256 : Int) ^ k := by
 induction k with
 | zero => intro v; simp [be, Int.emod_one]
 | succ k ih =>
  intro v
  simp only [be, List.foldl_cons, ih]
  have hp : (0 : Int) < 256 ^ k := Int.pow_pos (by omega)
  have e : (256 : Int) ^ (k + 1) = 256 ^ k * 256 := Int.pow_succ _ _
  rw [e]
  generalize (256 : Int) ^ k = A at *
  have h1 : n / (A * 256) = n / A / 256 := (Int.ediv_ediv_of_nonneg (Int.le_of_lt hp)).symm
  rw [Int.emod_def n (A * 256), h1, Int.emod_def n A, Int.emod_def (n / A) 256]
  generalize n / A = q
  generalize q / 256 = r
  grind
theorem val_be (k : Nat) (n : Int) : val (be k n) = n % (256 : Int) ^ k := by
 unfold val; rw [fold_be]; simp
theorem rTake_app (l r : List Int) : rTake l.length (l ++ r) = .ok (l, r) := by
 unfold rTake
 rw [if_neg (by simp)]
 simp
theorem rNum_be (k : Nat) (n : Int) (r : List Int) (h0 : 0 <= n) (h1 : n < (256 : Int) ^ k) : rNum k (be k n ++ r) = .ok (n, r) := by
 have := rTake_app (be k n) r
 rw [be_len] at this
 unfold rNum
 rw [this]
 simp only [Rd.and, val_be, Int.emod_eq_of_lt h0 h1]
theorem rNum_one (n : Int) (r : List Int) : rNum 1 (n :: r) = .ok (n, r) := by
 unfold rNum rTake
 simp [Rd.and, val]
theorem rBnd_one {lo hi n : Int} (r : List Int) (h0 : lo <= n) (h1 : n <= hi) : rBnd lo hi (n :: r) = .ok (n, r) := by
 unfold rBnd
 rw [rNum_one]
 simp only [Rd.and]
 rw [if_neg (by omega)]
theorem rOne_one {cs : List Int} {n : Int} (r : List Int) (h : n ∈ cs) : rOne cs (n :: r) = .ok (n, r) := by
 unfold rOne
 rw [rNum_one]
 simp only [Rd.and]
 rw [if_pos h]
theorem rText_sB {lo hi : Int} {s : ByteArray} (r : List Int) (h0 : lo <= s.size) (h1 : (s.size : Int) <= hi) : rText lo hi (sB s ++ r) = .ok (ofL (bl s), r) := by
 have := rTake_app (bl s) r
 rw [bl_len] at this
 unfold rText sB
 rw [List.cons_append, rBnd_one _ h0 h1]
 simp only [Rd.and, Int.toNat_natCast]
 rw [this]
theorem rMany_flat {α : Type} {one : List Int -> Rd α} {f : α -> List Int} : ∀ (L : List α) (r : List Int), (∀ x ∈ L, ∀ r, one (f x ++ r) = .ok (x, r)) -> rMany one L.length (L.flatMap f ++ r) = .ok (L, r)
 | [], r, _ => by simp [rMany]
 | x :: L, r, h => by
  simp only [List.flatMap_cons, List.append_assoc, List.length_cons, rMany]
  rw [h x (by simp)]
  simp only [Rd.and]
  rw [rMany_flat L r (fun y hy => h y (by simp [hy]))]
end Go.Proofs.YtelcoihmiglceaaGreat
namespace Go.Proofs.YtelcoihmiglceaaGreat
open Go.RowKit

def rng (t : Tm) : Prop := -9223372036854775808 <= t.n /\ t.n <= 9223372036854775807
theorem wrap_back {n : Int} (h0 : -9223372036854775808 <= n) (h1 : n <= 9223372036854775807) : wrap64 (n % 18446744073709551616) = n := by
 unfold wrap64
 omega
theorem empty_size {s : ByteArray} (h : s.size = 0) : s = ⟨#[]⟩ := by
 obtain ⟨a⟩ := s
 have : a.size = 0 := h
 rw [Array.eq_empty_of_size_eq_zero this]
theorem rTermOf_tB {t : Tm} (r : List Int) (lo : Int) (h : t.cov = true) (hr : rng t) (hl : t.k = 2 -> lo <= t.s.size) : ∃ l, tB t = t.k :: l /\ rTermOf t.k lo (l ++ r) = .ok (t, r) := by
 obtain ⟨k, n, s⟩ := t
 unfold Tm.cov at h
 simp only [Tm.con, Tm.var, Bool.or_eq_true, decide_eq_true_eq] at h
 obtain ⟨g0, g1⟩ := hr
 simp only at g0 g1 hl
 have hp : (256 : Int) ^ 8 = 18446744073709551616 := by decide
 rcases h with (⟨rfl, rfl⟩ | ⟨rfl, rfl, h2⟩) | ⟨rfl, h0, rfl⟩
 ·refine ⟨be 8 (n % 18446744073709551616), by simp [tB], ?_⟩
  unfold rTermOf
  rw [if_pos rfl, rNum_be 8 _ r (Int.emod_nonneg _ (by omega)) (by rw [hp]; exact Int.emod_lt_of_pos _ (by omega))]
  simp only [Rd.and]
  rw [wrap_back g0 g1]
 ·refine ⟨sB s, by simp [tB], ?_⟩
  unfold rTermOf
  rw [if_neg (by simp), if_pos rfl, rText_sB r (hl rfl) (by omega)]
  simp only [Rd.and]
  rw [ofL_bl]
 ·refine ⟨be 8 (n % 18446744073709551616), by simp [tB], ?_⟩
  unfold rTermOf rNat
  rw [if_neg (by simp), if_neg (by simp), if_pos rfl, rNum_be 8 _ r (Int.emod_nonneg _ (by omega)) (by rw [hp]; exact Int.emod_lt_of_pos _ (by omega))]
  simp only [Rd.and]
  rw [Int.emod_eq_of_lt h0 (by omega), if_neg (by omega)]
theorem rArg_tB {t : Tm} (r : List Int) (h : t.cov = true) (hr : rng t) : rArg (tB t ++ r) = .ok (t, r) := by
 obtain ⟨l, e, h2⟩ := rTermOf_tB r 0 h hr (fun _ => by omega)
 have hk : t.k ∈ [(1 : Int), 2, 3] := by
  unfold Tm.cov at h
  simp only [Tm.con, Tm.var, Bool.or_eq_true, decide_eq_true_eq] at h
  simp only [List.mem_cons, List.mem_nil_iff, or_false]
  omega
 unfold rArg
 rw [e, List.cons_append, rOne_one _ hk]
 exact h2
theorem rQual_tB {t : Tm} (r : List Int) (h : qualOk t = true) (hr : rng t) : rQual (tB t ++ r) = .ok (t, r) := by
 by_cases hz : t = zt
 ·subst hz
  unfold rQual
  rw [show tB zt ++ r = 0 :: r from by simp [tB, zt], rOne_one _ (by simp)]
  simp [Rd.and, rTermOf]
 ·have hc : t.cov = true /\ (t.k = 2 /\ 1 <= t.s.size ∨ t.k = 3) := by
   unfold qualOk at h
   simp only [Tm.prin, Tm.var, Bool.or_eq_true, decide_eq_true_eq] at h
   unfold Tm.cov
   simp only [Tm.con, Tm.var, Bool.or_eq_true, decide_eq_true_eq]
   rcases h with h | ⟨h1, h2, h3, h4⟩ | h
   ·exact absurd h hz
   ·refine ⟨.inl (.inr ⟨h1, h2, h3⟩), .inl ⟨h1, ?_⟩⟩
    rcases Nat.eq_zero_or_pos t.s.size with h5 | h5
    ·exact absurd (empty_size h5) h4
    ·exact h5
   ·exact ⟨.inr h, .inr h.1⟩
  obtain ⟨l, e, h2⟩ := rTermOf_tB r 1 hc.1 hr (fun h2 => by have := hc.2; omega)
  have hk : t.k ∈ [(0 : Int), 2, 3] := by
   have := hc.2
   simp only [List.mem_cons, List.mem_nil_iff, or_false]
   omega
  unfold rQual
  rw [e, List.cons_append, rOne_one _ hk]
  exact h2
theorem rName_sB {s : ByteArray} (r : List Int) (h : nameOk s = true) (h0 : 1 <= s.size) (h1 : s.size <= 32) : rName (sB s ++ r) = .ok (s, r) := by
 unfold rName
 rw [rText_sB r (by omega) (by omega)]
 simp only [Rd.and, ofL_bl]
 rw [if_pos h]
theorem rAtom_aB {a : At} (r : List Int) (h : a.err = 0) (hr : ∀ t ∈ a.pl, rng t) : rAtom (aB a ++ r) = .ok (a, r) := by
 obtain ⟨b, nm, ts⟩ := a
 have hf : nameOk nm = true /\ ts.length <= 8 /\ qualOk b = true /\ ∀ t ∈ ts, t.cov = true := by
  unfold At.err at h
  simp only at h
  split at h
  ·cases h
  ·rename_i h1
   split at h
   ·cases h
   ·rename_i h2
    split at h
    ·cases h
    ·rename_i h3
     split at h
     ·rename_i h4
      exact ⟨by simpa using h1, by omega, by simpa using h3, fun t ht => List.all_eq_true.1 h4 t ht⟩
     ·cases h
 obtain ⟨h1, h2, h3, h4⟩ := hf
 have hn : 1 <= nm.size /\ nm.size <= 32 := by
  unfold nameOk nameHead at h1
  simp only [Bool.and_eq_true, decide_eq_true_eq] at h1
  refine ⟨?_, h1.1.1.2.1⟩
  rcases Nat.eq_zero_or_pos nm.size with h5 | h5
  ·exact absurd (empty_size h5) h1.1.1.1
  ·exact h5
 unfold rAtom aB
 simp only [List.append_assoc, List.cons_append]
 rw [rQual_tB _ h3 (hr b (by simp [At.pl]))]
 simp only [Rd.and]
 rw [rName_sB _ h1 hn.1 hn.2]
 simp only
 rw [rBnd_one _ (by omega) (by omega)]
 simp only [Int.toNat_natCast]
 rw [rMany_flat ts r (fun t ht r => rArg_tB r (h4 t ht) (hr t (by simp [At.pl, ht])))]
end Go.Proofs.YtelcoihmiglceaaGreat
namespace Go.Proofs.YtelcoihmiglceaaGreat
open Go.RowKit

theorem chk_errs {c : Cm} (h : c.chk = 0) : (∀ a ∈ c.key.1 :: c.key.2.1, a.err = 0) /\ (∀ e ∈ c.key.2.2, e.ok = true) /\ c.key.2.1.length <= 8 /\ c.key.2.2.length <= 8 := by
 have h1 : long c = false := by
  cases e : long c
  ·rfl
  ·rw [chk_1 e] at h; cases h
 have h2 : aErr c.atoms = 0 := by
  by_cases e : aErr c.atoms = 0
  ·exact e
  ·rw [chk_2 h1 e] at h; exact absurd h e
 have h3 : badT c = false := by
  cases e : badT c
  ·rfl
  ·rw [chk_3 h1 h2 e] at h; cases h
 have hall := aErr_all h2
 have h4 := chk_fit h
 refine ⟨fun a ha => ?_, fun e he => ?_, h4.2.2.1, h4.2.2.2⟩
 ·rcases List.mem_cons.1 ha with rfl | ha
  ·exact hall c.head (by simp [Cm.atoms])
  ·obtain ⟨x, hx, rfl⟩ := List.mem_map.1 ha
   exact hall x (by simp [Cm.atoms, hx])
 ·have := List.any_eq_false.1 h3 e he
  simpa only [Bool.not_eq_true, Bool.not_eq_false'] using this
theorem rTest_eB {e : Te} (r : List Int) (h : e.ok = true) (hl : rng e.l) (hr : rng e.r) : rTest (eB e ++ r) = .ok (e, r) := by
 obtain ⟨op, x, y⟩ := e
 unfold Te.ok at h
 simp only [Bool.and_eq_true, decide_eq_true_eq] at h
 obtain ⟨⟨h1, h2⟩, h3, h4⟩ := h
 have hk : op ∈ [(1 : Int), 2, 3, 4] := by
  simp only [List.mem_cons, List.mem_nil_iff, or_false]
  omega
 unfold rTest eB
 simp only [List.cons_append, List.append_assoc]
 rw [rOne_one _ hk]
 simp only [Rd.and]
 rw [rArg_tB _ h3 hl]
 simp only
 rw [rArg_tB _ h4 hr]
structure Rng (x : Ck) : Prop where
 a : ∀ a ∈ x.1 :: x.2.1, ∀ t ∈ a.pl, rng t
 e : ∀ e ∈ x.2.2, rng e.l /\ rng e.r
theorem rClause_cB {c : Cm} (r : List Int) (h : c.chk = 0) (hr : Rng c.key) : rClause (cB c.key ++ r) = .ok (c.key, r) := by
 obtain ⟨h1, h2, h3, h4⟩ := chk_errs h
 rw [chk_keyK] at h
 generalize c.key = x at *
 obtain ⟨a, b, ts⟩ := x
 obtain ⟨ra, re⟩ := hr
 simp only at h1 h2 h3 h4 ra re
 unfold rClause cB
 simp only [List.append_assoc, List.cons_append]
 rw [rAtom_aB _ (h1 a (by simp)) (ra a (by simp))]
 simp only [Rd.and]
 rw [rBnd_one _ (by omega) (by omega)]
 simp only [Int.toNat_natCast]
 rw [rMany_flat b _ (fun y hy r => rAtom_aB r (h1 y (by simp [hy])) (ra y (by simp [hy])))]
 simp only
 rw [rBnd_one _ (by omega) (by omega)]
 simp only [Int.toNat_natCast]
 rw [rMany_flat ts _ (fun y hy r => rTest_eB r (h2 y hy) (re y hy).1 (re y hy).2)]
 simp only
 rw [if_pos h]
theorem rWhole_cB {c : Cm} (h : c.chk = 0) (hr : Rng c.key) : rWhole rClause (cB c.key) = .ok c.key := by
 have := rClause_cB [] h hr
 rw [List.append_nil] at this
 unfold rWhole
 rw [this]
 simp
theorem rWhole_aB {a : At} (h : a.err = 0) (hr : ∀ t ∈ a.pl, rng t) : rWhole rAtom (aB a) = .ok a := by
 have := rAtom_aB [] h hr
 rw [List.append_nil] at this
 unfold rWhole
 rw [this]
 simp
end Go.Proofs.YtelcoihmiglceaaGreat
namespace Go.Proofs.YtelcoihmiglceaaGreat
open Go.RowKit

theorem rVal_tB {t : Tm} (r : List Int) (h : t.con = true) (hr : rng t) : rVal (tB t ++ r) = .ok (t, r) := by
 obtain ⟨l, e, h2⟩ := rTermOf_tB r 0 (by unfold Tm.cov; rw [h]; rfl) hr (fun _ => by omega)
 have hk : t.k ∈ [(1 : Int), 2] := by
  simp only [Tm.con, decide_eq_true_eq] at h
  simp only [List.mem_cons, List.mem_nil_iff, or_false]
  omega
 unfold rVal
 rw [e, List.cons_append, rOne_one _ hk]
 exact h2
theorem rNat_nB {n : Int} (r : List Int) (h0 : 0 <= n) (h1 : n <= 9223372036854775807) : rNat (nB n ++ r) = .ok (n, r) := by
 unfold rNat nB
 rw [Int.emod_eq_of_lt h0 (by omega), rNum_be 8 n r h0 (by have h4 : (256 : Int) ^ 8 = 18446744073709551616 := (by decide); omega)]
 simp only [Rd.and]
 rw [if_neg (by omega)]
structure Sw (s : Sk) : Prop where
 w : wOk s = true
 t : ∀ t ∈ s.2.1, rng t
 n : s.1 <= 9223372036854775807
 u : ∀ n ∈ s.2.2, n <= 9223372036854775807
 lt : s.2.1.length < 4294967296
 lu : s.2.2.length < 4294967296
theorem wOk_iff {s : Sk} : wOk s = true ↔ (∀ t ∈ s.2.1, t.con = true) /\ (∀ n ∈ s.2.2, 0 <= n) /\ 0 <= s.1 := by
 unfold wOk
 simp only [Bool.and_eq_true, List.all_eq_true, decide_eq_true_eq]
theorem rStep_stB {s : Sk} (r : List Int) (h : Sw s) : rStep (stB s ++ r) = .ok (s, r) := by
 obtain ⟨h1, h2, h3⟩ := wOk_iff.1 h.w
 have lt := h.lt
 have lu := h.lu
 unfold rStep stB
 rw [List.append_assoc, rNat_nB _ h3 h.n]
 simp only [Rd.and]
 rw [List.append_assoc, List.append_assoc, rNum_be 4 _ _ (by omega) (by have h4 : (256 : Int) ^ 4 = 4294967296 := (by decide); omega)]
 simp only
 rw [Int.toNat_natCast, rMany_flat _ _ (fun x hx r => rVal_tB r (h1 x hx) (h.t x hx))]
 simp only
 rw [List.append_assoc, rNum_be 4 _ _ (by omega) (by have h4 : (256 : Int) ^ 4 = 4294967296 := (by decide); omega)]
 simp only
 rw [Int.toNat_natCast, rMany_flat _ _ (fun x hx r => rNat_nB r (h2 x hx) (h.u x hx))]
def pK (x : Pk) : List Int := be 4 (x.1.length : Int) ++ x.1.flatMap cB ++ (be 4 (x.2.length : Int) ++ x.2.flatMap stB)
theorem pB_pK (R : List Cm) (S : List St) : pB R S = pK (R.map Cm.key, S.map St.key) := by
 have e1 : ∀ l : List Cm, l.flatMap cBm = (l.map Cm.key).flatMap cB := fun l => by
  induction l with
  | nil => rfl
  | cons a l ih => rw [List.flatMap_cons, List.map_cons, List.flatMap_cons, ih]; rfl
 have e2 : ∀ l : List St, l.flatMap sBm = (l.map St.key).flatMap stB := fun l => by
  induction l with
  | nil => rfl
  | cons a l ih => rw [List.flatMap_cons, List.map_cons, List.flatMap_cons, ih]; rfl
 unfold pB pK
 rw [e1, e2]
 simp only [List.length_map]
theorem rProof_pK {R : List Cm} {S : List Sk} (r : List Int) (hc : ∀ c ∈ R, c.chk = 0 /\ Rng c.key) (hs : ∀ s ∈ S, Sw s) (h1 : R.length < 4294967296) (h2 : S.length < 4294967296) : rProof (pK (R.map Cm.key, S) ++ r) = .ok ((R.map Cm.key, S), r) := by
 have hl : (R.map Cm.key).length < 4294967296 := by rw [List.length_map]; exact h1
 unfold rProof pK
 simp only
 rw [List.append_assoc, List.append_assoc, rNum_be 4 _ _ (by omega) (by have h4 : (256 : Int) ^ 4 = 4294967296 := (by decide); omega)]
 simp only [Rd.and]
 rw [Int.toNat_natCast, rMany_flat _ _ (fun x hx r => by obtain ⟨c, hcR, rfl⟩ := List.mem_map.1 hx; exact rClause_cB r (hc c hcR).1 (hc c hcR).2)]
 simp only
 rw [List.append_assoc, rNum_be 4 _ _ (by omega) (by have h4 : (256 : Int) ^ 4 = 4294967296 := (by decide); omega)]
 simp only
 rw [Int.toNat_natCast, rMany_flat _ _ (fun x hx r => rStep_stB r (hs x hx))]
theorem rWhole_pK {R : List Cm} {S : List Sk} (hc : ∀ c ∈ R, c.chk = 0 /\ Rng c.key) (hs : ∀ s ∈ S, Sw s) (h1 : R.length < 4294967296) (h2 : S.length < 4294967296) : rWhole rProof (pK (R.map Cm.key, S)) = .ok (R.map Cm.key, S) := by
 have := rProof_pK (r := []) hc hs h1 h2
 rw [List.append_nil] at this
 unfold rWhole
 rw [this]
 simp only [if_true]
end Go.Proofs.YtelcoihmiglceaaGreat
namespace Go.Proofs.YtelcoihmiglceaaGreat

abbrev ltC3 (a b : Ck) : Prop := cmpC a b < 0
theorem dkN_mem {l : List Cm} {k : Ck} : ∀ n, k ∈ dkN l n -> ∃ i c, i < n /\ l[i]? = some c /\ c.key = k
 | 0, h => by simp [dkN] at h
 | n + 1, h => by
  unfold dkN at h
  rcases List.mem_append.1 h with h | h
  ·obtain ⟨i, c, h1, h2⟩ := dkN_mem n h
   exact ⟨i, c, by omega, h2⟩
  ·cases hc : l[n]? with
   | none => rw [hc] at h; simp at h
   | some c =>
    rw [hc] at h
    simp only at h
    split at h
    ·rw [List.mem_singleton] at h; exact ⟨n, c, by omega, hc, h.symm⟩
    ·simp at h
theorem dkN_has {l : List Cm} : ∀ n i c, i < n -> l[i]? = some c -> c.key ∈ dkN l n
 | 0, _, _, h, _ => by omega
 | n + 1, i, c, h, hc => by
  unfold dkN
  by_cases hi : i = n
  ·subst hi
   rw [hc]
   simp only
   by_cases hk : kpt l i c = true
   ·rw [if_pos hk]; simp
   ·have hk' : kpt l i c = false := by simpa using hk
    rw [if_neg hk, List.append_nil]
    unfold kpt prv at hk'
    by_cases h0 : i = 0
    ·rw [if_pos h0] at hk'; cases hk'
    ·rw [if_neg h0] at hk'
     cases hp : l[i - 1]? with
     | none => rw [hp] at hk'; cases hk'
     | some p =>
      rw [hp] at hk'
      simp only [ne_eq, decide_not, Bool.not_eq_false', decide_eq_true_eq] at hk'
      rw [cmp_key] at hk'
      have := ord_c.zero _ _ hk'
      rw [<- this]
      exact dkN_has i (i - 1) p (by omega) hp
  ·exact List.mem_append.2 (Or.inl (dkN_has n i c (by omega) hc))
theorem dkN_rise {l : List Cm} (hs : srtC l) : ∀ n, (dkN l n).Pairwise ltC3
 | 0 => List.Pairwise.nil
 | n + 1 => by
  have ih := dkN_rise hs n
  cases hc : l[n]? with
  | none => unfold dkN; rw [hc]; simpa using ih
  | some c =>
   by_cases hk : kpt l n c = true
   ·rw [dkN_yes hc hk]
    refine List.pairwise_append.2 ⟨ih, List.pairwise_singleton _ _, fun a ha b hb => ?_⟩
    rw [List.mem_singleton] at hb
    subst hb
    obtain ⟨i, x, hi, hx, rfl⟩ := dkN_mem n ha
    have hsr : ∀ i j (x y : Cm), i < j -> l[i]? = some x -> l[j]? = some y -> cmpC x.key y.key <= 0 := fun i j x y hij hx hy => by
     obtain ⟨h1, rfl⟩ := List.getElem?_eq_some_iff.1 hx
     obtain ⟨h2, rfl⟩ := List.getElem?_eq_some_iff.1 hy
     exact List.pairwise_iff_getElem.1 hs i j h1 h2 hij
    unfold kpt prv at hk
    rw [if_neg (by omega)] at hk
    obtain ⟨p, hp⟩ : ∃ p, l[n - 1]? = some p := ⟨_, List.getElem?_eq_getElem (by have := (List.getElem?_eq_some_iff.1 hc).1; omega)⟩
    rw [hp] at hk
    simp only [ne_eq, decide_not, Bool.not_eq_true', decide_eq_false_iff_not] at hk
    rw [cmp_key] at hk
    have h1 := hsr (n - 1) n p c (by omega) hp hc
    have h2 : cmpC p.key c.key < 0 := by omega
    have h3 : cmpC x.key p.key <= 0 := by
     by_cases e : i = n - 1
     ·subst e; rw [hx] at hp; cases hp; rw [ord_c.refl]; omega
     ·exact hsr i (n - 1) x p (by omega) hx hp
    exact (ord_c.tr _ _ _ h3 h1).2 (Or.inr h2)
   ·rw [dkN_no hc (by simpa using hk)]; exact ih
structure SetK (K : List Ck) (l : List Cm) : Prop where
 rise : K.Pairwise ltC3
 mem : ∀ k, k ∈ K ↔ ∃ c ∈ l, c.key = k
theorem SetK.of {l l' : List Cm} (hp : l'.Perm l) (hs : srtC l') : SetK (dkN l' l'.length) l :=
 ⟨dkN_rise hs _, fun k => ⟨fun h => by
   obtain ⟨i, c, -, hc, e⟩ := dkN_mem _ h
   exact ⟨c, hp.mem_iff.1 (List.mem_of_getElem? hc), e⟩, fun ⟨c, hc, e⟩ => by
   obtain ⟨i, hi, hc⟩ := List.mem_iff_getElem.1 (hp.mem_iff.2 hc)
   subst e
   exact dkN_has _ i c hi (by rw [List.getElem?_eq_getElem hi, hc])⟩⟩
end Go.Proofs.YtelcoihmiglceaaGreat
namespace Go.Proofs.YtelcoihmiglceaaGreat
open Go.RowKit
attribute [local go_sem ↓] Go.wp_at_zero Go.wp_at_succ

theorem dkN_len (l : List Cm) : ∀ n, (dkN l n).length <= n
 | 0 => Nat.le_refl _
 | n + 1 => by
  have := dkN_len l n
  unfold dkN
  rw [List.length_append]
  split
  ·split <;> simp <;> omega
  ·simp; omega
theorem set2_any (l : List Cm) (v : Value) (w : World) (h : CsP w v l) (hl : l.length <= 1000000000) (hz : ∀ c ∈ l, c.sml) :
  Calls Tryz.prog 36 #[v] w fun e w' => ∃ v' o, e = .returned v' /\ CsP w' v' o /\ o.length <= l.length /\ SetK (o.map Cm.key) l /\ Below w.heap.size w w' :=
 (set_any l v w h hl hz).mono fun e w' ⟨v', he, o, ho, l', hk, hp, hs, hb⟩ => ⟨v', o, he, ho.csp, by
  have h1 := dkN_len l' l'.length
  rw [<- hk, List.length_map, hp.length_eq] at h1
  exact h1, by rw [hk]; exact SetK.of hp hs, hb⟩
end Go.Proofs.YtelcoihmiglceaaGreat
namespace Go.Proofs.YtelcoihmiglceaaGreat
open Go.RowKit

theorem rng_mkC {t : Tm} (h : rng t) : rng (mkC t) := by
 unfold mkC
 split
 ·exact h
 ·split
  ·exact ⟨by simp only; omega, by simp only; omega⟩
  ·exact h
theorem rng_fixT {t : Tm} (h : rng t) : rng (fixT t) := by
 unfold fixT
 split
 ·exact h
 ·exact rng_mkC h
theorem rng_zt : rng zt := ⟨by simp [zt], by simp [zt]⟩
theorem rng_sf {l : List Tm} {t : Tm} (h : rng t) : rng (sf l t) := by
 unfold sf grd
 split
 ·exact h
 ·split
  ·exact h
  ·exact h
theorem rng_mkA {a : At} (h : ∀ t ∈ a.pl, rng t) : ∀ t ∈ (mkA a).pl, rng t := fun t ht => by
 simp only [mkA, At.pl, List.mem_cons, List.mem_map] at ht
 rcases ht with rfl | ⟨u, hu, rfl⟩
 ·split
  ·exact h _ (by simp [At.pl])
  ·exact rng_zt
 ·exact rng_fixT (h u (by simp only [At.pl, List.mem_cons]; exact .inr (List.mem_of_mem_take hu)))
theorem made0_rng {x : Ck} (h : Rng x) : Rng (made0 x) := by
 refine ⟨fun a ha t ht => ?_, fun e he => ?_⟩
 ·rcases List.mem_cons.1 ha with rfl | ha
  ·have hm := rng_mkA (h.a x.1 (by simp))
   simp only [made0, At.pl, List.mem_cons, List.mem_map] at ht
   rcases ht with rfl | ⟨u, hu, rfl⟩
   ·split
    ·exact rng_zt
    ·exact hm _ (by simp [At.pl])
   ·exact rng_sf (hm u (by simp [At.pl, hu]))
  ·simp only [made0, List.mem_map] at ha
   obtain ⟨b, hb, rfl⟩ := ha
   exact rng_mkA (h.a b (List.mem_cons_of_mem _ (List.mem_of_mem_take hb))) t ht
 ·simp only [made0, List.mem_map] at he
  obtain ⟨b, hb, rfl⟩ := he
  have := h.e b (List.mem_of_mem_take hb)
  exact ⟨rng_sf (rng_fixT this.1), rng_sf (rng_fixT this.2)⟩
theorem dstep_len (l : List Tm) : ∀ acc : List Tm, (l.foldl dstepT acc).length <= acc.length + l.length := by
 induction l with
 | nil => intro acc; simp
 | cons x l ih =>
  intro acc
  have h1 := ih (dstepT acc x)
  have h2 : (dstepT acc x).length <= acc.length + 1 := by
   unfold dstepT
   split
   ·omega
   ·simp
  simp only [List.foldl_cons, List.length_cons]
  omega
theorem disT_len9 (l : List Tm) : (disT l).length <= l.length := by
 have h1 := dstep_len (l.filter Tm.var) []
 have h2 := List.length_filter_le Tm.var l
 unfold disT
 simp only [List.length_nil] at h1
 omega
theorem flat_lenK {α β : Type} {f : α -> List β} {k : Nat} : ∀ {l : List α}, (∀ x ∈ l, (f x).length <= k) -> (l.flatMap f).length <= l.length * k
 | [], _ => by simp
 | x :: l, h => by
  have h1 := h x (by simp)
  have h2 := flat_lenK (l := l) (fun y hy => h y (by simp [hy]))
  simp only [List.flatMap_cons, List.length_append, List.length_cons, Nat.add_mul, Nat.one_mul]
  omega
theorem val_terms {x : Ck} (h : Val0 x) : (Ck.terms x).length <= 97 := by
 have ha : ∀ a ∈ x.1 :: x.2.1, a.pl.length <= 9 := fun a ha => by
  have := (fit_of (h.e a ha)).len
  simp only [At.pl, List.length_cons]
  omega
 have h1 := ha x.1 (by simp)
 have h2 := flat_lenK (f := At.pl) (l := x.2.1) (fun a hx => ha a (List.mem_cons_of_mem _ hx))
 have h3 : (tls x.2.2).length <= x.2.2.length * 2 := flat_lenK (fun a _ => by simp)
 have h4 := h.bl
 have h5 := h.tl
 simp only [Ck.terms, List.length_append]
 omega
theorem rng_nmT {vs : List Tm} {t : Tm} (hv : vs.length <= 97) (h : rng t) : rng (nmT vs t) := by
 unfold nmT
 split
 ·rename_i hm
  have := ix_lt hm
  exact ⟨by simp only; omega, by simp only; omega⟩
 ·exact h
theorem made_rng (hp : nameOk nmP = true) {x : Ck} (h : Rng x) : Rng (madeK x) := by
 have hr := made0_rng h
 have hv := Nat.le_trans (disT_len9 (Ck.terms (made0 x))) (val_terms (made0_val hp x))
 unfold madeK normC
 generalize disT (Ck.terms (made0 x)) = vs at *
 generalize made0 x = y at *
 refine ⟨fun a ha t ht => ?_, fun e he => ?_⟩
 ·obtain ⟨b, hb, rfl⟩ : ∃ b ∈ y.1 :: y.2.1, a = mapA (nmT vs) b := by
   simp only [mapC, List.mem_cons, List.mem_map] at ha
   rcases ha with rfl | ⟨b, hb, rfl⟩
   ·exact ⟨y.1, by simp, rfl⟩
   ·exact ⟨b, by simp [hb], rfl⟩
  rw [mapA_pl, List.mem_map] at ht
  obtain ⟨u, hu, rfl⟩ := ht
  exact rng_nmT hv (hr.a b hb u hu)
 ·simp only [mapC, List.mem_map] at he
  obtain ⟨b, hb, rfl⟩ := he
  have := hr.e b hb
  exact ⟨rng_nmT hv this.1, rng_nmT hv this.2⟩
end Go.Proofs.YtelcoihmiglceaaGreat
