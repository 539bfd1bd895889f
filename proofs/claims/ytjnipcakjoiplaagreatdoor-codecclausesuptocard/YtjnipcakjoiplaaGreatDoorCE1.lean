/-
  The reference reads: the plain mathematics.
-/
import Derived.Test.YtjnipcakjoiplaaGreatDoorCD1
namespace Go.Proofs.YtjnipcakjoiplaaGreatDoor
open Go.RowKit

/-- Where the reader is, and its first fault. -/
structure Qs where
  at_ : Nat
  er : Int
def stp (c : Int) (s : Qs) : Qs := if s.er = 0 then ⟨s.at_, c⟩ else s
def qTake (B : List Int) (n : Nat) (s : Qs) : List Int × Qs :=
  if s.er ≠ 0 then ([], s) else if B.length < s.at_ + n then ([], ⟨s.at_, 61⟩) else ((B.drop s.at_).take n, ⟨s.at_ + n, 0⟩)
def qNum (B : List Int) (k : Nat) (s : Qs) : Int × Qs := (val (qTake B k s).1, (qTake B k s).2)
def qSmall (B : List Int) (lo hi : Int) (s : Qs) : Int × Qs := if (qNum B 1 s).1 < lo ∨ hi < (qNum B 1 s).1 then (0, stp 63 (qNum B 1 s).2) else qNum B 1 s
def qNat (B : List Int) (s : Qs) : Int × Qs := if 9223372036854775808 ≤ (qNum B 8 s).1 then (0, stp 63 (qNum B 8 s).2) else qNum B 8 s
def qText (B : List Int) (lo : Int) (s : Qs) : Tm × Qs := (⟨2, 0, ofL (qTake B (qSmall B lo 64 s).1.toNat (qSmall B lo 64 s).2).1⟩, (qTake B (qSmall B lo 64 s).1.toNat (qSmall B lo 64 s).2).2)
/-- Behind the kind's byte. -/
def qTermK (B : List Int) (no nu va : Bool) (k : Int) (s : Qs) : Tm × Qs :=
  if s.er ≠ 0 then (zt, s)
  else if (k = 0 ∧ no = false) ∨ (k = 1 ∧ nu = false) ∨ (k = 3 ∧ va = false) then (zt, stp 63 s)
  else if k = 1 then (⟨1, wrap64 (qNum B 8 s).1, ⟨#[]⟩⟩, (qNum B 8 s).2)
  else if k = 2 then (if no = true then qText B 1 s else qText B 0 s)
  else if k = 3 then (⟨3, (qNat B s).1, ⟨#[]⟩⟩, (qNat B s).2)
  else (zt, s)
def qTerm (B : List Int) (no nu va : Bool) (s : Qs) : Tm × Qs := qTermK B no nu va (qSmall B 0 3 s).1 (qSmall B 0 3 s).2
def qArgs (B : List Int) : Nat → Qs → List Tm × Qs
  | 0, s => ([], s)
  | k + 1, s => if s.er ≠ 0 then ([], s) else ((qTerm B false true true s).1 :: (qArgs B k (qTerm B false true true s).2).1, (qArgs B k (qTerm B false true true s).2).2)
/-- Behind the name. -/
def qNm (nm : ByteArray) (s : Qs) : Qs := if s.er = 0 ∧ nameOk nm = false then ⟨s.at_, 63⟩ else s
def qName (B : List Int) (s : Qs) : ByteArray × Qs := (ofL (qTake B (qSmall B 1 32 s).1.toNat (qSmall B 1 32 s).2).1, (qTake B (qSmall B 1 32 s).1.toNat (qSmall B 1 32 s).2).2)
def qAtomN (B : List Int) (t : Tm) (nm : ByteArray) (s : Qs) : At × Qs := (⟨t, nm, (qArgs B (qSmall B 0 8 s).1.toNat (qSmall B 0 8 s).2).1⟩, (qArgs B (qSmall B 0 8 s).1.toNat (qSmall B 0 8 s).2).2)
def qAtom (B : List Int) (s : Qs) : At × Qs := qAtomN B (qTerm B true false true s).1 (qName B (qTerm B true false true s).2).1 (qNm (qName B (qTerm B true false true s).2).1 (qName B (qTerm B true false true s).2).2)
/-- The two readers go together. -/
def Tog {α : Type} (B : List Int) (r : Rd α) (q : α × Qs) : Prop := match r with
  | .ok (a, rest) => q.1 = a ∧ q.2.er = 0 ∧ q.2.at_ ≤ B.length ∧ B.drop q.2.at_ = rest
  | .error c => q.2.er = c ∧ c ≠ 0 ∧ q.2.at_ ≤ B.length
theorem stp_ne {c : Int} {s : Qs} (h : s.er ≠ 0) : stp c s = s := if_neg h
theorem stp_0 {c : Int} {s : Qs} (h : s.er = 0) : stp c s = ⟨s.at_, c⟩ := if_pos h
theorem qTake_ne {B : List Int} {n : Nat} {s : Qs} (h : s.er ≠ 0) : qTake B n s = ([], s) := if_pos h
theorem qNum_ne {B : List Int} {k : Nat} {s : Qs} (h : s.er ≠ 0) : qNum B k s = (0, s) := by unfold qNum; rw [qTake_ne h]; rfl
theorem qSmall_ne {B : List Int} {lo hi : Int} {s : Qs} (h : s.er ≠ 0) : qSmall B lo hi s = (0, s) := by
  unfold qSmall
  rw [qNum_ne h, stp_ne h]
  split <;> rfl
theorem qArgs_ne {B : List Int} {k : Nat} {s : Qs} (h : s.er ≠ 0) : qArgs B k s = ([], s) := by
  cases k with
  | zero => rfl
  | succ k => unfold qArgs; rw [if_pos h]
theorem tog_take {B : List Int} {n : Nat} {s : Qs} (h : s.er = 0) (hs : s.at_ ≤ B.length) : Tog B (rTake n (B.drop s.at_)) (qTake B n s) := by
  unfold rTake qTake
  rw [if_neg (show ¬ s.er ≠ 0 by rw [h]; simp), List.length_drop]
  by_cases hn : B.length < s.at_ + n
  · rw [if_pos hn, if_pos (by omega)]
    exact ⟨rfl, by omega, hs⟩
  · rw [if_neg hn, if_neg (by omega)]
    exact ⟨rfl, rfl, by simp only; omega, by rw [List.drop_drop]⟩
theorem tog_num {B : List Int} {k : Nat} {s : Qs} (h : s.er = 0) (hs : s.at_ ≤ B.length) : Tog B (rNum k (B.drop s.at_)) (qNum B k s) := by
  have ht := tog_take (n := k) h hs
  unfold rNum qNum
  rcases hr : rTake k (B.drop s.at_) with c | ⟨b, r⟩
  · rw [hr] at ht; exact ht
  · rw [hr] at ht
    exact ⟨by rw [ht.1], ht.2⟩
theorem tog_small {B : List Int} {lo hi : Int} {s : Qs} (h : s.er = 0) (hs : s.at_ ≤ B.length) : Tog B (rBnd lo hi (B.drop s.at_)) (qSmall B lo hi s) := by
  have ht := tog_num (k := 1) h hs
  unfold rBnd qSmall
  rcases hr : rNum 1 (B.drop s.at_) with c | ⟨n, r⟩
  · rw [hr] at ht
    obtain ⟨h1, h2, h3⟩ := ht
    simp only [Rd.and]
    split
    · rw [stp_ne (by rw [h1]; exact h2)]; exact ⟨h1, h2, h3⟩
    · exact ⟨h1, h2, h3⟩
  · rw [hr] at ht
    obtain ⟨h1, h2, h3, h4⟩ := ht
    simp only [Rd.and]
    rw [h1]
    split
    · rw [stp_0 h2]; exact ⟨rfl, by omega, h3⟩
    · exact ⟨h1, h2, h3, h4⟩
theorem tog_nat {B : List Int} {s : Qs} (h : s.er = 0) (hs : s.at_ ≤ B.length) : Tog B (rNat (B.drop s.at_)) (qNat B s) := by
  have ht := tog_num (k := 8) h hs
  unfold rNat qNat
  rcases hr : rNum 8 (B.drop s.at_) with c | ⟨n, r⟩
  · rw [hr] at ht
    obtain ⟨h1, h2, h3⟩ := ht
    simp only [Rd.and]
    split
    · rw [stp_ne (by rw [h1]; exact h2)]; exact ⟨h1, h2, h3⟩
    · exact ⟨h1, h2, h3⟩
  · rw [hr] at ht
    obtain ⟨h1, h2, h3, h4⟩ := ht
    simp only [Rd.and]
    rw [h1]
    by_cases hn : 9223372036854775807 < n
    · rw [if_pos hn, if_pos (by omega), stp_0 h2]; exact ⟨rfl, by omega, h3⟩
    · rw [if_neg hn, if_neg (by omega)]; exact ⟨h1, h2, h3, h4⟩
/-- A text of a length, as both read it. -/
theorem tog_bytes {B : List Int} {lo hi : Int} {s : Qs} (h : s.er = 0) (hs : s.at_ ≤ B.length) :
    Tog B (rText lo hi (B.drop s.at_)) (ofL (qTake B (qSmall B lo hi s).1.toNat (qSmall B lo hi s).2).1, (qTake B (qSmall B lo hi s).1.toNat (qSmall B lo hi s).2).2) := by
  have ht := tog_small (lo := lo) (hi := hi) h hs
  unfold rText
  rcases hr : rBnd lo hi (B.drop s.at_) with c | ⟨n, r⟩
  · rw [hr] at ht
    obtain ⟨h1, h2, h3⟩ := ht
    simp only [Rd.and]
    rw [qTake_ne (by rw [h1]; exact h2)]
    exact ⟨h1, h2, h3⟩
  · rw [hr] at ht
    obtain ⟨h1, h2, h3, h4⟩ := ht
    simp only [Rd.and]
    rw [h1]
    have ht2 := tog_take (n := n.toNat) h2 h3
    rw [h4] at ht2
    rcases hr2 : rTake n.toNat r with c | ⟨b, r'⟩
    · rw [hr2] at ht2; exact ht2
    · rw [hr2] at ht2
      exact ⟨by simp only; rw [ht2.1], ht2.2⟩
theorem tog_termK {B : List Int} {no nu va : Bool} {k lo : Int} {s : Qs} (h : s.er = 0) (hs : s.at_ ≤ B.length) (hk : k = 0 ∨ k = 1 ∨ k = 2 ∨ k = 3) (hn : ¬ ((k = 0 ∧ no = false) ∨ (k = 1 ∧ nu = false) ∨ (k = 3 ∧ va = false))) (hlo : lo = if no = true then 1 else 0) :
    Tog B (rTermOf k lo (B.drop s.at_)) (qTermK B no nu va k s) := by
  unfold rTermOf qTermK
  rw [if_neg (show ¬ s.er ≠ 0 by rw [h]; simp), if_neg hn]
  rcases hk with rfl | rfl | rfl | rfl
  · simp only [show ¬ (0 : Int) = 1 by omega, show ¬ (0 : Int) = 2 by omega, show ¬ (0 : Int) = 3 by omega, if_false]
    exact ⟨rfl, h, hs, rfl⟩
  · simp only [if_true]
    have ht := tog_num (k := 8) h hs
    rcases hr : rNum 8 (B.drop s.at_) with c | ⟨n, r⟩
    · rw [hr] at ht; exact ht
    · rw [hr] at ht; exact ⟨by simp only; rw [ht.1], ht.2⟩
  · simp only [show ¬ (2 : Int) = 1 by omega, if_false, if_true]
    have ht := tog_bytes (lo := lo) (hi := 64) h hs
    have e : (if no = true then qText B 1 s else qText B 0 s) = qText B lo s := by rw [hlo]; cases no <;> rfl
    rw [e]
    unfold qText
    rcases hr : rText lo 64 (B.drop s.at_) with c | ⟨n, r⟩
    · rw [hr] at ht; exact ht
    · rw [hr] at ht; exact ⟨by simp only; rw [← ht.1], ht.2⟩
  · simp only [show ¬ (3 : Int) = 1 by omega, show ¬ (3 : Int) = 2 by omega, if_false, if_true]
    have ht := tog_nat h hs
    rcases hr : rNat (B.drop s.at_) with c | ⟨n, r⟩
    · rw [hr] at ht; exact ht
    · rw [hr] at ht; exact ⟨by simp only; rw [ht.1], ht.2⟩
theorem qTermK_ne {B : List Int} {no nu va : Bool} {k : Int} {s : Qs} (h : s.er ≠ 0) : qTermK B no nu va k s = (zt, s) := if_pos h
theorem num1_rng {B : List Int} (hy : byt B) {s : Qs} {n : Int} {r : List Int} (hr : rNum 1 (B.drop s.at_) = .ok (n, r)) : 0 ≤ n := by
  unfold rNum rTake at hr
  split at hr
  · cases hr
  · cases hr
    exact (val_rng (fun x hx => hy x (List.mem_of_mem_drop (List.mem_of_mem_take hx)))).1
theorem tog_kind {B : List Int} (hy : byt B) {no nu va : Bool} {cs : List Int} {lo : Int} {s : Qs} (h : s.er = 0) (hs : s.at_ ≤ B.length) (hlo : lo = if no = true then 1 else 0)
    (hcs : ∀ k : Int, k ∈ cs ↔ (k = 0 ∨ k = 1 ∨ k = 2 ∨ k = 3) ∧ ¬ ((k = 0 ∧ no = false) ∨ (k = 1 ∧ nu = false) ∨ (k = 3 ∧ va = false))) :
    Tog B ((rOne cs (B.drop s.at_)).and fun k r => rTermOf k lo r) (qTerm B no nu va s) := by
  have ht := tog_num (k := 1) h hs
  unfold rOne qTerm qSmall
  rcases hr : rNum 1 (B.drop s.at_) with c | ⟨n, r⟩
  · rw [hr] at ht
    obtain ⟨h1, h2, h3⟩ := ht
    simp only [Rd.and]
    split
    · rw [stp_ne (by rw [h1]; exact h2), qTermK_ne (by simp only; rw [h1]; exact h2)]; exact ⟨h1, h2, h3⟩
    · rw [qTermK_ne (by rw [h1]; exact h2)]; exact ⟨h1, h2, h3⟩
  · rw [hr] at ht
    have h0 := num1_rng hy hr
    obtain ⟨h1, h2, h3, h4⟩ := ht
    simp only [Rd.and]
    rw [h1]
    by_cases hm : n ∈ cs
    · obtain ⟨hk, hn⟩ := (hcs n).1 hm
      rw [if_pos hm, if_neg (by omega)]
      simp only
      rw [h1, ← h4]
      exact tog_termK h2 h3 hk hn hlo
    · rw [if_neg hm]
      by_cases h3' : n < 0 ∨ 3 < n
      · rw [if_pos h3', stp_0 h2, qTermK_ne (by simp)]
        exact ⟨rfl, by omega, h3⟩
      · rw [if_neg h3']
        have hn : (n = 0 ∧ no = false) ∨ (n = 1 ∧ nu = false) ∨ (n = 3 ∧ va = false) := by
          by_cases hq : (n = 0 ∧ no = false) ∨ (n = 1 ∧ nu = false) ∨ (n = 3 ∧ va = false)
          · exact hq
          · exact absurd ((hcs n).2 ⟨by omega, hq⟩) hm
        rw [h1]
        unfold qTermK
        rw [if_neg (by rw [h2]; simp), if_pos hn, stp_0 h2]
        exact ⟨rfl, by omega, h3⟩
theorem tog_qual {B : List Int} (hy : byt B) {s : Qs} (h : s.er = 0) (hs : s.at_ ≤ B.length) : Tog B (rQual (B.drop s.at_)) (qTerm B true false true s) :=
  tog_kind hy h hs rfl (fun k => by simp only [List.mem_cons, List.not_mem_nil, or_false, reduceCtorEq, and_false, and_true, false_or]; omega)
theorem tog_arg {B : List Int} (hy : byt B) {s : Qs} (h : s.er = 0) (hs : s.at_ ≤ B.length) : Tog B (rArg (B.drop s.at_)) (qTerm B false true true s) :=
  tog_kind hy h hs rfl (fun k => by simp only [List.mem_cons, List.not_mem_nil, or_false, reduceCtorEq, and_false, and_true]; omega)
theorem tog_args {B : List Int} (hy : byt B) : ∀ (k : Nat) (s : Qs), s.er = 0 → s.at_ ≤ B.length → Tog B (rMany rArg k (B.drop s.at_)) (qArgs B k s)
  | 0, s, h, hs => ⟨rfl, h, hs, rfl⟩
  | k + 1, s, h, hs => by
    have ht := tog_arg hy h hs
    unfold rMany qArgs
    rw [if_neg (show ¬ s.er ≠ 0 by rw [h]; simp)]
    rcases hr : rArg (B.drop s.at_) with c | ⟨t, r⟩
    · rw [hr] at ht
      obtain ⟨h1, h2, h3⟩ := ht
      simp only [Rd.and]
      rw [qArgs_ne (by rw [h1]; exact h2)]
      exact ⟨h1, h2, h3⟩
    · rw [hr] at ht
      obtain ⟨h1, h2, h3, h4⟩ := ht
      simp only [Rd.and]
      have ht2 := tog_args hy k _ h2 h3
      rw [h4] at ht2
      rcases hr2 : rMany rArg k r with c | ⟨ts, r'⟩
      · rw [hr2] at ht2; exact ht2
      · rw [hr2] at ht2; exact ⟨by simp only; rw [h1, ht2.1], ht2.2⟩
theorem tog_atom {B : List Int} (hy : byt B) {s : Qs} (h : s.er = 0) (hs : s.at_ ≤ B.length) : Tog B (rAtom (B.drop s.at_)) (qAtom B s) := by
  have ht := tog_qual hy h hs
  unfold rAtom qAtom
  rcases hr : rQual (B.drop s.at_) with c | ⟨t, r⟩
  · rw [hr] at ht
    obtain ⟨h1, h2, h3⟩ := ht
    have hne : (qTerm B true false true s).2.er ≠ 0 := by rw [h1]; exact h2
    simp only [Rd.and]
    unfold qName
    rw [qSmall_ne hne]
    simp only
    rw [qTake_ne hne]
    unfold qNm
    simp only
    rw [if_neg (fun x => hne x.1)]
    unfold qAtomN
    rw [qSmall_ne hne]
    simp only
    rw [qArgs_ne hne]
    exact ⟨h1, h2, h3⟩
  · rw [hr] at ht
    obtain ⟨h1, h2, h3, h4⟩ := ht
    simp only [Rd.and]
    rw [h1]
    generalize (qTerm B true false true s).2 = s1 at *
    have htn := tog_bytes (lo := 1) (hi := 32) h2 h3
    rw [h4] at htn
    unfold rName qName
    rcases hr2 : rText 1 32 r with c | ⟨nm, r2⟩
    · rw [hr2] at htn
      obtain ⟨g1, g2, g3⟩ := htn
      simp only [Rd.and] at g1 g3 ⊢
      generalize (qTake B (qSmall B 1 32 s1).1.toNat (qSmall B 1 32 s1).2) = z at *
      have hne : z.2.er ≠ 0 := by rw [g1]; exact g2
      unfold qNm
      rw [if_neg (fun x => hne x.1)]
      unfold qAtomN
      rw [qSmall_ne hne]
      simp only
      rw [qArgs_ne hne]
      exact ⟨g1, g2, g3⟩
    · rw [hr2] at htn
      obtain ⟨g1, g2, g3, g4⟩ := htn
      simp only [Rd.and] at g1 g2 g3 g4 ⊢
      generalize (qTake B (qSmall B 1 32 s1).1.toNat (qSmall B 1 32 s1).2) = z at *
      rw [g1]
      cases hnm : nameOk nm
      · simp only [Bool.false_eq_true, if_false]
        unfold qNm
        rw [if_pos ⟨g2, hnm⟩]
        unfold qAtomN
        rw [qSmall_ne (by simp)]
        simp only
        rw [qArgs_ne (by simp)]
        exact ⟨rfl, by omega, g3⟩
      · simp only [if_true]
        unfold qNm
        rw [if_neg (by rw [hnm]; simp)]
        have hts := tog_small (lo := 0) (hi := 8) g2 g3
        rw [g4] at hts
        unfold qAtomN
        rcases hr3 : rBnd 0 8 r2 with c | ⟨n, r3⟩
        · rw [hr3] at hts
          obtain ⟨k1, k2, k3⟩ := hts
          simp only
          rw [qArgs_ne (by rw [k1]; exact k2)]
          exact ⟨k1, k2, k3⟩
        · rw [hr3] at hts
          obtain ⟨k1, k2, k3, k4⟩ := hts
          simp only
          rw [k1]
          have hta := tog_args hy n.toNat _ k2 k3
          rw [k4] at hta
          rcases hr4 : rMany rArg n.toNat r3 with c | ⟨ts, r4⟩
          · rw [hr4] at hta; exact hta
          · rw [hr4] at hta; exact ⟨by simp only; rw [hta.1], hta.2⟩
end Go.Proofs.YtjnipcakjoiplaaGreatDoor
