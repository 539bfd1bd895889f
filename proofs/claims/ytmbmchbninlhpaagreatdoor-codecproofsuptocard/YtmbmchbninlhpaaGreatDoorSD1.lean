import Derived.Test.YtmbmchbninlhpaaGreatDoorCE1
import Derived.Test.YtmbmchbninlhpaaGreatDoorCG3
import Derived.Test.YtmbmchbninlhpaaGreatDoorMD2
import Derived.Deep.RegionHeld3
namespace Go.Proofs.YtmbmchbninlhpaaGreatDoor
open Go.RowKit

def qMany {α : Type} (one : Qs -> α × Qs) : Nat -> Qs -> List α × Qs
 | 0, s => ([], s)
 | k + 1, s => if s.er ≠ 0 then ([], s) else ((one s).1 :: (qMany one k (one s).2).1, (qMany one k (one s).2).2)
def qTest (B : List Int) (s : Qs) : Te × Qs := (⟨(qSmall B 1 4 s).1, (qTerm B false true true (qSmall B 1 4 s).2).1, (qTerm B false true true (qTerm B false true true (qSmall B 1 4 s).2).2).1⟩, (qTerm B false true true (qTerm B false true true (qSmall B 1 4 s).2).2).2)
def qCk (x : Ck) (s : Qs) : Qs := if s.er = 0 /\ chkK x ≠ 0 then ⟨s.at_, 63⟩ else s
def qClauseT (B : List Int) (h : At) (bs : List At) (s : Qs) : Ck × Qs := ((h, bs, (qMany (qTest B) (qSmall B 0 8 s).1.toNat (qSmall B 0 8 s).2).1), qCk (h, bs, (qMany (qTest B) (qSmall B 0 8 s).1.toNat (qSmall B 0 8 s).2).1) (qMany (qTest B) (qSmall B 0 8 s).1.toNat (qSmall B 0 8 s).2).2)
def qClauseB (B : List Int) (h : At) (s : Qs) : Ck × Qs := qClauseT B h (qMany (qAtom B) (qSmall B 0 8 s).1.toNat (qSmall B 0 8 s).2).1 (qMany (qAtom B) (qSmall B 0 8 s).1.toNat (qSmall B 0 8 s).2).2
def qClause (B : List Int) (s : Qs) : Ck × Qs := qClauseB B (qAtom B s).1 (qAtom B s).2
theorem qMany_ne {α : Type} {one : Qs -> α × Qs} {k : Nat} {s : Qs} (h : s.er ≠ 0) : qMany one k s = ([], s) := by
 cases k with
 | zero => rfl
 | succ k => unfold qMany; rw [if_pos h]
theorem qTerm_ne {B : List Int} {no nu va : Bool} {s : Qs} (h : s.er ≠ 0) : qTerm B no nu va s = (zt, s) := by
 unfold qTerm; rw [qSmall_ne h]; exact qTermK_ne h
theorem tog_many {α : Type} {B : List Int} {r1 : List Int -> Rd α} {q1 : Qs -> α × Qs} (h1 : ∀ s : Qs, s.er = 0 -> s.at_ <= B.length -> Tog B (r1 (B.drop s.at_)) (q1 s)) : ∀ (k : Nat) (s : Qs), s.er = 0 -> s.at_ <= B.length -> Tog B (rMany r1 k (B.drop s.at_)) (qMany q1 k s)
 | 0, s, h, hs => ⟨rfl, h, hs, rfl⟩
 | k + 1, s, h, hs => by
  have ht := h1 s h hs
  unfold rMany qMany
  rw [if_neg (show ¬ s.er ≠ 0 by rw [h]; simp)]
  rcases hr : r1 (B.drop s.at_) with c | ⟨t, r⟩
  ·rw [hr] at ht
   obtain ⟨h1, h2, h3⟩ := ht
   simp only [Rd.and]
   rw [qMany_ne (by rw [h1]; exact h2)]
   exact ⟨h1, h2, h3⟩
  ·rw [hr] at ht
   obtain ⟨k1, k2, k3, k4⟩ := ht
   simp only [Rd.and]
   have ht2 := tog_many h1 k _ k2 k3
   rw [k4] at ht2
   rcases hr2 : rMany r1 k r with c | ⟨ts, r'⟩
   ·rw [hr2] at ht2; exact ht2
   ·rw [hr2] at ht2; exact ⟨by simp only; rw [k1, ht2.1], ht2.2⟩
theorem rOne_bnd (l : List Int) : rOne [1, 2, 3, 4] l = rBnd 1 4 l := by
 unfold rOne rBnd
 rcases rNum 1 l with c | ⟨n, r⟩
 ·rfl
 ·simp only [Rd.and]
  by_cases h : n ∈ [(1 : Int), 2, 3, 4]
  ·rw [if_pos h, if_neg (by simp at h; omega)]
  ·rw [if_neg h, if_pos (by simp at h; omega)]
theorem tog_test {B : List Int} (hy : byt B) {s : Qs} (h : s.er = 0) (hs : s.at_ <= B.length) : Tog B (rTest (B.drop s.at_)) (qTest B s) := by
 have ht := tog_small (lo := 1) (hi := 4) h hs
 unfold rTest qTest
 rw [rOne_bnd]
 rcases hr : rBnd 1 4 (B.drop s.at_) with c | ⟨op, r⟩
 ·rw [hr] at ht
  obtain ⟨h1, h2, h3⟩ := ht
  simp only [Rd.and]
  have hne : (qSmall B 1 4 s).2.er ≠ 0 := by rw [h1]; exact h2
  rw [qTerm_ne hne]
  simp only
  rw [qTerm_ne hne]
  exact ⟨h1, h2, h3⟩
 ·rw [hr] at ht
  obtain ⟨h1, h2, h3, h4⟩ := ht
  simp only [Rd.and]
  rw [h1]
  generalize (qSmall B 1 4 s).2 = s1 at *
  have ht2 := tog_arg hy h2 h3
  rw [h4] at ht2
  rcases hr2 : rArg r with c | ⟨x, r2⟩
  ·rw [hr2] at ht2
   obtain ⟨g1, g2, g3⟩ := ht2
   have hne : (qTerm B false true true s1).2.er ≠ 0 := by rw [g1]; exact g2
   simp only
   rw [qTerm_ne hne]
   exact ⟨g1, g2, g3⟩
  ·rw [hr2] at ht2
   obtain ⟨g1, g2, g3, g4⟩ := ht2
   simp only
   rw [g1]
   generalize (qTerm B false true true s1).2 = s2 at *
   have ht3 := tog_arg hy g2 g3
   rw [g4] at ht3
   rcases hr3 : rArg r2 with c | ⟨y, r3⟩
   ·rw [hr3] at ht3; exact ht3
   ·rw [hr3] at ht3; exact ⟨by simp only; rw [ht3.1], ht3.2⟩
theorem qCk_ne {x : Ck} {s : Qs} (h : s.er ≠ 0) : qCk x s = s := if_neg (fun e => h e.1)
theorem tog_clause {B : List Int} (hy : byt B) {s : Qs} (h : s.er = 0) (hs : s.at_ <= B.length) : Tog B (rClause (B.drop s.at_)) (qClause B s) := by
 have ht := tog_atom hy h hs
 unfold rClause qClause
 rcases hr : rAtom (B.drop s.at_) with c | ⟨a, r1⟩
 ·rw [hr] at ht
  obtain ⟨h1, h2, h3⟩ := ht
  have hne : (qAtom B s).2.er ≠ 0 := by rw [h1]; exact h2
  simp only [Rd.and]
  unfold qClauseB
  rw [qSmall_ne hne]
  simp only
  rw [qMany_ne hne]
  simp only
  unfold qClauseT
  rw [qSmall_ne hne]
  simp only
  rw [qMany_ne hne]
  simp only
  rw [qCk_ne hne]
  exact ⟨h1, h2, h3⟩
 ·rw [hr] at ht
  obtain ⟨h1, h2, h3, h4⟩ := ht
  simp only [Rd.and]
  rw [h1]
  generalize (qAtom B s).2 = s1 at *
  have ht2 := tog_small (lo := 0) (hi := 8) h2 h3
  rw [h4] at ht2
  unfold qClauseB
  rcases hr2 : rBnd 0 8 r1 with c | ⟨n, r2⟩
  ·rw [hr2] at ht2
   obtain ⟨g1, g2, g3⟩ := ht2
   have hne : (qSmall B 0 8 s1).2.er ≠ 0 := by rw [g1]; exact g2
   simp only
   rw [qMany_ne hne]
   simp only
   unfold qClauseT
   rw [qSmall_ne hne]
   simp only
   rw [qMany_ne hne]
   simp only
   rw [qCk_ne hne]
   exact ⟨g1, g2, g3⟩
  ·rw [hr2] at ht2
   obtain ⟨g1, g2, g3, g4⟩ := ht2
   simp only
   rw [g1]
   generalize (qSmall B 0 8 s1).2 = s2 at *
   have ht3 := tog_many (fun s h hs => tog_atom hy h hs) n.toNat s2 g2 g3
   rw [g4] at ht3
   rcases hr3 : rMany rAtom n.toNat r2 with c | ⟨bs, r3⟩
   ·rw [hr3] at ht3
    obtain ⟨k1, k2, k3⟩ := ht3
    have hne : (qMany (qAtom B) n.toNat s2).2.er ≠ 0 := by rw [k1]; exact k2
    simp only
    unfold qClauseT
    rw [qSmall_ne hne]
    simp only
    rw [qMany_ne hne]
    simp only
    rw [qCk_ne hne]
    exact ⟨k1, k2, k3⟩
   ·rw [hr3] at ht3
    obtain ⟨k1, k2, k3, k4⟩ := ht3
    simp only
    rw [k1]
    generalize (qMany (qAtom B) n.toNat s2).2 = s3 at *
    have ht4 := tog_small (lo := 0) (hi := 8) k2 k3
    rw [k4] at ht4
    unfold qClauseT
    rcases hr4 : rBnd 0 8 r3 with c | ⟨k, r4⟩
    ·rw [hr4] at ht4
     obtain ⟨m1, m2, m3⟩ := ht4
     have hne : (qSmall B 0 8 s3).2.er ≠ 0 := by rw [m1]; exact m2
     simp only
     rw [qMany_ne hne]
     simp only
     rw [qCk_ne hne]
     exact ⟨m1, m2, m3⟩
    ·rw [hr4] at ht4
     obtain ⟨m1, m2, m3, m4⟩ := ht4
     simp only
     rw [m1]
     generalize (qSmall B 0 8 s3).2 = s4 at *
     have ht5 := tog_many (fun s h hs => tog_test hy h hs) k.toNat s4 m2 m3
     rw [m4] at ht5
     rcases hr5 : rMany rTest k.toNat r4 with c | ⟨es, r5⟩
     ·rw [hr5] at ht5
      obtain ⟨n1, n2, n3⟩ := ht5
      have hne : (qMany (qTest B) k.toNat s4).2.er ≠ 0 := by rw [n1]; exact n2
      simp only
      rw [qCk_ne hne]
      exact ⟨n1, n2, n3⟩
     ·rw [hr5] at ht5
      obtain ⟨n1, n2, n3, n4⟩ := ht5
      simp only
      rw [n1]
      by_cases hc : chkK (a, bs, es) = 0
      ·rw [if_pos hc]
       unfold qCk
       rw [if_neg (fun e => e.2 hc)]
       exact ⟨rfl, n2, n3, n4⟩
      ·rw [if_neg hc]
       unfold qCk
       rw [if_pos ⟨n2, hc⟩]
       exact ⟨rfl, by omega, n3⟩
end Go.Proofs.YtmbmchbninlhpaaGreatDoor
namespace Go.Proofs.YtmbmchbninlhpaaGreatDoor
open Go.RowKit

structure DBelow (B : Nat) (w w' : World) : Prop extends Go.RowKit.Below B w w' where
 drawn : w.drawn <= w'.drawn
instance {B : Nat} {w w' : World} : Coe (DBelow B w w') (Go.RowKit.Below B w w') := ⟨DBelow.toBelow⟩
end Go.Proofs.YtmbmchbninlhpaaGreatDoor
