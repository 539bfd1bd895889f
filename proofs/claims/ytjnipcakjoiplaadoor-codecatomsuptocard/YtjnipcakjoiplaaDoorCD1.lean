/-
  The codec: the plain mathematics: what is written, what is read.
-/
import Derived.Test.YtjnipcakjoiplaaDoorCD0
namespace Go.Proofs.YtjnipcakjoiplaaDoor
open Go.RowKit

/-- A number in so many bytes, the greatest first. -/
def be : Nat → Int → List Int
  | 0, _ => []
  | k + 1, n => (n / (256 : Int) ^ k) % 256 :: be k n
theorem be_len (k : Nat) (n : Int) : (be k n).length = k := by induction k with
  | zero => rfl
  | succ k ih => simp [be, ih]
theorem be_byt (k : Nat) (n : Int) : byt (be k n) := by
  induction k with
  | zero => intro x hx; simp [be] at hx
  | succ k ih =>
    intro x hx
    simp only [be, List.mem_cons] at hx
    rcases hx with rfl | hx
    · have := Int.emod_nonneg (n / (256 : Int) ^ k) (show (256 : Int) ≠ 0 by omega)
      have := Int.emod_lt_of_pos (n / (256 : Int) ^ k) (show (0 : Int) < 256 by omega)
      omega
    · exact ih x hx
/-- A text: its length, and its bytes. -/
def sB (s : ByteArray) : List Int := (s.size : Int) :: bl s
/-- A term's bytes. -/
def tB (t : Tm) : List Int := if t.k = 1 ∨ t.k = 3 then t.k :: be 8 (t.n % 18446744073709551616) else if t.k = 2 then 2 :: sB t.s else [0]
/-- An atom's bytes. -/
def aB (a : At) : List Int := tB a.by_ ++ (sB a.name ++ ((a.args.length : Int) :: a.args.flatMap tB))
/-- Kinds of terms. -/
def knd (t : Tm) : Prop := (t.k = 0 ∨ t.k = 1 ∨ t.k = 2 ∨ t.k = 3) ∧ t.s.size ≤ 64
theorem knd_cov {t : Tm} (h : t.cov = true) : knd t := by
  unfold Tm.cov at h
  simp only [Tm.con, Tm.var, Bool.or_eq_true, decide_eq_true_eq] at h
  unfold knd
  rcases h with (h | h) | h
  · exact ⟨by omega, by rw [h.2]; exact Nat.zero_le _⟩
  · exact ⟨by omega, h.2.2⟩
  · exact ⟨by omega, by rw [h.2.2]; exact Nat.zero_le _⟩
theorem knd_qual {t : Tm} (h : qualOk t = true) : knd t := by
  unfold qualOk at h
  simp only [Tm.prin, Tm.var, Bool.or_eq_true, decide_eq_true_eq] at h
  unfold knd
  rcases h with h | h | h
  · subst h; exact ⟨by simp [zt], Nat.zero_le _⟩
  · exact ⟨by omega, h.2.2.1⟩
  · exact ⟨by omega, by rw [h.2.2]; exact Nat.zero_le _⟩
theorem tB_len (t : Tm) : 0 < (tB t).length ∧ (tB t).length ≤ t.s.size + 9 := by
  unfold tB sB
  split
  · simp [be_len]
  · split
    · simp [bl_len]
    · simp
theorem sB_byt {s : ByteArray} (h : s.size ≤ 255) : byt (sB s) := fun x hx => by
  simp only [sB, List.mem_cons] at hx
  rcases hx with rfl | hx
  · omega
  · exact bl_byt s x hx
theorem tB_byt {t : Tm} (h : knd t) : byt (tB t) := by
  obtain ⟨h, hs⟩ := h
  intro x hx
  unfold tB at hx
  split at hx
  · rcases List.mem_cons.1 hx with rfl | hx
    · omega
    · exact be_byt _ _ x hx
  · split at hx
    · rcases List.mem_cons.1 hx with rfl | hx
      · omega
      · exact sB_byt (by omega) x hx
    · simp at hx; omega
/-- A valid atom: what it is made of. -/
structure Fit (a : At) : Prop where
  by_ : knd a.by_
  nm : a.name.size ≤ 64
  len : a.args.length ≤ 8
  args : ∀ t ∈ a.args, knd t
/-- Numbers of bytes. -/
def val (l : List Int) : Int := l.foldl (fun v b => v * 256 + b) 0
theorem val_snoc (l : List Int) (b : Int) : val (l ++ [b]) = val l * 256 + b := by simp [val]
theorem val_rng {l : List Int} (h : byt l) : 0 ≤ val l ∧ val l < (256 : Int) ^ l.length := by
  suffices H : ∀ (l : List Int) (v : Int) (k : Nat), byt l → 0 ≤ v → v < (256 : Int) ^ k → 0 ≤ l.foldl (fun v b => v * 256 + b) v ∧ l.foldl (fun v b => v * 256 + b) v < (256 : Int) ^ (k + l.length) by
    have := H l 0 0 h (by omega) (by simp)
    simpa [val] using this
  intro l
  induction l with
  | nil => intro v k _ h0 h1; simpa using ⟨h0, h1⟩
  | cons b l ih =>
    intro v k hb h0 h1
    have hx := hb b (by simp)
    have e : (256 : Int) ^ (k + 1) = (256 : Int) ^ k * 256 := Int.pow_succ _ _
    have := ih (v * 256 + b) (k + 1) (fun x hx => hb x (by simp [hx])) (by omega) (by omega)
    simpa [Nat.add_assoc, Nat.add_comm 1] using this
/-- What is read: the thing and what is left, or the error. -/
abbrev Rd (α : Type) := Except Int (α × List Int)
def Rd.and {α β : Type} (x : Rd α) (f : α → List Int → Rd β) : Rd β := match x with
  | .ok (a, r) => f a r
  | .error e => .error e
def rTake (n : Nat) (l : List Int) : Rd (List Int) := if l.length < n then .error 61 else .ok (l.take n, l.drop n)
def rNum (k : Nat) (l : List Int) : Rd Int := (rTake k l).and fun b r => .ok (val b, r)
def rBnd (lo hi : Int) (l : List Int) : Rd Int := (rNum 1 l).and fun n r => if n < lo ∨ hi < n then .error 63 else .ok (n, r)
def rOne (cs : List Int) (l : List Int) : Rd Int := (rNum 1 l).and fun n r => if n ∈ cs then .ok (n, r) else .error 63
def rNat (l : List Int) : Rd Int := (rNum 8 l).and fun n r => if 9223372036854775807 < n then .error 63 else .ok (n, r)
def rText (lo hi : Int) (l : List Int) : Rd ByteArray := (rBnd lo hi l).and fun n r => (rTake n.toNat r).and fun b r => .ok (ofL b, r)
def rTermOf (k lo : Int) (l : List Int) : Rd Tm :=
  if k = 1 then (rNum 8 l).and fun n r => .ok (⟨1, wrap64 n, ⟨#[]⟩⟩, r)
  else if k = 2 then (rText lo 64 l).and fun s r => .ok (⟨2, 0, s⟩, r)
  else if k = 3 then (rNat l).and fun n r => .ok (⟨3, n, ⟨#[]⟩⟩, r)
  else .ok (zt, l)
def rQual (l : List Int) : Rd Tm := (rOne [0, 2, 3] l).and fun k r => rTermOf k 1 r
def rArg (l : List Int) : Rd Tm := (rOne [1, 2, 3] l).and fun k r => rTermOf k 0 r
def rName (l : List Int) : Rd ByteArray := (rText 1 32 l).and fun s r => if nameOk s = true then .ok (s, r) else .error 63
def rMany {α : Type} (one : List Int → Rd α) : Nat → List Int → Rd (List α)
  | 0, l => .ok ([], l)
  | n + 1, l => (one l).and fun a r => (rMany one n r).and fun ts r => .ok (a :: ts, r)
def rAtom (l : List Int) : Rd At := (rQual l).and fun by_ r => (rName r).and fun nm r => (rBnd 0 8 r).and fun n r => (rMany rArg n.toNat r).and fun ts r => .ok (⟨by_, nm, ts⟩, r)
/-- What is answered of all bytes. -/
def rWhole {α : Type} (one : List Int → Rd α) (l : List Int) : Except Int α := match one l with
  | .ok (a, r) => if r = [] then .ok a else .error 62
  | .error e => .error e
end Go.Proofs.YtjnipcakjoiplaaDoor
