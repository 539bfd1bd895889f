import Derived.Test.YtdfdnjkeiddfjaaDoorJ3
import Derived.Test.YtdfdnjkeiddfjaaDoorJ6
import Derived.Lib.AtoiAll
import Derived.Lib.ItoaNum
import Derived.Test.YtdfdnjkeiddfjaaDoorJ2
/-
  Cutting a text: the plain mathematics.
-/
namespace Go.Proofs.YtdfdnjkeiddfjaaDoor
open Go.RowKit

/-- A text's bytes. -/
def blK (s : ByteArray) : List Int := s.data.toList.map fun b => (b.toNat : Int)
/-- The text of bytes. -/
def ofL (l : List Int) : ByteArray := ⟨(i2b l).toArray⟩
theorem bl_len (s : ByteArray) : (blK s).length = s.size := by simp [blK]
theorem bl_byt (s : ByteArray) : byt (blK s) := fun x hx => by
  simp only [blK, List.mem_map] at hx
  obtain ⟨b, -, rfl⟩ := hx
  have := b.toNat_lt; omega
theorem i2b_map (l : List UInt8) : i2b (l.map fun b => (b.toNat : Int)) = l := by
  induction l with
  | nil => rfl
  | cons b l ih => simp only [i2b, List.map_cons] at ih ⊢; rw [ih]; simp
theorem ofL_bl (s : ByteArray) : ofL (blK s) = s := by
  unfold ofL blK; rw [i2b_map]
theorem bl_ofL {l : List Int} (h : byt l) : blK (ofL l) = l := by
  unfold blK ofL i2b
  induction l with
  | nil => rfl
  | cons x l ih =>
    simp only [List.map_cons] at ih ⊢
    have hx := h x (by simp)
    have e := ih (fun y hy => h y (by simp [hy]))
    rw [e]
    congr 1
    simp; omega
theorem bl_drop {s : ByteArray} {j : Nat} (h : j < s.size) : (blK s).drop j = atK_ s j :: (blK s).drop (j + 1) := by
  have h' : j < (blK s).length := by rw [bl_len]; exact h
  rw [List.drop_eq_getElem_cons h', atK_lt s j h]
  simp only [blK, List.getElem_map, Array.getElem_toList]
  rfl
theorem bl_drop_end {s : ByteArray} {j : Nat} (h : s.size ≤ j) : (blK s).drop j = [] := List.drop_eq_nil_of_le (by rw [bl_len]; exact h)
theorem i2b_take (l : List Int) (n : Nat) : i2b (l.take n) = (i2b l).take n := by simp [i2b]
theorem i2b_drop (l : List Int) (n : Nat) : i2b (l.drop n) = (i2b l).drop n := by simp [i2b]
theorem extract_eq (s : ByteArray) (i j : Nat) : s.extract i j = ofL (((blK s).drop i).take (j - i)) := by
  apply ByteArray.ext
  unfold ofL
  rw [i2b_take, i2b_drop, show i2b (blK s) = s.data.toList from i2b_map _]
  rw [ByteArray.data_extract]
  apply Array.toList_inj.1
  simp [List.extract_eq_take_drop]
/-- How long the run is. -/
def rl : List Int → Nat
  | [] => 0
  | c :: r => if rnb c = true then rl r + 1 else 0
theorem rl_le (l : List Int) : rl l ≤ l.length := by
  induction l with
  | nil => simp [rl]
  | cons c l ih => unfold rl; split <;> simp <;> omega
theorem rne_rl (s : ByteArray) : ∀ (f j : Nat), s.size - j = f → j ≤ s.size → rne s j = j + rl ((blK s).drop j)
  | 0, j, h, hj => by
    obtain rfl : j = s.size := by omega
    rw [rne_end, bl_drop_end (Nat.le_refl _)]; rfl
  | f + 1, j, h, hj => by
    have hlt : j < s.size := by omega
    rw [bl_drop hlt, rl]
    cases hb : rnb (atK_ s j)
    · rw [rne_no hb]; rfl
    · rw [← rne_yes hlt hb, rne_rl s f (j + 1) (by omega) (by omega)]; simp; omega
theorem rne_eq (s : ByteArray) (j : Nat) (hj : j ≤ s.size) : rne s j = j + rl ((blK s).drop j) := rne_rl s _ j rfl hj
/-- A token. -/
structure Tk where
  k : Int
  x : ByteArray
  n : Int
  a : Int
  e : Int
deriving DecidableEq
abbrev Tk.v (t : Tk) : Value := .agg #[.int .i64 t.k, .string t.x, .int .i64 t.n, .int .i64 t.a, .int .i64 t.e]
/-- What stands at a place: a token that is so long, or a fault so far on. -/
inductive TR where
  | ok (k : Int) (x : List Int) (n : Int) (len : Nat)
  | bad (err : Int) (off : Nat)
deriving DecidableEq
def TR.tk (j : Nat) : TR → Tk
  | .ok k x n len => ⟨k, ofL x, n, j, (j + len : Nat)⟩
  | .bad _ _ => ⟨0, ⟨#[]⟩, 0, 0, 0⟩
def TR.err : TR → Int
  | .ok _ _ _ _ => 0
  | .bad e _ => e
def TR.pl (j : Nat) : TR → Int
  | .ok _ _ _ _ => 0
  | .bad _ o => ((j + o : Nat) : Int)
abbrev TR.v (j : Nat) (r : TR) : Value := .tuple #[(r.tk j).v, .agg #[.int .i64 r.err, .int .i64 (r.pl j)]]
def hexv (c : Int) : Option Int := if 48 ≤ c ∧ c ≤ 57 then some (c - 48) else if 97 ≤ c ∧ c ≤ 102 then some (c - 87) else if 65 ≤ c ∧ c ≤ 70 then some (c - 55) else none
def hex2 : List Int → Option Int
  | a :: b :: _ => match hexv a, hexv b with
    | some x, some y => some (x * 16 + y)
    | _, _ => none
  | _ => none
/-- What an escape means, behind its backslash, and how long it is. -/
def esc : List Int → Option (Int × Nat)
  | [] => none
  | c :: r => if c = 34 ∨ c = 92 then some (c, 1) else if c = 110 then some (10, 1) else if c = 116 then some (9, 1) else if c = 120 then (hex2 r).map (fun b => (b, 3)) else none
/-- A quoted text, behind its first byte. -/
def qd : Nat → List Int → Nat → List Int → TR
  | 0, _, _, _ => .bad 43 0
  | _ + 1, [], _, _ => .bad 43 0
  | f + 1, c :: r, off, acc =>
    if c = 34 then .ok 3 acc 0 (off + 1)
    else if c = 92 then (match esc r with
      | some (b, k) => qd f (r.drop k) (off + 1 + k) (acc ++ [b])
      | none => .bad 44 off)
    else if c < 32 ∨ c = 127 then .bad 44 off
    else qd f r (off + 1) (acc ++ [c])
def skG : Nat → List ByteArray → ByteArray → Nat
  | _, [], _ => 0
  | i, t :: r, x => if t = x then i else skG (i + 1) r x
/-- The kind of a sign; 0 of what is none. -/
def sk (x : ByteArray) : Nat := skG 0 signL x
def sgF (l : List Int) : Nat → TR
  | 0 => .bad 42 0
  | m + 1 => if sk (ofL (l.take (m + 1))) = 0 then sgF l m else .ok (sk (ofL (l.take (m + 1))) : Nat) [] 0 (m + 1)
def sgt (l : List Int) : TR := sgF l (min 2 l.length)
/-- A number's value. -/
def num (d : List Int) : Option Int := match Lib.atoiAll (i2b d) with
  | .ok v => if Lib.itoa v = i2b d then some v else none
  | _ => none
def numt (n : Nat) (l : List Int) : TR := match num (l.take n) with
  | some v => .ok 4 [] v n
  | none => .bad 45 0
/-- What stands there. -/
def tok : List Int → TR
  | [] => .bad 42 0
  | c :: r =>
    if sml c = true then (if ofL ((c :: r).take (rl (c :: r))) = saysB then .ok 5 [] 0 (rl (c :: r)) else .ok 1 ((c :: r).take (rl (c :: r))) 0 (rl (c :: r)))
    else if grt c = true then .ok 2 ((c :: r).take (rl (c :: r))) 0 (rl (c :: r))
    else if c = 45 then numt (1 + rl r) (c :: r)
    else if dig c = true then numt (rl (c :: r)) (c :: r)
    else if c = 34 then qd (r.length + 1) r 1 []
    else sgt (c :: r)
/-- How far a remark goes. -/
def le_ : List Int → Nat
  | [] => 0
  | c :: r => if c = 10 then 0 else le_ r + 1
theorem le_le (l : List Int) : le_ l ≤ l.length := by
  induction l with
  | nil => simp [le_]
  | cons c l ih => unfold le_; split <;> simp <;> omega
/-- The tokens, or the fault and its place. -/
def ct : Nat → List Int → Nat → List Tk → List Tk × Int × Int
  | 0, _, _, acc => (acc, 0, 0)
  | _ + 1, [], _, acc => (acc, 0, 0)
  | f + 1, c :: r, off, acc =>
    if c = 32 ∨ c = 9 ∨ c = 10 ∨ c = 13 then ct f r (off + 1) acc
    else if c = 37 then ct f ((c :: r).drop (le_ (c :: r))) (off + le_ (c :: r)) acc
    else match tok (c :: r) with
      | .bad e o => ([], e, ((off + o : Nat) : Int))
      | .ok k x n len => ct f ((c :: r).drop len) (off + len) (acc ++ [⟨k, ofL x, n, off, (off + len : Nat)⟩])
/-- What Cut answers. -/
def cutL (l : List Int) (most : Int) : List Tk × Int × Int := if most < l.length then ([], 41, 0) else ct (l.length + 1) l 0 []
end Go.Proofs.YtdfdnjkeiddfjaaDoor
/-
  script (stage 25): the document's fits, used.
-/
namespace Go.Proofs.YtdfdnjkeiddfjaaDoor
open Go.RowKit
attribute [local go_sem ↓] Go.wp_at_zero Go.wp_at_succ

/-- May a token of this kind stand for this part? -/
def ftS (p k : Int) : Bool := if p = 119 ∨ p = 111 then decide (k = 1) || decide (k = 3) else if p = 116 ∨ p = 98 then decide (k = 3) else decide (k = 4)
end Go.Proofs.YtdfdnjkeiddfjaaDoor
