import Derived.Test.YtgbiicmkhlnniaaGreatDoorCL1
import Derived.Test.YtgbiicmkhlnniaaGreatDoorW1
import Derived.Test.YtgbiicmkhlnniaaGreatDoorB4
import Derived.ProofKit
import Derived.OpenShut
import Derived.ShutString
import Derived.ChangeOld
import Derived.Below
import Derived.Lib.SmallJoins
import Derived.Test.YtgbiicmkhlnniaaGreatDoorB2
import Derived.Test.YtgbiicmkhlnniaaGreatDoorCL6
import Derived.DeepKeys4
import Derived.Laws.AppendOwnNone
import Derived.Lib.SliceRun
import Derived.Laws.BitsAllLaws
import Derived.WalkLawsBesides
import Derived.Test.YtgbiicmkhlnniaaGreatDoorProg
import Derived.Conc.MuLone
import Derived.KernelRfl
/-
  replace, ApplyTest.
-/
namespace Go.Proofs.YtgbiicmkhlnniaaGreatDoor
open Go.RowKit
attribute [local go_sem ↓] Go.wp_at_zero Go.wp_at_succ

def BoxB (w W : World) (c d : Array Value) (t t' : TypeId) : Prop := W.heap[w.heap.size]? = some (.cells c t (0, 0)) ∧ W.heap[w.heap.size + 1]? = some (.cells d t' (0, 0)) ∧ Below w.heap.size w W
theorem BoxB.start (w : World) (c d : Array Value) (t t' : TypeId) : BoxB w ((w.alloc (.cells c t)).alloc (.cells d t')) c d t t' := ⟨heap_alloc2_old _ _ _, heap_alloc2_new _ _ _, below2 _ _ _⟩
theorem BoxB.later {w W W' : World} {c d : Array Value} {t t' : TypeId} (h : BoxB w W c d t t') (hb : Below W.heap.size W W') : BoxB w W' c d t t' :=
  ⟨(hb.block _ (Array.getElem?_eq_some_iff.1 h.1).1).trans h.1, (hb.block _ (Array.getElem?_eq_some_iff.1 h.2.1).1).trans h.2.1, h.2.2.trans (hb.mono h.2.2.size)⟩
theorem BoxB.lt {w W : World} {c d : Array Value} {t t' : TypeId} (h : BoxB w W c d t t') : w.heap.size + 1 < W.heap.size := (Array.getElem?_eq_some_iff.1 h.2.1).1
theorem cell_stepB {B : Nat} {w' w3 : World} {b o : Nat} {v : Value} (h3 : Below B w' w3) (hb : b < B) (hc : w'.cell? ⟨b, o, none⟩ = some v) : w3.cell? ⟨b, o, none⟩ = some v := by
  rw [h3.cell (p := ⟨b, o, none⟩) hb]; exact hc
end Go.Proofs.YtgbiicmkhlnniaaGreatDoor
/-
  sortBinds of at most one bind; first.
-/
namespace Go.Proofs.YtgbiicmkhlnniaaGreatDoor
open Go.RowKit

set_option maxRecDepth 100000 in
theorem len64_tiny (n : Int) (h : n = 0 ∨ n = 1) (w : World) : Calls Tryz.prog 114 #[.int .u64 n] w fun e w' => (∃ m : Int, e = .returned (.int .i64 m)) ∧ w' = w := by
  rcases h with rfl | rfl
  · go_enter Tryz.func114, Tryz.ntmps114
    go_wp2
    go_ret
    exact ⟨⟨_, rfl⟩, rfl⟩
  · go_enter Tryz.func114, Tryz.ntmps114
    go_wp2
    go_ret
    exact ⟨⟨_, rfl⟩, rfl⟩
theorem len_tiny (n : Nat) (h : n ≤ 1) (w : World) : Calls Tryz.prog 79 #[.int .u64 n] w fun e w' => (∃ m : Int, e = .returned (.int .i64 m)) ∧ w' = w := by
  have hn : (n : Int) = 0 ∨ (n : Int) = 1 := by omega
  have HN : Hid ((n : Int) = 0 ∨ (n : Int) = 1) := hn
  clear hn h
  go_enter Tryz.func79, Tryz.ntmps79
  go_wp2_with (go_at_call 114; refine (len64_tiny _ HN.out _).mono ?_; rintro e w1 ⟨⟨m, rfl⟩, rfl⟩)
  go_ret
  exact ⟨⟨_, rfl⟩, rfl⟩
end Go.Proofs.YtgbiicmkhlnniaaGreatDoor
/-
  hearsaylaw02.TermDecides, for every two terms.
-/
namespace Go.Proofs.YtgbiicmkhlnniaaGreatDoor
open Go.RowKit
attribute [local go_sem ↓] Go.wp_at_zero Go.wp_at_succ

def x4 : Tm := ⟨3, 4, ⟨#[]⟩⟩
end Go.Proofs.YtgbiicmkhlnniaaGreatDoor
/-
  Arguments opened: a term, a list of terms, an atom, a binding.
-/
namespace Go.Proofs.YtgbiicmkhlnniaaGreatDoor
open Go.ChangeShapes Go.WideShapes Go.ChangeAt Go.RowKit Go.Joins
open Go.ChangeMaps (open_string shut_string)

theorem Tryz.own : ownKnob Tryz.prog.godebug = none := by kernel_rfl
theorem Tryz.laidOut : laidOutB Tryz.prog = true := by kernel_rfl
theorem Tryz.cellsTerm : Tryz.prog.cellsOf 23 = 3 := by kernel_rfl

end Go.Proofs.YtgbiicmkhlnniaaGreatDoor
/-
  Maps whose keys are structs: what they hold, value by value.
-/
namespace Go.Proofs.YtgbiicmkhlnniaaGreatDoor
open Go.RowKit

/-- How things of a kind are keys of a map. -/
structure Ky (P : Program) (k : TypeId) (κ : Type) where
  v : κ → Value
  l : κ → Lit
  ok : κ → Prop
  kd : Maps.Keyed P k
  of : ∀ x, ok x → keyOf P k (v x) = some (l x)
  inv : ∀ u kl, keyOf P k u = some kl → ∃ x, u = v x ∧ kl = l x ∧ ok x
  inj : ∀ x y, ok x → ok y → l x = l y → x = y
  key : ∀ x, WideAt.IsKeyLit (l x)
section
variable {P : Program} {k : TypeId} {κ : Type} {K : Ky P k κ} {w w' : World} {b n : Nat} {f : κ → Option Value}
end
end Go.Proofs.YtgbiicmkhlnniaaGreatDoor
/-
  Numbers as a text: rel.text.
-/
namespace Go.Proofs.YtgbiicmkhlnniaaGreatDoor
open Go.RowKit
attribute [local go_sem ↓] Go.wp_at_zero Go.wp_at_succ

/-- A number in so many bytes, the greatest first. -/
def tb : Nat → Int → List Int
  | 0, _ => []
  | k + 1, n => (n / (256 : Int) ^ k) % 256 :: tb k n
def i2b7 (l : List Int) : List UInt8 := l.map fun x => UInt8.ofNat x.toNat
def ofL7 (l : List Int) : ByteArray := ⟨(i2b7 l).toArray⟩
/-- What text makes of numbers. -/
def tx (l : List Int) : ByteArray := ofL7 (l.flatMap (tb 8))
theorem Tryz.infoInt7 : (Tryz.prog.info? 3).map (fun i => (i.zero, i.size, i.bytes)) = some (some (.int .i64 0), 1, 8) := by kernel_rfl
theorem info7 {P : Program} {e : TypeId} {z : Value} {s b : Nat} (h : (P.info? e).map (fun i => (i.zero, i.size, i.bytes)) = some (some z, s, b)) : ∃ i, P.info? e = some i ∧ i.zero = some z ∧ i.size = s ∧ i.bytes = b := by
  cases hi : P.info? e with
  | none => rw [hi] at h; simp at h
  | some i =>
    rw [hi] at h
    simp only [Option.map_some, Option.some.injEq, Prod.mk.injEq] at h
    exact ⟨i, rfl, h.1, h.2.1, h.2.2⟩
/-- append of one thing of one cell that lies in a block of its own. -/
theorem gapp {T e : TypeId} {z : Value} {by_ : Nat} (hT : Tryz.prog.underlying T = some (.slice e)) (hI : (Tryz.prog.info? e).map (fun i => (i.zero, i.size, i.bytes)) = some (some z, 1, by_)) (hz : z.cells.size = 1) (hby : by_ ≤ 100)
    {ops : Array Oper} {rest : List Oper} {o : Oper} {a : Act} {Q : Exit → Act → World → Prop} {w : World} (hgd : o.guard = none) (s x : Operand)
    (ho : o.op = .call { callee := .builtin .append, args := #[s, x], argTypes := #[T, T] }) (base : Nat) (v : Value) (n : Nat) (l : List Value) (hs : a.eval s = v) (hown : w.ownsRow base e 1 v n l)
    (b : Nat) (y : Value) (hx : a.eval x = .slice (some ⟨b, 0, none⟩) 1 1) (hblk : Bk w b #[y] e) (hy : y.oneCell' = true) (hlen : n ≤ 1000000000000) (hbase : base ≤ w.heap.size)
    (h : ∀ g cap w', w'.ownsRow base e 1 (.slice (some ⟨g, 0, none⟩) (n + 1) cap) (n + 1) (l ++ [y]) → w.grownBy w' v.ownBlock → (v.ownBlock = some g ∨ g = w.heap.size) → g < w'.heap.size → wpList Tryz.prog ops Q rest (a.put o.dst (.slice (some ⟨g, 0, none⟩) (n + 1) cap)) w') : wpList Tryz.prog ops Q (o :: rest) a w := by
  obtain ⟨i, hi, h0, h1, h2⟩ := info7 hI
  refine wpList_append_lies _ hgd s x T ho base e i z 1 by_ hT hi h0 h1 h2 hz (by omega) v n l hs hown ⟨b, 0, none⟩ 1 1 [y] hx rfl ?_ (by simpa using hy) (by omega) (by unfold maxLen; omega) (Nat.le_trans (Nat.mul_le_mul (show n + 1 ≤ 1000000000001 by omega) hby) (by decide)) hbase _ rfl h
  intro j u hj
  exact World.news_of_block (cs := #[y]) (t := e) (fr := (0, 0)) hblk j u (by simpa using hj)
end Go.Proofs.YtgbiicmkhlnniaaGreatDoor
/-
  A relation in memory.
-/
namespace Go.Proofs.YtgbiicmkhlnniaaGreatDoor
open Go.RowKit

/-- A relation: its width, its rows as they came, where the new ones and the next ones begin. -/
structure St7 where
  wd : Nat
  rows : List (List Int)
  nf : Nat
  xf : Nat
def txi (rows : List (List Int)) (k : ByteArray) : Option Nat := rows.findIdx? fun r => decide (tx r = k)
def plF (rows : List (List Int)) : ByteArray → Option Value := fun k => (txi rows k).map fun i => .int .i64 (i : Int)
/-- The numbers of a row in columns. -/
def nums7 (cols : List Nat) (r : List Int) : List Int := cols.map fun c => r[c]?.getD 0
/-- The places of the first rows whose numbers in the columns have this text. -/
def grp (rows : List (List Int)) (cols : List Nat) (n : Nat) (k : ByteArray) : List Nat := (List.range n).filter fun i => decide (tx (nums7 cols (rows[i]?.getD [])) = k)
def nat7 (l : List Nat) : List Int := l.map fun (i : Nat) => (i : Int)
/-- An index in block gx; its own blocks: f; those that it only reads: S. -/
structure IX (w : World) (gx : Nat) (f S : Nat → Prop) (rows : List (List Int)) (cols : List Nat) (n : Nat) : Prop where
  ex : ∃ (cv : Value) (m c : Nat) (t : ByteArray → Option Value), Bk w gx #[cv, .map (some m), .int .i64 (n : Int)] 256 ∧ Li S w cv (nat7 cols) ∧ Mp Tryz.prog 9 w m c t ∧ f gx ∧ f m ∧ c ≤ n ∧
    (∀ k, t k = none → grp rows cols n k = []) ∧
    (∀ k v, t k = some v → grp rows cols n k ≠ [] ∧ OwI w 0 v (nat7 (grp rows cols n k)) ∧ ∀ b, v.ownBlock = some b → f b) ∧
    ∀ k k' v v', t k = some v → t k' = some v' → k ≠ k' → v.ownBlock ≠ v'.ownBlock
/-- The rows in memory. -/
def Rws (w : World) (S : Nat → Prop) (rv : Value) (rvs : List Value) (rows : List (List Int)) : Prop :=
  w.ownsRow 0 32 1 rv rows.length rvs ∧ ∀ (i : Nat) (r : List Int), rows[i]? = some r → ∃ v, rvs[i]? = some v ∧ Li S w v r
/-- A relation in block g: the blocks that it writes (F), those that it only reads (S). -/
structure RX (w : World) (g : Nat) (F S : Nat → Prop) (s : St7) (lk : Int) (rv : Value) (rvs : List Value) (mp mx nx : Nat) (t : ByteArray → Option Value) (f : ByteArray → Nat → Prop) : Prop where
  ok : s.Ok
  b : Bk w g #[.int .i64 (s.wd : Int), rv, .int .i64 (s.nf : Int), .int .i64 (s.xf : Int), .map (some mp), .int .i32 lk, .int .u32 0, .map (some mx)] 234
  r : Rws w S rv rvs s.rows
  p : Mp Tryz.prog 9 w mp s.rows.length (plF s.rows)
  x : Mp Tryz.prog 9 w mx nx t
  i : ∀ k v, t k = some v → ∃ gx cols n, v = .pointer (some ⟨gx, 0, none⟩) ∧ k = tx (nat7 cols) ∧ cols.length ≤ 10000000000 ∧ (∀ c ∈ cols, c < s.wd) ∧ n ≤ s.rows.length ∧ IX w gx (f k) S s.rows cols n
  Fg : F g
  Fr : ∀ b, rv.ownBlock = some b → F b
  Fp : F mp
  Fx : F mx
  Fi : ∀ k b, (t k).isSome = true → f k b → F b ∧ b ≠ g ∧ b ≠ mp ∧ b ≠ mx ∧ rv.ownBlock ≠ some b
  d : ∀ k k' b, k ≠ k' → (t k).isSome = true → (t k').isSome = true → f k b → ¬ f k' b
  q : ∀ b, F b → ¬ S b ∧ b < w.heap.size
  pm : mp ≠ mx
  q2 : ∀ b, S b → b < w.heap.size
/-- A relation that nobody holds. -/
def RM (w : World) (g : Nat) (F S : Nat → Prop) (m : Nat) (s : St7) : Prop := ∃ rv rvs mp mx nx t f, nx ≤ m ∧ RX w g F S s 0 rv rvs mp mx nx t f
end Go.Proofs.YtgbiicmkhlnniaaGreatDoor
/-
  rel: New, Turn, Part.
-/
namespace Go.Proofs.YtgbiicmkhlnniaaGreatDoor
open Go.RowKit
attribute [local go_sem ↓] Go.wp_at_zero Go.wp_at_succ

theorem mk_map7 (T : TypeId) (w : World) : (Instr.makeMap T none).run Tryz.prog w = .ok (.map (some w.heap.size)) (w.alloc (.map #[] 0)) := by
  simp [Instr.makeMap, go_sem]
end Go.Proofs.YtgbiicmkhlnniaaGreatDoor
/-
  slices.Clone of numbers.
-/
namespace Go.Proofs.YtgbiicmkhlnniaaGreatDoor
open Go.RowKit
attribute [local go_sem ↓] Go.wp_at_zero Go.wp_at_succ

theorem row7_mono {e : TypeId} {w : World} {b b' n m : Nat} {v : Value} {xs : List Value} (h : w.ownsRow b e n v m xs) (hb : b' ≤ b) : w.ownsRow b' e n v m xs := by
  refine ⟨h.1, ?_⟩
  rcases h.2 with hn | ⟨g, cap, cur, hv, hbb, hg, rest⟩
  · exact Or.inl hn
  · exact Or.inr ⟨g, cap, cur, hv, Nat.le_trans hb hbb, hg, rest⟩
end Go.Proofs.YtgbiicmkhlnniaaGreatDoor
/-
  rel: Add. (Written by RA7.py.)
-/
namespace Go.Proofs.YtgbiicmkhlnniaaGreatDoor
open Go.RowKit
attribute [local go_sem ↓] Go.wp_at_zero Go.wp_at_succ

/-- The block of a row that a call owns has its element type. -/
theorem row7_blk {w : World} {base n m : Nat} {e : TypeId} {v : Value} {xs : List Value} (h : w.ownsRow base e n v m xs) {b : Nat} (hb : v.ownBlock = some b) : ∃ cur, Bk w b cur e := by
  rcases h.2 with ⟨rfl, -⟩ | ⟨g, cap, cur, rfl, -, hg, -⟩
  · cases hb
  · cases hb; exact ⟨cur, hg⟩
theorem Bk.ty {w : World} {b : Nat} {c c' : Array Value} {t t' : TypeId} (h : Bk w b c t) (h' : Bk w b c' t') : t = t' := by
  unfold Bk at h h'
  rw [h] at h'
  simp at h'
  exact h'.2
end Go.Proofs.YtgbiicmkhlnniaaGreatDoor
/-
  slices.BinarySearch of numbers; a stretch of places.
-/
namespace Go.Proofs.YtgbiicmkhlnniaaGreatDoor
open Go.RowKit
attribute [local go_sem ↓] Go.wp_at_zero Go.wp_at_succ

theorem nan7_any (x : Int) (w : World) : Calls Tryz.prog 94 #[.int .i64 x] w fun e w' => e = .returned (.bool false) ∧ w' = w := by
  go_enter Tryz.func94, Tryz.ntmps94
  go_wp2
  go_ret
  exact ⟨ret_b (by simp), rfl⟩
end Go.Proofs.YtgbiicmkhlnniaaGreatDoor
/-
  rel: stretches, Len. (Written by RA14.py.)
-/
namespace Go.Proofs.YtgbiicmkhlnniaaGreatDoor
open Go.RowKit
attribute [local go_sem ↓] Go.wp_at_zero Go.wp_at_succ

theorem gappN {T e : TypeId} {z : Value} {by_ size : Nat} (hT : Tryz.prog.underlying T = some (.slice e)) (hI : (Tryz.prog.info? e).map (fun i => (i.zero, i.size, i.bytes)) = some (some z, size, by_)) (hz : z.cells.size = size) (hsz : 0 < size) (hby : by_ ≤ 100)
    {ops : Array Oper} {rest : List Oper} {o : Oper} {a : Act} {Q : Exit → Act → World → Prop} {w : World} (hgd : o.guard = none) (s x : Operand)
    (ho : o.op = .call { callee := .builtin .append, args := #[s, x], argTypes := #[T, T] }) (base : Nat) (v : Value) (n : Nat) (l : List Value) (hs : a.eval s = v) (hown : w.ownsRow base e size v n l)
    (b : Nat) (y : Array Value) (hx : a.eval x = .slice (some ⟨b, 0, none⟩) 1 1) (hblk : Bk w b y e) (hy : y.size = size) (hone : ∀ u ∈ y.toList, u.oneCell' = true) (hlen : n ≤ 1000000000000) (hbase : base ≤ w.heap.size)
    (h : ∀ g cap w', w'.ownsRow base e size (.slice (some ⟨g, 0, none⟩) (n + 1) cap) (n + 1) (l ++ y.toList) → w.grownBy w' v.ownBlock → (v.ownBlock = some g ∨ g = w.heap.size) → g < w'.heap.size → wpList Tryz.prog ops Q rest (a.put o.dst (.slice (some ⟨g, 0, none⟩) (n + 1) cap)) w') : wpList Tryz.prog ops Q (o :: rest) a w := by
  obtain ⟨i, hi, h0, h1, h2⟩ := info7 hI
  refine wpList_append_lies _ hgd s x T ho base e i z size by_ hT hi h0 h1 h2 hz hsz v n l hs hown ⟨b, 0, none⟩ 1 1 y.toList hx (by simp [hy]) ?_ hone (by omega) (by unfold maxLen; omega) (Nat.le_trans (Nat.mul_le_mul (show n + 1 ≤ 1000000000001 by omega) hby) (by decide)) hbase _ rfl h
  intro j u hj
  exact World.news_of_block (cs := y) (t := e) (fr := (0, 0)) hblk j u (by simpa using hj)
theorem gstepN {T e : TypeId} {z : Value} {by_ size : Nat} (hT : Tryz.prog.underlying T = some (.slice e)) (hI : (Tryz.prog.info? e).map (fun i => (i.zero, i.size, i.bytes)) = some (some z, size, by_)) (hz : z.cells.size = size) (hsz : 0 < size) (hby : by_ ≤ 100)
    {ops : Array Oper} {o : Oper} {a : Act} {K : Act → World → Prop} {Q : Exit → Act → World → Prop} {E : Prop} {w : World} (hgd : o.guard = none) (s x : Operand)
    (ho : o.op = .call { callee := .builtin .append, args := #[s, x], argTypes := #[T, T] }) (base : Nat) (v : Value) (n : Nat) (l : List Value) (hs : a.eval s = v) (hown : w.ownsRow base e size v n l)
    (b : Nat) (y : Array Value) (hx : a.eval x = .slice (some ⟨b, 0, none⟩) 1 1) (hblk : Bk w b y e) (hy : y.size = size) (hone : ∀ u ∈ y.toList, u.oneCell' = true) (hlen : n ≤ 1000000000000) (hbase : base ≤ w.heap.size)
    (h : ∀ g cap w', w'.ownsRow base e size (.slice (some ⟨g, 0, none⟩) (n + 1) cap) (n + 1) (l ++ y.toList) → w.grownBy w' v.ownBlock → (v.ownBlock = some g ∨ g = w.heap.size) → g < w'.heap.size → K (a.put o.dst (.slice (some ⟨g, 0, none⟩) (n + 1) cap)) w') : if Region.wanted o (yielded ops a.tmps) = true then Oper.wp Tryz.prog o a w K Q else E := by
  obtain ⟨i, hi, h0, h1, h2⟩ := info7 hI
  refine step_append_lies _ hgd s x T ho base e i z size by_ hT hi h0 h1 h2 hz hsz v n l hs hown ⟨b, 0, none⟩ 1 1 y.toList hx (by simp [hy]) ?_ hone (by omega) (by unfold maxLen; omega) (Nat.le_trans (Nat.mul_le_mul (show n + 1 ≤ 1000000000001 by omega) hby) (by decide)) hbase _ rfl h
  intro j u hj
  exact World.news_of_block (cs := y) (t := e) (fr := (0, 0)) hblk j u (by simpa using hj)
end Go.Proofs.YtgbiicmkhlnniaaGreatDoor
