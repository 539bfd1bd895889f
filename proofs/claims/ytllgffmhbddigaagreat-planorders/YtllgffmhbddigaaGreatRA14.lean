import Derived.Test.YtllgffmhbddigaaGreatCL1
import Derived.Test.YtllgffmhbddigaaGreatB7
import Derived.Test.YtllgffmhbddigaaGreatB4
import Derived.ProofKit
import Derived.OpenShut
import Derived.ShutString
import Derived.ChangeOld
import Derived.Below
import Derived.Lib.SmallJoins
import Derived.Test.YtllgffmhbddigaaGreatB2
import Derived.Test.YtllgffmhbddigaaGreatCL6
import Derived.DeepKeys4
import Derived.Laws.AppendOwnNone
import Derived.Lib.SliceRun
import Derived.Laws.BitsAllLaws
import Derived.WalkLawsBesides
import Derived.Test.YtllgffmhbddigaaGreatProg
import Derived.Conc.MuLone
import Derived.KernelRfl
/-
  replace, ApplyTest.
-/
namespace Go.Proofs.YtllgffmhbddigaaGreat
open Go.RowKit
attribute [local go_sem ↓] Go.wp_at_zero Go.wp_at_succ

def BoxB (w W : World) (c d : Array Value) (t t' : TypeId) : Prop := W.heap[w.heap.size]? = some (.cells c t (0, 0)) ∧ W.heap[w.heap.size + 1]? = some (.cells d t' (0, 0)) ∧ Below w.heap.size w W
theorem BoxB.start (w : World) (c d : Array Value) (t t' : TypeId) : BoxB w ((w.alloc (.cells c t)).alloc (.cells d t')) c d t t' := ⟨heap_alloc2_old _ _ _, heap_alloc2_new _ _ _, below2 _ _ _⟩
theorem BoxB.later {w W W' : World} {c d : Array Value} {t t' : TypeId} (h : BoxB w W c d t t') (hb : Below W.heap.size W W') : BoxB w W' c d t t' :=
  ⟨(hb.block _ (Array.getElem?_eq_some_iff.1 h.1).1).trans h.1, (hb.block _ (Array.getElem?_eq_some_iff.1 h.2.1).1).trans h.2.1, h.2.2.trans (hb.mono h.2.2.size)⟩
theorem BoxB.lt {w W : World} {c d : Array Value} {t t' : TypeId} (h : BoxB w W c d t t') : w.heap.size + 1 < W.heap.size := (Array.getElem?_eq_some_iff.1 h.2.1).1
theorem cell_stepB {B : Nat} {w' w3 : World} {b o : Nat} {v : Value} (h3 : Below B w' w3) (hb : b < B) (hc : w'.cell? ⟨b, o, none⟩ = some v) : w3.cell? ⟨b, o, none⟩ = some v := by
  rw [h3.cell (p := ⟨b, o, none⟩) hb]; exact hc
end Go.Proofs.YtllgffmhbddigaaGreat
/-
  sortBinds of at most one bind; first.
-/
namespace Go.Proofs.YtllgffmhbddigaaGreat
open Go.RowKit

set_option maxRecDepth 100000 in
theorem len64_tiny (n : Int) (h : n = 0 ∨ n = 1) (w : World) : Calls Tryz.prog 151 #[.int .u64 n] w fun e w' => (∃ m : Int, e = .returned (.int .i64 m)) ∧ w' = w := by
  rcases h with rfl | rfl
  · go_enter Tryz.func151, Tryz.ntmps151
    go_wp2
    go_ret
    exact ⟨⟨_, rfl⟩, rfl⟩
  · go_enter Tryz.func151, Tryz.ntmps151
    go_wp2
    go_ret
    exact ⟨⟨_, rfl⟩, rfl⟩
theorem len_tiny (n : Nat) (h : n ≤ 1) (w : World) : Calls Tryz.prog 95 #[.int .u64 n] w fun e w' => (∃ m : Int, e = .returned (.int .i64 m)) ∧ w' = w := by
  have hn : (n : Int) = 0 ∨ (n : Int) = 1 := by omega
  have HN : Hid ((n : Int) = 0 ∨ (n : Int) = 1) := hn
  clear hn h
  go_enter Tryz.func95, Tryz.ntmps95
  go_wp2_with (go_at_call 151; refine (len64_tiny _ HN.out _).mono ?_; rintro e w1 ⟨⟨m, rfl⟩, rfl⟩)
  go_ret
  exact ⟨⟨_, rfl⟩, rfl⟩
end Go.Proofs.YtllgffmhbddigaaGreat
/-
  hearsaylaw02.TermDecides, for every two terms.
-/
namespace Go.Proofs.YtllgffmhbddigaaGreat
open Go.RowKit
attribute [local go_sem ↓] Go.wp_at_zero Go.wp_at_succ

def x4 : Tm := ⟨3, 4, ⟨#[]⟩⟩
end Go.Proofs.YtllgffmhbddigaaGreat
/-
  Arguments opened: a term, a list of terms, an atom, a binding.
-/
namespace Go.Proofs.YtllgffmhbddigaaGreat
open Go.ChangeShapes Go.WideShapes Go.ChangeAt Go.RowKit Go.Joins
open Go.ChangeMaps (open_string shut_string)

theorem Tryz.own : ownKnob Tryz.prog.godebug = none := by kernel_rfl
theorem Tryz.laidOut : laidOutB Tryz.prog = true := by kernel_rfl
theorem Tryz.cellsTerm : Tryz.prog.cellsOf 23 = 3 := by kernel_rfl

end Go.Proofs.YtllgffmhbddigaaGreat
/-
  Maps whose keys are structs: what they hold, value by value.
-/
namespace Go.Proofs.YtllgffmhbddigaaGreat
open Go.RowKit

/-- How things of a kind are keys of a map. -/
structure Ky (P : Program) (k : TypeId) (κ : Type) where
  v : κ → Value
  l : κ → Lit
  ok : κ → Prop
  kd : Maps.Keyed P k
  of : ∀ x, ok x → keyOf P k (v x) = some (l x)
  inv : ∀ u kl, keyOf P k u = some kl → ∃ x, u = v x ∧ kl = l x ∧ ok x
  inj : ∀ x y, ok x → ok y → l x = l y → x = y
  key : ∀ x, WideAt.IsKeyLit (l x)
section
variable {P : Program} {k : TypeId} {κ : Type} {K : Ky P k κ} {w w' : World} {b n : Nat} {f : κ → Option Value}
end
end Go.Proofs.YtllgffmhbddigaaGreat
/-
  Numbers as a text: rel.text.
-/
namespace Go.Proofs.YtllgffmhbddigaaGreat
open Go.RowKit
attribute [local go_sem ↓] Go.wp_at_zero Go.wp_at_succ

/-- A number in so many bytes, the greatest first. -/
def tb : Nat → Int → List Int
  | 0, _ => []
  | k + 1, n => (n / (256 : Int) ^ k) % 256 :: tb k n
theorem Tryz.infoInt7 : (Tryz.prog.info? 3).map (fun i => (i.zero, i.size, i.bytes)) = some (some (.int .i64 0), 1, 8) := by kernel_rfl
theorem info7 {P : Program} {e : TypeId} {z : Value} {s b : Nat} (h : (P.info? e).map (fun i => (i.zero, i.size, i.bytes)) = some (some z, s, b)) : ∃ i, P.info? e = some i ∧ i.zero = some z ∧ i.size = s ∧ i.bytes = b := by
  cases hi : P.info? e with
  | none => rw [hi] at h; simp at h
  | some i =>
    rw [hi] at h
    simp only [Option.map_some, Option.some.injEq, Prod.mk.injEq] at h
    exact ⟨i, rfl, h.1, h.2.1, h.2.2⟩
/-- append of one thing of one cell that lies in a block of its own. -/
theorem gapp {T e : TypeId} {z : Value} {by_ : Nat} (hT : Tryz.prog.underlying T = some (.slice e)) (hI : (Tryz.prog.info? e).map (fun i => (i.zero, i.size, i.bytes)) = some (some z, 1, by_)) (hz : z.cells.size = 1) (hby : by_ ≤ 100)
    {ops : Array Oper} {rest : List Oper} {o : Oper} {a : Act} {Q : Exit → Act → World → Prop} {w : World} (hgd : o.guard = none) (s x : Operand)
    (ho : o.op = .call { callee := .builtin .append, args := #[s, x], argTypes := #[T, T] }) (base : Nat) (v : Value) (n : Nat) (l : List Value) (hs : a.eval s = v) (hown : w.ownsRow base e 1 v n l)
    (b : Nat) (y : Value) (hx : a.eval x = .slice (some ⟨b, 0, none⟩) 1 1) (hblk : Bk w b #[y] e) (hy : y.oneCell' = true) (hlen : n ≤ 1000000000000) (hbase : base ≤ w.heap.size)
    (h : ∀ g cap w', w'.ownsRow base e 1 (.slice (some ⟨g, 0, none⟩) (n + 1) cap) (n + 1) (l ++ [y]) → w.grownBy w' v.ownBlock → (v.ownBlock = some g ∨ g = w.heap.size) → g < w'.heap.size → wpList Tryz.prog ops Q rest (a.put o.dst (.slice (some ⟨g, 0, none⟩) (n + 1) cap)) w') : wpList Tryz.prog ops Q (o :: rest) a w := by
  obtain ⟨i, hi, h0, h1, h2⟩ := info7 hI
  refine wpList_append_lies _ hgd s x T ho base e i z 1 by_ hT hi h0 h1 h2 hz (by omega) v n l hs hown ⟨b, 0, none⟩ 1 1 [y] hx rfl ?_ (by simpa using hy) (by omega) (by unfold maxLen; omega) (Nat.le_trans (Nat.mul_le_mul (show n + 1 ≤ 1000000000001 by omega) hby) (by decide)) hbase _ rfl h
  intro j u hj
  exact World.news_of_block (cs := #[y]) (t := e) (fr := (0, 0)) hblk j u (by simpa using hj)
end Go.Proofs.YtllgffmhbddigaaGreat
/-
  rel: New, Turn, Part.
-/
namespace Go.Proofs.YtllgffmhbddigaaGreat
open Go.RowKit
attribute [local go_sem ↓] Go.wp_at_zero Go.wp_at_succ

theorem mk_map7 (T : TypeId) (w : World) : (Instr.makeMap T none).run Tryz.prog w = .ok (.map (some w.heap.size)) (w.alloc (.map #[] 0)) := by
  simp [Instr.makeMap, go_sem]
end Go.Proofs.YtllgffmhbddigaaGreat
/-
  slices.Clone of numbers.
-/
namespace Go.Proofs.YtllgffmhbddigaaGreat
open Go.RowKit
attribute [local go_sem ↓] Go.wp_at_zero Go.wp_at_succ

theorem row7_mono {e : TypeId} {w : World} {b b' n m : Nat} {v : Value} {xs : List Value} (h : w.ownsRow b e n v m xs) (hb : b' ≤ b) : w.ownsRow b' e n v m xs := by
  refine ⟨h.1, ?_⟩
  rcases h.2 with hn | ⟨g, cap, cur, hv, hbb, hg, rest⟩
  · exact Or.inl hn
  · exact Or.inr ⟨g, cap, cur, hv, Nat.le_trans hb hbb, hg, rest⟩
end Go.Proofs.YtllgffmhbddigaaGreat
/-
  rel: Add. (Written by RA7.py.)
-/
namespace Go.Proofs.YtllgffmhbddigaaGreat
open Go.RowKit
attribute [local go_sem ↓] Go.wp_at_zero Go.wp_at_succ

/-- The block of a row that a call owns has its element type. -/
theorem row7_blk {w : World} {base n m : Nat} {e : TypeId} {v : Value} {xs : List Value} (h : w.ownsRow base e n v m xs) {b : Nat} (hb : v.ownBlock = some b) : ∃ cur, Bk w b cur e := by
  rcases h.2 with ⟨rfl, -⟩ | ⟨g, cap, cur, rfl, -, hg, -⟩
  · cases hb
  · cases hb; exact ⟨cur, hg⟩
theorem Bk.ty {w : World} {b : Nat} {c c' : Array Value} {t t' : TypeId} (h : Bk w b c t) (h' : Bk w b c' t') : t = t' := by
  unfold Bk at h h'
  rw [h] at h'
  simp at h'
  exact h'.2
end Go.Proofs.YtllgffmhbddigaaGreat
/-
  slices.BinarySearch of numbers; a stretch of places.
-/
namespace Go.Proofs.YtllgffmhbddigaaGreat
open Go.RowKit
attribute [local go_sem ↓] Go.wp_at_zero Go.wp_at_succ

theorem nan7_any (x : Int) (w : World) : Calls Tryz.prog 116 #[.int .i64 x] w fun e w' => e = .returned (.bool false) ∧ w' = w := by
  go_enter Tryz.func116, Tryz.ntmps116
  go_wp2
  go_ret
  exact ⟨ret_b (by simp), rfl⟩
end Go.Proofs.YtllgffmhbddigaaGreat
/-
  rel: stretches, Len. (Written by RA14.py.)
-/
namespace Go.Proofs.YtllgffmhbddigaaGreat
open Go.RowKit
attribute [local go_sem ↓] Go.wp_at_zero Go.wp_at_succ

theorem gappN {T e : TypeId} {z : Value} {by_ size : Nat} (hT : Tryz.prog.underlying T = some (.slice e)) (hI : (Tryz.prog.info? e).map (fun i => (i.zero, i.size, i.bytes)) = some (some z, size, by_)) (hz : z.cells.size = size) (hsz : 0 < size) (hby : by_ ≤ 100)
    {ops : Array Oper} {rest : List Oper} {o : Oper} {a : Act} {Q : Exit → Act → World → Prop} {w : World} (hgd : o.guard = none) (s x : Operand)
    (ho : o.op = .call { callee := .builtin .append, args := #[s, x], argTypes := #[T, T] }) (base : Nat) (v : Value) (n : Nat) (l : List Value) (hs : a.eval s = v) (hown : w.ownsRow base e size v n l)
    (b : Nat) (y : Array Value) (hx : a.eval x = .slice (some ⟨b, 0, none⟩) 1 1) (hblk : Bk w b y e) (hy : y.size = size) (hone : ∀ u ∈ y.toList, u.oneCell' = true) (hlen : n ≤ 1000000000000) (hbase : base ≤ w.heap.size)
    (h : ∀ g cap w', w'.ownsRow base e size (.slice (some ⟨g, 0, none⟩) (n + 1) cap) (n + 1) (l ++ y.toList) → w.grownBy w' v.ownBlock → (v.ownBlock = some g ∨ g = w.heap.size) → g < w'.heap.size → wpList Tryz.prog ops Q rest (a.put o.dst (.slice (some ⟨g, 0, none⟩) (n + 1) cap)) w') : wpList Tryz.prog ops Q (o :: rest) a w := by
  obtain ⟨i, hi, h0, h1, h2⟩ := info7 hI
  refine wpList_append_lies _ hgd s x T ho base e i z size by_ hT hi h0 h1 h2 hz hsz v n l hs hown ⟨b, 0, none⟩ 1 1 y.toList hx (by simp [hy]) ?_ hone (by omega) (by unfold maxLen; omega) (Nat.le_trans (Nat.mul_le_mul (show n + 1 ≤ 1000000000001 by omega) hby) (by decide)) hbase _ rfl h
  intro j u hj
  exact World.news_of_block (cs := y) (t := e) (fr := (0, 0)) hblk j u (by simpa using hj)
theorem gstepN {T e : TypeId} {z : Value} {by_ size : Nat} (hT : Tryz.prog.underlying T = some (.slice e)) (hI : (Tryz.prog.info? e).map (fun i => (i.zero, i.size, i.bytes)) = some (some z, size, by_)) (hz : z.cells.size = size) (hsz : 0 < size) (hby : by_ ≤ 100)
    {ops : Array Oper} {o : Oper} {a : Act} {K : Act → World → Prop} {Q : Exit → Act → World → Prop} {E : Prop} {w : World} (hgd : o.guard = none) (s x : Operand)
    (ho : o.op = .call { callee := .builtin .append, args := #[s, x], argTypes := #[T, T] }) (base : Nat) (v : Value) (n : Nat) (l : List Value) (hs : a.eval s = v) (hown : w.ownsRow base e size v n l)
    (b : Nat) (y : Array Value) (hx : a.eval x = .slice (some ⟨b, 0, none⟩) 1 1) (hblk : Bk w b y e) (hy : y.size = size) (hone : ∀ u ∈ y.toList, u.oneCell' = true) (hlen : n ≤ 1000000000000) (hbase : base ≤ w.heap.size)
    (h : ∀ g cap w', w'.ownsRow base e size (.slice (some ⟨g, 0, none⟩) (n + 1) cap) (n + 1) (l ++ y.toList) → w.grownBy w' v.ownBlock → (v.ownBlock = some g ∨ g = w.heap.size) → g < w'.heap.size → K (a.put o.dst (.slice (some ⟨g, 0, none⟩) (n + 1) cap)) w') : if Region.wanted o (yielded ops a.tmps) = true then Oper.wp Tryz.prog o a w K Q else E := by
  obtain ⟨i, hi, h0, h1, h2⟩ := info7 hI
  refine step_append_lies _ hgd s x T ho base e i z size by_ hT hi h0 h1 h2 hz hsz v n l hs hown ⟨b, 0, none⟩ 1 1 y.toList hx (by simp [hy]) ?_ hone (by omega) (by unfold maxLen; omega) (Nat.le_trans (Nat.mul_le_mul (show n + 1 ≤ 1000000000001 by omega) hby) (by decide)) hbase _ rfl h
  intro j u hj
  exact World.news_of_block (cs := y) (t := e) (fr := (0, 0)) hblk j u (by simpa using hj)
end Go.Proofs.YtllgffmhbddigaaGreat
