import Derived.Test.YtelcoihmiglceaaGreatW3
import Derived.Test.YtelcoihmiglceaaGreatW2
import Derived.Test.YtelcoihmiglceaaGreatCD6
import Derived.Test.YtelcoihmiglceaaGreatLD2
import Derived.Deep.RegionHeld3
import Derived.Test.YtelcoihmiglceaaGreatCK2
import Derived.Test.YtelcoihmiglceaaGreatLE2
import Derived.Test.YtelcoihmiglceaaGreatCL27
import Derived.Maps.OwnOps
import Derived.Maps.OwnSet
import Derived.Test.YtelcoihmiglceaaGreatL1
import Derived.Test.YtelcoihmiglceaaGreatMD13
import Derived.Test.YtelcoihmiglceaaGreatCL21
import Derived.Test.YtelcoihmiglceaaGreatCL22
import Derived.Deep.CutRange
import Derived.Test.YtelcoihmiglceaaGreatMD7
import Derived.Test.YtelcoihmiglceaaGreatCL24
import Derived.BigQuiet
/-
  The codec reads: name, a list of arguments.
-/
namespace Go.Proofs.YtelcoihmiglceaaGreat
open Go.RowKit

theorem RdS.low {w w' : World} {g B : Nat} {l : List Int} (h : RdS w g l) (hb : Below B w w') (hg : g < B) : RdS w' g l := by
  obtain ⟨hy, v, h1, b, o, cap, rfl, h0, h2, h3, h4, h5⟩ := h
  refine ⟨hy, _, (hb.block g hg).trans h1, b, o, cap, rfl, h0, h2, h3, Nat.lt_of_lt_of_le h4 hb.size, fun j x hx => ?_⟩
  rw [hb.cell (p := ⟨b, _, none⟩) (by show b < B; omega)]
  exact h5 j x hx
/-- So many more have to be read, behind those. -/
def Mny {α : Type} (one : List Int → Rd α) (n : Nat) (l : List Int) (k : Nat) (ts : List α) (l' : List Int) : Prop := rMany one n l = (rMany one k l').and fun m r => .ok (ts ++ m, r)
theorem Mny.start {α : Type} (one : List Int → Rd α) (n : Nat) (l : List Int) : Mny one n l n [] l := by
  unfold Mny
  rcases rMany one n l with c | ⟨m, r⟩ <;> rfl
theorem Mny.done {α : Type} {one : List Int → Rd α} {n : Nat} {l l' : List Int} {ts : List α} (h : Mny one n l 0 ts l') : rMany one n l = .ok (ts, l') := by
  unfold Mny at h
  rw [h]; simp [rMany, Rd.and]
end Go.Proofs.YtelcoihmiglceaaGreat
/-
  The codec reads: lists of atoms, tests, lists of tests. (Written by CG2.py.)
-/
namespace Go.Proofs.YtelcoihmiglceaaGreat
open Go.RowKit

def rTest (l : List Int) : Rd Te := (rOne [1, 2, 3, 4] l).and fun op r => (rArg r).and fun x r => (rArg r).and fun y r => .ok (⟨op, x, y⟩, r)
/-- Rows of terms and of atoms lie apart. -/
theorem apart_ta {w : World} {b b' : Nat} {v y : Value} {L : List (At × Value)} {l : List Tm} (h : OwnA w b v L) (h' : OwnT w b' y l) : ∀ k, y.ownBlock = some k → v.ownBlock ≠ some k := by
  intro k hk e
  rcases h.2 with ⟨rfl, -⟩ | ⟨g1, cap, cur, rfl, -, hg1, -⟩
  · cases e
  · rcases h'.2 with ⟨rfl, -⟩ | ⟨g2, cap2, cur2, rfl, -, hg2, -⟩
    · cases hk
    · cases e; cases hk
      rw [hg1] at hg2
      cases hg2
/-- A list of atoms that the call made, and their arguments. -/
def OAL (X : World) (base : Nat) (v : Value) (L : List (At × Value)) : Prop := OwnA X base v L ∧ ∀ x ∈ L, OwnT X base x.2 x.1.args
theorem OAL.later {X X' : World} {base : Nat} {v : Value} {L : List (At × Value)} (h : OAL X base v L) (hb : Below X.heap.size X X') : OAL X' base v L := ⟨h.1.later hb, fun x hx => (h.2 x hx).later hb⟩
theorem OAL.mono {X : World} {base B : Nat} {v : Value} {L : List (At × Value)} (h : OAL X base v L) (hb : B ≤ base) : OAL X B v L := ⟨h.1.mono hb, fun x hx => (h.2 x hx).mono hb⟩
theorem OAL.set {X : World} {base G i : Nat} {a v : Value} {L : List (At × Value)} (h : OAL X base v L) (hG : G < base) : OAL (X.setCell ⟨G, i, none⟩ a) base v L := ⟨h.1.set hG, fun x hx => (h.2 x hx).set hG⟩
theorem OAL.app {X X' : World} {base : Nat} {v v' : Value} {L : List (At × Value)} {x : At × Value} (h : OAL X base v L) (hx : OwnT X base x.2 x.1.args) (ho : OwnA X' base v' (L ++ [x])) (hg : X.grownBy X' v.ownBlock) : OAL X' base v' (L ++ [x]) := by
  refine ⟨ho, fun y hy => ?_⟩
  rcases List.mem_append.1 hy with hy | hy
  · exact OwnT.grown (h.2 y hy) hg (apart_ta h.1 (h.2 y hy))
  · simp only [List.mem_singleton] at hy
    subst hy
    exact OwnT.grown hx hg (apart_ta h.1 hx)
end Go.Proofs.YtelcoihmiglceaaGreat
/-
  A clause renamed one to one: as many variables, the same numbering. (Plain.)
-/
namespace Go.Proofs.YtelcoihmiglceaaGreat
open Go.RowKit

/-- One to one on the variables of l, and no other term is touched. -/
structure Ren (f : Tm → Tm) (l : List Tm) : Prop where
  v : ∀ t ∈ l, t.var = true → (f t).var = true
  n : ∀ t ∈ l, t.var = false → f t = t
  i : ∀ t ∈ l, ∀ u ∈ l, t.var = true → u.var = true → f t = f u → t = u
theorem Ren.var {f : Tm → Tm} {l : List Tm} (h : Ren f l) {t : Tm} (ht : t ∈ l) : (f t).var = t.var := by
  cases hv : t.var
  · rw [h.n t ht hv]; exact hv
  · exact h.v t ht hv
end Go.Proofs.YtelcoihmiglceaaGreat
/-
  What clause.Normal makes of a term: its function, and its map of numbers.
-/
namespace Go.Proofs.YtelcoihmiglceaaGreat
open Go.RowKit Go.Shelf
attribute [local go_sem ↓] Go.wp_at_zero Go.wp_at_succ

/-- The numbers of the variables asked so far, as a datum. -/
def nvF (D : DataW Unit) (i : Nat) : List Int → DataW Unit
  | [] => D
  | x :: l => nvF (D.put (.int .i64 x) (.lit (.int .i64 (i : Int)))) (i + 1) l
def nv (vs : List Int) : DataW Unit := nvF (.map []) 0 vs
/-- Where a number first stands. -/
def ixN : List Int → Int → Nat
  | [], _ => 0
  | x :: l, t => if x = t then 0 else ixN l t + 1
def nst (vs : List Int) (t : Tm) : List Int := if t.var = true then (if t.n ∈ vs then vs else vs ++ [t.n]) else vs
def nsT (vs : List Int) (t : Tm) : Tm := if t.var = true then ⟨3, (ixN (nst vs t) t.n : Int), ⟨#[]⟩⟩ else t
end Go.Proofs.YtelcoihmiglceaaGreat
/-
  Below, but for one block (clause.Normal's map); a list of terms as Normal's function makes it, one by one.
-/
namespace Go.Proofs.YtelcoihmiglceaaGreat
open Go.RowKit Go.Shelf

/-- Below B the world is as it was, but for block m. -/
structure Bl (m B : Nat) (w w' : World) : Prop where
  os : w'.os = w.os
  tape : w'.tape = w.tape
  output : w'.output = w.output
  size : w.heap.size ≤ w'.heap.size
  block : ∀ k, k < B → k ≠ m → w'.heap[k]? = w.heap[k]?
theorem Bl.of {m B : Nat} {w w' : World} (h : Below B w w') : Bl m B w w' := ⟨h.os, h.tape, h.output, h.size, fun k hk _ => h.block k hk⟩
theorem Bl.grown {m : Nat} {w w' : World} (h : w.grownBy w' (some m)) : Bl m w.heap.size w w' := ⟨h.os, h.tape, h.output, h.size, fun k hk hm => h.block k hk (fun e => hm (Option.some.inj e))⟩
theorem Bl.refl (m B : Nat) (w : World) : Bl m B w w := Bl.of (Below.refl _ _)
theorem Bl.trans {m B : Nat} {a b c : World} (h : Bl m B a b) (k : Bl m B b c) : Bl m B a c :=
  ⟨k.os.trans h.os, k.tape.trans h.tape, k.output.trans h.output, Nat.le_trans h.size k.size, fun i hi hm => (k.block i hi hm).trans (h.block i hi hm)⟩
theorem Bl.mono {m B B' : Nat} {w w' : World} (h : Bl m B w w') (hB : B' ≤ B) : Bl m B' w w' := ⟨h.os, h.tape, h.output, h.size, fun k hk => h.block k (Nat.lt_of_lt_of_le hk hB)⟩
theorem Bl.drew {m B : Nat} {a w : World} (h : Bl m B a w) : Bl m B a w.drew := ⟨h.os, h.tape, h.output, h.size, h.block⟩
theorem Bl.alloc {m B : Nat} {a w : World} (h : Bl m B a w) (hB : B ≤ w.heap.size) (o : Obj) : Bl m B a (w.alloc o) := h.trans (Bl.of ((Below.refl _ _).alloc hB o))
theorem Bl.setCell {m B : Nat} {a w : World} (h : Bl m B a w) {p : Addr} (hp : B ≤ p.block) (u : Value) : Bl m B a (w.setCell p u) := h.trans (Bl.of ((Below.refl _ _).setCell hp u))
theorem Bl.step {m : Nat} {W w' w3 : World} (h : Bl m W.heap.size W w') (h3 : Bl m w'.heap.size w' w3) : Bl m W.heap.size W w3 := h.trans (h3.mono h.size)
theorem Bl.cell {m B : Nat} {w w' : World} (h : Bl m B w w') {p : Addr} (hp : p.block < B) (hm : p.block ≠ m) : w'.cell? p = w.cell? p := World.cell?_of_block (w := w) (h.block p.block hp hm)
def BoxM (m : Nat) (w W : World) (c d : Array Value) (t t' : TypeId) : Prop := W.heap[w.heap.size]? = some (.cells c t (0, 0)) ∧ W.heap[w.heap.size + 1]? = some (.cells d t' (0, 0)) ∧ Bl m w.heap.size w W
theorem BoxM.start (m : Nat) (w : World) (c d : Array Value) (t t' : TypeId) : BoxM m w ((w.alloc (.cells c t)).alloc (.cells d t')) c d t t' := ⟨heap_alloc2_old _ _ _, heap_alloc2_new _ _ _, Bl.of (below2 _ _ _)⟩
theorem BoxM.later2 {m : Nat} {w W W' : World} {c d : Array Value} {t t' : TypeId} (h : BoxM m w W c d t t') (hb : Bl m (w.heap.size + 2) W W') (hm : m < w.heap.size) : BoxM m w W' c d t t' :=
  ⟨(hb.block _ (by omega) (by omega)).trans h.1, (hb.block _ (by omega) (by omega)).trans h.2.1, h.2.2.trans (hb.mono (by omega))⟩
theorem BoxM.lt {m : Nat} {w W : World} {c d : Array Value} {t t' : TypeId} (h : BoxM m w W c d t t') : w.heap.size + 1 < W.heap.size := (Array.getElem?_eq_some_iff.1 h.2.1).1
theorem BoxM.later {m : Nat} {w W W' : World} {c d : Array Value} {t t' : TypeId} (h : BoxM m w W c d t t') (hb : Bl m W.heap.size W W') (hm : m < w.heap.size) : BoxM m w W' c d t t' :=
  h.later2 (hb.mono h.lt) hm
theorem TBlk.bl {m : Nat} {w w' : World} {g : Nat} {l : List Tm} {k : Nat} (h : TBlk w g l k) (hb : Bl m w.heap.size w w') (hg : g ≠ m) : TBlk w' g l k := by
  obtain ⟨C, h1, h2⟩ := h
  exact ⟨C, (hb.block _ (Array.getElem?_eq_some_iff.1 h1).1 hg).trans h1, h2⟩
/-- The numbers asked so far behind a list of terms; the list that the function makes of them. -/
def stL : List Int → List Tm → List Int
  | vs, [] => vs
  | vs, t :: l => stL (nst vs t) l
def nsL : List Int → List Tm → List Tm
  | _, [] => []
  | vs, t :: l => nsT vs t :: nsL (nst vs t) l
end Go.Proofs.YtelcoihmiglceaaGreat
/-
  How far replaced has come with Normal's function. (Written by NR5.py.)
-/
namespace Go.Proofs.YtelcoihmiglceaaGreat
open Go.RowKit Go.Shelf

theorem CBlk.bl {m g : Nat} {W W' : World} {c : Array Value} {t : TypeId} (h : CBlk W g c t) (hb : Bl m W.heap.size W W') (hg : g ≠ m) : CBlk W' g c t := (hb.block _ h.lt hg).trans h
theorem ABlk.bl {m : Nat} {w w' : World} {g n : Nat} {l : List (At × Value)} (h : ABlk w g n l) (hb : Bl m w.heap.size w w') (hg : g ≠ m) : ABlk w' g n l := by
  obtain ⟨C, h1, h2⟩ := h
  exact ⟨C, (hb.block _ (Array.getElem?_eq_some_iff.1 h1).1 hg).trans h1, h2⟩
theorem EBlk.bl {m : Nat} {w w' : World} {g n : Nat} {l : List Te} (h : EBlk w g n l) (hb : Bl m w.heap.size w w') (hg : g ≠ m) : EBlk w' g n l := by
  obtain ⟨C, h1, h2⟩ := h
  exact ⟨C, (hb.block _ (Array.getElem?_eq_some_iff.1 h1).1 hg).trans h1, h2⟩
/-- A list made one by one, with a state. -/
def mapS {α β : Type} (f : List Int → α → β) (g : List Int → α → List Int) : List Int → List α → List β
  | _, [] => []
  | vs, x :: l => f vs x :: mapS f g (g vs x) l
def foldS {α : Type} (g : List Int → α → List Int) : List Int → List α → List Int
  | vs, [] => vs
  | vs, x :: l => foldS g (g vs x) l
theorem mapS_len {α β : Type} (f : List Int → α → β) (g : List Int → α → List Int) : ∀ (l : List α) (vs : List Int), (mapS f g vs l).length = l.length
  | [], _ => rfl
  | x :: l, vs => by simp [mapS, mapS_len f g l]
/-- What Normal's function makes of an atom, of a test, and the numbers asked behind it. -/
def atN (vs : List Int) (a : At) : At := ⟨nsT vs a.by_, a.name, nsL (nst vs a.by_) a.args⟩
def atS (vs : List Int) (a : At) : List Int := stL (nst vs a.by_) a.args
def teN (vs : List Int) (x : Te) : Te := ⟨x.op, nsT vs x.l, nsT (nst vs x.l) x.r⟩
def teS (vs : List Int) (x : Te) : List Int := nst (nst vs x.l) x.r
end Go.Proofs.YtelcoihmiglceaaGreat
/-
  replaced with Normal's function: the walk. (Written by NR6.py.)
-/
namespace Go.Proofs.YtelcoihmiglceaaGreat
open Go.RowKit Go.Shelf
attribute [local go_sem ↓] Go.wp_at_zero Go.wp_at_succ

def Cm.cpN (c : Cm) (vs : List Int) (M1 M2 M3 : Nat) (lb : List (At × Value)) : Cm := ⟨(atN vs c.head.1, .slice (some ⟨M1, 0, none⟩) c.head.1.args.length c.head.1.args.length), lb, .slice (some ⟨M2, 0, none⟩) c.body.length c.body.length, mapS teN teS (foldS atS (atS vs c.head.1) (fsts c.body)) c.tests, .slice (some ⟨M3, 0, none⟩) c.tests.length c.tests.length⟩
end Go.Proofs.YtelcoihmiglceaaGreat
/-
  clause.Normal. (Written by NR7.py.)
-/
namespace Go.Proofs.YtelcoihmiglceaaGreat
open Go.RowKit Go.Shelf
attribute [local go_sem ↓] Go.wp_at_zero Go.wp_at_succ

theorem Bl.below {q B n : Nat} {w w' : World} (h : Bl q B w w') (hB : n ≤ B) (hq : n ≤ q) : Below n w w' := ⟨h.os, h.tape, h.output, h.size, fun k hk => h.block k (by omega) (by omega)⟩
/-- What Normal answers. -/
def NrPost (w : World) (c : Cm) (e : Ending) (w' : World) : Prop :=
  ∃ (M1 M2 M3 : Nat) (lb : List (At × Value)), e = .returned (c.cpN [] M1 M2 M3 lb).v ∧ RJ w.heap.size w' c.head.1.args.length c.body.length c.tests.length (nsL (nst [] c.head.1.by_) c.head.1.args) (mapS atN atS (atS [] c.head.1) (fsts c.body)) (mapS teN teS (foldS atS (atS [] c.head.1) (fsts c.body)) c.tests) M1 M2 M3 lb ∧ Below w.heap.size w w'
end Go.Proofs.YtelcoihmiglceaaGreat
/-
  What clause.Normal makes, plain: each variable as its place among all the numbers.
-/
namespace Go.Proofs.YtelcoihmiglceaaGreat

def Ext (vs S : List Int) : Prop := ∃ r, S = vs ++ r
theorem Ext.refl (vs : List Int) : Ext vs vs := ⟨[], by simp⟩
theorem Ext.trans {a b c : List Int} (h : Ext a b) (k : Ext b c) : Ext a c := by
  obtain ⟨r, rfl⟩ := h; obtain ⟨r', rfl⟩ := k; exact ⟨r ++ r', by simp⟩
end Go.Proofs.YtelcoihmiglceaaGreat
/-
  clause.Normal of a small clause: a clause of its own, numbered as the reference numbers.
-/
namespace Go.Proofs.YtelcoihmiglceaaGreat
open Go.RowKit

theorem NrPost.kp {B : Nat} {X : World} {c : Cm} {M1 M2 M3 : Nat} {lb : List (At × Value)} (h : RJ B X c.head.1.args.length c.body.length c.tests.length (nsL (nst [] c.head.1.by_) c.head.1.args) (mapS atN atS (atS [] c.head.1) (fsts c.body)) (mapS teN teS (foldS atS (atS [] c.head.1) (fsts c.body)) c.tests) M1 M2 M3 lb)
    (h2 : c.body.length < 1000000000000000000) (h3 : c.tests.length < 1000000000000000000) : Kp B X (c.cpN [] M1 M2 M3 lb) := fun Y hs ha => by
  have hl : lb.length = c.body.length := by have := congrArg List.length h.f; rw [mapS_len] at this; simpa [fsts] using this
  have hA : ABlk Y M2 c.body.length lb := by
    obtain ⟨C, e1, e2, e3⟩ := h.a
    exact ⟨C, (ha M2 h.b2 h.a.lt).trans e1, e2, e3⟩
  have hE : EBlk Y M3 c.tests.length (mapS teN teS (foldS atS (atS [] c.head.1) (fsts c.body)) c.tests) := by
    obtain ⟨C, e1, e2, e3⟩ := h.e
    exact ⟨C, (ha M3 (by have := h.b2; have := h.b3; omega) h.e.lt).trans e1, e2, e3⟩
  refine ⟨?_, hA.as hl h2 fun x hx => (h.ts x hx).1.1.agree hs fun b e hlt => ha b ((h.ts x hx).2 b e) hlt, hE.es (by rw [mapS_len]) h3⟩
  exact h.t1.agree hs fun b e hlt => by obtain rfl : M1 = b := Option.some.inj e; exact ha M1 h.b1 hlt
end Go.Proofs.YtelcoihmiglceaaGreat
/-
  ClauseChecks: the walk. (Written by CK1.py.)
-/
namespace Go.Proofs.YtelcoihmiglceaaGreat
open Go.RowKit
attribute [local go_sem ↓] Go.wp_at_zero Go.wp_at_succ

theorem aErr_fst : ∀ {l l' : List (At × Value)}, fsts l = fsts l' → aErr l = aErr l'
  | [], [], _ => rfl
  | [], _ :: _, h => by simp [fsts] at h
  | _ :: _, [], h => by simp [fsts] at h
  | x :: l, y :: l', h => by
    simp only [fsts, List.map_cons, List.cons.injEq] at h
    have ih := aErr_fst (l := l) (l' := l') h.2
    unfold aErr
    rw [h.1, ih]
theorem chk_key {c d : Cm} (h : d.key = c.key) : d.chk = c.chk := by
  have k1 : d.head.1 = c.head.1 := congrArg (fun k : Ck => k.1) h
  have k2 : fsts d.body = fsts c.body := congrArg (fun k : Ck => k.2.1) h
  have k3 : d.tests = c.tests := congrArg (fun k : Ck => k.2.2) h
  have e1 : long d = long c := by unfold long; rw [(key_len d).1, (key_len d).2, (key_len c).1, (key_len c).2, h]
  have e2 : aErr d.atoms = aErr c.atoms := aErr_fst (by unfold Cm.atoms; simp only [fsts, List.map_cons]; rw [k1]; congr 1)
  have e3 : badT d = badT c := by unfold badT; rw [k3]
  have e4 : unb d = unb c := by rw [unb_key, unb_key, h]
  have e5 : mis 0 d.vars = mis 0 c.vars := by rw [mis_key, mis_key, h]
  unfold Cm.chk Cm.rs
  rw [e1, e2, e3, e4, e5, k1]
end Go.Proofs.YtelcoihmiglceaaGreat
