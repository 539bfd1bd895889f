import Derived.Test.YtjnipcakjoiplaaGreatDoorOQ1
import Derived.Deep.RegionHeld3
import Derived.Deep.CutRange
import Derived.BigQuiet
import Derived.Test.YtjnipcakjoiplaaGreatDoorW3
import Derived.Maps.OwnOps
import Derived.Maps.OwnSet
import Derived.Test.YtjnipcakjoiplaaGreatDoorCL29
import Derived.Test.YtjnipcakjoiplaaGreatDoorL1
/-
  A clause that was lent, looked at. (Written by LD3.py.)
-/
namespace Go.Proofs.YtjnipcakjoiplaaGreatDoor
open Go.RowKit
attribute [local go_sem ↓] Go.wp_at_zero Go.wp_at_succ

theorem run_eql_te (t u : Te) (w : World) (h : t = u) : (binOp .eql 46 t.v u.v).run Tryz.prog w = .ok (.bool true) w := by
  subst h
  obtain ⟨op, ⟨kl, ml, sl⟩, ⟨kr, mr, sr⟩⟩ := t
  go_simp
set_option maxRecDepth 20000 in
set_option maxHeartbeats 4000000 in
theorem keptC_any (d c : Cm) (base : Nat) (w : World) (h : c.ok w) (hd : Lent base w d) (hk : d.key = c.key) (hs : (Ck.terms c.key).length ≤ 4000000) (hB : BehOk w) :
    Calls Tryz.prog 7 #[d.v, c.v] w fun e w' => e = .returned (.bool true) ∧ Below w.heap.size w w' := by
  obtain ⟨s1, s2, s3, s4⟩ := cm_sizes hs
  have k1 : d.head.1 = c.head.1 := congrArg (fun k : Ck => k.1) hk
  have k2 : fsts d.body = fsts c.body := congrArg (fun k : Ck => k.2.1) hk
  have k3 : d.tests = c.tests := congrArg (fun k : Ck => k.2.2) hk
  have hdh := hd.h
  have hdt := hd.t
  rw [k1] at hdh
  rw [k3] at hdt
  have HK1 : Hid (∀ X : World, Below w.heap.size w X → Calls Tryz.prog 20 #[c.head.1.v d.head.2, c.head.1.v c.head.2] X fun e w' => e = .returned (.bool true) ∧ Below X.heap.size X w') := fun X hX => keptA_any c.head.1 d.head.2 c.head.2 base X (h.h.later hX) (hdh.later hX) (hB.later hX)
  have HK2 : Hid (∀ X : World, Below w.heap.size w X → Calls Tryz.prog 21 #[d.bv, c.bv] X fun e w' => e = .returned (.bool true) ∧ Below X.heap.size X w') := fun X hX => keptAs_any c.body d.body d.bv c.bv base X (h.b.later hX) (hd.b.later hX) k2 (hB.later hX)
  have HK3 : Hid (∀ X : World, Below w.heap.size w X → Calls Tryz.prog 22 #[d.tv, c.tv] X fun e w' => e = .returned (.bool true) ∧ Below X.heap.size X w') := fun X hX => by
    have := sameTests_any c.tests c.tests d.tv c.tv X ((hdt.es (by omega)).later hX) (h.t.later hX)
    rw [decide_eq_true rfl] at this; exact this
  have HT : Hid (LentE w base d.tv c.tests) := hdt
  have HB : Hid (BehOk w) := hB
  obtain ⟨g1, cap1, e1, -⟩ := hdh
  obtain ⟨⟨g2, cap2, e2, -⟩, -⟩ := hd.b
  obtain ⟨g3, cap3, e3, ho3⟩ := hdt
  have hcap := ownE_cap ho3
  rw [List.length_append, List.length_singleton] at hcap
  have HO3 : Hid (OwnE w base (.slice (some ⟨g3, 0, none⟩) (c.tests.length + 1) cap3) (c.tests ++ [bE])) := ho3
  obtain ⟨⟨a, hn, cap, h1⟩, ⟨a', cap', h2⟩, ⟨a'', cap'', h3⟩, -, -⟩ := h.shape
  have hb0 : CBlk ((w.alloc (.cells d.cs 30)).alloc (.cells c.cs 30)) w.heap.size d.cs 30 := (CBlk.new w d.cs 30).later (below1 _ _)
  have hb1 : CBlk ((w.alloc (.cells d.cs 30)).alloc (.cells c.cs 30)) (w.heap.size + 1) c.cs 30 := by
    have := CBlk.new (w.alloc (.cells d.cs 30)) c.cs 30
    rwa [show (w.alloc (.cells d.cs 30)).heap.size = w.heap.size + 1 by simp] at this
  have HC0 : Hid (CBlk ((w.alloc (.cells d.cs 30)).alloc (.cells c.cs 30)) w.heap.size d.cs 30) := hb0
  have HC1 : Hid (CBlk ((w.alloc (.cells d.cs 30)).alloc (.cells c.cs 30)) (w.heap.size + 1) c.cs 30) := hb1
  have he := fun X => run_eql_te ⟨903, ⟨0, 0, ⟨#[]⟩⟩, ⟨0, 0, ⟨#[]⟩⟩⟩ ⟨903, ⟨0, 0, ⟨#[]⟩⟩, ⟨0, 0, ⟨#[]⟩⟩⟩ X rfl
  clear h hd hk hs hB s1 s2 s4 hb0 hb1 ho3 k2
  obtain ⟨⟨dh, dv⟩, db, dbv, dt, dtv⟩ := d
  obtain ⟨⟨⟨⟨k, m, s⟩, nm, ls⟩, hx⟩, body, bv, tests, tv⟩ := c
  simp only at h1 h2 h3 e1 e2 e3 k1 k3 s3 hcap HK1 HK2 HK3 HO3
  subst h1 h2 h3 e1 e2 e3 k1 k3
  have i0 : (0 : Int) ≤ (dt.length : Int) := by omega
  have i1 : (dt.length : Int) < (dt.length : Int) + 1 := by omega
  have hcap' : (dt.length : Int) + 1 ≤ (cap3 : Int) := by omega
  go_enter Tryz.func7, Tryz.ntmps7
  go_wp2_with (first
    | (go_at_call 20; refine (HK1.out _ (below2 _ _ _)).mono ?_; rintro e w1 ⟨rfl, hb⟩; have HW1 : Hid (Below w.heap.size w w1) := below_step (below2 _ _ _) hb; have HD0 : Hid (CBlk w1 w.heap.size _ 30) := HC0.out.later hb; have HD1 : Hid (CBlk w1 (w.heap.size + 1) _ 30) := HC1.out.later hb; obtain ⟨c0, c1, c2, c3, c4, c5, c6⟩ := cseven HD0.out; obtain ⟨e0, e1, e2, e3, e4, e5, e6⟩ := cseven HD1.out; clear hb HC0 HC1)
    | (go_at_call 21; refine (HK2.out _ HW1.out).mono ?_; rintro e w2 ⟨rfl, hb⟩; have HW2 : Hid (Below w.heap.size w w2) := below_step HW1.out hb; have HE0 : Hid (CBlk w2 w.heap.size _ 30) := HD0.out.later hb; have HE1 : Hid (CBlk w2 (w.heap.size + 1) _ 30) := HD1.out.later hb; clear c0 c1 c2 c3 c4 c5 c6 e0 e1 e2 e3 e4 e5 e6; obtain ⟨c0, c1, c2, c3, c4, c5, c6⟩ := cseven HE0.out; obtain ⟨e0, e1, e2, e3, e4, e5, e6⟩ := cseven HE1.out; clear hb HD0 HD1 HW1)
    | (go_at_call 22; refine (HK3.out _ HW2.out).mono ?_; rintro e w3 ⟨rfl, hb⟩; have HW3 : Hid (Below w.heap.size w w3) := below_step HW2.out hb; have HF0 : Hid (CBlk w3 w.heap.size _ 30) := HE0.out.later hb; have HF1 : Hid (CBlk w3 (w.heap.size + 1) _ 30) := HE1.out.later hb; clear c0 c1 c2 c3 c4 c5 c6 e0 e1 e2 e3 e4 e5 e6; obtain ⟨c0, c1, c2, c3, c4, c5, c6⟩ := cseven HF0.out; obtain ⟨e0, e1, e2, e3, e4, e5, e6⟩ := cseven HF1.out; obtain ⟨-, -, -, -, -, b0, b1, b2, b3, b4, b5, b6⟩ := HB.out.later HW3.out; have hgl : (dt ++ [bE])[dt.length]? = some bE := (by simp); have hoL := HO3.out.later HW3.out; have q0 := hoL.cells dt.length _ hgl 0 (by omega); have q1 := hoL.cells dt.length _ hgl 1 (by omega); have q2 := hoL.cells dt.length _ hgl 2 (by omega); have q3 := hoL.cells dt.length _ hgl 3 (by omega); have q4 := hoL.cells dt.length _ hgl 4 (by omega); have q5 := hoL.cells dt.length _ hgl 5 (by omega); have q6 := hoL.cells dt.length _ hgl 6 (by omega); simp only [ecell, bE, zt, List.getElem?_cons_succ, List.getElem?_cons_zero, Nat.add_zero] at q0 q1 q2 q3 q4 q5 q6; clear hb HE0 HE1 HW2 hoL hgl))
  go_quiet (fail)
  go_wp2
  go_ret
  exact ⟨ret_b rfl, below_drewN HW3.out _⟩
end Go.Proofs.YtjnipcakjoiplaaGreatDoor
/-
  A clause renamed one to one: as many variables, the same numbering. (Plain.)
-/
namespace Go.Proofs.YtjnipcakjoiplaaGreatDoor
open Go.RowKit

/-- One to one on the variables of l, and no other term is touched. -/
structure Ren (f : Tm → Tm) (l : List Tm) : Prop where
  v : ∀ t ∈ l, t.var = true → (f t).var = true
  n : ∀ t ∈ l, t.var = false → f t = t
  i : ∀ t ∈ l, ∀ u ∈ l, t.var = true → u.var = true → f t = f u → t = u
theorem Ren.var {f : Tm → Tm} {l : List Tm} (h : Ren f l) {t : Tm} (ht : t ∈ l) : (f t).var = t.var := by
  cases hv : t.var
  · rw [h.n t ht hv]; exact hv
  · exact h.v t ht hv
end Go.Proofs.YtjnipcakjoiplaaGreatDoor
/-
  What clause.Normal makes of a term: its function, and its map of numbers.
-/
namespace Go.Proofs.YtjnipcakjoiplaaGreatDoor
open Go.RowKit Go.Shelf
attribute [local go_sem ↓] Go.wp_at_zero Go.wp_at_succ

/-- The numbers of the variables asked so far, as a datum. -/
def nvF (D : DataW Unit) (i : Nat) : List Int → DataW Unit
  | [] => D
  | x :: l => nvF (D.put (.int .i64 x) (.lit (.int .i64 (i : Int)))) (i + 1) l
def nv (vs : List Int) : DataW Unit := nvF (.map []) 0 vs
/-- Where a number first stands. -/
def ixN : List Int → Int → Nat
  | [], _ => 0
  | x :: l, t => if x = t then 0 else ixN l t + 1
def nst (vs : List Int) (t : Tm) : List Int := if t.var = true then (if t.n ∈ vs then vs else vs ++ [t.n]) else vs
def nsT (vs : List Int) (t : Tm) : Tm := if t.var = true then ⟨3, (ixN (nst vs t) t.n : Int), ⟨#[]⟩⟩ else t
end Go.Proofs.YtjnipcakjoiplaaGreatDoor
/-
  Below, but for one block (clause.Normal's map); a list of terms as Normal's function makes it, one by one.
-/
namespace Go.Proofs.YtjnipcakjoiplaaGreatDoor
open Go.RowKit Go.Shelf

/-- Below B the world is as it was, but for block m. -/
structure Bl (m B : Nat) (w w' : World) : Prop where
  os : w'.os = w.os
  tape : w'.tape = w.tape
  output : w'.output = w.output
  size : w.heap.size ≤ w'.heap.size
  block : ∀ k, k < B → k ≠ m → w'.heap[k]? = w.heap[k]?
theorem Bl.of {m B : Nat} {w w' : World} (h : Below B w w') : Bl m B w w' := ⟨h.os, h.tape, h.output, h.size, fun k hk _ => h.block k hk⟩
theorem Bl.grown {m : Nat} {w w' : World} (h : w.grownBy w' (some m)) : Bl m w.heap.size w w' := ⟨h.os, h.tape, h.output, h.size, fun k hk hm => h.block k hk (fun e => hm (Option.some.inj e))⟩
theorem Bl.refl (m B : Nat) (w : World) : Bl m B w w := Bl.of (Below.refl _ _)
theorem Bl.trans {m B : Nat} {a b c : World} (h : Bl m B a b) (k : Bl m B b c) : Bl m B a c :=
  ⟨k.os.trans h.os, k.tape.trans h.tape, k.output.trans h.output, Nat.le_trans h.size k.size, fun i hi hm => (k.block i hi hm).trans (h.block i hi hm)⟩
theorem Bl.mono {m B B' : Nat} {w w' : World} (h : Bl m B w w') (hB : B' ≤ B) : Bl m B' w w' := ⟨h.os, h.tape, h.output, h.size, fun k hk => h.block k (Nat.lt_of_lt_of_le hk hB)⟩
theorem Bl.drew {m B : Nat} {a w : World} (h : Bl m B a w) : Bl m B a w.drew := ⟨h.os, h.tape, h.output, h.size, h.block⟩
theorem Bl.alloc {m B : Nat} {a w : World} (h : Bl m B a w) (hB : B ≤ w.heap.size) (o : Obj) : Bl m B a (w.alloc o) := h.trans (Bl.of ((Below.refl _ _).alloc hB o))
theorem Bl.setCell {m B : Nat} {a w : World} (h : Bl m B a w) {p : Addr} (hp : B ≤ p.block) (u : Value) : Bl m B a (w.setCell p u) := h.trans (Bl.of ((Below.refl _ _).setCell hp u))
theorem Bl.step {m : Nat} {W w' w3 : World} (h : Bl m W.heap.size W w') (h3 : Bl m w'.heap.size w' w3) : Bl m W.heap.size W w3 := h.trans (h3.mono h.size)
theorem Bl.cell {m B : Nat} {w w' : World} (h : Bl m B w w') {p : Addr} (hp : p.block < B) (hm : p.block ≠ m) : w'.cell? p = w.cell? p := World.cell?_of_block (w := w) (h.block p.block hp hm)
def BoxM (m : Nat) (w W : World) (c d : Array Value) (t t' : TypeId) : Prop := W.heap[w.heap.size]? = some (.cells c t (0, 0)) ∧ W.heap[w.heap.size + 1]? = some (.cells d t' (0, 0)) ∧ Bl m w.heap.size w W
theorem BoxM.start (m : Nat) (w : World) (c d : Array Value) (t t' : TypeId) : BoxM m w ((w.alloc (.cells c t)).alloc (.cells d t')) c d t t' := ⟨heap_alloc2_old _ _ _, heap_alloc2_new _ _ _, Bl.of (below2 _ _ _)⟩
theorem BoxM.later2 {m : Nat} {w W W' : World} {c d : Array Value} {t t' : TypeId} (h : BoxM m w W c d t t') (hb : Bl m (w.heap.size + 2) W W') (hm : m < w.heap.size) : BoxM m w W' c d t t' :=
  ⟨(hb.block _ (by omega) (by omega)).trans h.1, (hb.block _ (by omega) (by omega)).trans h.2.1, h.2.2.trans (hb.mono (by omega))⟩
theorem BoxM.lt {m : Nat} {w W : World} {c d : Array Value} {t t' : TypeId} (h : BoxM m w W c d t t') : w.heap.size + 1 < W.heap.size := (Array.getElem?_eq_some_iff.1 h.2.1).1
theorem BoxM.later {m : Nat} {w W W' : World} {c d : Array Value} {t t' : TypeId} (h : BoxM m w W c d t t') (hb : Bl m W.heap.size W W') (hm : m < w.heap.size) : BoxM m w W' c d t t' :=
  h.later2 (hb.mono h.lt) hm
theorem TBlk.bl {m : Nat} {w w' : World} {g : Nat} {l : List Tm} {k : Nat} (h : TBlk w g l k) (hb : Bl m w.heap.size w w') (hg : g ≠ m) : TBlk w' g l k := by
  obtain ⟨C, h1, h2⟩ := h
  exact ⟨C, (hb.block _ (Array.getElem?_eq_some_iff.1 h1).1 hg).trans h1, h2⟩
/-- The numbers asked so far behind a list of terms; the list that the function makes of them. -/
def stL : List Int → List Tm → List Int
  | vs, [] => vs
  | vs, t :: l => stL (nst vs t) l
def nsL : List Int → List Tm → List Tm
  | _, [] => []
  | vs, t :: l => nsT vs t :: nsL (nst vs t) l
end Go.Proofs.YtjnipcakjoiplaaGreatDoor
/-
  How far replaced has come with Normal's function. (Written by NR5.py.)
-/
namespace Go.Proofs.YtjnipcakjoiplaaGreatDoor
open Go.RowKit Go.Shelf

theorem CBlk.bl {m g : Nat} {W W' : World} {c : Array Value} {t : TypeId} (h : CBlk W g c t) (hb : Bl m W.heap.size W W') (hg : g ≠ m) : CBlk W' g c t := (hb.block _ h.lt hg).trans h
theorem ABlk.bl {m : Nat} {w w' : World} {g n : Nat} {l : List (At × Value)} (h : ABlk w g n l) (hb : Bl m w.heap.size w w') (hg : g ≠ m) : ABlk w' g n l := by
  obtain ⟨C, h1, h2⟩ := h
  exact ⟨C, (hb.block _ (Array.getElem?_eq_some_iff.1 h1).1 hg).trans h1, h2⟩
theorem EBlk.bl {m : Nat} {w w' : World} {g n : Nat} {l : List Te} (h : EBlk w g n l) (hb : Bl m w.heap.size w w') (hg : g ≠ m) : EBlk w' g n l := by
  obtain ⟨C, h1, h2⟩ := h
  exact ⟨C, (hb.block _ (Array.getElem?_eq_some_iff.1 h1).1 hg).trans h1, h2⟩
/-- A list made one by one, with a state. -/
def mapS {α β : Type} (f : List Int → α → β) (g : List Int → α → List Int) : List Int → List α → List β
  | _, [] => []
  | vs, x :: l => f vs x :: mapS f g (g vs x) l
def foldS {α : Type} (g : List Int → α → List Int) : List Int → List α → List Int
  | vs, [] => vs
  | vs, x :: l => foldS g (g vs x) l
theorem mapS_len {α β : Type} (f : List Int → α → β) (g : List Int → α → List Int) : ∀ (l : List α) (vs : List Int), (mapS f g vs l).length = l.length
  | [], _ => rfl
  | x :: l, vs => by simp [mapS, mapS_len f g l]
/-- What Normal's function makes of an atom, of a test, and the numbers asked behind it. -/
def atN (vs : List Int) (a : At) : At := ⟨nsT vs a.by_, a.name, nsL (nst vs a.by_) a.args⟩
def atS (vs : List Int) (a : At) : List Int := stL (nst vs a.by_) a.args
def teN (vs : List Int) (x : Te) : Te := ⟨x.op, nsT vs x.l, nsT (nst vs x.l) x.r⟩
def teS (vs : List Int) (x : Te) : List Int := nst (nst vs x.l) x.r
end Go.Proofs.YtjnipcakjoiplaaGreatDoor
/-
  replaced with Normal's function: the walk. (Written by NR6.py.)
-/
namespace Go.Proofs.YtjnipcakjoiplaaGreatDoor
open Go.RowKit Go.Shelf
attribute [local go_sem ↓] Go.wp_at_zero Go.wp_at_succ

def Cm.cpN (c : Cm) (vs : List Int) (M1 M2 M3 : Nat) (lb : List (At × Value)) : Cm := ⟨(atN vs c.head.1, .slice (some ⟨M1, 0, none⟩) c.head.1.args.length c.head.1.args.length), lb, .slice (some ⟨M2, 0, none⟩) c.body.length c.body.length, mapS teN teS (foldS atS (atS vs c.head.1) (fsts c.body)) c.tests, .slice (some ⟨M3, 0, none⟩) c.tests.length c.tests.length⟩
end Go.Proofs.YtjnipcakjoiplaaGreatDoor
/-
  clause.Normal. (Written by NR7.py.)
-/
namespace Go.Proofs.YtjnipcakjoiplaaGreatDoor
open Go.RowKit Go.Shelf
attribute [local go_sem ↓] Go.wp_at_zero Go.wp_at_succ

theorem Bl.below {q B n : Nat} {w w' : World} (h : Bl q B w w') (hB : n ≤ B) (hq : n ≤ q) : Below n w w' := ⟨h.os, h.tape, h.output, h.size, fun k hk => h.block k (by omega) (by omega)⟩
/-- What Normal answers. -/
def NrPost (w : World) (c : Cm) (e : Ending) (w' : World) : Prop :=
  ∃ (M1 M2 M3 : Nat) (lb : List (At × Value)), e = .returned (c.cpN [] M1 M2 M3 lb).v ∧ RJ w.heap.size w' c.head.1.args.length c.body.length c.tests.length (nsL (nst [] c.head.1.by_) c.head.1.args) (mapS atN atS (atS [] c.head.1) (fsts c.body)) (mapS teN teS (foldS atS (atS [] c.head.1) (fsts c.body)) c.tests) M1 M2 M3 lb ∧ Below w.heap.size w w'
end Go.Proofs.YtjnipcakjoiplaaGreatDoor
/-
  What clause.Normal makes, plain: each variable as its place among all the numbers.
-/
namespace Go.Proofs.YtjnipcakjoiplaaGreatDoor

def Ext (vs S : List Int) : Prop := ∃ r, S = vs ++ r
theorem Ext.refl (vs : List Int) : Ext vs vs := ⟨[], by simp⟩
theorem Ext.trans {a b c : List Int} (h : Ext a b) (k : Ext b c) : Ext a c := by
  obtain ⟨r, rfl⟩ := h; obtain ⟨r', rfl⟩ := k; exact ⟨r ++ r', by simp⟩
end Go.Proofs.YtjnipcakjoiplaaGreatDoor
/-
  clause.Normal of a small clause: a clause of its own, numbered as the reference numbers.
-/
namespace Go.Proofs.YtjnipcakjoiplaaGreatDoor
open Go.RowKit

theorem NrPost.kp {B : Nat} {X : World} {c : Cm} {M1 M2 M3 : Nat} {lb : List (At × Value)} (h : RJ B X c.head.1.args.length c.body.length c.tests.length (nsL (nst [] c.head.1.by_) c.head.1.args) (mapS atN atS (atS [] c.head.1) (fsts c.body)) (mapS teN teS (foldS atS (atS [] c.head.1) (fsts c.body)) c.tests) M1 M2 M3 lb)
    (h2 : c.body.length < 1000000000000000000) (h3 : c.tests.length < 1000000000000000000) : Kp B X (c.cpN [] M1 M2 M3 lb) := fun Y hs ha => by
  have hl : lb.length = c.body.length := by have := congrArg List.length h.f; rw [mapS_len] at this; simpa [fsts] using this
  have hA : ABlk Y M2 c.body.length lb := by
    obtain ⟨C, e1, e2, e3⟩ := h.a
    exact ⟨C, (ha M2 h.b2 h.a.lt).trans e1, e2, e3⟩
  have hE : EBlk Y M3 c.tests.length (mapS teN teS (foldS atS (atS [] c.head.1) (fsts c.body)) c.tests) := by
    obtain ⟨C, e1, e2, e3⟩ := h.e
    exact ⟨C, (ha M3 (by have := h.b2; have := h.b3; omega) h.e.lt).trans e1, e2, e3⟩
  refine ⟨?_, hA.as hl h2 fun x hx => (h.ts x hx).1.1.agree hs fun b e hlt => ha b ((h.ts x hx).2 b e) hlt, hE.es (by rw [mapS_len]) h3⟩
  exact h.t1.agree hs fun b e hlt => by obtain rfl : M1 = b := Option.some.inj e; exact ha M1 h.b1 hlt
end Go.Proofs.YtjnipcakjoiplaaGreatDoor
