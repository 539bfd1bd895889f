import Derived.Test.YtjnipcakjoiplaaGreatDoorMD8
import Derived.Deep.RegionHeld3
import Derived.Test.YtjnipcakjoiplaaGreatDoorW3
/-
  putAtom. (Written by MD9.py.)
-/
namespace Go.Proofs.YtjnipcakjoiplaaGreatDoor
open Go.RowKit
attribute [local go_sem ↓] Go.wp_at_zero Go.wp_at_succ

/-- An atom's box and the answer's. -/
structure PP (w X : World) (x : At) (v : Value) : Prop where
  bc : CBlk X w.heap.size (At.cs x v) 26
  br : CBlk X (w.heap.size + 1) #[.int .i64 0, .int .i64 0, .string ⟨#[]⟩, .string ⟨#[]⟩, .slice none 0 0] 26
  bw : Below w.heap.size w X
  sz : w.heap.size + 1 + 1 ≤ X.heap.size
theorem PP.later {w X X' : World} {x : At} {v : Value} (h : PP w X x v) (hb : Below X.heap.size X X') : PP w X' x v := ⟨h.bc.later hb, h.br.later hb, below_step h.bw hb, Nat.le_trans h.sz hb.size⟩
theorem PP.start (w : World) (x : At) (v : Value) : PP w ((w.alloc (.cells (At.cs x v) 26)).alloc (.cells #[.int .i64 0, .int .i64 0, .string ⟨#[]⟩, .string ⟨#[]⟩, .slice none 0 0] 26)) x v := by
  have x2 := CBlk.new (w.alloc (.cells (At.cs x v) 26)) #[.int .i64 0, .int .i64 0, .string ⟨#[]⟩, .string ⟨#[]⟩, .slice none 0 0] 26
  rw [show (w.alloc (.cells (At.cs x v) 26)).heap.size = w.heap.size + 1 by simp] at x2
  exact ⟨(CBlk.new w (At.cs x v) 26).later (below1 _ _), x2, below2 _ _ _, by simp⟩
end Go.Proofs.YtjnipcakjoiplaaGreatDoor
/-
  A clause that is put together; Put, its boxes. (Written by MD10.py.)
-/
namespace Go.Proofs.YtjnipcakjoiplaaGreatDoor
open Go.RowKit
attribute [local go_sem ↓] Go.wp_at_zero Go.wp_at_succ

/-- A clause whose lists the call made. -/
structure MCl (B : Nat) (X : World) (d : Cm) : Prop where
  h : OwnT X B d.head.2 d.head.1.args
  b : OwnA X B d.bv d.body
  x : ∀ y ∈ d.body, OwnT X B y.2 y.1.args
  t : OwnE X B d.tv d.tests
  s : ∀ k, d.bv.ownBlock = some k → d.head.2.ownBlock ≠ some k ∧ (∀ y ∈ d.body, y.2.ownBlock ≠ some k) ∧ d.tv.ownBlock ≠ some k
theorem MCl.later {B : Nat} {X X' : World} {d : Cm} (h : MCl B X d) (hb : Below X.heap.size X X') : MCl B X' d := ⟨h.h.later hb, h.b.later hb, fun y hy => (h.x y hy).later hb, h.t.later hb, h.s⟩
theorem MCl.mono {B B' : Nat} {X : World} {d : Cm} (h : MCl B X d) (hb : B' ≤ B) : MCl B' X d := ⟨h.h.mono hb, h.b.mono hb, fun y hy => (h.x y hy).mono hb, h.t.mono hb, h.s⟩
theorem MCl.ok {B : Nat} {X : World} {d : Cm} (h : MCl B X d) (h1 : d.head.1.args.length < 1000000000000000000) (h2 : d.body.length < 1000000000000000000) (h3 : ∀ y ∈ d.body, y.1.args.length < 1000000000000000000) (h4 : d.tests.length < 1000000000000000000) : d.ok X :=
  ⟨h.h.tsP.ts h1, h.b.as h2 fun y hy => (h.x y hy).tsP.ts (h3 y hy), h.t.es h4⟩
abbrev ucs (h : At × Value) (bu tu : Value) : Array Value := #[.int .i64 h.1.by_.k, .int .i64 h.1.by_.n, .string h.1.by_.s, .string h.1.name, h.2, bu, tu]
/-- How far it is put together. -/
structure US (w X : World) (o : Array Value) (h : At × Value) (bu : Value) (LB : List (At × Value)) (tu : Value) (LT : List Te) : Prop where
  bc : CBlk X w.heap.size o 30
  br : CBlk X (w.heap.size + 1) zcs 30
  bo : CBlk X (w.heap.size + 1 + 1) (ucs h bu tu) 30
  hw : OwnT X (w.heap.size + 3) h.2 h.1.args
  ba : OwnA X (w.heap.size + 3) bu LB
  bt : ∀ x ∈ LB, OwnT X (w.heap.size + 3) x.2 x.1.args
  et : OwnE X (w.heap.size + 3) tu LT
  s1 : ∀ k, bu.ownBlock = some k → h.2.ownBlock ≠ some k ∧ (∀ x ∈ LB, x.2.ownBlock ≠ some k) ∧ tu.ownBlock ≠ some k
  s2 : ∀ k, tu.ownBlock = some k → h.2.ownBlock ≠ some k ∧ (∀ x ∈ LB, x.2.ownBlock ≠ some k)
  bw : Below w.heap.size w X
  sz : w.heap.size + 3 ≤ X.heap.size
theorem US.later {w X X' : World} {o : Array Value} {h : At × Value} {bu : Value} {LB : List (At × Value)} {tu : Value} {LT : List Te} (H : US w X o h bu LB tu LT) (hb : Below X.heap.size X X') : US w X' o h bu LB tu LT :=
  ⟨H.bc.later hb, H.br.later hb, H.bo.later hb, H.hw.later hb, H.ba.later hb, fun x hx => (H.bt x hx).later hb, H.et.later hb, H.s1, H.s2, below_step H.bw hb, Nat.le_trans H.sz hb.size⟩
/-- No list of it lies in block B. -/
structure Fr (h : At × Value) (bu : Value) (LB : List (At × Value)) (tu : Value) (B : Nat) : Prop where
  h : ∀ k, h.2.ownBlock = some k → k ≠ B
  b : ∀ k, bu.ownBlock = some k → k ≠ B
  x : ∀ x ∈ LB, ∀ k, x.2.ownBlock = some k → k ≠ B
  t : ∀ k, tu.ownBlock = some k → k ≠ B
theorem US.far {w X : World} {o : Array Value} {h : At × Value} {bu : Value} {LB : List (At × Value)} {tu : Value} {LT : List Te} {B i : Nat} (H : US w X o h bu LB tu LT) (hB : w.heap.size + 3 ≤ B) (F : Fr h bu LB tu B) (c : Value) : US w (X.setCell ⟨B, i, none⟩ c) o h bu LB tu LT :=
  ⟨H.bc.off (by omega), H.br.off (by omega), H.bo.off (by omega), H.hw.off F.h, H.ba.off F.b, fun x hx => (H.bt x hx).off (F.x x hx), H.et.off F.t, H.s1, H.s2, H.bw.setCell (show w.heap.size ≤ B by omega) _, by simpa [World.setCell] using H.sz⟩
/-- The boxes ahead of the head. -/
structure U0 (w X : World) (o : Array Value) : Prop where
  bc : CBlk X w.heap.size o 30
  br : CBlk X (w.heap.size + 1) zcs 30
  bo : CBlk X (w.heap.size + 1 + 1) zcs 30
  bw : Below w.heap.size w X
  sz : w.heap.size + 3 ≤ X.heap.size
theorem U0.later {w X X' : World} {o : Array Value} (H : U0 w X o) (hb : Below X.heap.size X X') : U0 w X' o := ⟨H.bc.later hb, H.br.later hb, H.bo.later hb, below_step H.bw hb, Nat.le_trans H.sz hb.size⟩
theorem U0.start (w : World) (o : Array Value) : U0 w (((w.alloc (.cells o 30)).alloc (.cells zcs 30)).alloc (.cells zcs 30)) o := by
  have b3 := below_step (below2 w (.cells o 30) (.cells zcs 30)) (below1 _ (.cells zcs 30))
  have x1 := (CBlk.new w o 30).later (below2 (w.alloc (.cells o 30)) (.cells zcs 30) (.cells zcs 30))
  have x2 := (CBlk.new (w.alloc (.cells o 30)) zcs 30).later (below1 _ (.cells zcs 30))
  have x3 := CBlk.new ((w.alloc (.cells o 30)).alloc (.cells zcs 30)) zcs 30
  rw [show (w.alloc (.cells o 30)).heap.size = w.heap.size + 1 by simp] at x2
  rw [show ((w.alloc (.cells o 30)).alloc (.cells zcs 30)).heap.size = w.heap.size + 1 + 1 by simp] at x3
  exact ⟨x1, x2, x3, b3, by simp⟩
abbrev Hput (X : World) (g : Nat) (h : At × Value) : World := ((((X.setCell ⟨g, 0, none⟩ (.int .i64 h.1.by_.k)).setCell ⟨g, 1, none⟩ (.int .i64 h.1.by_.n)).setCell ⟨g, 2, none⟩ (.string h.1.by_.s)).setCell ⟨g, 3, none⟩ (.string h.1.name)).setCell ⟨g, 4, none⟩ h.2
theorem U0.head {w X : World} {o : Array Value} (H : U0 w X o) (h : At × Value) (hh : OwnT X (w.heap.size + 3) h.2 h.1.args) : US w (Hput X (w.heap.size + 1 + 1) h) o h (.slice none 0 0) [] (.slice none 0 0) [] := by
  have n1 : w.heap.size ≠ w.heap.size + 1 + 1 := by omega
  have n2 : w.heap.size + 1 ≠ w.heap.size + 1 + 1 := by omega
  have n3 : w.heap.size + 1 + 1 < w.heap.size + 3 := by omega
  have n4 : w.heap.size ≤ w.heap.size + 1 + 1 := by omega
  refine ⟨((((H.bc.off n1).off n1).off n1).off n1).off n1, ((((H.br.off n2).off n2).off n2).off n2).off n2, ?_, ((((hh.set n3).set n3).set n3).set n3).set n3, OwnA.nil _ _, fun x hx => by simp at hx, OwnE.nil _ _, fun k hk => by simp [Value.ownBlock] at hk, fun k hk => by simp [Value.ownBlock] at hk, ((((H.bw.setCell n4 _).setCell n4 _).setCell n4 _).setCell n4 _).setCell n4 _, by simpa [World.setCell] using H.sz⟩
  have := ((((H.bo.set 0 (.int .i64 h.1.by_.k)).set 1 (.int .i64 h.1.by_.n)).set 2 (.string h.1.by_.s)).set 3 (.string h.1.name)).set 4 h.2
  simpa [zcs] using this
/-- At the end: the clause in its answer's box. -/
theorem US.mc {w X : World} {o : Array Value} {h : At × Value} {bu : Value} {LB : List (At × Value)} {tu : Value} {LT : List Te} (H : US w X o h bu LB tu LT) : MCl (w.heap.size + 3) X ⟨h, LB, bu, LT, tu⟩ := ⟨H.hw, H.ba, H.bt, H.et, H.s1⟩
theorem MCl.set {B : Nat} {X : World} {d : Cm} {G i : Nat} (h : MCl B X d) (hG : G < B) (c : Value) : MCl B (X.setCell ⟨G, i, none⟩ c) d := ⟨h.h.set hG, h.b.set hG, fun y hy => (h.x y hy).set hG, h.t.set hG, h.s⟩
end Go.Proofs.YtjnipcakjoiplaaGreatDoor
/-
  Put. (Written by MD11.py.)
-/
namespace Go.Proofs.YtjnipcakjoiplaaGreatDoor
open Go.RowKit
attribute [local go_sem ↓] Go.wp_at_zero Go.wp_at_succ

structure UB (w X : World) (o : Array Value) : Prop where
  bc : CBlk X w.heap.size o 30
  bw : Below w.heap.size w X
theorem US.ub {w X : World} {o : Array Value} {h : At × Value} {bu : Value} {LB : List (At × Value)} {tu : Value} {LT : List Te} (H : US w X o h bu LB tu LT) : UB w X o := ⟨H.bc, H.bw⟩
end Go.Proofs.YtjnipcakjoiplaaGreatDoor
/-
  ref's Normal. (Written by MD12.py.)
-/
namespace Go.Proofs.YtjnipcakjoiplaaGreatDoor
open Go.RowKit
attribute [local go_sem ↓] Go.wp_at_zero Go.wp_at_succ

/-- A clause's box and the answer's. -/
structure C2 (w X : World) (o : Array Value) : Prop where
  bc : CBlk X w.heap.size o 30
  br : CBlk X (w.heap.size + 1) zcs 30
  bw : Below w.heap.size w X
  sz : w.heap.size + 1 + 1 ≤ X.heap.size
theorem C2.later {w X X' : World} {o : Array Value} (H : C2 w X o) (hb : Below X.heap.size X X') : C2 w X' o := ⟨H.bc.later hb, H.br.later hb, below_step H.bw hb, Nat.le_trans H.sz hb.size⟩
theorem C2.start (w : World) (o : Array Value) : C2 w ((w.alloc (.cells o 30)).alloc (.cells zcs 30)) o := by
  have x2 := CBlk.new (w.alloc (.cells o 30)) zcs 30
  rw [show (w.alloc (.cells o 30)).heap.size = w.heap.size + 1 by simp] at x2
  exact ⟨(CBlk.new w o 30).later (below1 _ _), x2, below2 _ _ _, by simp⟩
theorem Cm.form {B : Nat} {X : World} {d : Cm} (h : MCl B X d) : ∃ a n cap a' n' cap' a'' n'' cap'', d.head.2 = .slice a n cap ∧ d.bv = .slice a' n' cap' ∧ d.tv = .slice a'' n'' cap'' := by
  obtain ⟨a, n, cap, e1⟩ := ownT_form4 h.h
  obtain ⟨a', cap', e2⟩ := h.b.form
  obtain ⟨a'', cap'', e3⟩ := h.t.form
  exact ⟨a, n, cap, a', _, cap', a'', _, cap'', e1, e2, e3⟩
/-- The list so far, since W. -/
structure LS (W X : World) (u : Value) (L : List Tm) : Prop where
  ow : OwnT X W.heap.size u L
  bw : Below W.heap.size W X
theorem LS.later {W X X' : World} {u : Value} {L : List Tm} (h : LS W X u L) (hb : Below X.heap.size X X') : LS W X' u L := ⟨h.ow.later hb, below_step h.bw hb⟩
theorem LS.far {W X : World} {u : Value} {L : List Tm} {B i : Nat} (h : LS W X u L) (hB : W.heap.size ≤ B) (hu : ∀ k, u.ownBlock = some k → k < B) (c : Value) : LS W (X.setCell ⟨B, i, none⟩ c) u L :=
  ⟨h.ow.off (fun k hk => Nat.ne_of_lt (hu k hk)), h.bw.setCell (show W.heap.size ≤ B from hB) _⟩
end Go.Proofs.YtjnipcakjoiplaaGreatDoor
/-
  Made: what it does to its clause.
-/
namespace Go.Proofs.YtjnipcakjoiplaaGreatDoor
open Go.RowKit

theorem tcs_set : ∀ (l : List Tm) (j : Nat) (t : Tm), j < l.length → tcs (l.set j t) = (((tcs l).set (j * 3) (.int .i64 t.k)).set (j * 3 + 1) (.int .i64 t.n)).set (j * 3 + 2) (.string t.s)
  | a :: l, 0, t, _ => by simp [tcs, Tm.cs]
  | a :: l, j + 1, t, h => by
    have ih := tcs_set l j t (by simpa using h)
    have e : ∀ m : List Tm, tcs (a :: m) = a.cs ++ tcs m := fun m => by simp [tcs]
    have hc : a.cs.length = 3 := rfl
    rw [List.set_cons_succ, e, e, ih, List.set_append_right _ _ (by omega), List.set_append_right _ _ (by omega), List.set_append_right _ _ (by omega), hc]
    rw [show (j + 1) * 3 - 3 = j * 3 by omega, show (j + 1) * 3 + 1 - 3 = j * 3 + 1 by omega, show (j + 1) * 3 + 2 - 3 = j * 3 + 2 by omega]
abbrev Tput (X : World) (g j : Nat) (t : Tm) : World := ((X.setCell ⟨g, j * 3, none⟩ (.int .i64 t.k)).setCell ⟨g, j * 3 + 1, none⟩ (.int .i64 t.n)).setCell ⟨g, j * 3 + 2, none⟩ (.string t.s)
theorem OwnT.put {X : World} {base g n cap j : Nat} {L : List Tm} (h : OwnT X base (.slice (some ⟨g, 0, none⟩) n cap) L) (hj : j < L.length) (t : Tm) : OwnT (Tput X g j t) base (.slice (some ⟨g, 0, none⟩) n cap) (L.set j t) := by
  have hlen := h.1
  rcases h.2 with ⟨h, _⟩ | ⟨g', cap', cur, hv, hb, hg, hn, hc, hs, ht⟩
  · cases h
  · simp only [Value.slice.injEq, Option.some.injEq, Addr.mk.injEq] at hv
    obtain ⟨⟨rfl, -⟩, rfl, rfl⟩ := hv
    have k1 := heap_setCell_same _ _ (j * 3) _ _ (.int .i64 t.k) hg
    have k2 := heap_setCell_same _ _ (j * 3 + 1) _ _ (.int .i64 t.n) k1
    have k3 := heap_setCell_same _ _ (j * 3 + 2) _ _ (.string t.s) k2
    refine ⟨by rw [tcs_len, List.length_set], Or.inr ⟨g, cap, _, by rw [List.length_set], hb, k3, by rw [List.length_set]; exact hn, hc, by simpa using hs, ?_⟩⟩
    rw [List.length_set, tcs_set L j t hj, ← ht]
    simp [List.take_set]
theorem OwnT.some {X : World} {base : Nat} {v : Value} {L : List Tm} (h : OwnT X base v L) (hL : 0 < L.length) : ∃ g cap, v = .slice (some ⟨g, 0, none⟩) L.length cap := by
  rcases h.2 with ⟨_, hn⟩ | ⟨g', cap', cur, hv, -⟩
  · omega
  · exact ⟨g', cap', hv⟩
abbrev zH : At × Value := (⟨zt, ⟨#[]⟩, []⟩, .slice none 0 0)
theorem U0.us {w X : World} {o : Array Value} (H : U0 w X o) : US w X o zH (.slice none 0 0) [] (.slice none 0 0) [] :=
  ⟨H.bc, H.br, H.bo, ownT_nil _ _, OwnA.nil _ _, fun x hx => by simp at hx, OwnE.nil _ _, fun k hk => by simp [Value.ownBlock] at hk, fun k hk => by simp [Value.ownBlock] at hk, H.bw, H.sz⟩
/-- Another head. -/
theorem US.head {w X : World} {o : Array Value} {h0 : At × Value} {bu : Value} {LB : List (At × Value)} {tu : Value} {LT : List Te} (H : US w X o h0 bu LB tu LT) (h : At × Value) (hh : OwnT X (w.heap.size + 3) h.2 h.1.args)
    (n1 : ∀ k, bu.ownBlock = some k → h.2.ownBlock ≠ some k) (n2 : ∀ k, tu.ownBlock = some k → h.2.ownBlock ≠ some k) : US w (Hput X (w.heap.size + 1 + 1) h) o h bu LB tu LT := by
  have m1 : w.heap.size ≠ w.heap.size + 1 + 1 := by omega
  have m2 : w.heap.size + 1 ≠ w.heap.size + 1 + 1 := by omega
  have n3 : w.heap.size + 1 + 1 < w.heap.size + 3 := by omega
  have n4 : w.heap.size ≤ w.heap.size + 1 + 1 := by omega
  refine ⟨((((H.bc.off m1).off m1).off m1).off m1).off m1, ((((H.br.off m2).off m2).off m2).off m2).off m2, ?_, ((((hh.set n3).set n3).set n3).set n3).set n3, ((((H.ba.set n3).set n3).set n3).set n3).set n3, fun x hx => (((((H.bt x hx).set n3).set n3).set n3).set n3).set n3, ((((H.et.set n3).set n3).set n3).set n3).set n3,
    fun k hk => ⟨n1 k hk, (H.s1 k hk).2⟩, fun k hk => ⟨n2 k hk, (H.s2 k hk).2⟩, ((((H.bw.setCell n4 _).setCell n4 _).setCell n4 _).setCell n4 _).setCell n4 _, by simpa [World.setCell] using H.sz⟩
  have := ((((H.bo.set 0 (.int .i64 h.1.by_.k)).set 1 (.int .i64 h.1.by_.n)).set 2 (.string h.1.by_.s)).set 3 (.string h.1.name)).set 4 h.2
  simpa using this
end Go.Proofs.YtjnipcakjoiplaaGreatDoor
/-
  Made. (Written by MD14.py.)
-/
namespace Go.Proofs.YtjnipcakjoiplaaGreatDoor
open Go.RowKit
attribute [local go_sem ↓] Go.wp_at_zero Go.wp_at_succ

theorem flat_len9 : ∀ (l : List At), (∀ a ∈ l, a.pl.length ≤ 9) → (l.flatMap At.pl).length ≤ l.length * 9
  | [], _ => by simp
  | a :: l, h => by
    rw [List.flatMap_cons, List.length_append, List.length_cons]
    have h1 := h a (by simp)
    have h2 := flat_len9 l fun b hb => h b (by simp [hb])
    omega
end Go.Proofs.YtjnipcakjoiplaaGreatDoor
/-
  replaced, with what Instance makes of a term. (Written by CL29.py.)
-/
namespace Go.Proofs.YtjnipcakjoiplaaGreatDoor
open Go.RowKit
attribute [local go_sem ↓] Go.wp_at_zero Go.wp_at_succ

def insA (vs : List Tm) (x : At) : At := ⟨ins vs x.by_, x.name, x.args.map (ins vs)⟩
def insE (vs : List Tm) (x : Te) : Te := ⟨x.op, ins vs x.l, ins vs x.r⟩
/-- How far replaced has come: its boxes, the head, the atoms so far. -/
structure RI (w X : World) (o : Array Value) (k1 kb : Nat) (hd : Tm) (nm : ByteArray) (L1 : List Tm) (M1 Bh M2 : Nat) (l : List (At × Value)) : Prop where
  bc : CBlk X w.heap.size o 30
  br : CBlk X (w.heap.size + 1) zcs 30
  bh : CBlk X Bh #[.int .i64 hd.k, .int .i64 hd.n, .string hd.s, .string nm, .slice (some ⟨M1, 0, none⟩) k1 k1] 26
  a : ABlk X M2 kb l
  t1 : TsN X M2 (.slice (some ⟨M1, 0, none⟩) k1 k1) L1
  ts : ∀ x ∈ l, TsN X M2 x.2 x.1.args ∧ ∀ b, x.2.ownBlock = some b → b < X.heap.size ∧ w.heap.size + 2 ≤ b
  bw : Below w.heap.size w X
  o1 : w.heap.size + 1 < Bh
  o2 : Bh < M2
  m1 : w.heap.size + 2 ≤ M1
  m2 : M1 < Bh
/-- .. and the tests so far. -/
structure QI (w X : World) (o : Array Value) (k1 kb kt : Nat) (hd : Tm) (nm : ByteArray) (L1 : List Tm) (M1 Bh M2 : Nat) (lb : List (At × Value)) (M3 : Nat) (lt : List Te) : Prop where
  bc : CBlk X w.heap.size o 30
  br : CBlk X (w.heap.size + 1) zcs 30
  bh : CBlk X Bh #[.int .i64 hd.k, .int .i64 hd.n, .string hd.s, .string nm, .slice (some ⟨M1, 0, none⟩) k1 k1] 26
  a : ABlk X M2 kb lb
  t1 : TsN X M3 (.slice (some ⟨M1, 0, none⟩) k1 k1) L1
  t2 : M1 ≠ M2
  ts : ∀ x ∈ lb, TsN X M3 x.2 x.1.args ∧ x.2.ownBlock ≠ some M2 ∧ ∀ b, x.2.ownBlock = some b → w.heap.size + 2 ≤ b
  e : EBlk X M3 kt lt
  bw : Below w.heap.size w X
  o1 : w.heap.size + 1 < Bh
  o2 : Bh < M2
  o3 : M2 < M3
  m1 : w.heap.size + 2 ≤ M1
theorem RI.later {w X X' : World} {o : Array Value} {k1 kb : Nat} {hd : Tm} {nm : ByteArray} {L1 : List Tm} {M1 Bh M2 : Nat} {l : List (At × Value)} (h : RI w X o k1 kb hd nm L1 M1 Bh M2 l) (hb : Below X.heap.size X X') : RI w X' o k1 kb hd nm L1 M1 Bh M2 l :=
  ⟨h.bc.later hb, h.br.later hb, h.bh.later hb, h.a.later hb, h.t1.later hb, fun x hx => ⟨(h.ts x hx).1.later hb, fun b e => ⟨Nat.lt_of_lt_of_le ((h.ts x hx).2 b e).1 hb.size, ((h.ts x hx).2 b e).2⟩⟩, below_step h.bw hb, h.o1, h.o2, h.m1, h.m2⟩
theorem RI.put {w X : World} {o : Array Value} {k1 kb : Nat} {hd : Tm} {nm : ByteArray} {L1 : List Tm} {M1 Bh M2 : Nat} {l : List (At × Value)} (h : RI w X o k1 kb hd nm L1 M1 Bh M2 l) (hl : l.length < kb) (x : At × Value) (hx : TsN X M2 x.2 x.1.args) (hx' : ∀ b, x.2.ownBlock = some b → b < X.heap.size ∧ w.heap.size + 2 ≤ b) : RI w (Aput X M2 l.length x) o k1 kb hd nm L1 M1 Bh M2 (l ++ [x]) := by
  have o1 := h.o1
  have o2 := h.o2
  have n1 : w.heap.size ≠ M2 := by omega
  have n2 : w.heap.size + 1 ≠ M2 := by omega
  have n3 : Bh ≠ M2 := by omega
  have n4 : w.heap.size ≤ M2 := by omega
  refine ⟨((((h.bc.off n1).off n1).off n1).off n1).off n1, ((((h.br.off n2).off n2).off n2).off n2).off n2, ((((h.bh.off n3).off n3).off n3).off n3).off n3, h.a.put hl x, ((((h.t1.off).off).off).off).off, fun y hy => ?_, ((((h.bw.setCell n4 _).setCell n4 _).setCell n4 _).setCell n4 _).setCell n4 _, o1, o2, h.m1, h.m2⟩
  rcases List.mem_append.1 hy with hy | hy
  · exact ⟨((((((h.ts y hy).1).off).off).off).off).off, fun b e => ⟨by simpa [World.setCell] using ((h.ts y hy).2 b e).1, ((h.ts y hy).2 b e).2⟩⟩
  · rw [List.mem_singleton] at hy; subst hy; exact ⟨((((hx.off).off).off).off).off, fun b e => ⟨by simpa [World.setCell] using (hx' b e).1, (hx' b e).2⟩⟩
theorem QI.later {w X X' : World} {o : Array Value} {k1 kb kt : Nat} {hd : Tm} {nm : ByteArray} {L1 : List Tm} {M1 Bh M2 M3 : Nat} {l : List (At × Value)} {lt : List Te} (h : QI w X o k1 kb kt hd nm L1 M1 Bh M2 l M3 lt) (hb : Below X.heap.size X X') : QI w X' o k1 kb kt hd nm L1 M1 Bh M2 l M3 lt :=
  ⟨h.bc.later hb, h.br.later hb, h.bh.later hb, h.a.later hb, h.t1.later hb, h.t2, fun x hx => ⟨(h.ts x hx).1.later hb, (h.ts x hx).2⟩, h.e.later hb, below_step h.bw hb, h.o1, h.o2, h.o3, h.m1⟩
theorem QI.put {w X : World} {o : Array Value} {k1 kb kt : Nat} {hd : Tm} {nm : ByteArray} {L1 : List Tm} {M1 Bh M2 M3 : Nat} {l : List (At × Value)} {lt : List Te} (h : QI w X o k1 kb kt hd nm L1 M1 Bh M2 l M3 lt) (hl : lt.length < kt) (x : Te) : QI w (Eput X M3 lt.length x) o k1 kb kt hd nm L1 M1 Bh M2 l M3 (lt ++ [x]) := by
  have o1 := h.o1
  have o2 := h.o2
  have o3 := h.o3
  have n1 : w.heap.size ≠ M3 := by omega
  have n2 : w.heap.size + 1 ≠ M3 := by omega
  have n3 : Bh ≠ M3 := by omega
  have n5 : M2 ≠ M3 := by omega
  have n4 : w.heap.size ≤ M3 := by omega
  exact ⟨((((((h.bc.off n1).off n1).off n1).off n1).off n1).off n1).off n1, ((((((h.br.off n2).off n2).off n2).off n2).off n2).off n2).off n2, ((((((h.bh.off n3).off n3).off n3).off n3).off n3).off n3).off n3, ((((((h.a.other n5).other n5).other n5).other n5).other n5).other n5).other n5, ((((((h.t1.off).off).off).off).off).off).off, h.t2, fun y hy => ⟨(((((((h.ts y hy).1.off).off).off).off).off).off).off, (h.ts y hy).2⟩, h.e.put hl x, ((((((h.bw.setCell n4 _).setCell n4 _).setCell n4 _).setCell n4 _).setCell n4 _).setCell n4 _).setCell n4 _, o1, o2, o3, h.m1⟩
/-- A clause instanced, at and above B. -/
structure RJ (B : Nat) (X : World) (k1 kb kt : Nat) (L1 : List Tm) (F : List At) (E : List Te) (M1 M2 M3 : Nat) (lb : List (At × Value)) : Prop where
  f : fsts lb = F
  a : ABlk X M2 kb lb
  t1 : Ts X (.slice (some ⟨M1, 0, none⟩) k1 k1) L1
  n1 : M1 ≠ M2
  ts : ∀ x ∈ lb, TsN X M2 x.2 x.1.args ∧ ∀ b, x.2.ownBlock = some b → B ≤ b
  e : EBlk X M3 kt E
  b1 : B ≤ M1
  b2 : B ≤ M2
  b3 : M2 < M3
theorem RJ.later {B : Nat} {X X' : World} {k1 kb kt : Nat} {L1 : List Tm} {F : List At} {E : List Te} {M1 M2 M3 : Nat} {lb : List (At × Value)} (h : RJ B X k1 kb kt L1 F E M1 M2 M3 lb) (hb : Below X.heap.size X X') : RJ B X' k1 kb kt L1 F E M1 M2 M3 lb :=
  ⟨h.f, h.a.later hb, h.t1.later hb, h.n1, fun x hx => ⟨(h.ts x hx).1.later hb, (h.ts x hx).2⟩, h.e.later hb, h.b1, h.b2, h.b3⟩
theorem RJ.mono {B B' : Nat} {X : World} {k1 kb kt : Nat} {L1 : List Tm} {F : List At} {E : List Te} {M1 M2 M3 : Nat} {lb : List (At × Value)} (h : RJ B X k1 kb kt L1 F E M1 M2 M3 lb) (hB : B' ≤ B) : RJ B' X k1 kb kt L1 F E M1 M2 M3 lb :=
  ⟨h.f, h.a, h.t1, h.n1, fun x hx => ⟨(h.ts x hx).1, fun b e => Nat.le_trans hB ((h.ts x hx).2 b e)⟩, h.e, Nat.le_trans hB h.b1, Nat.le_trans hB h.b2, h.b3⟩
theorem RJ.off {B g i : Nat} {v : Value} {X : World} {k1 kb kt : Nat} {L1 : List Tm} {F : List At} {E : List Te} {M1 M2 M3 : Nat} {lb : List (At × Value)} (h : RJ B X k1 kb kt L1 F E M1 M2 M3 lb) (hg : g < B) : RJ B (X.setCell ⟨g, i, none⟩ v) k1 kb kt L1 F E M1 M2 M3 lb := by
  have b1 := h.b1
  have b2 := h.b2
  have b3 := h.b3
  exact ⟨h.f, h.a.other (by omega), h.t1.off (fun e => by have : M1 = g := Option.some.inj e; omega), h.n1, fun x hx => ⟨⟨(h.ts x hx).1.1.off (fun e => by have := (h.ts x hx).2 _ e; omega), (h.ts x hx).1.2⟩, (h.ts x hx).2⟩, h.e.other (by omega), b1, b2, b3⟩
def Cm.cpI (c : Cm) (vs : List Tm) (M1 M2 M3 : Nat) (lb : List (At × Value)) : Cm := ⟨(insA vs c.head.1, .slice (some ⟨M1, 0, none⟩) c.head.1.args.length c.head.1.args.length), lb, .slice (some ⟨M2, 0, none⟩) c.body.length c.body.length, c.tests.map (insE vs), .slice (some ⟨M3, 0, none⟩) c.tests.length c.tests.length⟩
end Go.Proofs.YtjnipcakjoiplaaGreatDoor
