import Derived.Test.YtdfgijdededolabGreatDoorRC1
import Derived.Test.YtdfgijdededolabGreatDoorCL29
import Derived.Deep.RegionHeld3
import Derived.Deep.CutRange
import Derived.Test.YtdfgijdededolabGreatDoorMD6
import Derived.Test.YtdfgijdededolabGreatDoorCL1
import Derived.Test.YtdfgijdededolabGreatDoorW2
import Derived.Test.YtdfgijdededolabGreatDoorCL20
/-
  broken: its clause, as it is changed.
-/
namespace Go.Proofs.YtdfgijdededolabGreatDoor
open Go.RowKit

/-- The clause in its box Go. -/
structure BS (w X : World) (Go : Nat) (h : At × Value) (LB : List (At × Value)) (bu : Value) (LT : List Te) (tu : Value) : Prop where
  br : CBlk X (w.heap.size + 1 + 1) zcs 41
  bo : CBlk X Go (ucs h bu tu) 41
  mc : MCl (w.heap.size + 3) X ⟨h, LB, bu, LT, tu⟩
  fr : Fr h bu LB tu Go
  g1 : w.heap.size + 3 ≤ Go
  bw : Below w.heap.size w X
theorem BS.later {w X X' : World} {Go : Nat} {h : At × Value} {LB : List (At × Value)} {bu : Value} {LT : List Te} {tu : Value} (H : BS w X Go h LB bu LT tu) (hb : Below X.heap.size X X') : BS w X' Go h LB bu LT tu :=
  ⟨H.br.later hb, H.bo.later hb, H.mc.later hb, H.fr, H.g1, below_step H.bw hb⟩
theorem MCl.far {B : Nat} {X : World} {h : At × Value} {LB : List (At × Value)} {bu : Value} {LT : List Te} {tu : Value} {G i : Nat} (H : MCl B X ⟨h, LB, bu, LT, tu⟩) (F : Fr h bu LB tu G) (c : Value) : MCl B (X.setCell ⟨G, i, none⟩ c) ⟨h, LB, bu, LT, tu⟩ :=
  ⟨H.h.off F.h, H.b.off F.b, fun y hy => (H.x y hy).off (F.x y hy), H.t.off F.t, H.s⟩
theorem BS.start {w w1 : World} {d : Cm} (hm : MCl (w.heap.size + 3) w1 d) (hr : CBlk w1 (w.heap.size + 1 + 1) zcs 41) (hb : Below w.heap.size w w1) (hs : w.heap.size + 3 ≤ w1.heap.size) : BS w (w1.alloc (.cells d.cs 41)) w1.heap.size d.head d.body d.bv d.tests d.tv :=
  ⟨hr.later (below1 _ _), CBlk.new _ _ _, hm.later (below1 _ _), ⟨fun k hk => by have := (hm.h.lt k hk).2; omega, fun k hk => by have := (hm.b.lt k hk).2; omega, fun x hx k hk => by have := ((hm.x x hx).lt k hk).2; omega, fun k hk => by have := (hm.t.lt k hk).2; omega⟩, hs, below_step hb (below1 _ _)⟩
theorem BS.name {w X : World} {Go : Nat} {b : Tm} {nm : ByteArray} {L : List Tm} {hv : Value} {LB : List (At × Value)} {bu : Value} {LT : List Te} {tu : Value} (H : BS w X Go (⟨b, nm, L⟩, hv) LB bu LT tu) (s : ByteArray) : BS w (X.setCell ⟨Go, 3, none⟩ (.string s)) Go (⟨b, s, L⟩, hv) LB bu LT tu := by
  have g := H.g1
  have m := H.mc.far (i := 3) H.fr (.string s)
  refine ⟨H.br.off (by omega), ?_, ⟨m.h, m.b, m.x, m.t, m.s⟩, ⟨H.fr.h, H.fr.b, H.fr.x, H.fr.t⟩, g, H.bw.setCell (show w.heap.size ≤ Go by omega) _⟩
  have := H.bo.set 3 (.string s)
  simpa using this
theorem BS.by_ {w X : World} {Go : Nat} {b : Tm} {nm : ByteArray} {L : List Tm} {hv : Value} {LB : List (At × Value)} {bu : Value} {LT : List Te} {tu : Value} (H : BS w X Go (⟨b, nm, L⟩, hv) LB bu LT tu) (t : Tm) :
    BS w (((X.setCell ⟨Go, 0, none⟩ (.int .i64 t.k)).setCell ⟨Go, 1, none⟩ (.int .i64 t.n)).setCell ⟨Go, 2, none⟩ (.string t.s)) Go (⟨t, nm, L⟩, hv) LB bu LT tu := by
  have g := H.g1
  have n : w.heap.size + 1 + 1 ≠ Go := by omega
  have nw : w.heap.size ≤ Go := by omega
  have m := ((H.mc.far (i := 0) H.fr (.int .i64 t.k)).far (i := 1) H.fr (.int .i64 t.n)).far (i := 2) H.fr (.string t.s)
  refine ⟨((H.br.off n).off n).off n, ?_, ⟨m.h, m.b, m.x, m.t, m.s⟩, ⟨H.fr.h, H.fr.b, H.fr.x, H.fr.t⟩, g, ((H.bw.setCell nw _).setCell nw _).setCell nw _⟩
  have := ((H.bo.set 0 (.int .i64 t.k)).set 1 (.int .i64 t.n)).set 2 (.string t.s)
  simpa using this
theorem OwnE.one {w : World} {b base : Nat} {t : Te} (h : CBlk w b (ecell t).toArray 88) (hb : base ≤ b) : OwnE w base (.slice (some ⟨b, 0, none⟩) 1 1) [t] := by
  refine ⟨by simp [ecs, ecell], Or.inr ⟨_, 1, (ecell t).toArray, rfl, hb, h, Nat.le_refl _, by unfold maxLen; omega, by simp [ecell], by simp [ecs, ecell]⟩⟩
/-- Other tests. -/
theorem BS.tests {w X : World} {Go : Nat} {h : At × Value} {LB : List (At × Value)} {bu : Value} {LT LT' : List Te} {tu tu' : Value} (H : BS w X Go h LB bu LT tu) (ho : OwnE X (w.heap.size + 3) tu' LT') (n1 : ∀ k, bu.ownBlock = some k → tu'.ownBlock ≠ some k) (n2 : ∀ k, tu'.ownBlock = some k → k ≠ Go) :
    BS w (X.setCell ⟨Go, 6, none⟩ tu') Go h LB bu LT' tu' := by
  have g := H.g1
  refine ⟨H.br.off (by omega), ?_, ⟨H.mc.h.off H.fr.h, H.mc.b.off H.fr.b, fun y hy => (H.mc.x y hy).off (H.fr.x y hy), ho.off n2, fun k hk => ⟨(H.mc.s k hk).1, (H.mc.s k hk).2.1, n1 k hk⟩⟩, ⟨H.fr.h, H.fr.b, H.fr.x, n2⟩, g, H.bw.setCell (show w.heap.size ≤ Go by omega) _⟩
  have := H.bo.set 6 tu'
  simpa using this
/-- Another body. -/
theorem BS.body {w X X' : World} {Go : Nat} {h : At × Value} {LB LB' : List (At × Value)} {bu bu' : Value} {LT : List Te} {tu : Value} {row : Option Nat} (H : BS w X Go h LB bu LT tu) (ho : OwnA X' (w.heap.size + 3) bu' LB') (hx : ∀ y ∈ LB', OwnT X (w.heap.size + 3) y.2 y.1.args)
    (hb : Below (w.heap.size + 3) X X') (hg : X.grownBy X' row) (r1 : ∀ k, row = some k → h.2.ownBlock ≠ some k ∧ (∀ y ∈ LB', y.2.ownBlock ≠ some k) ∧ tu.ownBlock ≠ some k ∧ k ≠ Go)
    (ha : ∀ k, bu'.ownBlock = some k → row = some k ∨ X.heap.size ≤ k) (frx : ∀ y ∈ LB', ∀ k, y.2.ownBlock = some k → k ≠ Go) : BS w (X'.setCell ⟨Go, 5, none⟩ bu') Go h LB' bu' LT tu := by
  have g := H.g1
  have g2 := H.bo.lt
  have e1 : ∀ (v : Value), (∀ k, v.ownBlock = some k → k < X.heap.size) → (∀ k, row = some k → v.ownBlock ≠ some k) → (∀ k, bu'.ownBlock = some k → v.ownBlock ≠ some k) := fun v h1 h2 k hk e => by
    rcases ha k hk with h | h
    · exact h2 k h e
    · have := h1 k e; omega
  have m1 : ∀ v : Value, (∀ k, row = some k → v.ownBlock ≠ some k) → ∀ k, v.ownBlock = some k → row ≠ some k := fun v h k hk e => h k e hk
  have nGo : ∀ k, bu'.ownBlock = some k → k ≠ Go := fun k hk => by
    rcases ha k hk with h | h
    · exact (r1 k h).2.2.2
    · omega
  refine ⟨CBlk.off ((hb.block _ (by omega)).trans H.br) (by omega), ?_, ⟨(H.mc.h.grown hg (m1 _ fun k hk => (r1 k hk).1)).off H.fr.h, ho.off nGo, fun y hy => ((hx y hy).grown hg (m1 _ fun k hk => (r1 k hk).2.1 y hy)).off (frx y hy), (H.mc.t.grown hg (m1 _ fun k hk => (r1 k hk).2.2.1)).off H.fr.t, fun k hk => ⟨e1 _ (fun k hk => (H.mc.h.lt k hk).2) (fun k hk => (r1 k hk).1) k hk, fun y hy => e1 _ (fun k hk => ((hx y hy).lt k hk).2) (fun k hk => (r1 k hk).2.1 y hy) k hk, e1 _ (fun k hk => (H.mc.t.lt k hk).2) (fun k hk => (r1 k hk).2.2.1) k hk⟩⟩, ⟨H.fr.h, nGo, frx, H.fr.t⟩, g, (H.bw.trans (hb.mono (by omega))).setCell (show w.heap.size ≤ Go by omega) _⟩
  have l3 : CBlk X' Go (ucs h bu tu) 41 := (hg.block Go g2 (fun e => (r1 Go e.symm).2.2.2 rfl)).trans H.bo
  have := l3.set 5 bu'
  simpa using this
theorem OwnA.take {X : World} {B g n cap : Nat} {l : List (At × Value)} (h : OwnA X B (.slice (some ⟨g, 0, none⟩) n cap) l) (j : Nat) (hj : j ≤ l.length) : OwnA X B (.slice (some ⟨g, 0, none⟩) j cap) (l.take j) := by
  rcases h.2 with ⟨h, _⟩ | ⟨g', cap', cur, hv, hb, hg, hn, hc, hs, ht⟩
  · cases h
  · simp only [Value.slice.injEq, Option.some.injEq, Addr.mk.injEq] at hv
    obtain ⟨⟨rfl, -⟩, rfl, rfl⟩ := hv
    have hl : (l.take j).length = j := by rw [List.length_take]; omega
    refine ⟨by rw [acs_len], Or.inr ⟨g, cap, cur, by rw [hl], hb, hg, by rw [hl]; omega, hc, hs, ?_⟩⟩
    rw [hl]
    have e : acs (l.take j) = (acs l).take (j * 5) := by
      have h1 : acs l = acs (l.take j) ++ acs (l.drop j) := by rw [← acs_app, List.take_append_drop]
      rw [h1, List.take_left' (by rw [acs_len, hl])]
    rw [e, ← ht, List.take_take, Nat.min_eq_left (by omega)]
theorem OwnA.one {w : World} {b base : Nat} {y : At × Value} (h : CBlk w b (acell y).toArray 37) (hb : base ≤ b) : OwnA w base (.slice (some ⟨b, 0, none⟩) 1 1) [y] := by
  refine ⟨by simp [acs, acell], Or.inr ⟨_, 1, (acell y).toArray, rfl, hb, h, Nat.le_refl _, by unfold maxLen; omega, by simp [acell], by simp [acs, acell]⟩⟩
end Go.Proofs.YtdfgijdededolabGreatDoor
/-
  name; bare; Quote of a valid clause.
-/
namespace Go.Proofs.YtdfgijdededolabGreatDoor
open Go.RowKit
attribute [local go_sem ↓] Go.wp_at_zero Go.wp_at_succ

/-- One atom's qualifier in a list that the call made. -/
theorem acs_set : ∀ (l : List (At × Value)) (j : Nat) (x : At × Value) (t : Tm), l[j]? = some x → acs (l.set j (⟨t, x.1.name, x.1.args⟩, x.2)) = (((acs l).set (j * 5) (.int .i64 t.k)).set (j * 5 + 1) (.int .i64 t.n)).set (j * 5 + 2) (.string t.s)
  | a :: l, 0, x, t, h => by simp at h; subst h; simp [acs, acell]
  | a :: l, j + 1, x, t, h => by
    rw [List.getElem?_cons_succ] at h
    have ih := acs_set l j x t h
    have e : ∀ m : List (At × Value), acs (a :: m) = acell a ++ acs m := fun m => by simp [acs]
    have hc : (acell a).length = 5 := rfl
    rw [List.set_cons_succ, e, e, ih, List.set_append_right _ _ (by omega), List.set_append_right _ _ (by omega), List.set_append_right _ _ (by omega), hc]
    rw [show (j + 1) * 5 - 5 = j * 5 by omega, show (j + 1) * 5 + 1 - 5 = j * 5 + 1 by omega, show (j + 1) * 5 + 2 - 5 = j * 5 + 2 by omega]
theorem OwnA.by_ {X : World} {base g n cap j : Nat} {L : List (At × Value)} {x : At × Value} (h : OwnA X base (.slice (some ⟨g, 0, none⟩) n cap) L) (hx : L[j]? = some x) (t : Tm) : OwnA (Aby X g j t) base (.slice (some ⟨g, 0, none⟩) n cap) (L.set j (⟨t, x.1.name, x.1.args⟩, x.2)) := by
  rcases h.2 with ⟨h, _⟩ | ⟨g', cap', cur, hv, hb, hg, hn, hc, hs, ht⟩
  · cases h
  · simp only [Value.slice.injEq, Option.some.injEq, Addr.mk.injEq] at hv
    obtain ⟨⟨rfl, -⟩, rfl, rfl⟩ := hv
    have k1 := heap_setCell_same _ _ (j * 5) _ _ (.int .i64 t.k) hg
    have k2 := heap_setCell_same _ _ (j * 5 + 1) _ _ (.int .i64 t.n) k1
    have k3 := heap_setCell_same _ _ (j * 5 + 2) _ _ (.string t.s) k2
    refine ⟨by rw [acs_len, List.length_set], Or.inr ⟨g, cap, _, by rw [List.length_set], hb, k3, by rw [List.length_set]; exact hn, hc, by simpa using hs, ?_⟩⟩
    rw [List.length_set, acs_set L j x t hx, ← ht]
    simp [List.take_set]
end Go.Proofs.YtdfgijdededolabGreatDoor
/-
  The reference's Own and Quote. (Written by RQ1.py, out of CL26 and OQ3.)
-/
namespace Go.Proofs.YtdfgijdededolabGreatDoor
open Go.RowKit
attribute [local go_sem ↓] Go.wp_at_zero Go.wp_at_succ

/-- A clause in memory, with all that a copy wants to know of its lists. -/
structure OKP (w : World) (c : Cm) : Prop where
  ok : c.ok w
  hh : TsP w c.head.2 c.head.1.args
  hp : ∀ x ∈ c.body, TsP w x.2 x.1.args
  bp : AsP w c.bv c.body
theorem OKP.later {w w' : World} {c : Cm} (h : OKP w c) (hb : Below w.heap.size w w') : OKP w' c := ⟨h.ok.later hb, h.hh.later hb, fun x hx => (h.hp x hx).later hb, h.bp.later hb⟩
structure BQ (w : World) (u : ByteArray) (X : World) (Go : Nat) (d : Cm) : Prop where
  br : CBlk X (w.heap.size + 1) zcs 41
  bt : CBlk X (w.heap.size + 1 + 1) #[.int .i64 2, .int .i64 0, .string u] 35
  bo : CBlk X Go d.cs 41
  mc : MCl (w.heap.size + 1 + 1 + 1) X d
  fr : Fr d.head d.bv d.body d.tv Go
  g1 : w.heap.size + 1 + 1 + 1 ≤ Go
  bw : Below w.heap.size w X
theorem BQ.start {w w1 : World} {u : ByteArray} {d : Cm} (hm : MCl (w.heap.size + 1 + 1 + 1) w1 d) (hr : CBlk w1 (w.heap.size + 1) zcs 41) (ht : CBlk w1 (w.heap.size + 1 + 1) #[.int .i64 2, .int .i64 0, .string u] 35) (hb : Below w.heap.size w w1) (hs : w.heap.size + 1 + 1 + 1 ≤ w1.heap.size) : BQ w u (w1.alloc (.cells d.cs 41)) w1.heap.size d :=
  ⟨hr.later (below1 _ _), ht.later (below1 _ _), CBlk.new _ _ _, hm.later (below1 _ _), ⟨fun k hk => by have := (hm.h.lt k hk).2; omega, fun k hk => by have := (hm.b.lt k hk).2; omega, fun x hx k hk => by have := ((hm.x x hx).lt k hk).2; omega, fun k hk => by have := (hm.t.lt k hk).2; omega⟩, hs, below_step hb (below1 _ _)⟩
theorem BQ.by_ {w X : World} {u : ByteArray} {Go g n cap j : Nat} {h : At × Value} {L : List (At × Value)} {LT : List Te} {tu : Value} {x : At × Value} (H : BQ w u X Go ⟨h, L, .slice (some ⟨g, 0, none⟩) n cap, LT, tu⟩) (hx : L[j]? = some x) (t : Tm) :
    BQ w u (Aby X g j t) Go ⟨h, L.set j (⟨t, x.1.name, x.1.args⟩, x.2), .slice (some ⟨g, 0, none⟩) n cap, LT, tu⟩ := by
  have hg := (H.mc.b.lt g rfl).1
  have hGo : Go ≠ g := fun e => H.fr.b g rfl e.symm
  have hs := H.mc.s g rfl
  have n1 : ∀ k, h.2.ownBlock = some k → k ≠ g := fun k hk e => hs.1 (by rw [hk, e])
  have n2 : ∀ k, tu.ownBlock = some k → k ≠ g := fun k hk e => hs.2.2 (by rw [← e]; exact hk)
  have n3 : ∀ y ∈ L, ∀ k, y.2.ownBlock = some k → k ≠ g := fun y hy k hk e => hs.2.1 y hy (by rw [hk, e])
  have hxm := List.mem_of_getElem? hx
  have nw : w.heap.size ≤ g := by omega
  refine ⟨((H.br.off (by omega)).off (by omega)).off (by omega), ((H.bt.off (by omega)).off (by omega)).off (by omega), ((H.bo.off hGo).off hGo).off hGo, ⟨((H.mc.h.off n1).off n1).off n1, H.mc.b.by_ hx t, fun y hy => ?_, ((H.mc.t.off n2).off n2).off n2, fun k hk => ⟨(H.mc.s k hk).1, fun y hy => ?_, (H.mc.s k hk).2.2⟩⟩, ⟨H.fr.h, H.fr.b, fun y hy => ?_, H.fr.t⟩, H.g1, ((H.bw.setCell nw _).setCell nw _).setCell nw _⟩
  · rcases List.mem_or_eq_of_mem_set hy with hy | rfl
    · exact (((H.mc.x y hy).off (n3 y hy)).off (n3 y hy)).off (n3 y hy)
    · exact (((H.mc.x x hxm).off (n3 x hxm)).off (n3 x hxm)).off (n3 x hxm)
  · rcases List.mem_or_eq_of_mem_set hy with hy | rfl
    · exact (H.mc.s k hk).2.1 y hy
    · exact (H.mc.s k hk).2.1 x hxm
  · rcases List.mem_or_eq_of_mem_set hy with hy | rfl
    · exact H.fr.x y hy
    · exact H.fr.x x hxm
theorem BQ.head {w X : World} {u : ByteArray} {Go : Nat} {d : Cm} (H : BQ w u X Go d) :
    BQ w u (((X.setCell ⟨Go, 0, none⟩ (.int .i64 2)).setCell ⟨Go, 1, none⟩ (.int .i64 0)).setCell ⟨Go, 2, none⟩ (.string u)) Go ⟨(⟨⟨2, 0, u⟩, d.head.1.name, d.head.1.args⟩, d.head.2), d.body, d.bv, d.tests, d.tv⟩ := by
  have hg := H.g1
  have nw : w.heap.size ≤ Go := by omega
  have k1 := ((H.bo.set 0 (.int .i64 2)).set 1 (.int .i64 0)).set 2 (.string u)
  exact ⟨((H.br.off (by omega)).off (by omega)).off (by omega), ((H.bt.off (by omega)).off (by omega)).off (by omega), by simpa using k1, ⟨((H.mc.h.off H.fr.h).off H.fr.h).off H.fr.h, ((H.mc.b.off H.fr.b).off H.fr.b).off H.fr.b, fun y hy => (((H.mc.x y hy).off (H.fr.x y hy)).off (H.fr.x y hy)).off (H.fr.x y hy), ((H.mc.t.off H.fr.t).off H.fr.t).off H.fr.t, H.mc.s⟩, ⟨H.fr.h, H.fr.b, H.fr.x, H.fr.t⟩, H.g1, ((H.bw.setCell nw _).setCell nw _).setCell nw _⟩
end Go.Proofs.YtdfgijdededolabGreatDoor
