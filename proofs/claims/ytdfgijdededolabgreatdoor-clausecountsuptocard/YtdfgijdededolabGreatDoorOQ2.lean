import Derived.Test.YtdfgijdededolabGreatDoorCL20
import Derived.Test.YtdfgijdededolabGreatDoorOQ1
import Derived.Test.YtdfgijdededolabGreatDoorLE2
/-
  Quote's refusals. (Written by CL26.py.)
-/
namespace Go.Proofs.YtdfgijdededolabGreatDoor
open Go.RowKit
attribute [local go_sem ↓] Go.wp_at_zero Go.wp_at_succ

set_option maxRecDepth 20000 in
set_option maxHeartbeats 4000000 in
theorem quote_no1 (c : Cm) (u : ByteArray) (w : World) (h : c.ok w) (hp : Tm.prin ⟨2, 0, u⟩ = false) :
    Calls Tryz.prog 43 #[.string u, c.v] w fun e w' => e = .returned (.tuple #[.agg #[.int .i64 0, .int .i64 0, .string ⟨#[]⟩, .string ⟨#[]⟩, .slice none 0 0, .slice none 0 0, .slice none 0 0], .int .i64 36]) ∧ Below w.heap.size w w' := by
  have HB0 : Hid (QB w (((w.alloc (.cells c.cs 41)).alloc (.cells zcs 41)).alloc (.cells #[.int .i64 2, .int .i64 0, .string u] 35)) c u) := QB.start w c u h
  have HPR : Hid (∀ X : World, Calls Tryz.prog 88 #[Tm.v ⟨2, 0, u⟩] X fun e w' => e = .returned (.bool false) ∧ Below X.heap.size X w') := fun X => by have := prin_any ⟨2, 0, u⟩ X; rw [hp] at this; exact this
  obtain ⟨⟨a, hn, cap, h1⟩, ⟨a', cap', h2⟩, ⟨a'', cap'', h3⟩, hbl, htl⟩ := h.shape
  clear h hp
  obtain ⟨⟨⟨⟨k, m, s⟩, nm, ls⟩, hx⟩, body, bv, tests, tv⟩ := c
  simp only at h1 h2 h3 hbl htl
  subst h1 h2 h3
  go_enter Tryz.func43, Tryz.ntmps43
  go_wp2_with (go_at_call 88; refine (HPR.out _).mono ?_; clear HPR; rintro e w1 ⟨rfl, hb⟩; have HB1 : Hid (QB w w1 ⟨(⟨⟨k, m, s⟩, nm, ls⟩, .slice a hn cap), body, .slice a' body.length cap', tests, .slice a'' tests.length cap''⟩ u) := HB0.out.later hb; clear HB0 hb; obtain ⟨r0, r1, r2, r3, r4, r5, r6⟩ := cseven HB1.out.br; have f0 : w1.frozen? ⟨w.heap.size + 1, 0, none⟩ = false := HB1.out.br.froz; have f1 : w1.frozen? ⟨w.heap.size + 1, 1, none⟩ = false := HB1.out.br.froz; have f2 : w1.frozen? ⟨w.heap.size + 1, 2, none⟩ = false := HB1.out.br.froz; have f3 : w1.frozen? ⟨w.heap.size + 1, 3, none⟩ = false := HB1.out.br.froz; have f4 : w1.frozen? ⟨w.heap.size + 1, 4, none⟩ = false := HB1.out.br.froz; have f5 : w1.frozen? ⟨w.heap.size + 1, 5, none⟩ = false := HB1.out.br.froz; have f6 : w1.frozen? ⟨w.heap.size + 1, 6, none⟩ = false := HB1.out.br.froz)
  have hq := HB1.out
  have nw : w.heap.size ≤ w.heap.size + 1 := by omega
  exact bodyPost_ret (v := .tuple #[.agg #[.int .i64 0, .int .i64 0, .string ⟨#[]⟩, .string ⟨#[]⟩, .slice none 0 0, .slice none 0 0, .slice none 0 0], .int .i64 36]) (by simp [results, Tryz.results43, go_sem, r0, r1, r2, r3, r4, r5, r6]) rfl
    ⟨rfl, ((((((hq.bw.setCell nw _).setCell nw _).setCell nw _).setCell nw _).setCell nw _).setCell nw _).setCell nw _⟩
set_option maxRecDepth 20000 in
set_option maxHeartbeats 4000000 in
theorem quote_no2 (c : Cm) (u : ByteArray) (w : World) (h : c.ok w) (hwf : c.wf) (hp : Tm.prin ⟨2, 0, u⟩ = true) (R : Int) (hk : c.chk = R) (hR : R ≠ 0) :
    Calls Tryz.prog 43 #[.string u, c.v] w fun e w' => e = .returned (.tuple #[.agg #[.int .i64 0, .int .i64 0, .string ⟨#[]⟩, .string ⟨#[]⟩, .slice none 0 0, .slice none 0 0, .slice none 0 0], .int .i64 R]) ∧ Below w.heap.size w w' := by
  have HB0 : Hid (QB w (((w.alloc (.cells c.cs 41)).alloc (.cells zcs 41)).alloc (.cells #[.int .i64 2, .int .i64 0, .string u] 35)) c u) := QB.start w c u h
  have HPR : Hid (∀ X : World, Calls Tryz.prog 88 #[Tm.v ⟨2, 0, u⟩] X fun e w' => e = .returned (.bool true) ∧ Below X.heap.size X w') := fun X => by have := prin_any ⟨2, 0, u⟩ X; rw [hp] at this; exact this
  have HCK : Hid (∀ X : World, c.ok X → Calls Tryz.prog 89 #[c.v] X fun e w' => e = .returned (.int .i64 R) ∧ Below X.heap.size X w') := fun X hX => by have := check9_any c X hX hwf; rw [hk] at this; exact this
  obtain ⟨⟨a, hn, cap, h1⟩, ⟨a', cap', h2⟩, ⟨a'', cap'', h3⟩, hbl, htl⟩ := h.shape
  clear h hp hk hwf
  obtain ⟨⟨⟨⟨k, m, s⟩, nm, ls⟩, hx⟩, body, bv, tests, tv⟩ := c
  simp only at h1 h2 h3 hbl htl
  subst h1 h2 h3
  go_enter Tryz.func43, Tryz.ntmps43
  go_wp2_with (first | (go_at_call 88; refine (HPR.out _).mono ?_; clear HPR; rintro e w1 ⟨rfl, hb⟩; have HB1 : Hid (QB w w1 ⟨(⟨⟨k, m, s⟩, nm, ls⟩, .slice a hn cap), body, .slice a' body.length cap', tests, .slice a'' tests.length cap''⟩ u) := HB0.out.later hb; clear HB0 hb; obtain ⟨c0, c1, c2, c3, c4, c5, c6⟩ := cseven HB1.out.bc) | (go_at_call 89; refine (HCK.out _ HB1.out.ok).mono ?_; clear HCK; rintro e w2 ⟨rfl, hb⟩; have HB2 : Hid (QB w w2 ⟨(⟨⟨k, m, s⟩, nm, ls⟩, .slice a hn cap), body, .slice a' body.length cap', tests, .slice a'' tests.length cap''⟩ u) := HB1.out.later hb; clear c0 c1 c2 c3 c4 c5 c6; clear HB1 hb; obtain ⟨r0, r1, r2, r3, r4, r5, r6⟩ := cseven HB2.out.br; have f0 : w2.frozen? ⟨w.heap.size + 1, 0, none⟩ = false := HB2.out.br.froz; have f1 : w2.frozen? ⟨w.heap.size + 1, 1, none⟩ = false := HB2.out.br.froz; have f2 : w2.frozen? ⟨w.heap.size + 1, 2, none⟩ = false := HB2.out.br.froz; have f3 : w2.frozen? ⟨w.heap.size + 1, 3, none⟩ = false := HB2.out.br.froz; have f4 : w2.frozen? ⟨w.heap.size + 1, 4, none⟩ = false := HB2.out.br.froz; have f5 : w2.frozen? ⟨w.heap.size + 1, 5, none⟩ = false := HB2.out.br.froz; have f6 : w2.frozen? ⟨w.heap.size + 1, 6, none⟩ = false := HB2.out.br.froz))
  have hq := HB2.out
  have nw : w.heap.size ≤ w.heap.size + 1 := by omega
  exact bodyPost_ret (v := .tuple #[.agg #[.int .i64 0, .int .i64 0, .string ⟨#[]⟩, .string ⟨#[]⟩, .slice none 0 0, .slice none 0 0, .slice none 0 0], .int .i64 R]) (by simp [results, Tryz.results43, go_sem, r0, r1, r2, r3, r4, r5, r6]) rfl
    ⟨rfl, ((((((hq.bw.setCell nw _).setCell nw _).setCell nw _).setCell nw _).setCell nw _).setCell nw _).setCell nw _⟩
set_option maxRecDepth 20000 in
set_option maxHeartbeats 4000000 in
theorem quote_no3 (c : Cm) (u : ByteArray) (w : World) (h : c.ok w) (hwf : c.wf) (hp : Tm.prin ⟨2, 0, u⟩ = true) (hk : c.chk = 0) (hu : ¬ c.head.1.by_ = zt) :
    Calls Tryz.prog 43 #[.string u, c.v] w fun e w' => e = .returned (.tuple #[.agg #[.int .i64 0, .int .i64 0, .string ⟨#[]⟩, .string ⟨#[]⟩, .slice none 0 0, .slice none 0 0, .slice none 0 0], .int .i64 37]) ∧ Below w.heap.size w w' := by
  have HB0 : Hid (QB w (((w.alloc (.cells c.cs 41)).alloc (.cells zcs 41)).alloc (.cells #[.int .i64 2, .int .i64 0, .string u] 35)) c u) := QB.start w c u h
  have HPR : Hid (∀ X : World, Calls Tryz.prog 88 #[Tm.v ⟨2, 0, u⟩] X fun e w' => e = .returned (.bool true) ∧ Below X.heap.size X w') := fun X => by have := prin_any ⟨2, 0, u⟩ X; rw [hp] at this; exact this
  have HCK : Hid (∀ X : World, c.ok X → Calls Tryz.prog 89 #[c.v] X fun e w' => e = .returned (.int .i64 0) ∧ Below X.heap.size X w') := fun X hX => by have := check9_any c X hX hwf; rw [hk] at this; exact this
  have HUQ : Hid (∀ X : World, (∃ a n cap, c.head.2 = .slice a n cap) → Calls Tryz.prog 90 #[c.head.1.v c.head.2] X fun e w' => e = .returned (.bool false) ∧ Below X.heap.size X w') := fun X hX => by have := unqualified_any c.head.1 c.head.2 X hX; rw [decide_eq_false hu] at this; exact this
  obtain ⟨⟨a, hn, cap, h1⟩, ⟨a', cap', h2⟩, ⟨a'', cap'', h3⟩, hbl, htl⟩ := h.shape
  clear h hp hk hwf hu
  obtain ⟨⟨⟨⟨k, m, s⟩, nm, ls⟩, hx⟩, body, bv, tests, tv⟩ := c
  simp only at h1 h2 h3 hbl htl
  subst h1 h2 h3
  go_enter Tryz.func43, Tryz.ntmps43
  go_wp2_with (first | (go_at_call 88; refine (HPR.out _).mono ?_; clear HPR; rintro e w1 ⟨rfl, hb⟩; have HB1 : Hid (QB w w1 ⟨(⟨⟨k, m, s⟩, nm, ls⟩, .slice a hn cap), body, .slice a' body.length cap', tests, .slice a'' tests.length cap''⟩ u) := HB0.out.later hb; clear HB0 hb; obtain ⟨c0, c1, c2, c3, c4, c5, c6⟩ := cseven HB1.out.bc) | (go_at_call 89; refine (HCK.out _ HB1.out.ok).mono ?_; clear HCK; rintro e w2 ⟨rfl, hb⟩; have HB2 : Hid (QB w w2 ⟨(⟨⟨k, m, s⟩, nm, ls⟩, .slice a hn cap), body, .slice a' body.length cap', tests, .slice a'' tests.length cap''⟩ u) := HB1.out.later hb; clear c0 c1 c2 c3 c4 c5 c6; clear HB1 hb; obtain ⟨c0, c1, c2, c3, c4, c5, c6⟩ := cseven HB2.out.bc) | (go_at_call 90; refine (HUQ.out _ ⟨_, _, _, rfl⟩).mono ?_; clear HUQ; rintro e w3 ⟨rfl, hb⟩; have HB3 : Hid (QB w w3 ⟨(⟨⟨k, m, s⟩, nm, ls⟩, .slice a hn cap), body, .slice a' body.length cap', tests, .slice a'' tests.length cap''⟩ u) := HB2.out.later hb; clear c0 c1 c2 c3 c4 c5 c6; clear HB2 hb; obtain ⟨r0, r1, r2, r3, r4, r5, r6⟩ := cseven HB3.out.br; have f0 : w3.frozen? ⟨w.heap.size + 1, 0, none⟩ = false := HB3.out.br.froz; have f1 : w3.frozen? ⟨w.heap.size + 1, 1, none⟩ = false := HB3.out.br.froz; have f2 : w3.frozen? ⟨w.heap.size + 1, 2, none⟩ = false := HB3.out.br.froz; have f3 : w3.frozen? ⟨w.heap.size + 1, 3, none⟩ = false := HB3.out.br.froz; have f4 : w3.frozen? ⟨w.heap.size + 1, 4, none⟩ = false := HB3.out.br.froz; have f5 : w3.frozen? ⟨w.heap.size + 1, 5, none⟩ = false := HB3.out.br.froz; have f6 : w3.frozen? ⟨w.heap.size + 1, 6, none⟩ = false := HB3.out.br.froz))
  have hq := HB3.out
  have nw : w.heap.size ≤ w.heap.size + 1 := by omega
  exact bodyPost_ret (v := .tuple #[.agg #[.int .i64 0, .int .i64 0, .string ⟨#[]⟩, .string ⟨#[]⟩, .slice none 0 0, .slice none 0 0, .slice none 0 0], .int .i64 37]) (by simp [results, Tryz.results43, go_sem, r0, r1, r2, r3, r4, r5, r6]) rfl
    ⟨rfl, ((((((hq.bw.setCell nw _).setCell nw _).setCell nw _).setCell nw _).setCell nw _).setCell nw _).setCell nw _⟩
end Go.Proofs.YtdfgijdededolabGreatDoor
/-
  broken: its clause, as it is changed.
-/
namespace Go.Proofs.YtdfgijdededolabGreatDoor
open Go.RowKit


/-- The clause in its box Go. -/
structure BS (w X : World) (Go : Nat) (h : At × Value) (LB : List (At × Value)) (bu : Value) (LT : List Te) (tu : Value) : Prop where
  br : CBlk X (w.heap.size + 1 + 1) zcs 41
  bo : CBlk X Go (ucs h bu tu) 41
  mc : MCl (w.heap.size + 3) X ⟨h, LB, bu, LT, tu⟩
  fr : Fr h bu LB tu Go
  g1 : w.heap.size + 3 ≤ Go
  bw : Below w.heap.size w X
theorem BS.later {w X X' : World} {Go : Nat} {h : At × Value} {LB : List (At × Value)} {bu : Value} {LT : List Te} {tu : Value} (H : BS w X Go h LB bu LT tu) (hb : Below X.heap.size X X') : BS w X' Go h LB bu LT tu :=
  ⟨H.br.later hb, H.bo.later hb, H.mc.later hb, H.fr, H.g1, below_step H.bw hb⟩
theorem MCl.far {B : Nat} {X : World} {h : At × Value} {LB : List (At × Value)} {bu : Value} {LT : List Te} {tu : Value} {G i : Nat} (H : MCl B X ⟨h, LB, bu, LT, tu⟩) (F : Fr h bu LB tu G) (c : Value) : MCl B (X.setCell ⟨G, i, none⟩ c) ⟨h, LB, bu, LT, tu⟩ :=
  ⟨H.h.off F.h, H.b.off F.b, fun y hy => (H.x y hy).off (F.x y hy), H.t.off F.t, H.s⟩
theorem BS.start {w w1 : World} {d : Cm} (hm : MCl (w.heap.size + 3) w1 d) (hr : CBlk w1 (w.heap.size + 1 + 1) zcs 41) (hb : Below w.heap.size w w1) (hs : w.heap.size + 3 ≤ w1.heap.size) : BS w (w1.alloc (.cells d.cs 41)) w1.heap.size d.head d.body d.bv d.tests d.tv :=
  ⟨hr.later (below1 _ _), CBlk.new _ _ _, hm.later (below1 _ _), ⟨fun k hk => by have := (hm.h.lt k hk).2; omega, fun k hk => by have := (hm.b.lt k hk).2; omega, fun x hx k hk => by have := ((hm.x x hx).lt k hk).2; omega, fun k hk => by have := (hm.t.lt k hk).2; omega⟩, hs, below_step hb (below1 _ _)⟩
theorem BS.name {w X : World} {Go : Nat} {b : Tm} {nm : ByteArray} {L : List Tm} {hv : Value} {LB : List (At × Value)} {bu : Value} {LT : List Te} {tu : Value} (H : BS w X Go (⟨b, nm, L⟩, hv) LB bu LT tu) (s : ByteArray) : BS w (X.setCell ⟨Go, 3, none⟩ (.string s)) Go (⟨b, s, L⟩, hv) LB bu LT tu := by
  have g := H.g1
  have m := H.mc.far (i := 3) H.fr (.string s)
  refine ⟨H.br.off (by omega), ?_, ⟨m.h, m.b, m.x, m.t, m.s⟩, ⟨H.fr.h, H.fr.b, H.fr.x, H.fr.t⟩, g, H.bw.setCell (show w.heap.size ≤ Go by omega) _⟩
  have := H.bo.set 3 (.string s)
  simpa using this
theorem BS.by_ {w X : World} {Go : Nat} {b : Tm} {nm : ByteArray} {L : List Tm} {hv : Value} {LB : List (At × Value)} {bu : Value} {LT : List Te} {tu : Value} (H : BS w X Go (⟨b, nm, L⟩, hv) LB bu LT tu) (t : Tm) :
    BS w (((X.setCell ⟨Go, 0, none⟩ (.int .i64 t.k)).setCell ⟨Go, 1, none⟩ (.int .i64 t.n)).setCell ⟨Go, 2, none⟩ (.string t.s)) Go (⟨t, nm, L⟩, hv) LB bu LT tu := by
  have g := H.g1
  have n : w.heap.size + 1 + 1 ≠ Go := by omega
  have nw : w.heap.size ≤ Go := by omega
  have m := ((H.mc.far (i := 0) H.fr (.int .i64 t.k)).far (i := 1) H.fr (.int .i64 t.n)).far (i := 2) H.fr (.string t.s)
  refine ⟨((H.br.off n).off n).off n, ?_, ⟨m.h, m.b, m.x, m.t, m.s⟩, ⟨H.fr.h, H.fr.b, H.fr.x, H.fr.t⟩, g, ((H.bw.setCell nw _).setCell nw _).setCell nw _⟩
  have := ((H.bo.set 0 (.int .i64 t.k)).set 1 (.int .i64 t.n)).set 2 (.string t.s)
  simpa using this
theorem OwnE.one {w : World} {b base : Nat} {t : Te} (h : CBlk w b (ecell t).toArray 88) (hb : base ≤ b) : OwnE w base (.slice (some ⟨b, 0, none⟩) 1 1) [t] := by
  refine ⟨by simp [ecs, ecell], Or.inr ⟨_, 1, (ecell t).toArray, rfl, hb, h, Nat.le_refl _, by unfold maxLen; omega, by simp [ecell], by simp [ecs, ecell]⟩⟩
/-- Other tests. -/
theorem BS.tests {w X : World} {Go : Nat} {h : At × Value} {LB : List (At × Value)} {bu : Value} {LT LT' : List Te} {tu tu' : Value} (H : BS w X Go h LB bu LT tu) (ho : OwnE X (w.heap.size + 3) tu' LT') (n1 : ∀ k, bu.ownBlock = some k → tu'.ownBlock ≠ some k) (n2 : ∀ k, tu'.ownBlock = some k → k ≠ Go) :
    BS w (X.setCell ⟨Go, 6, none⟩ tu') Go h LB bu LT' tu' := by
  have g := H.g1
  refine ⟨H.br.off (by omega), ?_, ⟨H.mc.h.off H.fr.h, H.mc.b.off H.fr.b, fun y hy => (H.mc.x y hy).off (H.fr.x y hy), ho.off n2, fun k hk => ⟨(H.mc.s k hk).1, (H.mc.s k hk).2.1, n1 k hk⟩⟩, ⟨H.fr.h, H.fr.b, H.fr.x, n2⟩, g, H.bw.setCell (show w.heap.size ≤ Go by omega) _⟩
  have := H.bo.set 6 tu'
  simpa using this
theorem BS.test1 {w X : World} {Go : Nat} {h : At × Value} {LB : List (At × Value)} {bu : Value} {LT : List Te} {tu : Value} (H : BS w X Go h LB bu LT tu) (t : Te) :
    BS w ((X.alloc (.cells (ecell t).toArray 88)).setCell ⟨Go, 6, none⟩ (.slice (some ⟨X.heap.size, 0, none⟩) 1 1)) Go h LB bu [t] (.slice (some ⟨X.heap.size, 0, none⟩) 1 1) := by
  have g2 := H.bo.lt
  have g1 := H.g1
  refine (H.later (below1 _ _)).tests (OwnE.one (CBlk.new _ _ _) (by omega)) (fun k hk e => ?_) (fun k hk => ?_)
  · have : X.heap.size = k := Option.some.inj e
    have := (H.mc.b.lt k hk).2; omega
  · have : X.heap.size = k := Option.some.inj hk
    omega
/-- No arguments of the head. -/
theorem BS.noargs {w X : World} {Go : Nat} {b : Tm} {nm : ByteArray} {L : List Tm} {hv : Value} {LB : List (At × Value)} {bu : Value} {LT : List Te} {tu : Value} (H : BS w X Go (⟨b, nm, L⟩, hv) LB bu LT tu) : BS w (X.setCell ⟨Go, 4, none⟩ (.slice none 0 0)) Go (⟨b, nm, []⟩, .slice none 0 0) LB bu LT tu := by
  have g := H.g1
  refine ⟨H.br.off (by omega), ?_, ⟨ownT_nil _ _, H.mc.b.off H.fr.b, fun y hy => (H.mc.x y hy).off (H.fr.x y hy), H.mc.t.off H.fr.t, fun k hk => ⟨by simp [Value.ownBlock], (H.mc.s k hk).2.1, (H.mc.s k hk).2.2⟩⟩, ⟨fun k hk => by simp [Value.ownBlock] at hk, H.fr.b, H.fr.x, H.fr.t⟩, g, H.bw.setCell (show w.heap.size ≤ Go by omega) _⟩
  have := H.bo.set 4 (.slice none 0 0)
  simpa using this
/-- Another body. -/
theorem BS.body {w X X' : World} {Go : Nat} {h : At × Value} {LB LB' : List (At × Value)} {bu bu' : Value} {LT : List Te} {tu : Value} {row : Option Nat} (H : BS w X Go h LB bu LT tu) (ho : OwnA X' (w.heap.size + 3) bu' LB') (hx : ∀ y ∈ LB', OwnT X (w.heap.size + 3) y.2 y.1.args)
    (hb : Below (w.heap.size + 3) X X') (hg : X.grownBy X' row) (r1 : ∀ k, row = some k → h.2.ownBlock ≠ some k ∧ (∀ y ∈ LB', y.2.ownBlock ≠ some k) ∧ tu.ownBlock ≠ some k ∧ k ≠ Go)
    (ha : ∀ k, bu'.ownBlock = some k → row = some k ∨ X.heap.size ≤ k) (frx : ∀ y ∈ LB', ∀ k, y.2.ownBlock = some k → k ≠ Go) : BS w (X'.setCell ⟨Go, 5, none⟩ bu') Go h LB' bu' LT tu := by
  have g := H.g1
  have g2 := H.bo.lt
  have e1 : ∀ (v : Value), (∀ k, v.ownBlock = some k → k < X.heap.size) → (∀ k, row = some k → v.ownBlock ≠ some k) → (∀ k, bu'.ownBlock = some k → v.ownBlock ≠ some k) := fun v h1 h2 k hk e => by
    rcases ha k hk with h | h
    · exact h2 k h e
    · have := h1 k e; omega
  have m1 : ∀ v : Value, (∀ k, row = some k → v.ownBlock ≠ some k) → ∀ k, v.ownBlock = some k → row ≠ some k := fun v h k hk e => h k e hk
  have nGo : ∀ k, bu'.ownBlock = some k → k ≠ Go := fun k hk => by
    rcases ha k hk with h | h
    · exact (r1 k h).2.2.2
    · omega
  refine ⟨CBlk.off ((hb.block _ (by omega)).trans H.br) (by omega), ?_, ⟨(H.mc.h.grown hg (m1 _ fun k hk => (r1 k hk).1)).off H.fr.h, ho.off nGo, fun y hy => ((hx y hy).grown hg (m1 _ fun k hk => (r1 k hk).2.1 y hy)).off (frx y hy), (H.mc.t.grown hg (m1 _ fun k hk => (r1 k hk).2.2.1)).off H.fr.t, fun k hk => ⟨e1 _ (fun k hk => (H.mc.h.lt k hk).2) (fun k hk => (r1 k hk).1) k hk, fun y hy => e1 _ (fun k hk => ((hx y hy).lt k hk).2) (fun k hk => (r1 k hk).2.1 y hy) k hk, e1 _ (fun k hk => (H.mc.t.lt k hk).2) (fun k hk => (r1 k hk).2.2.1) k hk⟩⟩, ⟨H.fr.h, nGo, frx, H.fr.t⟩, g, (H.bw.trans (hb.mono (by omega))).setCell (show w.heap.size ≤ Go by omega) _⟩
  have l3 : CBlk X' Go (ucs h bu tu) 41 := (hg.block Go g2 (fun e => (r1 Go e.symm).2.2.2 rfl)).trans H.bo
  have := l3.set 5 bu'
  simpa using this
theorem OwnA.take {X : World} {B g n cap : Nat} {l : List (At × Value)} (h : OwnA X B (.slice (some ⟨g, 0, none⟩) n cap) l) (j : Nat) (hj : j ≤ l.length) : OwnA X B (.slice (some ⟨g, 0, none⟩) j cap) (l.take j) := by
  rcases h.2 with ⟨h, _⟩ | ⟨g', cap', cur, hv, hb, hg, hn, hc, hs, ht⟩
  · cases h
  · simp only [Value.slice.injEq, Option.some.injEq, Addr.mk.injEq] at hv
    obtain ⟨⟨rfl, -⟩, rfl, rfl⟩ := hv
    have hl : (l.take j).length = j := by rw [List.length_take]; omega
    refine ⟨by rw [acs_len], Or.inr ⟨g, cap, cur, by rw [hl], hb, hg, by rw [hl]; omega, hc, hs, ?_⟩⟩
    rw [hl]
    have e : acs (l.take j) = (acs l).take (j * 5) := by
      have h1 : acs l = acs (l.take j) ++ acs (l.drop j) := by rw [← acs_app, List.take_append_drop]
      rw [h1, List.take_left' (by rw [acs_len, hl])]
    rw [e, ← ht, List.take_take, Nat.min_eq_left (by omega)]
theorem OwnA.one {w : World} {b base : Nat} {y : At × Value} (h : CBlk w b (acell y).toArray 37) (hb : base ≤ b) : OwnA w base (.slice (some ⟨b, 0, none⟩) 1 1) [y] := by
  refine ⟨by simp [acs, acell], Or.inr ⟨_, 1, (acell y).toArray, rfl, hb, h, Nat.le_refl _, by unfold maxLen; omega, by simp [acell], by simp [acs, acell]⟩⟩
/-- A list of atoms behind one that was just made. -/
theorem app_atoms {ops : Array Oper} {rest : List Oper} {o : Oper} {a : Act} {Q : Exit → Act → World → Prop} {w : World} (hgd : o.guard = none) (s x : Operand)
    (ho : o.op = .call { callee := .builtin .append, args := #[s, x], argTypes := #[38, 38] }) (base : Nat) (l : List (At × Value)) (hs : a.eval s = .slice (some ⟨base, 0, none⟩) 1 1) (hown : OwnA w base (.slice (some ⟨base, 0, none⟩) 1 1) l)
    (y : Value) (m : List (At × Value)) (B' : Nat) (hx : a.eval x = y) (hy : OwnA w B' y m) (h1c : ∀ z ∈ m, ∀ u ∈ acell z, u.oneCell' = true) (hlen : l.length + m.length ≤ 1800000000000) (hbase : base + 1 = w.heap.size)
    (h : ∀ v' w', OwnA w' base v' (l ++ m) → Below base w w' → w.grownBy w' (some base) → (∀ k, v'.ownBlock = some k → some base = some k ∨ w.heap.size ≤ k) → wpList Tryz.prog ops Q rest (a.put o.dst v') w') : wpList Tryz.prog ops Q (o :: rest) a w := by
  obtain ⟨i0, hi0, hz0, hz1, hz2⟩ := info_parts Tryz.infoAtom
  rcases hy.2 with ⟨rfl, hn⟩ | ⟨g, cap, cur, rfl, hb, hg, hn, hc, hsz, ht⟩
  · have hm : m = [] := List.length_eq_zero_iff.1 hn
    subst hm
    refine wpList_append_own_none hgd s x 38 ho base 37 i0 5 Tryz.underlying38 hi0 _ l.length (acs l) hs hown hx ?_
    exact h _ w (by rw [List.append_nil]; exact hown) (Below.refl _ _) (World.grownBy.refl _ _) (fun k hk => Or.inl hk)
  · refine wpList_append_own _ hgd s x 38 ho base 37 i0 _ 5 72 Tryz.underlying38 hi0 hz0 hz1 hz2 rfl (by omega) _ l.length (acs l) hs hown ⟨g, 0, none⟩ m.length cap (acs m) hx (acs_len m) ?_ (fun u hu => by obtain ⟨z, hz, hu⟩ := List.mem_flatMap.1 hu; exact h1c z hz u hu) (by unfold maxLen; omega) (by omega) (by omega) ?_
    · intro j u hu
      have : (⟨g, 0, none⟩ : Addr).add j = ⟨g, j, none⟩ := by rw [Go.WideShapes.add_plain, Nat.zero_add]
      rw [this, cell_of_row _ _ _ _ _ _ hg]
      rw [← ht] at hu
      have hj := (List.getElem?_eq_some_iff.1 hu).1
      rw [List.length_take] at hj
      rw [List.getElem?_take_of_lt (by omega)] at hu
      simpa using hu
    · intro v' w' h1 h2 _
      have ho' : OwnA w' base v' (l ++ m) := by
        unfold OwnA
        rw [List.length_append, acs_app]
        exact h1
      refine h _ w' ho' (grown_below3 h2 (fun k hk => by cases hk; exact Nat.le_refl _) (by omega)) h2 (fun k hk => ?_)
      have := (ho'.lt k hk).1
      by_cases e : k = base
      · exact Or.inl (by rw [e])
      · exact Or.inr (by omega)
end Go.Proofs.YtdfgijdededolabGreatDoor
/-
  name; bare; Quote of a valid clause.
-/
namespace Go.Proofs.YtdfgijdededolabGreatDoor
open Go.RowKit
attribute [local go_sem ↓] Go.wp_at_zero Go.wp_at_succ

/-- A principal out of any text. -/
def cutU (u : ByteArray) : ByteArray := if 64 < u.size then u.extract 0 64 else u
def nmU (u : ByteArray) : ByteArray := if cutU u = ⟨#[]⟩ then ⟨#[117]⟩ else cutU u
theorem cutU_size (u : ByteArray) : (cutU u).size ≤ 64 := by
  unfold cutU
  split
  · rw [ByteArray.size_extract]; omega
  · omega
theorem nmU_prin (u : ByteArray) : Tm.prin ⟨2, 0, nmU u⟩ = true := by
  have h := cutU_size u
  unfold nmU
  by_cases h1 : cutU u = ⟨#[]⟩
  · rw [if_pos h1]; decide
  · rw [if_neg h1]; simp [Tm.prin, h, h1]
/-- Quote of a clause that may be quoted. -/
theorem quo4_any (c : Cm) (u : ByteArray) (w : World) (h : c.ok w) (hs : KS c.key) (hwf : c.wf) (hp : Tm.prin ⟨2, 0, u⟩ = true) (hk : c.chk = 0) (hu : c.head.1.by_ = zt) :
    Calls Tryz.prog 43 #[.string u, c.v] w fun e w' => ∃ d : Cm, e = .returned (.tuple #[d.v, .int .i64 0]) ∧ d.key = quoK u c.key ∧ d.ok w' ∧ Below w.heap.size w w' := by
  obtain ⟨h1, h2, h3, h4⟩ := hs.lens
  refine (quote_ok c u w h hwf hp hk hu (by omega) (by omega) (by omega) (fun x hx => by have := h4 x hx; omega)).mono fun e w' he => ?_
  obtain ⟨M1, M2, M3, lb, rfl, hr, hb⟩ := he
  have hl : lb.length = c.body.length := by have := congrArg List.length hr.f; simpa [fsts, Cm.quo] using this
  have hbl : (c.quo u).body.length = c.body.length := by simp [Cm.quo]
  refine ⟨_, rfl, ?_, ⟨hr.t1, ?_, ?_⟩, hb⟩
  · have hf := hr.f
    rw [fsts_quo] at hf
    unfold Cm.key quoK Cm.cp
    simp only
    rw [hf]
    rfl
  · exact hr.a.as (by rw [hbl]; exact hl) (by rw [hbl]; omega) fun x hx => (hr.ts x hx).1.1
  · exact hr.e.es rfl (by show c.tests.length < _; omega)
/-- One atom's qualifier in a list that the call made. -/
theorem acs_set : ∀ (l : List (At × Value)) (j : Nat) (x : At × Value) (t : Tm), l[j]? = some x → acs (l.set j (⟨t, x.1.name, x.1.args⟩, x.2)) = (((acs l).set (j * 5) (.int .i64 t.k)).set (j * 5 + 1) (.int .i64 t.n)).set (j * 5 + 2) (.string t.s)
  | a :: l, 0, x, t, h => by simp at h; subst h; simp [acs, acell]
  | a :: l, j + 1, x, t, h => by
    rw [List.getElem?_cons_succ] at h
    have ih := acs_set l j x t h
    have e : ∀ m : List (At × Value), acs (a :: m) = acell a ++ acs m := fun m => by simp [acs]
    have hc : (acell a).length = 5 := rfl
    rw [List.set_cons_succ, e, e, ih, List.set_append_right _ _ (by omega), List.set_append_right _ _ (by omega), List.set_append_right _ _ (by omega), hc]
    rw [show (j + 1) * 5 - 5 = j * 5 by omega, show (j + 1) * 5 + 1 - 5 = j * 5 + 1 by omega, show (j + 1) * 5 + 2 - 5 = j * 5 + 2 by omega]
theorem OwnA.by_ {X : World} {base g n cap j : Nat} {L : List (At × Value)} {x : At × Value} (h : OwnA X base (.slice (some ⟨g, 0, none⟩) n cap) L) (hx : L[j]? = some x) (t : Tm) : OwnA (Aby X g j t) base (.slice (some ⟨g, 0, none⟩) n cap) (L.set j (⟨t, x.1.name, x.1.args⟩, x.2)) := by
  rcases h.2 with ⟨h, _⟩ | ⟨g', cap', cur, hv, hb, hg, hn, hc, hs, ht⟩
  · cases h
  · simp only [Value.slice.injEq, Option.some.injEq, Addr.mk.injEq] at hv
    obtain ⟨⟨rfl, -⟩, rfl, rfl⟩ := hv
    have k1 := heap_setCell_same _ _ (j * 5) _ _ (.int .i64 t.k) hg
    have k2 := heap_setCell_same _ _ (j * 5 + 1) _ _ (.int .i64 t.n) k1
    have k3 := heap_setCell_same _ _ (j * 5 + 2) _ _ (.string t.s) k2
    refine ⟨by rw [acs_len, List.length_set], Or.inr ⟨g, cap, _, by rw [List.length_set], hb, k3, by rw [List.length_set]; exact hn, hc, by simpa using hs, ?_⟩⟩
    rw [List.length_set, acs_set L j x t hx, ← ht]
    simp [List.take_set]
end Go.Proofs.YtdfgijdededolabGreatDoor
