import Derived.Test.YtelcoihmiglceaaGreatCL18
import Derived.Test.YtelcoihmiglceaaGreatCL12
/-
  copied; unqualified; what a clause quoted is. (Written by CL19.py.)
-/
namespace Go.Proofs.YtelcoihmiglceaaGreat
open Go.RowKit
attribute [local go_sem ↓] Go.wp_at_zero Go.wp_at_succ

set_option maxRecDepth 20000 in
set_option maxHeartbeats 4000000 in
theorem copied_any (c : Cm) (w : World) (h : c.ok w) (hl1 : c.head.1.args.length ≤ 1900000000000) (hl2 : c.body.length ≤ 1900000000000) (hl3 : c.tests.length ≤ 1900000000000) (hl4 : ∀ x ∈ c.body, x.1.args.length ≤ 1900000000000) :
    Calls Tryz.prog 72 #[c.v] w (RPost w c) := by
  have hb2 := below2 w (.cells c.cs 30) (.cells zcs 30)
  have K1 := rep_copied c ((w.alloc (.cells c.cs 30)).alloc (.cells zcs 30)) (h.later hb2) hl1 hl2 hl3 hl4
  have z2 : ((w.alloc (.cells c.cs 30)).alloc (.cells zcs 30)).heap.size = w.heap.size + 2 := by simp
  have HB2 : Hid (Below w.heap.size w ((w.alloc (.cells c.cs 30)).alloc (.cells zcs 30))) := hb2
  clear hl1 hl2 hl3 hl4 hb2
  obtain ⟨⟨a, hn, cap, h1⟩, ⟨a', cap', h2⟩, ⟨a'', cap'', h3⟩, hbl, htl⟩ := h.shape
  clear h
  obtain ⟨⟨⟨⟨k, m, s⟩, nm, ls⟩, hx⟩, body, bv, tests, tv⟩ := c
  simp only at h1 h2 h3 hbl htl
  subst h1 h2 h3
  go_enter Tryz.func72, Tryz.ntmps72
  go_wp2_with (go_at_call 115; refine K1.mono ?_; clear K1; rintro e w1 ⟨M1, M2, M3, lb, rfl, hrp, hb1⟩; have hbx := two_boxes hb1; obtain ⟨r0, r1, r2, r3, r4, r5, r6⟩ := cseven hbx.2; have hfr : ∀ i, w1.frozen? ⟨w.heap.size + 1, i, none⟩ = false := fun i => frozen_of_row _ _ _ _ _ hbx.2; have s0 := hfr 0; have s1 := hfr 1; have s2 := hfr 2; have s3 := hfr 3; have s4 := hfr 4; have s5 := hfr 5; have s6 := hfr 6; rw [z2] at hrp; have HRP : Hid (RP (w.heap.size + 2) w1 ⟨(⟨⟨k, m, s⟩, nm, ls⟩, .slice a hn cap), body, .slice a' body.length cap', tests, .slice a'' tests.length cap''⟩ M1 M2 M3 lb) := hrp; have HW1 : Hid (Below w.heap.size w w1) := below_step HB2.out hb1; clear hfr hrp hb1 hbx HB2; simp only [Cm.cp])
  have nw : w.heap.size ≤ w.heap.size + 1 := by omega
  have ng : w.heap.size + 1 < w.heap.size + 2 := by omega
  have hrp := HRP.out
  have hbw := HW1.out
  exact bodyPost_ret (v := (Cm.cp ⟨(⟨⟨k, m, s⟩, nm, ls⟩, .slice a hn cap), body, .slice a' body.length cap', tests, .slice a'' tests.length cap''⟩ M1 M2 M3 lb).v) (by simp [results, Tryz.results72, go_sem, Cm.v, Cm.cp, r0, r1, r2, r3, r4, r5, r6]) rfl
    ⟨M1, M2, M3, lb, rfl, (((((((hrp.off ng).off ng).off ng).off ng).off ng).off ng).off ng).mono (by omega), ((((((hbw.setCell nw _).setCell nw _).setCell nw _).setCell nw _).setCell nw _).setCell nw _).setCell nw _⟩

/-- Cells of an atom's qualifier set anew. -/
abbrev Aby (w : World) (g k : Nat) (t : Tm) : World := ((w.setCell ⟨g, k * 5, none⟩ (.int .i64 t.k)).setCell ⟨g, k * 5 + 1, none⟩ (.int .i64 t.n)).setCell ⟨g, k * 5 + 2, none⟩ (.string t.s)
theorem ABlk.by_ {w : World} {g n k : Nat} {l : List (At × Value)} {x : At × Value} (h : ABlk w g n l) (hx : l[k]? = some x) (hk : k < n) (t : Tm) : ABlk (Aby w g k t) g n (l.set k (⟨t, x.1.name, x.1.args⟩, x.2)) := by
  obtain ⟨C, h1, h2, h3⟩ := h
  have e0 := heap_setCell_same _ _ (k * 5) _ _ (.int .i64 t.k) h1
  have e1 := heap_setCell_same _ _ (k * 5 + 1) _ _ (.int .i64 t.n) e0
  have e2 := heap_setCell_same _ _ (k * 5 + 2) _ _ (.string t.s) e1
  refine ⟨_, e2, by simp [h2], fun i u hu => ?_⟩
  by_cases hik : i = k
  · subst hik
    have hlt : i < l.length := (List.getElem?_eq_some_iff.1 hx).1
    rw [List.getElem?_set_self hlt] at hu
    obtain rfl := Option.some.inj hu
    obtain ⟨q0, q1, q2, q3, q4⟩ := h3 i x hx
    refine ⟨?_, ?_, ?_, ?_, ?_⟩
    · simp [Array.getElem?_setIfInBounds, h2]; omega
    · simp [Array.getElem?_setIfInBounds, h2]; omega
    · simp [Array.getElem?_setIfInBounds, h2]; omega
    · rw [Array.getElem?_setIfInBounds_ne (by omega), Array.getElem?_setIfInBounds_ne (by omega), Array.getElem?_setIfInBounds_ne (by omega)]; exact q3
    · rw [Array.getElem?_setIfInBounds_ne (by omega), Array.getElem?_setIfInBounds_ne (by omega), Array.getElem?_setIfInBounds_ne (by omega)]; exact q4
  · rw [List.getElem?_set_ne (fun e => hik e.symm)] at hu
    obtain ⟨q0, q1, q2, q3, q4⟩ := h3 i u hu
    refine ⟨?_, ?_, ?_, ?_, ?_⟩ <;> rw [Array.getElem?_setIfInBounds_ne (by omega), Array.getElem?_setIfInBounds_ne (by omega), Array.getElem?_setIfInBounds_ne (by omega)] <;> assumption
end Go.Proofs.YtelcoihmiglceaaGreat
/-
  Quote, of a clause that may be quoted. (Written by CL20.py.)
-/
namespace Go.Proofs.YtelcoihmiglceaaGreat
open Go.RowKit
attribute [local go_sem ↓] Go.wp_at_zero Go.wp_at_succ

/-- An atom quoted. -/
def qa (u : ByteArray) (x : At) : At := if x.by_ = zt then ⟨⟨2, 0, u⟩, x.name, x.args⟩ else x
theorem ABlk.froz {w : World} {g n i : Nat} {l : List (At × Value)} (h : ABlk w g n l) : w.frozen? ⟨g, i, none⟩ = false := by
  obtain ⟨C, h1, -⟩ := h
  exact frozen_of_row _ _ _ _ _ h1
theorem CBlk.froz {w : World} {g i : Nat} {c : Array Value} {t : TypeId} (h : CBlk w g c t) : w.frozen? ⟨g, i, none⟩ = false := frozen_of_row _ _ _ _ _ h

/-- Quote's boxes. -/
structure QB (w X : World) (c : Cm) (u : ByteArray) : Prop where
  bc : CBlk X w.heap.size c.cs 30
  br : CBlk X (w.heap.size + 1) zcs 30
  bb : CBlk X (w.heap.size + 1 + 1) #[.int .i64 2, .int .i64 0, .string u] 23
  ok : c.ok X
  bw : Below w.heap.size w X
  sz : w.heap.size + 3 ≤ X.heap.size
theorem QB.later {w X X' : World} {c : Cm} {u : ByteArray} (h : QB w X c u) (hb : Below X.heap.size X X') : QB w X' c u :=
  ⟨h.bc.later hb, h.br.later hb, h.bb.later hb, h.ok.later hb, below_step h.bw hb, Nat.le_trans h.sz hb.size⟩
theorem QB.start (w : World) (c : Cm) (u : ByteArray) (h : c.ok w) : QB w (((w.alloc (.cells c.cs 30)).alloc (.cells zcs 30)).alloc (.cells #[.int .i64 2, .int .i64 0, .string u] 23)) c u := by
  have b3 := below_step (below2 w (.cells c.cs 30) (.cells zcs 30)) (below1 _ (.cells #[.int .i64 2, .int .i64 0, .string u] 23))
  have x1 := (CBlk.new w c.cs 30).later (below2 (w.alloc (.cells c.cs 30)) (.cells zcs 30) (.cells #[.int .i64 2, .int .i64 0, .string u] 23))
  have x2 := (CBlk.new (w.alloc (.cells c.cs 30)) zcs 30).later (below1 _ (.cells #[.int .i64 2, .int .i64 0, .string u] 23))
  have x3 := CBlk.new ((w.alloc (.cells c.cs 30)).alloc (.cells zcs 30)) #[.int .i64 2, .int .i64 0, .string u] 23
  rw [show (w.alloc (.cells c.cs 30)).heap.size = w.heap.size + 1 by simp] at x2
  rw [show ((w.alloc (.cells c.cs 30)).alloc (.cells zcs 30)).heap.size = w.heap.size + 1 + 1 by simp] at x3
  exact ⟨x1, x2, x3, h.later b3, b3, by simp⟩
/-- .. and its loop. -/
structure QU (w X : World) (c : Cm) (u : ByteArray) (Bo M1 M2 M3 : Nat) (L : List (At × Value)) : Prop where
  br : CBlk X (w.heap.size + 1) zcs 30
  bb : CBlk X (w.heap.size + 1 + 1) #[.int .i64 2, .int .i64 0, .string u] 23
  bo : CBlk X Bo #[.int .i64 2, .int .i64 0, .string u, .string c.head.1.name, .slice (some ⟨M1, 0, none⟩) c.head.1.args.length c.head.1.args.length, .slice (some ⟨M2, 0, none⟩) c.body.length c.body.length, .slice (some ⟨M3, 0, none⟩) c.tests.length c.tests.length] 30
  a : ABlk X M2 c.body.length L
  t1 : Ts X (.slice (some ⟨M1, 0, none⟩) c.head.1.args.length c.head.1.args.length) c.head.1.args
  n1 : M1 ≠ M2
  ts : ∀ x ∈ L, TsN X M2 x.2 x.1.args ∧ ∀ b, x.2.ownBlock = some b → w.heap.size + 3 ≤ b
  e : EBlk X M3 c.tests.length c.tests
  bw : Below w.heap.size w X
  b1 : w.heap.size + 3 ≤ M1
  b2 : w.heap.size + 3 ≤ M2
  b3 : M2 < M3
  b4 : M3 < Bo
theorem QU.later {w X X' : World} {c : Cm} {u : ByteArray} {Bo M1 M2 M3 : Nat} {L : List (At × Value)} (h : QU w X c u Bo M1 M2 M3 L) (hb : Below X.heap.size X X') : QU w X' c u Bo M1 M2 M3 L :=
  ⟨h.br.later hb, h.bb.later hb, h.bo.later hb, h.a.later hb, h.t1.later hb, h.n1, fun x hx => ⟨(h.ts x hx).1.later hb, (h.ts x hx).2⟩, h.e.later hb, below_step h.bw hb, h.b1, h.b2, h.b3, h.b4⟩
theorem QU.by_ {w X : World} {c : Cm} {u : ByteArray} {Bo M1 M2 M3 j : Nat} {L : List (At × Value)} {x : At × Value} (h : QU w X c u Bo M1 M2 M3 L) (hx : L[j]? = some x) (hj : j < c.body.length) (t : Tm) :
    QU w (Aby X M2 j t) c u Bo M1 M2 M3 (L.set j (⟨t, x.1.name, x.1.args⟩, x.2)) := by
  have b2 := h.b2
  have b3 := h.b3
  have b4 := h.b4
  have n1 : w.heap.size + 1 ≠ M2 := by omega
  have n2 : w.heap.size + 1 + 1 ≠ M2 := by omega
  have n3 : Bo ≠ M2 := by omega
  have n4 : M3 ≠ M2 := by omega
  have nw : w.heap.size ≤ M2 := by omega
  have hm1 : (Value.slice (some ⟨M1, 0, none⟩) c.head.1.args.length c.head.1.args.length).ownBlock ≠ some M2 := fun e => h.n1 (Option.some.inj e)
  refine ⟨((h.br.off n1).off n1).off n1, ((h.bb.off n2).off n2).off n2, ((h.bo.off n3).off n3).off n3, h.a.by_ hx hj t, ((h.t1.off hm1).off hm1).off hm1, h.n1, fun y hy => ?_, ((h.e.other n4).other n4).other n4, ((h.bw.setCell nw _).setCell nw _).setCell nw _, h.b1, b2, b3, b4⟩
  rcases List.mem_or_eq_of_mem_set hy with hy | rfl
  · exact ⟨(((h.ts y hy).1.off).off).off, (h.ts y hy).2⟩
  · have hm := List.mem_of_getElem? hx
    exact ⟨(((h.ts x hm).1.off).off).off, (h.ts x hm).2⟩
end Go.Proofs.YtelcoihmiglceaaGreat
/-
  What Instance makes of a term.
-/
namespace Go.Proofs.YtelcoihmiglceaaGreat
open Go.RowKit
attribute [local go_sem ↓] Go.wp_at_zero Go.wp_at_succ

/-- The list of values in its box. -/
def VB (w : World) (P : Nat) (v : Value) (vs : List Tm) : Prop := CBlk w P #[v] 24 ∧ Ts w v vs
theorem VB.later {w w' : World} {P : Nat} {v : Value} {vs : List Tm} (h : VB w P v vs) (hb : Below w.heap.size w w') : VB w' P v vs := ⟨h.1.later hb, h.2.later hb⟩
def ins (vs : List Tm) (t : Tm) : Tm := if t.var = true then (vs[t.n.toNat]?).getD t else t
theorem two3 (w : World) (t : Tm) : CBlk ((w.alloc (.cells #[.int .i64 t.k, .int .i64 t.n, .string t.s] 23)).alloc (.cells #[.int .i64 0, .int .i64 0, .string ⟨#[]⟩] 23)) w.heap.size #[.int .i64 t.k, .int .i64 t.n, .string t.s] 23 ∧
    CBlk ((w.alloc (.cells #[.int .i64 t.k, .int .i64 t.n, .string t.s] 23)).alloc (.cells #[.int .i64 0, .int .i64 0, .string ⟨#[]⟩] 23)) (w.heap.size + 1) #[.int .i64 0, .int .i64 0, .string ⟨#[]⟩] 23 := by
  have x2 := CBlk.new (w.alloc (.cells #[.int .i64 t.k, .int .i64 t.n, .string t.s] 23)) #[.int .i64 0, .int .i64 0, .string ⟨#[]⟩] 23
  rw [show (w.alloc (.cells #[.int .i64 t.k, .int .i64 t.n, .string t.s] 23)).heap.size = w.heap.size + 1 by simp] at x2
  exact ⟨(CBlk.new w _ _).later (below1 _ _), x2⟩
end Go.Proofs.YtelcoihmiglceaaGreat
