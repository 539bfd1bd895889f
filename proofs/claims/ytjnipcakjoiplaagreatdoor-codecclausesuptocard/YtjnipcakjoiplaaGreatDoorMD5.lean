import Derived.Test.YtjnipcakjoiplaaGreatDoorW3
import Derived.Deep.RegionHeld3
/-
  MadeAtom.
-/
namespace Go.Proofs.YtjnipcakjoiplaaGreatDoor
open Go.RowKit
attribute [local go_sem ↓] Go.wp_at_zero Go.wp_at_succ

/-- MadeAtom's boxes. -/
structure MS (w X : World) (x : At) (v : Value) (b' : Tm) (nm' : ByteArray) (u : Value) (L : List Tm) : Prop where
  bc : CBlk X w.heap.size (At.cs x v) 26
  br : CBlk X (w.heap.size + 1) #[.int .i64 0, .int .i64 0, .string ⟨#[]⟩, .string ⟨#[]⟩, .slice none 0 0] 26
  bo : CBlk X (w.heap.size + 1 + 1) #[.int .i64 b'.k, .int .i64 b'.n, .string b'.s, .string nm', u] 26
  ow : OwnT X (w.heap.size + 3) u L
  bw : Below w.heap.size w X
  sz : w.heap.size + 3 ≤ X.heap.size
theorem MS.later {w X X' : World} {x : At} {v : Value} {b' : Tm} {nm' : ByteArray} {u : Value} {L : List Tm} (h : MS w X x v b' nm' u L) (hb : Below X.heap.size X X') : MS w X' x v b' nm' u L :=
  ⟨h.bc.later hb, h.br.later hb, h.bo.later hb, h.ow.later hb, below_step h.bw hb, Nat.le_trans h.sz hb.size⟩
theorem MS.start (w : World) (x : At) (v : Value) :
    MS w (((w.alloc (.cells (At.cs x v) 26)).alloc (.cells #[.int .i64 0, .int .i64 0, .string ⟨#[]⟩, .string ⟨#[]⟩, .slice none 0 0] 26)).alloc (.cells #[.int .i64 x.by_.k, .int .i64 x.by_.n, .string x.by_.s, .string x.name, .slice none 0 0] 26)) x v x.by_ x.name (.slice none 0 0) [] := by
  have b3 := below_step (below2 w (.cells (At.cs x v) 26) (.cells #[.int .i64 0, .int .i64 0, .string ⟨#[]⟩, .string ⟨#[]⟩, .slice none 0 0] 26)) (below1 _ (.cells #[.int .i64 x.by_.k, .int .i64 x.by_.n, .string x.by_.s, .string x.name, .slice none 0 0] 26))
  have x1 := (CBlk.new w (At.cs x v) 26).later (below2 (w.alloc (.cells (At.cs x v) 26)) (.cells #[.int .i64 0, .int .i64 0, .string ⟨#[]⟩, .string ⟨#[]⟩, .slice none 0 0] 26) (.cells #[.int .i64 x.by_.k, .int .i64 x.by_.n, .string x.by_.s, .string x.name, .slice none 0 0] 26))
  have x2 := (CBlk.new (w.alloc (.cells (At.cs x v) 26)) #[.int .i64 0, .int .i64 0, .string ⟨#[]⟩, .string ⟨#[]⟩, .slice none 0 0] 26).later (below1 _ (.cells #[.int .i64 x.by_.k, .int .i64 x.by_.n, .string x.by_.s, .string x.name, .slice none 0 0] 26))
  have x3 := CBlk.new ((w.alloc (.cells (At.cs x v) 26)).alloc (.cells #[.int .i64 0, .int .i64 0, .string ⟨#[]⟩, .string ⟨#[]⟩, .slice none 0 0] 26)) #[.int .i64 x.by_.k, .int .i64 x.by_.n, .string x.by_.s, .string x.name, .slice none 0 0] 26
  rw [show (w.alloc (.cells (At.cs x v) 26)).heap.size = w.heap.size + 1 by simp] at x2
  rw [show ((w.alloc (.cells (At.cs x v) 26)).alloc (.cells #[.int .i64 0, .int .i64 0, .string ⟨#[]⟩, .string ⟨#[]⟩, .slice none 0 0] 26)).heap.size = w.heap.size + 1 + 1 by simp] at x3
  exact ⟨x1, x2, x3, ownT_nil _ _, b3, by simp⟩
/-- The list grown and stored. -/
theorem MS.args {w X X' : World} {x : At} {v : Value} {b' : Tm} {nm' : ByteArray} {u u' : Value} {L L' : List Tm} (h : MS w X x v b' nm' u L) (ho : OwnT X' (w.heap.size + 3) u' L') (hb : Below (w.heap.size + 3) X X') :
    MS w (X'.setCell ⟨w.heap.size + 1 + 1, 4, none⟩ u') x v b' nm' u' L' := by
  have n1 : w.heap.size ≠ w.heap.size + 1 + 1 := by omega
  have n2 : w.heap.size + 1 ≠ w.heap.size + 1 + 1 := by omega
  have n3 : w.heap.size + 1 + 1 < w.heap.size + 3 := by omega
  have n4 : w.heap.size ≤ w.heap.size + 1 + 1 := by omega
  have l1 : CBlk X' w.heap.size (At.cs x v) 26 := (hb.block _ (by omega)).trans h.bc
  have l2 : CBlk X' (w.heap.size + 1) _ 26 := (hb.block _ (by omega)).trans h.br
  have l3 : CBlk X' (w.heap.size + 1 + 1) _ 26 := (hb.block _ (by omega)).trans h.bo
  refine ⟨l1.off n1, l2.off n2, ?_, ho.set n3, (h.bw.trans (hb.mono (by omega))).setCell n4 _, by simpa [World.setCell] using Nat.le_trans h.sz hb.size⟩
  have := l3.set 4 u'
  simpa using this
theorem ownT_form4 {w : World} {base : Nat} {v : Value} {l : List Tm} (h : OwnT w base v l) : ∃ a n cap, v = .slice a n cap := by
  rcases h.2 with ⟨rfl, hn⟩ | ⟨g, cap, cur, hv, -⟩
  · exact ⟨none, 0, 0, rfl⟩
  · exact ⟨_, _, cap, hv⟩
theorem OwnT.off {w : World} {base G i : Nat} {a : Value} {v : Value} {l : List Tm} (h : OwnT w base v l) (hG : ∀ k, v.ownBlock = some k → k ≠ G) : OwnT (w.setCell ⟨G, i, none⟩ a) base v l := by
  refine ⟨h.1, ?_⟩
  rcases h.2 with hn | ⟨g, cap, cur, hv, hbb, hg, rest⟩
  · exact Or.inl hn
  · exact Or.inr ⟨g, cap, cur, hv, hbb, by rw [heap_setCell_other _ _ _ _ (hG g (by rw [hv]; rfl))]; exact hg, rest⟩
theorem MS.far {w X : World} {x : At} {v : Value} {b' : Tm} {nm' : ByteArray} {u : Value} {L : List Tm} {B i : Nat} (h : MS w X x v b' nm' u L) (hB : w.heap.size + 3 ≤ B) (hu : ∀ k, u.ownBlock = some k → k < B) (c : Value) :
    MS w (X.setCell ⟨B, i, none⟩ c) x v b' nm' u L :=
  ⟨h.bc.off (by omega), h.br.off (by omega), h.bo.off (by omega), h.ow.off (fun k hk => Nat.ne_of_lt (hu k hk)), h.bw.setCell (show w.heap.size ≤ B by omega) _, by simpa [World.setCell] using h.sz⟩
end Go.Proofs.YtjnipcakjoiplaaGreatDoor
/-
  madeTest. (Written by MD4.py.)
-/
namespace Go.Proofs.YtjnipcakjoiplaaGreatDoor
open Go.RowKit
attribute [local go_sem ↓] Go.wp_at_zero Go.wp_at_succ

/-- madeTest's boxes. -/
structure TSu (w X : World) (L R : Tm) (rc : Array Value) : Prop where
  br : CBlk X (w.heap.size + 1) rc 46
  bl : CBlk X (w.heap.size + 1 + 1) #[.int .i64 L.k, .int .i64 L.n, .string L.s] 23
  bR : CBlk X (w.heap.size + 1 + 1 + 1) #[.int .i64 R.k, .int .i64 R.n, .string R.s] 23
  bw : Below w.heap.size w X
theorem TSu.later {w X X' : World} {L R : Tm} {rc : Array Value} (h : TSu w X L R rc) (hb : Below X.heap.size X X') : TSu w X' L R rc :=
  ⟨h.br.later hb, h.bl.later hb, h.bR.later hb, below_step h.bw hb⟩
theorem TSu.put {w X : World} {L R : Tm} (h : TSu w X L R #[.int .i64 0, .int .i64 0, .int .i64 0, .string ⟨#[]⟩, .int .i64 0, .int .i64 0, .string ⟨#[]⟩]) (a b c d e f g : Value) :
    TSu w (((((((X.setCell ⟨w.heap.size + 1, 0, none⟩ a).setCell ⟨w.heap.size + 1, 1, none⟩ b).setCell ⟨w.heap.size + 1, 2, none⟩ c).setCell ⟨w.heap.size + 1, 3, none⟩ d).setCell ⟨w.heap.size + 1, 4, none⟩ e).setCell ⟨w.heap.size + 1, 5, none⟩ f).setCell ⟨w.heap.size + 1, 6, none⟩ g) L R #[a, b, c, d, e, f, g] := by
  have n1 : w.heap.size + 1 + 1 ≠ w.heap.size + 1 := by omega
  have n2 : w.heap.size + 1 + 1 + 1 ≠ w.heap.size + 1 := by omega
  have n3 : w.heap.size ≤ w.heap.size + 1 := by omega
  refine ⟨?_, ((((((h.bl.off n1).off n1).off n1).off n1).off n1).off n1).off n1, ((((((h.bR.off n2).off n2).off n2).off n2).off n2).off n2).off n2, ((((((h.bw.setCell n3 _).setCell n3 _).setCell n3 _).setCell n3 _).setCell n3 _).setCell n3 _).setCell n3 _⟩
  have := ((((((h.br.set 0 a).set 1 b).set 2 c).set 3 d).set 4 e).set 5 f).set 6 g
  simpa using this
abbrev tW (w : World) (t : Te) : World := (w.alloc (.cells #[.int .i64 t.op, .int .i64 t.l.k, .int .i64 t.l.n, .string t.l.s, .int .i64 t.r.k, .int .i64 t.r.n, .string t.r.s] 46)).alloc (.cells #[.int .i64 0, .int .i64 0, .int .i64 0, .string ⟨#[]⟩, .int .i64 0, .int .i64 0, .string ⟨#[]⟩] 46)
theorem TSu.start (w : World) (t : Te) : TSu w (((tW w t).alloc (.cells #[.int .i64 t.l.k, .int .i64 t.l.n, .string t.l.s] 23)).alloc (.cells #[.int .i64 t.r.k, .int .i64 t.r.n, .string t.r.s] 23)) t.l t.r #[.int .i64 0, .int .i64 0, .int .i64 0, .string ⟨#[]⟩, .int .i64 0, .int .i64 0, .string ⟨#[]⟩] := by
  have e1 : (w.alloc (.cells #[.int .i64 t.op, .int .i64 t.l.k, .int .i64 t.l.n, .string t.l.s, .int .i64 t.r.k, .int .i64 t.r.n, .string t.r.s] 46)).heap.size = w.heap.size + 1 := by simp
  have e2 : (tW w t).heap.size = w.heap.size + 1 + 1 := by simp [tW]
  have e3 : ((tW w t).alloc (.cells #[.int .i64 t.l.k, .int .i64 t.l.n, .string t.l.s] 23)).heap.size = w.heap.size + 1 + 1 + 1 := by simp [tW]
  have x1 := (CBlk.new (w.alloc (.cells #[.int .i64 t.op, .int .i64 t.l.k, .int .i64 t.l.n, .string t.l.s, .int .i64 t.r.k, .int .i64 t.r.n, .string t.r.s] 46)) #[.int .i64 0, .int .i64 0, .int .i64 0, .string ⟨#[]⟩, .int .i64 0, .int .i64 0, .string ⟨#[]⟩] 46).later (below2 (tW w t) (.cells #[.int .i64 t.l.k, .int .i64 t.l.n, .string t.l.s] 23) (.cells #[.int .i64 t.r.k, .int .i64 t.r.n, .string t.r.s] 23))
  have x2 := (CBlk.new (tW w t) #[.int .i64 t.l.k, .int .i64 t.l.n, .string t.l.s] 23).later (below1 _ (.cells #[.int .i64 t.r.k, .int .i64 t.r.n, .string t.r.s] 23))
  have x3 := CBlk.new ((tW w t).alloc (.cells #[.int .i64 t.l.k, .int .i64 t.l.n, .string t.l.s] 23)) #[.int .i64 t.r.k, .int .i64 t.r.n, .string t.r.s] 23
  rw [e1] at x1; rw [e2] at x2; rw [e3] at x3
  exact ⟨x1, x2, x3, below_step (below2 w _ _) (below2 _ _ _)⟩
end Go.Proofs.YtjnipcakjoiplaaGreatDoor
/-
  bodyTerms, testTerms, Terms. (Written by MD5.py.)
-/
namespace Go.Proofs.YtjnipcakjoiplaaGreatDoor
open Go.RowKit
attribute [local go_sem ↓] Go.wp_at_zero Go.wp_at_succ

/-- A clause's box, and the list so far. -/
structure BT (w X : World) (o : Array Value) (L : List Tm) (u : Value) : Prop where
  bc : CBlk X w.heap.size o 30
  ow : OwnT X (w.heap.size + 1) u L
  bw : Below w.heap.size w X
  sz : w.heap.size + 1 ≤ X.heap.size
theorem BT.later {w X X' : World} {o : Array Value} {L : List Tm} {u : Value} (h : BT w X o L u) (hb : Below X.heap.size X X') : BT w X' o L u :=
  ⟨h.bc.later hb, h.ow.later hb, below_step h.bw hb, Nat.le_trans h.sz hb.size⟩
theorem BT.grow {w X X' : World} {o : Array Value} {L L' : List Tm} {u u' : Value} (h : BT w X o L u) (hb : Below (w.heap.size + 1) X X') (ho : OwnT X' (w.heap.size + 1) u' L') : BT w X' o L' u' :=
  ⟨(hb.block _ (by omega)).trans h.bc, ho, h.bw.trans (hb.mono (by omega)), Nat.le_trans h.sz hb.size⟩
theorem BT.start (w : World) (o : Array Value) : BT w (w.alloc (.cells o 30)) o [] (.slice none 0 0) := ⟨CBlk.new _ _ _, ownT_nil _ _, below1 _ _, by simp⟩
theorem flt_next {l : List (At × Value)} {j : Nat} {x : At × Value} (h : l[j]? = some x) : flt (l.take j) ++ x.1.pl = flt (l.take (j + 1)) := by
  rw [List.take_add_one, h]; simp [flt]
theorem flt_take (l : List (At × Value)) (j : Nat) : (flt (l.take j)).length ≤ (flt l).length := by
  have e : flt l = flt (l.take j) ++ flt (l.drop j) := by unfold flt; rw [← List.flatMap_append, List.take_append_drop]
  rw [e, List.length_append]; omega
theorem tls_next {l : List Te} {j : Nat} {x : Te} (h : l[j]? = some x) : tls (l.take j) ++ [x.l, x.r] = tls (l.take (j + 1)) := by
  rw [List.take_add_one, h]; simp [tls]
theorem tls_len (l : List Te) : (tls l).length = l.length * 2 := by
  induction l with
  | nil => rfl
  | cons a l ih => unfold tls at ih ⊢; rw [List.flatMap_cons, List.length_append, ih]; simp; omega
set_option maxRecDepth 20000 in
set_option maxHeartbeats 4000000 in
theorem bodyTerms_any (c : Cm) (w : World) (h : c.ok w) (hp : ∀ x ∈ c.body, TsP w x.2 x.1.args) (hl : (flt c.body).length ≤ 3900000000000) :
    Calls Tryz.prog 38 #[c.v] w fun e w' => ∃ v', e = .returned v' ∧ OwnT w' w.heap.size v' (flt c.body) ∧ Below w.heap.size w w' := by
  obtain ⟨⟨a, hn, cap, h1⟩, ⟨a', cap', h2⟩, ⟨a'', cap'', h3⟩, hbl, htl⟩ := h.shape
  have HAT : Hid (∀ x ∈ c.body, ∀ X : World, Below w.heap.size w X → Calls Tryz.prog 39 #[x.1.v x.2] X fun e w' => ∃ v', e = .returned v' ∧ OwnT w' X.heap.size v' x.1.pl ∧ Below X.heap.size X w') := fun x hx X hX => atomTerms_any x.1 x.2 X ((hp x hx).later hX) (by
    have : x.1.pl.length ≤ (flt c.body).length := by
      obtain ⟨i, hi, rfl⟩ := List.getElem_of_mem hx
      have e := flt_next (List.getElem?_eq_getElem hi)
      have e2 := flt_take c.body (i + 1)
      rw [← e, List.length_append] at e2; omega
    simp [At.pl] at this; omega)
  have hB := h.b
  obtain ⟨⟨⟨⟨k, m, s⟩, nm, ls⟩, hx⟩, body, bv, tests, tv⟩ := c
  simp only at h1 h2 h3 hbl htl hl HAT hB
  subst h1 h2 h3
  obtain ⟨_, _, he, -, hm, hts⟩ := hB
  simp only [Value.slice.injEq, true_and] at he
  obtain ⟨rfl, rfl⟩ := he
  clear h hp hts
  have HB0 : Hid (BT w _ (Cm.cs ⟨(⟨⟨k, m, s⟩, nm, ls⟩, .slice a hn cap), body, .slice a' body.length cap', tests, .slice a'' tests.length cap''⟩) [] (.slice none 0 0)) := BT.start w (Cm.cs ⟨(⟨⟨k, m, s⟩, nm, ls⟩, .slice a hn cap), body, .slice a' body.length cap', tests, .slice a'' tests.length cap''⟩)
  go_enter Tryz.func38, Tryz.ntmps38
  go_wp2_with fail
  go_loopg [3, 4] body.length (fun g u i wr => ∃ j : Nat, j + g = body.length ∧ i = .int .i64 j ∧ BT w wr (Cm.cs ⟨(⟨⟨k, m, s⟩, nm, ls⟩, .slice a hn cap), body, .slice a' body.length cap', tests, .slice a'' tests.length cap''⟩) (flt (body.take j)) u)
  case atStart => exact ⟨0, by omega, rfl, HB0.out⟩
  case round =>
    obtain ⟨j, hj, rfl, hbt⟩ := hrel
    have HBT : Hid (BT w wr (Cm.cs ⟨(⟨⟨k, m, s⟩, nm, ls⟩, .slice a hn cap), body, .slice a' body.length cap', tests, .slice a'' tests.length cap''⟩) (flt (body.take j)) u3) := hbt
    clear hbt HB0
    obtain ⟨c0, c1, c2, c3, c4, c5, c6⟩ := cseven HBT.out.bc
    cases gk with
    | succ g =>
      have hlt : (j : Int) < (body.length : Int) := by omega
      have j0 : (0 : Int) ≤ (j : Int) := by omega
      obtain ⟨x, hx⟩ : ∃ x, body[j]? = some x := ⟨_, List.getElem?_eq_getElem (by omega)⟩
      rcases hm with hm | ⟨b1, o1, rfl, hb1, hm⟩
      · subst hm; simp at hj
      obtain ⟨p0, p1, p2, p3, p4⟩ := hm j x hx
      have q0 := cell_step HBT.out.bw hb1 p0
      have q1 := cell_step HBT.out.bw hb1 p1
      have q2 := cell_step HBT.out.bw hb1 p2
      have q3 := cell_step HBT.out.bw hb1 p3
      have q4 := cell_step HBT.out.bw hb1 p4
      have HX : Hid (flt (body.take j) ++ x.1.pl = flt (body.take (j + 1))) := flt_next hx
      have HLX : Hid ((flt (body.take j)).length + x.1.pl.length ≤ 3900000000000) := by
        show _ ≤ _
        rw [← List.length_append, flt_next hx]
        exact Nat.le_trans (flt_take body (j + 1)) hl
      have HA1 : Hid (∀ X : World, Below w.heap.size w X → Calls Tryz.prog 39 #[x.1.v x.2] X fun e w' => ∃ v', e = .returned v' ∧ OwnT w' X.heap.size v' x.1.pl ∧ Below X.heap.size X w') := HAT.out x (List.mem_of_getElem? hx)
      clear hm hx p0 p1 p2 p3 p4 HAT
      obtain ⟨⟨⟨xk, xn, xs⟩, xm, xa⟩, xv⟩ := x
      simp only at q0 q1 q2 q3 q4 HX HLX HA1
      generalize flt (body.take j) = LJ at HBT HX HLX
      generalize At.pl ⟨⟨xk, xn, xs⟩, xm, xa⟩ = PL at HX HLX HA1
      go_wp2_with (first
        | (go_at_call 39; refine (HA1.out _ HBT.out.bw).mono ?_; clear HA1; rintro e w1 ⟨y, rfl, hy, hb⟩; have HY : Hid (TsP w1 y PL) := hy.tsP; have HB1 : Hid (BT w w1 _ LJ u3) := HBT.out.later hb; clear hb hy HBT c0 c1 c2 c3 c4 c5 c6 q0 q1 q2 q3 q4)
        | (at_builtin; refine app_terms rfl _ _ rfl (w.heap.size + 1) u3 LJ (by rfl) HB1.out.ow y PL (by rfl) HY.out (by have := HLX.out; omega) HB1.out.sz ?_; intro v' w3 hown hb3 hg3; have HB2 : Hid (BT w w3 _ (LJ ++ PL) v') := HB1.out.grow hb3 hown; clear hown hb3 hg3 HB1 HY))
      go_roundg g
      case measure => omega
      case rel => exact ⟨j + 1, by omega, by go_num, by rw [← HX.out]; exact HB2.out⟩
    | zero =>
      obtain rfl : j = body.length := by omega
      have hz : ¬ ((body.length : Int) < (body.length : Int)) := by omega
      rw [List.take_length] at HBT
      clear hm HAT
      go_wp2
      go_ret
      exact ⟨_, rfl, HBT.out.ow.mono (Nat.le_succ _), HBT.out.bw⟩
end Go.Proofs.YtjnipcakjoiplaaGreatDoor
