/-
  bodyTerms, testTerms, Terms. (Written by MD5.py.)
-/
import Derived.Test.YtllgffmhbddigaaGreatMD4
namespace Go.Proofs.YtllgffmhbddigaaGreat
open Go.RowKit
attribute [local go_sem ↓] Go.wp_at_zero Go.wp_at_succ

/-- A clause's box, and the list so far. -/
structure BT (w X : World) (o : Array Value) (L : List Tm) (u : Value) : Prop where
  bc : CBlk X w.heap.size o 30
  ow : OwnT X (w.heap.size + 1) u L
  bw : Below w.heap.size w X
  sz : w.heap.size + 1 ≤ X.heap.size
theorem BT.later {w X X' : World} {o : Array Value} {L : List Tm} {u : Value} (h : BT w X o L u) (hb : Below X.heap.size X X') : BT w X' o L u :=
  ⟨h.bc.later hb, h.ow.later hb, below_step h.bw hb, Nat.le_trans h.sz hb.size⟩
theorem BT.grow {w X X' : World} {o : Array Value} {L L' : List Tm} {u u' : Value} (h : BT w X o L u) (hb : Below (w.heap.size + 1) X X') (ho : OwnT X' (w.heap.size + 1) u' L') : BT w X' o L' u' :=
  ⟨(hb.block _ (by omega)).trans h.bc, ho, h.bw.trans (hb.mono (by omega)), Nat.le_trans h.sz hb.size⟩
theorem BT.start (w : World) (o : Array Value) : BT w (w.alloc (.cells o 30)) o [] (.slice none 0 0) := ⟨CBlk.new _ _ _, ownT_nil _ _, below1 _ _, by simp⟩
theorem flt_next {l : List (At × Value)} {j : Nat} {x : At × Value} (h : l[j]? = some x) : flt (l.take j) ++ x.1.pl = flt (l.take (j + 1)) := by
  rw [List.take_add_one, h]; simp [flt]
theorem flt_take (l : List (At × Value)) (j : Nat) : (flt (l.take j)).length ≤ (flt l).length := by
  have e : flt l = flt (l.take j) ++ flt (l.drop j) := by unfold flt; rw [← List.flatMap_append, List.take_append_drop]
  rw [e, List.length_append]; omega
theorem tls_next {l : List Te} {j : Nat} {x : Te} (h : l[j]? = some x) : tls (l.take j) ++ [x.l, x.r] = tls (l.take (j + 1)) := by
  rw [List.take_add_one, h]; simp [tls]
theorem tls_len (l : List Te) : (tls l).length = l.length * 2 := by
  induction l with
  | nil => rfl
  | cons a l ih => unfold tls at ih ⊢; rw [List.flatMap_cons, List.length_append, ih]; simp; omega
set_option maxRecDepth 20000 in
set_option maxHeartbeats 4000000 in
theorem bodyTerms_any (c : Cm) (w : World) (h : c.ok w) (hp : ∀ x ∈ c.body, TsP w x.2 x.1.args) (hl : (flt c.body).length ≤ 3900000000000) :
    Calls Tryz.prog 36 #[c.v] w fun e w' => ∃ v', e = .returned v' ∧ OwnT w' w.heap.size v' (flt c.body) ∧ Below w.heap.size w w' := by
  obtain ⟨⟨a, hn, cap, h1⟩, ⟨a', cap', h2⟩, ⟨a'', cap'', h3⟩, hbl, htl⟩ := h.shape
  have HAT : Hid (∀ x ∈ c.body, ∀ X : World, Below w.heap.size w X → Calls Tryz.prog 76 #[x.1.v x.2] X fun e w' => ∃ v', e = .returned v' ∧ OwnT w' X.heap.size v' x.1.pl ∧ Below X.heap.size X w') := fun x hx X hX => atomTerms_any x.1 x.2 X ((hp x hx).later hX) (by
    have : x.1.pl.length ≤ (flt c.body).length := by
      obtain ⟨i, hi, rfl⟩ := List.getElem_of_mem hx
      have e := flt_next (List.getElem?_eq_getElem hi)
      have e2 := flt_take c.body (i + 1)
      rw [← e, List.length_append] at e2; omega
    simp [At.pl] at this; omega)
  have hB := h.b
  obtain ⟨⟨⟨⟨k, m, s⟩, nm, ls⟩, hx⟩, body, bv, tests, tv⟩ := c
  simp only at h1 h2 h3 hbl htl hl HAT hB
  subst h1 h2 h3
  obtain ⟨_, _, he, -, hm, hts⟩ := hB
  simp only [Value.slice.injEq, true_and] at he
  obtain ⟨rfl, rfl⟩ := he
  clear h hp hts
  have HB0 : Hid (BT w _ (Cm.cs ⟨(⟨⟨k, m, s⟩, nm, ls⟩, .slice a hn cap), body, .slice a' body.length cap', tests, .slice a'' tests.length cap''⟩) [] (.slice none 0 0)) := BT.start w (Cm.cs ⟨(⟨⟨k, m, s⟩, nm, ls⟩, .slice a hn cap), body, .slice a' body.length cap', tests, .slice a'' tests.length cap''⟩)
  go_enter Tryz.func36, Tryz.ntmps36
  go_wp2_with fail
  go_loopg [3, 4] body.length (fun g u i wr => ∃ j : Nat, j + g = body.length ∧ i = .int .i64 j ∧ BT w wr (Cm.cs ⟨(⟨⟨k, m, s⟩, nm, ls⟩, .slice a hn cap), body, .slice a' body.length cap', tests, .slice a'' tests.length cap''⟩) (flt (body.take j)) u)
  case atStart => exact ⟨0, by omega, rfl, HB0.out⟩
  case round =>
    obtain ⟨j, hj, rfl, hbt⟩ := hrel
    have HBT : Hid (BT w wr (Cm.cs ⟨(⟨⟨k, m, s⟩, nm, ls⟩, .slice a hn cap), body, .slice a' body.length cap', tests, .slice a'' tests.length cap''⟩) (flt (body.take j)) u3) := hbt
    clear hbt HB0
    obtain ⟨c0, c1, c2, c3, c4, c5, c6⟩ := cseven HBT.out.bc
    cases gk with
    | succ g =>
      have hlt : (j : Int) < (body.length : Int) := by omega
      have j0 : (0 : Int) ≤ (j : Int) := by omega
      obtain ⟨x, hx⟩ : ∃ x, body[j]? = some x := ⟨_, List.getElem?_eq_getElem (by omega)⟩
      rcases hm with hm | ⟨b1, o1, rfl, hb1, hm⟩
      · subst hm; simp at hj
      obtain ⟨p0, p1, p2, p3, p4⟩ := hm j x hx
      have q0 := cell_step HBT.out.bw hb1 p0
      have q1 := cell_step HBT.out.bw hb1 p1
      have q2 := cell_step HBT.out.bw hb1 p2
      have q3 := cell_step HBT.out.bw hb1 p3
      have q4 := cell_step HBT.out.bw hb1 p4
      have HX : Hid (flt (body.take j) ++ x.1.pl = flt (body.take (j + 1))) := flt_next hx
      have HLX : Hid ((flt (body.take j)).length + x.1.pl.length ≤ 3900000000000) := by
        show _ ≤ _
        rw [← List.length_append, flt_next hx]
        exact Nat.le_trans (flt_take body (j + 1)) hl
      have HA1 : Hid (∀ X : World, Below w.heap.size w X → Calls Tryz.prog 76 #[x.1.v x.2] X fun e w' => ∃ v', e = .returned v' ∧ OwnT w' X.heap.size v' x.1.pl ∧ Below X.heap.size X w') := HAT.out x (List.mem_of_getElem? hx)
      clear hm hx p0 p1 p2 p3 p4 HAT
      obtain ⟨⟨⟨xk, xn, xs⟩, xm, xa⟩, xv⟩ := x
      simp only at q0 q1 q2 q3 q4 HX HLX HA1
      generalize flt (body.take j) = LJ at HBT HX HLX
      generalize At.pl ⟨⟨xk, xn, xs⟩, xm, xa⟩ = PL at HX HLX HA1
      go_wp2_with (first
        | (go_at_call 76; refine (HA1.out _ HBT.out.bw).mono ?_; clear HA1; rintro e w1 ⟨y, rfl, hy, hb⟩; have HY : Hid (TsP w1 y PL) := hy.tsP; have HB1 : Hid (BT w w1 _ LJ u3) := HBT.out.later hb; clear hb hy HBT c0 c1 c2 c3 c4 c5 c6 q0 q1 q2 q3 q4)
        | (at_builtin; refine app_terms rfl _ _ rfl (w.heap.size + 1) u3 LJ (by rfl) HB1.out.ow y PL (by rfl) HY.out (by have := HLX.out; omega) HB1.out.sz ?_; intro v' w3 hown hb3 hg3; have HB2 : Hid (BT w w3 _ (LJ ++ PL) v') := HB1.out.grow hb3 hown; clear hown hb3 hg3 HB1 HY))
      go_roundg g
      case measure => omega
      case rel => exact ⟨j + 1, by omega, by go_num, by rw [← HX.out]; exact HB2.out⟩
    | zero =>
      obtain rfl : j = body.length := by omega
      have hz : ¬ ((body.length : Int) < (body.length : Int)) := by omega
      rw [List.take_length] at HBT
      clear hm HAT
      go_wp2
      go_ret
      exact ⟨_, rfl, HBT.out.ow.mono (Nat.le_succ _), HBT.out.bw⟩
end Go.Proofs.YtllgffmhbddigaaGreat
