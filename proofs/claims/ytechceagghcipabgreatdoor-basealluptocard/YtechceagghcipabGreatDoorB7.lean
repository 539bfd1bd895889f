import Derived.Test.YtechceagghcipabGreatDoorRA2
import Derived.Test.YtechceagghcipabGreatDoorB6
import Derived.Deep.CutRange
namespace Go.Proofs.YtechceagghcipabGreatDoor
open Go.RowKit
attribute [local go_sem ↓] Go.wp_at_zero Go.wp_at_succ
def srt (l : List Bd) : Prop := l.Pairwise fun a b => a.x <= b.x
def SortOK (N : Nat) : Prop := ∀ (w : World) (base : Nat) (v : Value) (l : List Bd), Own w base v l -> l.length <= N →
 Calls Tryz.prog 151 #[v] w fun e w' => e = .returned (.tuple #[]) /\ ∃ l', Own w' base v l' /\ l'.Perm l /\ srt l' /\ Below base w w'
def mGo : List Bd -> List (Tm × Tm) -> Option (List Bd)
 | out, [] => some out
 | out, x :: r => if x.1.var then (match look out x.1.n with
   | some q => if q = x.2 then mGo out r else none
   | none => mGo (out ++ [⟨x.1.n, x.2⟩]) r) else mGo out r
def mOk (p a : At) : Bool := shB p a && fixOk p.pl a.pl && !(p.by_.var && decide (a.by_.k = 0))
def mRes (p a : At) (s : List Bd) : Option (List Bd) := if mOk p a then mGo (fb s) (p.pl.zip a.pl) else none
def MPost (w : World) (r : Option (List Bd)) (e : Ending) (w' : World) : Prop := Below w.heap.size w w' ∧
 match r with
 | none => e = .returned (.tuple #[.slice none 0 0, .bool false])
 | some out => ∃ v' out', e = .returned (.tuple #[v', .bool true]) /\ Own w' w.heap.size v' out' /\ out'.Perm out /\ srt out'
theorem m_no {w w' : World} {p a : At} {s : List Bd} {e : Ending} (h : mOk p a = false) (he : e = .returned (.tuple #[.slice none 0 0, .bool false])) (hb : Below w.heap.size w w') : MPost w (mRes p a s) e w' := by
 refine ⟨hb, ?_⟩
 unfold mRes
 rw [h]; exact he
theorem zip_drop (p a : List Tm) (i : Nat) (t u : Tm) (ht : p[i]? = some t) (hu : a[i]? = some u) : (p.zip a).drop i = (t, u) :: (p.zip a).drop (i + 1) := by
 have hz : (p.zip a)[i]? = some (t, u) := by rw [List.getElem?_zip_eq_some]; exact ⟨ht, hu⟩
 obtain ⟨hk, e⟩ := List.getElem?_eq_some_iff.1 hz
 rw [List.drop_eq_getElem_cons hk, e]
theorem Own.mono {w : World} {b b' : Nat} {v : Value} {l : List Bd} (h : Own w b v l) (hb : b' <= b) : Own w b' v l := by
 refine ⟨h.1, ?_⟩
 rcases h.2 with hn | ⟨g, cap, cur, hv, hbb, rest⟩
 ·exact Or.inl hn
 ·exact Or.inr ⟨g, cap, cur, hv, Nat.le_trans hb hbb, rest⟩
theorem pl_len (a : At) : a.pl.length = a.args.length + 1 := by simp [At.pl]
theorem balloc {w W : World} {o : Obj} (h : Below w.heap.size w W) : Below w.heap.size w (W.alloc o) := h.alloc h.size _
theorem bset {w W : World} {G i : Nat} {a : Value} (h : Below w.heap.size w W) (hg : w.heap.size <= G) : Below w.heap.size w (W.setCell ⟨G, i, none⟩ a) := h.setCell hg _
theorem store3 {W : World} {G : Nat} {a b c a' b' c' : Value} {t : TypeId} (h : W.heap[G]? = some (.cells #[a, b, c] t (0, 0))) :
  (((W.setCell ⟨G, 0, none⟩ a').setCell ⟨G, 1, none⟩ b').setCell ⟨G, 2, none⟩ c').heap[G]? = some (.cells #[a', b', c'] t (0, 0)) := by
 have h1 := heap_setCell_same _ _ 0 _ _ a' h
 have h2 := heap_setCell_same _ _ 1 _ _ b' h1
 exact heap_setCell_same _ _ 2 _ _ c' h2
theorem store3_other {W : World} {G k : Nat} {o : Obj} (a' b' c' : Value) (hk : k ≠ G) (h : W.heap[k]? = some o) :
  (((W.setCell ⟨G, 0, none⟩ a').setCell ⟨G, 1, none⟩ b').setCell ⟨G, 2, none⟩ c').heap[k]? = some o := by
 rw [heap_setCell_other _ _ _ _ hk, heap_setCell_other _ _ _ _ hk, heap_setCell_other _ _ _ _ hk]; exact h
def Box2 (w W : World) (c d : Array Value) : Prop := W.heap[w.heap.size]? = some (.cells c 33 (0, 0)) /\ W.heap[w.heap.size + 1]? = some (.cells d 33 (0, 0)) /\ Below w.heap.size w W
theorem Box2.start (w : World) (c d : Array Value) : Box2 w ((w.alloc (.cells c 33)).alloc (.cells d 33)) c d := ⟨heap_alloc2_old _ _ _, heap_alloc2_new _ _ _, below2 _ _ _⟩
theorem Box2.later {w W W' : World} {c d : Array Value} (h : Box2 w W c d) (hb : Below W.heap.size W W') : Box2 w W' c d :=
 ⟨(hb.block _ (Array.getElem?_eq_some_iff.1 h.1).1).trans h.1, (hb.block _ (Array.getElem?_eq_some_iff.1 h.2.1).1).trans h.2.1, h.2.2.trans (hb.mono h.2.2.size)⟩
theorem Box2.lt {w W : World} {c d : Array Value} (h : Box2 w W c d) : w.heap.size + 1 < W.heap.size := (Array.getElem?_eq_some_iff.1 h.2.1).1
theorem Box2.cells {w W : World} {a b c d e a' b' c' d' e' : Value} (h : Box2 w W #[a, b, c, d, e] #[a', b', c', d', e']) :
  (W.cell? ⟨w.heap.size, 0, none⟩ = some a /\ W.cell? ⟨w.heap.size, 1, none⟩ = some b /\ W.cell? ⟨w.heap.size, 2, none⟩ = some c /\ W.cell? ⟨w.heap.size, 3, none⟩ = some d /\ W.cell? ⟨w.heap.size, 4, none⟩ = some e) ∧
  (W.cell? ⟨w.heap.size + 1, 0, none⟩ = some a' /\ W.cell? ⟨w.heap.size + 1, 1, none⟩ = some b' /\ W.cell? ⟨w.heap.size + 1, 2, none⟩ = some c' /\ W.cell? ⟨w.heap.size + 1, 3, none⟩ = some d' /\ W.cell? ⟨w.heap.size + 1, 4, none⟩ = some e') := ⟨five h.1, five h.2.1⟩
set_option maxHeartbeats 2000000 in
theorem match_go (N : Nat) (hN : N <= 1000000000000) (k n k' n' : Int) (ss nm ss' nm' : ByteArray) (l l' : List Tm) (P A : At) (hP : P = At.mk ⟨k, n, ss⟩ nm l) (hA : A = At.mk ⟨k', n', ss'⟩ nm' l')
  (s : List Bd) (x y v : Value) (w : World) (hx : Ts w x l) (hy : Ts w y l') (hv : Bs w v s) (hlen : s.length + l.length + 1 <= N) (hsort : ∀ out, mRes P A s = some out -> SortOK out.length) :
  Calls Tryz.prog 120 #[(At.mk ⟨k, n, ss⟩ nm l).v x, (At.mk ⟨k', n', ss'⟩ nm' l').v y, v] w (MPost w (mRes P A s)) := by
 have HP : Hid (P = At.mk ⟨k, n, ss⟩ nm l) := hP
 have HA : Hid (A = At.mk ⟨k', n', ss'⟩ nm' l') := hA
 have HX : Hid (Ts w x P.args) := by rw [hP]; exact hx
 have HY : Hid (Ts w y A.args) := by rw [hA]; exact hy
 have HV : Hid (Bs w v s) := hv
 have HL : Hid (s.length + P.args.length + 1 <= N) := by rw [hP]; exact hlen
 have HS : Hid (∀ out, mRes P A s = some out -> SortOK out.length) := hsort
 have HM : Hid (mOk P A = (shB P A && fixOk P.pl A.pl && !(Tm.var ⟨k, n, ss⟩ && decide (k' = 0)))) := by
  show mOk P A = _
  unfold mOk; rw [hP, hA]
 clear hx hy hv hlen hsort hP hA
 have h1 := fun W (h : Below w.heap.size w W) => sameShape_any P A x y W (HX.out.later h) (HY.out.later h)
 have ep : ∀ z, (P.v z) = (At.mk ⟨k, n, ss⟩ nm l).v z := fun z => by rw [HP.out]
 have ea : ∀ z, (A.v z) = (At.mk ⟨k', n', ss'⟩ nm' l').v z := fun z => by rw [HA.out]
 rw [ep, ea] at h1
 have H1 : Hid (∀ W, Below w.heap.size w W -> Calls Tryz.prog 147 #[(At.mk ⟨k, n, ss⟩ nm l).v x, (At.mk ⟨k', n', ss'⟩ nm' l').v y] W fun e w' => e = .returned (.bool (shB P A)) /\ Below W.heap.size W w') := h1
 clear h1
 have h3 := fun W (h : Below w.heap.size w W) => places_any P x W (HX.out.later h)
 rw [ep] at h3
 have H3 : Hid (∀ W, Below w.heap.size w W -> Calls Tryz.prog 60 #[(At.mk ⟨k, n, ss⟩ nm l).v x] W fun e w' => e = .returned (.int .i64 P.pl.length) /\ Below W.heap.size W w') := h3
 have h4 := fun i t (ht : P.pl[i]? = some t) W (h : Below w.heap.size w W) => place_any P x i t ht W (HX.out.later h)
 have h5 := fun i t (ht : A.pl[i]? = some t) W (h : Below w.heap.size w W) => place_any A y i t ht W (HY.out.later h)
 rw [ep] at h4
 rw [ea] at h5
 have H4 : Hid (∀ (i : Nat) (t : Tm), P.pl[i]? = some t -> ∀ W, Below w.heap.size w W -> Calls Tryz.prog 62 #[(At.mk ⟨k, n, ss⟩ nm l).v x, .int .i64 i] W fun e w' => e = .returned t.v /\ Below W.heap.size W w') := h4
 have H5 : Hid (∀ (i : Nat) (t : Tm), A.pl[i]? = some t -> ∀ W, Below w.heap.size w W -> Calls Tryz.prog 62 #[(At.mk ⟨k', n', ss'⟩ nm' l').v y, .int .i64 i] W fun e w' => e = .returned t.v /\ Below W.heap.size W w') := h5
 clear h3 h4 h5
 cases g1 : shB P A
 ·have M0 : Hid (mOk P A = false) := by show mOk P A = false; rw [HM.out, g1]; rfl
  have G1 : Hid (shB P A = false) := g1
  clear g1 ep ea
  go_enter Tryz.func120, Tryz.ntmps120
  go_wp2_with (go_at_call 147; refine (H1.out _ (below2 _ _ _)).mono ?_; rw [G1.out]; rintro e w1 ⟨rfl, hb1⟩)
  go_ret2
  exact m_no M0.out rfl ((Box2.start _ _ _).later hb1).2.2
 ·have hll : P.args.length = A.args.length := by unfold shB at g1; simp at g1; exact g1.2
  have G1 : Hid (shB P A = true) := g1
  have h2 := fun W (h : Below w.heap.size w W) => swf_any P A x y W (HX.out.later h) (HY.out.later h) hll
  rw [ep, ea] at h2
  have H2 : Hid (∀ W, Below w.heap.size w W -> Calls Tryz.prog 148 #[(At.mk ⟨k, n, ss⟩ nm l).v x, (At.mk ⟨k', n', ss'⟩ nm' l').v y] W fun e w' => e = .returned (.bool (fixOk P.pl A.pl)) /\ Below W.heap.size W w') := h2
  clear h2
  cases g2 : fixOk P.pl A.pl
  ·have M0 : Hid (mOk P A = false) := by show mOk P A = false; rw [HM.out, g1, g2]; rfl
   have G2 : Hid (fixOk P.pl A.pl = false) := g2
   clear g1 g2 ep ea hll
   go_enter Tryz.func120, Tryz.ntmps120
   go_wp2_with (first
    | (go_at_call 147; refine (H1.out _ (below2 _ _ _)).mono ?_; rw [G1.out]; rintro e w1 ⟨rfl, hb1⟩; have C1 := (Box2.start _ _ _).later hb1; obtain ⟨⟨p0, p1, p2, p3, p4⟩, q0, q1, q2, q3, q4⟩ := C1.cells; have B1 : Hid (Box2 _ _ _ _) := C1; clear C1)
    | (go_at_call 148; refine (H2.out _ B1.out.2.2).mono ?_; rw [G2.out]; rintro e w2 ⟨rfl, hb2⟩))
   go_ret2
   exact m_no M0.out rfl ((Hid.out B1).later hb2).2.2
  ·have G2 : Hid (fixOk P.pl A.pl = true) := g2
   by_cases g3 : Tm.var ⟨k, n, ss⟩ = true /\ k' = 0
   ·obtain ⟨g3, g4⟩ := g3
    have M0 : Hid (mOk P A = false) := by show mOk P A = false; rw [HM.out, g1, g2, g3, g4]; rfl
    have G3 : Hid (Tm.var ⟨k, n, ss⟩ = true) := g3
    clear g1 g2 ep ea hll g3 HM
    subst g4
    go_enter Tryz.func120, Tryz.ntmps120
    go_wp2_with (first
     | (go_at_call 147; refine (H1.out _ (below2 _ _ _)).mono ?_; rw [G1.out]; rintro e w1 ⟨rfl, hb1⟩; have C1 := (Box2.start _ _ _).later hb1; obtain ⟨⟨p0, p1, p2, p3, p4⟩, q0, q1, q2, q3, q4⟩ := C1.cells; have B1 : Hid (Box2 _ _ _ _) := C1; clear C1)
     | (go_at_call 148; refine (H2.out _ B1.out.2.2).mono ?_; rw [G2.out]; rintro e w2 ⟨rfl, hb2⟩; clear p0 p1 p2 p3 p4 q0 q1 q2 q3 q4; have C2 := (Hid.out B1).later hb2; obtain ⟨⟨p0, p1, p2, p3, p4⟩, q0, q1, q2, q3, q4⟩ := C2.cells; have B2 : Hid (Box2 _ _ _ _) := C2; clear C2)
     | (go_at_call 61; refine (var_any ⟨k, n, ss⟩ _).mono ?_; rw [G3.out]; rintro e w3 ⟨rfl, hb3⟩; clear p0 p1 p2 p3 p4 q0 q1 q2 q3 q4; have C3 := (Hid.out B2).later hb3; obtain ⟨⟨p0, p1, p2, p3, p4⟩, q0, q1, q2, q3, q4⟩ := C3.cells; have B3 : Hid (Box2 _ _ _ _) := C3; clear C3))
    go_ret2
    exact m_no M0.out rfl B3.out.2.2
   ·have hm : mOk P A = true := by
     rw [HM.out, g1, g2]
     simp only [not_and] at g3
     cases h : Tm.var ⟨k, n, ss⟩ <;> simp_all
    have HM1 : Hid (mOk P A = true) := hm
    have hbb : ∃ b, Tm.var ⟨k, n, ss⟩ = b /\ (b = true -> ¬ k' = 0) := ⟨_, rfl, fun h h' => g3 ⟨h, h'⟩⟩
    obtain ⟨b, hb, hbk⟩ := hbb
    have G3 : Hid (Tm.var ⟨k, n, ss⟩ = b) := hb
    have HLL : Hid (P.args.length = A.args.length) := hll
    clear g1 g2 ep ea hll g3 HM hm hb
    go_enter Tryz.func120, Tryz.ntmps120
    go_upto_region 3 with (first
      | (go_at_call 147; refine (H1.out _ (below2 _ _ _)).mono ?_; rw [G1.out]; rintro e w1 ⟨rfl, hb1⟩; have C1 := (Box2.start _ _ _).later hb1; obtain ⟨⟨p0, p1, p2, p3, p4⟩, q0, q1, q2, q3, q4⟩ := C1.cells; have B1 : Hid (Box2 _ _ _ _) := C1; clear C1)
      | (go_at_call 148; refine (H2.out _ B1.out.2.2).mono ?_; rw [G2.out]; rintro e w2 ⟨rfl, hb2⟩; clear p0 p1 p2 p3 p4 q0 q1 q2 q3 q4; have C2 := (Hid.out B1).later hb2; obtain ⟨⟨p0, p1, p2, p3, p4⟩, q0, q1, q2, q3, q4⟩ := C2.cells; have B2 : Hid (Box2 _ _ _ _) := C2; clear C2))
    go_cut [32] from 24 (fun s32 wx => s32 = .bool false /\ Box2 w wx #[.int .i64 k, .int .i64 n, .string ss, .string nm, x] #[.int .i64 k', .int .i64 n', .string ss', .string nm', y])
    case first =>
     clear B1
     cases b
     all_goals
      simp only [Bool.false_eq_true, false_implies, forall_const] at hbk
      go_wp2_with (go_at_call 61; refine (var_any ⟨k, n, ss⟩ _).mono ?_; rw [G3.out]; rintro e w3 ⟨rfl, hb3⟩; clear p0 p1 p2 p3 p4 q0 q1 q2 q3 q4; have C3 := (Hid.out B2).later hb3; obtain ⟨⟨p0, p1, p2, p3, p4⟩, q0, q1, q2, q3, q4⟩ := C3.cells; have B3 : Hid (Box2 _ _ _ _) := C3; clear C3)
      go_meet
      case rel => exact ⟨by simp [hbk], Hid.out B3⟩
    case rest =>
     obtain ⟨rfl, hbox⟩ := hcut
     clear hbk G3 p0 p1 p2 p3 p4 q0 q1 q2 q3 q4 B1 B2 hb1 hb2
     obtain ⟨⟨p0, p1, p2, p3, p4⟩, q0, q1, q2, q3, q4⟩ := hbox.cells
     have B3 : Hid (Box2 w wc #[.int .i64 k, .int .i64 n, .string ss, .string nm, x] #[.int .i64 k', .int .i64 n', .string ss', .string nm', y]) := hbox
     clear hbox
     go_wp2_with (first
      | (go_at_call 149; refine (fb_any s v _ (HV.out.later (Hid.out B3).2.2) (by have := HL.out; omega)).mono ?_; rintro e w4 ⟨v4, rfl, hoo, hb4⟩; clear p0 p1 p2 p3 p4 q0 q1 q2 q3 q4; have ho4 : Hid (Own w4 (w.heap.size + 2) v4 (fb s)) := hoo.mono (Hid.out B3).lt; clear hoo; have C4 := (Hid.out B3).later hb4; obtain ⟨⟨p0, p1, p2, p3, p4⟩, q0, q1, q2, q3, q4⟩ := C4.cells; have B4 : Hid (Box2 _ _ _ _) := C4; clear C4)
      | (go_at_call 60; refine (H3.out _ (Hid.out B4).2.2).mono ?_; rintro e w5 ⟨rfl, hb5⟩))
     have B5 := (Hid.out B4).later hb5
     have ho5 := (Hid.out ho4).later hb5
     clear B3 B4 ho4 hb4 hb5 p0 p1 p2 p3 p4 q0 q1 q2 q3 q4
     go_loopg [8, 37] P.pl.length (fun g u i wr => ∃ (j : Nat) (out : List Bd), j + g = P.pl.length /\ i = .int .i64 j /\ Own wr (w.heap.size + 2) u out /\ out.length <= s.length + j /\ mGo (fb s) (P.pl.zip A.pl) = mGo out ((P.pl.zip A.pl).drop j) /\ Box2 w wr #[.int .i64 k, .int .i64 n, .string ss, .string nm, x] #[.int .i64 k', .int .i64 n', .string ss', .string nm', y])
     case atStart => exact ⟨0, fb s, by omega, rfl, ho5, fb_len s, by simp, B5⟩
     case round =>
      clear B5 ho5
      obtain ⟨j, out, hj, rfl, ho, hol, hgo, hbox⟩ := hrel
      have HO : Hid (Own wr (w.heap.size + 2) u8 out) := ho
      have HG : Hid (mGo (fb s) (P.pl.zip A.pl) = mGo out ((P.pl.zip A.pl).drop j)) := hgo
      have HB : Hid (Box2 w wr #[.int .i64 k, .int .i64 n, .string ss, .string nm, x] #[.int .i64 k', .int .i64 n', .string ss', .string nm', y]) := hbox
      have hpn : P.pl.length <= 1000000000000 := by have := HL.out; rw [pl_len]; omega
      clear ho hgo hbox
      cases gk with
      | succ g =>
       have hlt : (j : Int) < (P.pl.length : Int) := by omega
       obtain ⟨t, ht⟩ : ∃ t, P.pl[j]? = some t := ⟨_, List.getElem?_eq_getElem (by omega)⟩
       obtain ⟨u, hu⟩ : ∃ u, A.pl[j]? = some u := ⟨_, List.getElem?_eq_getElem (by have := HLL.out; rw [pl_len] at *; omega)⟩
       have HG2 : Hid (mGo (fb s) (P.pl.zip A.pl) = mGo out ((t, u) :: (P.pl.zip A.pl).drop (j + 1))) := by
        show mGo (fb s) _ = _
        rw [HG.out, zip_drop _ _ j t u ht hu]
       have HT : Hid (P.pl[j]? = some t) := ht
       have HU : Hid (A.pl[j]? = some u) := hu
       clear ht hu
       obtain ⟨tk, tn, ts⟩ := t
       obtain ⟨uk, un, us⟩ := u
       go_wp2
       go_cut [10, 11, 37] from 37 to 71 (fun s10 s11 s37 wx => s37 = .int .i64 j /\ ∃ G1 G2 : Nat, s10 = .pointer (some ⟨G1, 0, none⟩) /\ s11 = .pointer (some ⟨G2, 0, none⟩) /\ wx.heap[G1]? = some (.cells #[.int .i64 tk, .int .i64 tn, .string ts] 30 (0, 0)) /\ wx.heap[G2]? = some (.cells #[.int .i64 uk, .int .i64 un, .string us] 30 (0, 0)) /\ Below wr.heap.size wr wx)
       case first =>
        obtain ⟨⟨p0, p1, p2, p3, p4⟩, q0, q1, q2, q3, q4⟩ := HB.out.cells
        have zz := HB.out.lt
        clear H1 H2 H3 HP HA HX HY HV HL HS HM1 HLL G1 G2 HG HG2 HO hpn hol hlt
        have zz0 : w.heap.size < wr.heap.size := by omega
        refine wp_region_held_drew (S := fun w' => Below wr.heap.size wr w') (by kernel_rfl) (Below.refl _ _).drew (fun hH => ?_)
        revert hH
        generalize wr.drew = W
        intro hH
        refine wTl 0 (.agg #[.int .i64 k, .int .i64 n, .string ss, .string nm, x]) rfl (by kernel_rfl) (fun _ _ _ h => h) rfl (fun w' h => by have a0 := cell_step h zz0 p0; have a1 := cell_step h zz0 p1; have a2 := cell_step h zz0 p2; have a3 := cell_step h zz0 p3; have a4 := cell_step h zz0 p4; clear p0 p1 p2 p3 p4 q0 q1 q2 q3 q4; go_simp) hH ?_
        simp only [wA, wB, wC, wD]
        refine wTl 1 (.int .i64 j) rfl (by kernel_rfl) (fun _ _ _ h => h) rfl (fun w' _ => by go_simp) hH ?_
        simp only [wA, wB, wC, wD]
        refine wTl 3 (.agg #[.int .i64 k', .int .i64 n', .string ss', .string nm', y]) rfl (by kernel_rfl) (fun _ _ _ h => h) rfl (fun w' h => by have a0 := cell_step h zz q0; have a1 := cell_step h zz q1; have a2 := cell_step h zz q2; have a3 := cell_step h zz q3; have a4 := cell_step h zz q4; clear p0 p1 p2 p3 p4 q0 q1 q2 q3 q4; go_simp) hH ?_
        simp only [wA, wB, wC, wD]
        refine wTl 4 (.int .i64 j) rfl (by kernel_rfl) (fun _ _ _ h => h) rfl (fun w' _ => by go_simp) hH ?_
        simp only [wA, wB, wC, wD]
        clear p0 p1 p2 p3 p4 q0 q1 q2 q3 q4
        refine wpAnyH_ready (rs := [2, 6, 7]) (by kernel_rfl) (by simp) ?_
        refine (AllReadyH.cons (o := ⟨_, _, _, _, _, _⟩) rfl (fun K hK => ?_) (AllReadyH.cons (o := ⟨_, _, _, _, _, _⟩) rfl (fun K hK => ?_) (AllReadyH.cons (o := ⟨_, _, _, _, _, _⟩) rfl (fun K hK => ?_) AllReadyH.nil)))
        ·go_simp
         refine (H4.out j ⟨tk, tn, ts⟩ HT.out _ (below_step HB.out.2.2 hH)).mono ?_
         rintro e w3 ⟨rfl, hb⟩
         refine hK.out _ _ (below_step hH hb) (fun hH => ?_)
         clear hb hK K
         refine wpAnyH_ready (rs := [5, 6, 7]) (by kernel_rfl) (by simp) ?_
         refine (AllReadyH.cons (o := ⟨_, _, _, _, _, _⟩) rfl (fun K hK => ?_) (AllReadyH.cons (o := ⟨_, _, _, _, _, _⟩) rfl (fun K hK => ?_) (AllReadyH.cons (o := ⟨_, _, _, _, _, _⟩) rfl (fun K hK => ?_) AllReadyH.nil)))
         ·go_simp
          refine (H5.out j ⟨uk, un, us⟩ HU.out _ (below_step HB.out.2.2 hH)).mono ?_
          rintro e w3 ⟨rfl, hb⟩
          refine hK.out _ _ (below_step hH hb) (fun hH => ?_)
          clear hb hK K
          refine wpAnyH_ready (rs := [6, 7]) (by kernel_rfl) (by simp) ?_
          refine (AllReadyH.cons (o := ⟨_, _, _, _, _, _⟩) rfl (fun K hK => ?_) (AllReadyH.cons (o := ⟨_, _, _, _, _, _⟩) rfl (fun K hK => ?_) AllReadyH.nil))
          ·go_simp
           have gA := hH.size
           refine hK.out _ _ (balloc hH) (fun hH => ?_)
           clear hK K
           have fA := heap_alloc_new w3 (.cells #[.int .i64 0, .int .i64 0, .string ⟨#[]⟩] 30)
           have lA : w3.heap.size < (w3.alloc (.cells #[.int .i64 0, .int .i64 0, .string ⟨#[]⟩] 30)).heap.size := by simp
           revert hH fA lA
           generalize w3.alloc (.cells #[.int .i64 0, .int .i64 0, .string ⟨#[]⟩] 30) = W1
           intro hH fA lA
           refine wRd 7 (by kernel_rfl) rfl (fun K hK => ?_)
           ·go_simp
            have gB := hH.size
            refine hK.out _ _ (balloc hH) (fun hH => ?_)
            clear hK K
            have fA := (Below.heap_alloc _ (.cells #[.int .i64 0, .int .i64 0, .string ⟨#[]⟩] 30) _ lA).trans fA
            have hne := Nat.ne_of_lt lA
            have hen := Ne.symm hne
            have fB := heap_alloc_new W1 (.cells #[.int .i64 0, .int .i64 0, .string ⟨#[]⟩] 30)
            have lB : W1.heap.size < (W1.alloc (.cells #[.int .i64 0, .int .i64 0, .string ⟨#[]⟩] 30)).heap.size := by simp
            have lA := lt_step (below1 W1 (.cells #[.int .i64 0, .int .i64 0, .string ⟨#[]⟩] 30)) lA
            revert hH fA lA fB lB
            generalize W1.alloc (.cells #[.int .i64 0, .int .i64 0, .string ⟨#[]⟩] 30) = W1
            intro hH fA fB lB lA
            refine wRd 8 (by kernel_rfl) rfl (fun K hK => ?_)
            have c0 := (three fA).1; have c1 := (three fA).2.1; have c2 := (three fA).2.2.1; have f0 := (three fA).2.2.2.1; have f1 := (three fA).2.2.2.2.1; have f2 := (three fA).2.2.2.2.2
            go_simp
            clear c0 c1 c2 f0 f1 f2
            refine hK.out _ _ (bset (bset (bset hH gA) gA) gA) (fun hH => ?_)
            clear hK K
            have fA := store3 (a' := .int .i64 tk) (b' := .int .i64 tn) (c' := .string ts) fA
            have fB := store3_other (.int .i64 tk) (.int .i64 tn) (.string ts) (by omega) fB
            revert hH fA fB
            generalize World.setCell (World.setCell (World.setCell _ _ _) _ _) _ _ = W2
            intro hH fA fB
            refine wRd 9 (by kernel_rfl) rfl (fun K hK => ?_)
            have c0 := (three fB).1; have c1 := (three fB).2.1; have c2 := (three fB).2.2.1; have f0 := (three fB).2.2.2.1; have f1 := (three fB).2.2.2.2.1; have f2 := (three fB).2.2.2.2.2
            go_simp
            clear c0 c1 c2 f0 f1 f2
            refine hK.out _ _ (bset (bset (bset hH gB) gB) gB) (fun hH => ?_)
            clear hK K
            have fB := store3 (a' := .int .i64 uk) (b' := .int .i64 un) (c' := .string us) fB
            have fA := store3_other (.int .i64 uk) (.int .i64 un) (.string us) (by omega) fA
            refine wpAnyH_done (by kernel_rfl) ?_ _
            go_wp2_with fail
            go_meet
            case rel => exact ⟨rfl, _, _, rfl, rfl, fA, fB, hH⟩
          ·go_simp
           have gB := hH.size
           refine hK.out _ _ (balloc hH) (fun hH => ?_)
           clear hK K
           have fB := heap_alloc_new w3 (.cells #[.int .i64 0, .int .i64 0, .string ⟨#[]⟩] 30)
           have lB : w3.heap.size < (w3.alloc (.cells #[.int .i64 0, .int .i64 0, .string ⟨#[]⟩] 30)).heap.size := by simp
           revert hH fB lB
           generalize w3.alloc (.cells #[.int .i64 0, .int .i64 0, .string ⟨#[]⟩] 30) = W1
           intro hH fB lB
           refine wRd 6 (by kernel_rfl) rfl (fun K hK => ?_)
           ·go_simp
            have gA := hH.size
            refine hK.out _ _ (balloc hH) (fun hH => ?_)
            clear hK K
            have fB := (Below.heap_alloc _ (.cells #[.int .i64 0, .int .i64 0, .string ⟨#[]⟩] 30) _ lB).trans fB
            have hne := Nat.ne_of_lt lB
            have hen := Ne.symm hne
            have fA := heap_alloc_new W1 (.cells #[.int .i64 0, .int .i64 0, .string ⟨#[]⟩] 30)
            have lA : W1.heap.size < (W1.alloc (.cells #[.int .i64 0, .int .i64 0, .string ⟨#[]⟩] 30)).heap.size := by simp
            have lB := lt_step (below1 W1 (.cells #[.int .i64 0, .int .i64 0, .string ⟨#[]⟩] 30)) lB
            revert hH fA lA fB lB
            generalize W1.alloc (.cells #[.int .i64 0, .int .i64 0, .string ⟨#[]⟩] 30) = W1
            intro hH fB fA lA lB
            refine wRd 8 (by kernel_rfl) rfl (fun K hK => ?_)
            have c0 := (three fA).1; have c1 := (three fA).2.1; have c2 := (three fA).2.2.1; have f0 := (three fA).2.2.2.1; have f1 := (three fA).2.2.2.2.1; have f2 := (three fA).2.2.2.2.2
            go_simp
            clear c0 c1 c2 f0 f1 f2
            refine hK.out _ _ (bset (bset (bset hH gA) gA) gA) (fun hH => ?_)
            clear hK K
            have fA := store3 (a' := .int .i64 tk) (b' := .int .i64 tn) (c' := .string ts) fA
            have fB := store3_other (.int .i64 tk) (.int .i64 tn) (.string ts) (by omega) fB
            revert hH fA fB
            generalize World.setCell (World.setCell (World.setCell _ _ _) _ _) _ _ = W2
            intro hH fA fB
            refine wRd 9 (by kernel_rfl) rfl (fun K hK => ?_)
            have c0 := (three fB).1; have c1 := (three fB).2.1; have c2 := (three fB).2.2.1; have f0 := (three fB).2.2.2.1; have f1 := (three fB).2.2.2.2.1; have f2 := (three fB).2.2.2.2.2
            go_simp
            clear c0 c1 c2 f0 f1 f2
            refine hK.out _ _ (bset (bset (bset hH gB) gB) gB) (fun hH => ?_)
            clear hK K
            have fB := store3 (a' := .int .i64 uk) (b' := .int .i64 un) (c' := .string us) fB
            have fA := store3_other (.int .i64 uk) (.int .i64 un) (.string us) (by omega) fA
            refine wpAnyH_done (by kernel_rfl) ?_ _
            go_wp2_with fail
            go_meet
            case rel => exact ⟨rfl, _, _, rfl, rfl, fA, fB, hH⟩
         ·go_simp
          have gA := hH.size
          refine hK.out _ _ (balloc hH) (fun hH => ?_)
          clear hK K
          have fA := heap_alloc_new w3 (.cells #[.int .i64 0, .int .i64 0, .string ⟨#[]⟩] 30)
          have lA : w3.heap.size < (w3.alloc (.cells #[.int .i64 0, .int .i64 0, .string ⟨#[]⟩] 30)).heap.size := by simp
          revert hH fA lA
          generalize w3.alloc (.cells #[.int .i64 0, .int .i64 0, .string ⟨#[]⟩] 30) = W1
          intro hH fA lA
          refine wpAnyH_ready (rs := [5, 7]) (by kernel_rfl) (by simp) ?_
          refine (AllReadyH.cons (o := ⟨_, _, _, _, _, _⟩) rfl (fun K hK => ?_) (AllReadyH.cons (o := ⟨_, _, _, _, _, _⟩) rfl (fun K hK => ?_) AllReadyH.nil))
          ·go_simp
           refine (H5.out j ⟨uk, un, us⟩ HU.out _ (below_step HB.out.2.2 hH)).mono ?_
           rintro e w3 ⟨rfl, hb⟩
           refine hK.out _ _ (below_step hH hb) (fun hH => ?_)
           have fA := (hb.block _ lA).trans fA; have lA := lt_step hb lA
           clear hb hK K
           refine wRd 7 (by kernel_rfl) rfl (fun K hK => ?_)
           ·go_simp
            have gB := hH.size
            refine hK.out _ _ (balloc hH) (fun hH => ?_)
            clear hK K
            have fA := (Below.heap_alloc _ (.cells #[.int .i64 0, .int .i64 0, .string ⟨#[]⟩] 30) _ lA).trans fA
            have hne := Nat.ne_of_lt lA
            have hen := Ne.symm hne
            have fB := heap_alloc_new w3 (.cells #[.int .i64 0, .int .i64 0, .string ⟨#[]⟩] 30)
            have lB : w3.heap.size < (w3.alloc (.cells #[.int .i64 0, .int .i64 0, .string ⟨#[]⟩] 30)).heap.size := by simp
            have lA := lt_step (below1 w3 (.cells #[.int .i64 0, .int .i64 0, .string ⟨#[]⟩] 30)) lA
            revert hH fA lA fB lB
            generalize w3.alloc (.cells #[.int .i64 0, .int .i64 0, .string ⟨#[]⟩] 30) = W1
            intro hH fA fB lB lA
            refine wRd 8 (by kernel_rfl) rfl (fun K hK => ?_)
            have c0 := (three fA).1; have c1 := (three fA).2.1; have c2 := (three fA).2.2.1; have f0 := (three fA).2.2.2.1; have f1 := (three fA).2.2.2.2.1; have f2 := (three fA).2.2.2.2.2
            go_simp
            clear c0 c1 c2 f0 f1 f2
            refine hK.out _ _ (bset (bset (bset hH gA) gA) gA) (fun hH => ?_)
            clear hK K
            have fA := store3 (a' := .int .i64 tk) (b' := .int .i64 tn) (c' := .string ts) fA
            have fB := store3_other (.int .i64 tk) (.int .i64 tn) (.string ts) (by omega) fB
            revert hH fA fB
            generalize World.setCell (World.setCell (World.setCell _ _ _) _ _) _ _ = W2
            intro hH fA fB
            refine wRd 9 (by kernel_rfl) rfl (fun K hK => ?_)
            have c0 := (three fB).1; have c1 := (three fB).2.1; have c2 := (three fB).2.2.1; have f0 := (three fB).2.2.2.1; have f1 := (three fB).2.2.2.2.1; have f2 := (three fB).2.2.2.2.2
            go_simp
            clear c0 c1 c2 f0 f1 f2
            refine hK.out _ _ (bset (bset (bset hH gB) gB) gB) (fun hH => ?_)
            clear hK K
            have fB := store3 (a' := .int .i64 uk) (b' := .int .i64 un) (c' := .string us) fB
            have fA := store3_other (.int .i64 uk) (.int .i64 un) (.string us) (by omega) fA
            refine wpAnyH_done (by kernel_rfl) ?_ _
            go_wp2_with fail
            go_meet
            case rel => exact ⟨rfl, _, _, rfl, rfl, fA, fB, hH⟩
          ·go_simp
           have gB := hH.size
           refine hK.out _ _ (balloc hH) (fun hH => ?_)
           clear hK K
           have fA := (Below.heap_alloc _ (.cells #[.int .i64 0, .int .i64 0, .string ⟨#[]⟩] 30) _ lA).trans fA
           have hne := Nat.ne_of_lt lA
           have hen := Ne.symm hne
           have fB := heap_alloc_new W1 (.cells #[.int .i64 0, .int .i64 0, .string ⟨#[]⟩] 30)
           have lB : W1.heap.size < (W1.alloc (.cells #[.int .i64 0, .int .i64 0, .string ⟨#[]⟩] 30)).heap.size := by simp
           have lA := lt_step (below1 W1 (.cells #[.int .i64 0, .int .i64 0, .string ⟨#[]⟩] 30)) lA
           revert hH fA lA fB lB
           generalize W1.alloc (.cells #[.int .i64 0, .int .i64 0, .string ⟨#[]⟩] 30) = W1
           intro hH fA fB lB lA
           refine wRd 5 (by kernel_rfl) rfl (fun K hK => ?_)
           ·go_simp
            refine (H5.out j ⟨uk, un, us⟩ HU.out _ (below_step HB.out.2.2 hH)).mono ?_
            rintro e w3 ⟨rfl, hb⟩
            refine hK.out _ _ (below_step hH hb) (fun hH => ?_)
            have fA := (hb.block _ lA).trans fA; have lA := lt_step hb lA
            have fB := (hb.block _ lB).trans fB; have lB := lt_step hb lB
            clear hb hK K
            refine wRd 8 (by kernel_rfl) rfl (fun K hK => ?_)
            have c0 := (three fA).1; have c1 := (three fA).2.1; have c2 := (three fA).2.2.1; have f0 := (three fA).2.2.2.1; have f1 := (three fA).2.2.2.2.1; have f2 := (three fA).2.2.2.2.2
            go_simp
            clear c0 c1 c2 f0 f1 f2
            refine hK.out _ _ (bset (bset (bset hH gA) gA) gA) (fun hH => ?_)
            clear hK K
            have fA := store3 (a' := .int .i64 tk) (b' := .int .i64 tn) (c' := .string ts) fA
            have fB := store3_other (.int .i64 tk) (.int .i64 tn) (.string ts) (by omega) fB
            revert hH fA fB
            generalize World.setCell (World.setCell (World.setCell _ _ _) _ _) _ _ = W2
            intro hH fA fB
            refine wRd 9 (by kernel_rfl) rfl (fun K hK => ?_)
            have c0 := (three fB).1; have c1 := (three fB).2.1; have c2 := (three fB).2.2.1; have f0 := (three fB).2.2.2.1; have f1 := (three fB).2.2.2.2.1; have f2 := (three fB).2.2.2.2.2
            go_simp
            clear c0 c1 c2 f0 f1 f2
            refine hK.out _ _ (bset (bset (bset hH gB) gB) gB) (fun hH => ?_)
            clear hK K
            have fB := store3 (a' := .int .i64 uk) (b' := .int .i64 un) (c' := .string us) fB
            have fA := store3_other (.int .i64 uk) (.int .i64 un) (.string us) (by omega) fA
            refine wpAnyH_done (by kernel_rfl) ?_ _
            go_wp2_with fail
            go_meet
            case rel => exact ⟨rfl, _, _, rfl, rfl, fA, fB, hH⟩
         ·go_simp
          have gB := hH.size
          refine hK.out _ _ (balloc hH) (fun hH => ?_)
          clear hK K
          have fB := heap_alloc_new w3 (.cells #[.int .i64 0, .int .i64 0, .string ⟨#[]⟩] 30)
          have lB : w3.heap.size < (w3.alloc (.cells #[.int .i64 0, .int .i64 0, .string ⟨#[]⟩] 30)).heap.size := by simp
          revert hH fB lB
          generalize w3.alloc (.cells #[.int .i64 0, .int .i64 0, .string ⟨#[]⟩] 30) = W1
          intro hH fB lB
          refine wpAnyH_ready (rs := [5, 6]) (by kernel_rfl) (by simp) ?_
          refine (AllReadyH.cons (o := ⟨_, _, _, _, _, _⟩) rfl (fun K hK => ?_) (AllReadyH.cons (o := ⟨_, _, _, _, _, _⟩) rfl (fun K hK => ?_) AllReadyH.nil))
          ·go_simp
           refine (H5.out j ⟨uk, un, us⟩ HU.out _ (below_step HB.out.2.2 hH)).mono ?_
           rintro e w3 ⟨rfl, hb⟩
           refine hK.out _ _ (below_step hH hb) (fun hH => ?_)
           have fB := (hb.block _ lB).trans fB; have lB := lt_step hb lB
           clear hb hK K
           refine wRd 6 (by kernel_rfl) rfl (fun K hK => ?_)
           ·go_simp
            have gA := hH.size
            refine hK.out _ _ (balloc hH) (fun hH => ?_)
            clear hK K
            have fB := (Below.heap_alloc _ (.cells #[.int .i64 0, .int .i64 0, .string ⟨#[]⟩] 30) _ lB).trans fB
            have hne := Nat.ne_of_lt lB
            have hen := Ne.symm hne
            have fA := heap_alloc_new w3 (.cells #[.int .i64 0, .int .i64 0, .string ⟨#[]⟩] 30)
            have lA : w3.heap.size < (w3.alloc (.cells #[.int .i64 0, .int .i64 0, .string ⟨#[]⟩] 30)).heap.size := by simp
            have lB := lt_step (below1 w3 (.cells #[.int .i64 0, .int .i64 0, .string ⟨#[]⟩] 30)) lB
            revert hH fA lA fB lB
            generalize w3.alloc (.cells #[.int .i64 0, .int .i64 0, .string ⟨#[]⟩] 30) = W1
            intro hH fB fA lA lB
            refine wRd 8 (by kernel_rfl) rfl (fun K hK => ?_)
            have c0 := (three fA).1; have c1 := (three fA).2.1; have c2 := (three fA).2.2.1; have f0 := (three fA).2.2.2.1; have f1 := (three fA).2.2.2.2.1; have f2 := (three fA).2.2.2.2.2
            go_simp
            clear c0 c1 c2 f0 f1 f2
            refine hK.out _ _ (bset (bset (bset hH gA) gA) gA) (fun hH => ?_)
            clear hK K
            have fA := store3 (a' := .int .i64 tk) (b' := .int .i64 tn) (c' := .string ts) fA
            have fB := store3_other (.int .i64 tk) (.int .i64 tn) (.string ts) (by omega) fB
            revert hH fA fB
            generalize World.setCell (World.setCell (World.setCell _ _ _) _ _) _ _ = W2
            intro hH fA fB
            refine wRd 9 (by kernel_rfl) rfl (fun K hK => ?_)
            have c0 := (three fB).1; have c1 := (three fB).2.1; have c2 := (three fB).2.2.1; have f0 := (three fB).2.2.2.1; have f1 := (three fB).2.2.2.2.1; have f2 := (three fB).2.2.2.2.2
            go_simp
            clear c0 c1 c2 f0 f1 f2
            refine hK.out _ _ (bset (bset (bset hH gB) gB) gB) (fun hH => ?_)
            clear hK K
            have fB := store3 (a' := .int .i64 uk) (b' := .int .i64 un) (c' := .string us) fB
            have fA := store3_other (.int .i64 uk) (.int .i64 un) (.string us) (by omega) fA
            refine wpAnyH_done (by kernel_rfl) ?_ _
            go_wp2_with fail
            go_meet
            case rel => exact ⟨rfl, _, _, rfl, rfl, fA, fB, hH⟩
          ·go_simp
           have gA := hH.size
           refine hK.out _ _ (balloc hH) (fun hH => ?_)
           clear hK K
           have fB := (Below.heap_alloc _ (.cells #[.int .i64 0, .int .i64 0, .string ⟨#[]⟩] 30) _ lB).trans fB
           have hne := Nat.ne_of_lt lB
           have hen := Ne.symm hne
           have fA := heap_alloc_new W1 (.cells #[.int .i64 0, .int .i64 0, .string ⟨#[]⟩] 30)
           have lA : W1.heap.size < (W1.alloc (.cells #[.int .i64 0, .int .i64 0, .string ⟨#[]⟩] 30)).heap.size := by simp
           have lB := lt_step (below1 W1 (.cells #[.int .i64 0, .int .i64 0, .string ⟨#[]⟩] 30)) lB
           revert hH fA lA fB lB
           generalize W1.alloc (.cells #[.int .i64 0, .int .i64 0, .string ⟨#[]⟩] 30) = W1
           intro hH fB fA lA lB
           refine wRd 5 (by kernel_rfl) rfl (fun K hK => ?_)
           ·go_simp
            refine (H5.out j ⟨uk, un, us⟩ HU.out _ (below_step HB.out.2.2 hH)).mono ?_
            rintro e w3 ⟨rfl, hb⟩
            refine hK.out _ _ (below_step hH hb) (fun hH => ?_)
            have fA := (hb.block _ lA).trans fA; have lA := lt_step hb lA
            have fB := (hb.block _ lB).trans fB; have lB := lt_step hb lB
            clear hb hK K
            refine wRd 8 (by kernel_rfl) rfl (fun K hK => ?_)
            have c0 := (three fA).1; have c1 := (three fA).2.1; have c2 := (three fA).2.2.1; have f0 := (three fA).2.2.2.1; have f1 := (three fA).2.2.2.2.1; have f2 := (three fA).2.2.2.2.2
            go_simp
            clear c0 c1 c2 f0 f1 f2
            refine hK.out _ _ (bset (bset (bset hH gA) gA) gA) (fun hH => ?_)
            clear hK K
            have fA := store3 (a' := .int .i64 tk) (b' := .int .i64 tn) (c' := .string ts) fA
            have fB := store3_other (.int .i64 tk) (.int .i64 tn) (.string ts) (by omega) fB
            revert hH fA fB
            generalize World.setCell (World.setCell (World.setCell _ _ _) _ _) _ _ = W2
            intro hH fA fB
            refine wRd 9 (by kernel_rfl) rfl (fun K hK => ?_)
            have c0 := (three fB).1; have c1 := (three fB).2.1; have c2 := (three fB).2.2.1; have f0 := (three fB).2.2.2.1; have f1 := (three fB).2.2.2.2.1; have f2 := (three fB).2.2.2.2.2
            go_simp
            clear c0 c1 c2 f0 f1 f2
            refine hK.out _ _ (bset (bset (bset hH gB) gB) gB) (fun hH => ?_)
            clear hK K
            have fB := store3 (a' := .int .i64 uk) (b' := .int .i64 un) (c' := .string us) fB
            have fA := store3_other (.int .i64 uk) (.int .i64 un) (.string us) (by omega) fA
            refine wpAnyH_done (by kernel_rfl) ?_ _
            go_wp2_with fail
            go_meet
            case rel => exact ⟨rfl, _, _, rfl, rfl, fA, fB, hH⟩
        ·go_simp
         have gA := hH.size
         refine hK.out _ _ (balloc hH) (fun hH => ?_)
         clear hK K
         have fA := heap_alloc_new W (.cells #[.int .i64 0, .int .i64 0, .string ⟨#[]⟩] 30)
         have lA : W.heap.size < (W.alloc (.cells #[.int .i64 0, .int .i64 0, .string ⟨#[]⟩] 30)).heap.size := by simp
         revert hH fA lA
         generalize W.alloc (.cells #[.int .i64 0, .int .i64 0, .string ⟨#[]⟩] 30) = W1
         intro hH fA lA
         refine wpAnyH_ready (rs := [2, 7]) (by kernel_rfl) (by simp) ?_
         refine (AllReadyH.cons (o := ⟨_, _, _, _, _, _⟩) rfl (fun K hK => ?_) (AllReadyH.cons (o := ⟨_, _, _, _, _, _⟩) rfl (fun K hK => ?_) AllReadyH.nil))
         ·go_simp
          refine (H4.out j ⟨tk, tn, ts⟩ HT.out _ (below_step HB.out.2.2 hH)).mono ?_
          rintro e w3 ⟨rfl, hb⟩
          refine hK.out _ _ (below_step hH hb) (fun hH => ?_)
          have fA := (hb.block _ lA).trans fA; have lA := lt_step hb lA
          clear hb hK K
          refine wpAnyH_ready (rs := [5, 7]) (by kernel_rfl) (by simp) ?_
          refine (AllReadyH.cons (o := ⟨_, _, _, _, _, _⟩) rfl (fun K hK => ?_) (AllReadyH.cons (o := ⟨_, _, _, _, _, _⟩) rfl (fun K hK => ?_) AllReadyH.nil))
          ·go_simp
           refine (H5.out j ⟨uk, un, us⟩ HU.out _ (below_step HB.out.2.2 hH)).mono ?_
           rintro e w3 ⟨rfl, hb⟩
           refine hK.out _ _ (below_step hH hb) (fun hH => ?_)
           have fA := (hb.block _ lA).trans fA; have lA := lt_step hb lA
           clear hb hK K
           refine wRd 7 (by kernel_rfl) rfl (fun K hK => ?_)
           ·go_simp
            have gB := hH.size
            refine hK.out _ _ (balloc hH) (fun hH => ?_)
            clear hK K
            have fA := (Below.heap_alloc _ (.cells #[.int .i64 0, .int .i64 0, .string ⟨#[]⟩] 30) _ lA).trans fA
            have hne := Nat.ne_of_lt lA
            have hen := Ne.symm hne
            have fB := heap_alloc_new w3 (.cells #[.int .i64 0, .int .i64 0, .string ⟨#[]⟩] 30)
            have lB : w3.heap.size < (w3.alloc (.cells #[.int .i64 0, .int .i64 0, .string ⟨#[]⟩] 30)).heap.size := by simp
            have lA := lt_step (below1 w3 (.cells #[.int .i64 0, .int .i64 0, .string ⟨#[]⟩] 30)) lA
            revert hH fA lA fB lB
            generalize w3.alloc (.cells #[.int .i64 0, .int .i64 0, .string ⟨#[]⟩] 30) = W1
            intro hH fA fB lB lA
            refine wRd 8 (by kernel_rfl) rfl (fun K hK => ?_)
            have c0 := (three fA).1; have c1 := (three fA).2.1; have c2 := (three fA).2.2.1; have f0 := (three fA).2.2.2.1; have f1 := (three fA).2.2.2.2.1; have f2 := (three fA).2.2.2.2.2
            go_simp
            clear c0 c1 c2 f0 f1 f2
            refine hK.out _ _ (bset (bset (bset hH gA) gA) gA) (fun hH => ?_)
            clear hK K
            have fA := store3 (a' := .int .i64 tk) (b' := .int .i64 tn) (c' := .string ts) fA
            have fB := store3_other (.int .i64 tk) (.int .i64 tn) (.string ts) (by omega) fB
            revert hH fA fB
            generalize World.setCell (World.setCell (World.setCell _ _ _) _ _) _ _ = W2
            intro hH fA fB
            refine wRd 9 (by kernel_rfl) rfl (fun K hK => ?_)
            have c0 := (three fB).1; have c1 := (three fB).2.1; have c2 := (three fB).2.2.1; have f0 := (three fB).2.2.2.1; have f1 := (three fB).2.2.2.2.1; have f2 := (three fB).2.2.2.2.2
            go_simp
            clear c0 c1 c2 f0 f1 f2
            refine hK.out _ _ (bset (bset (bset hH gB) gB) gB) (fun hH => ?_)
            clear hK K
            have fB := store3 (a' := .int .i64 uk) (b' := .int .i64 un) (c' := .string us) fB
            have fA := store3_other (.int .i64 uk) (.int .i64 un) (.string us) (by omega) fA
            refine wpAnyH_done (by kernel_rfl) ?_ _
            go_wp2_with fail
            go_meet
            case rel => exact ⟨rfl, _, _, rfl, rfl, fA, fB, hH⟩
          ·go_simp
           have gB := hH.size
           refine hK.out _ _ (balloc hH) (fun hH => ?_)
           clear hK K
           have fA := (Below.heap_alloc _ (.cells #[.int .i64 0, .int .i64 0, .string ⟨#[]⟩] 30) _ lA).trans fA
           have hne := Nat.ne_of_lt lA
           have hen := Ne.symm hne
           have fB := heap_alloc_new w3 (.cells #[.int .i64 0, .int .i64 0, .string ⟨#[]⟩] 30)
           have lB : w3.heap.size < (w3.alloc (.cells #[.int .i64 0, .int .i64 0, .string ⟨#[]⟩] 30)).heap.size := by simp
           have lA := lt_step (below1 w3 (.cells #[.int .i64 0, .int .i64 0, .string ⟨#[]⟩] 30)) lA
           revert hH fA lA fB lB
           generalize w3.alloc (.cells #[.int .i64 0, .int .i64 0, .string ⟨#[]⟩] 30) = W1
           intro hH fA fB lB lA
           refine wRd 5 (by kernel_rfl) rfl (fun K hK => ?_)
           ·go_simp
            refine (H5.out j ⟨uk, un, us⟩ HU.out _ (below_step HB.out.2.2 hH)).mono ?_
            rintro e w3 ⟨rfl, hb⟩
            refine hK.out _ _ (below_step hH hb) (fun hH => ?_)
            have fA := (hb.block _ lA).trans fA; have lA := lt_step hb lA
            have fB := (hb.block _ lB).trans fB; have lB := lt_step hb lB
            clear hb hK K
            refine wRd 8 (by kernel_rfl) rfl (fun K hK => ?_)
            have c0 := (three fA).1; have c1 := (three fA).2.1; have c2 := (three fA).2.2.1; have f0 := (three fA).2.2.2.1; have f1 := (three fA).2.2.2.2.1; have f2 := (three fA).2.2.2.2.2
            go_simp
            clear c0 c1 c2 f0 f1 f2
            refine hK.out _ _ (bset (bset (bset hH gA) gA) gA) (fun hH => ?_)
            clear hK K
            have fA := store3 (a' := .int .i64 tk) (b' := .int .i64 tn) (c' := .string ts) fA
            have fB := store3_other (.int .i64 tk) (.int .i64 tn) (.string ts) (by omega) fB
            revert hH fA fB
            generalize World.setCell (World.setCell (World.setCell _ _ _) _ _) _ _ = W2
            intro hH fA fB
            refine wRd 9 (by kernel_rfl) rfl (fun K hK => ?_)
            have c0 := (three fB).1; have c1 := (three fB).2.1; have c2 := (three fB).2.2.1; have f0 := (three fB).2.2.2.1; have f1 := (three fB).2.2.2.2.1; have f2 := (three fB).2.2.2.2.2
            go_simp
            clear c0 c1 c2 f0 f1 f2
            refine hK.out _ _ (bset (bset (bset hH gB) gB) gB) (fun hH => ?_)
            clear hK K
            have fB := store3 (a' := .int .i64 uk) (b' := .int .i64 un) (c' := .string us) fB
            have fA := store3_other (.int .i64 uk) (.int .i64 un) (.string us) (by omega) fA
            refine wpAnyH_done (by kernel_rfl) ?_ _
            go_wp2_with fail
            go_meet
            case rel => exact ⟨rfl, _, _, rfl, rfl, fA, fB, hH⟩
         ·go_simp
          have gB := hH.size
          refine hK.out _ _ (balloc hH) (fun hH => ?_)
          clear hK K
          have fA := (Below.heap_alloc _ (.cells #[.int .i64 0, .int .i64 0, .string ⟨#[]⟩] 30) _ lA).trans fA
          have hne := Nat.ne_of_lt lA
          have hen := Ne.symm hne
          have fB := heap_alloc_new W1 (.cells #[.int .i64 0, .int .i64 0, .string ⟨#[]⟩] 30)
          have lB : W1.heap.size < (W1.alloc (.cells #[.int .i64 0, .int .i64 0, .string ⟨#[]⟩] 30)).heap.size := by simp
          have lA := lt_step (below1 W1 (.cells #[.int .i64 0, .int .i64 0, .string ⟨#[]⟩] 30)) lA
          revert hH fA lA fB lB
          generalize W1.alloc (.cells #[.int .i64 0, .int .i64 0, .string ⟨#[]⟩] 30) = W1
          intro hH fA fB lB lA
          refine wRd 2 (by kernel_rfl) rfl (fun K hK => ?_)
          ·go_simp
           refine (H4.out j ⟨tk, tn, ts⟩ HT.out _ (below_step HB.out.2.2 hH)).mono ?_
           rintro e w3 ⟨rfl, hb⟩
           refine hK.out _ _ (below_step hH hb) (fun hH => ?_)
           have fA := (hb.block _ lA).trans fA; have lA := lt_step hb lA
           have fB := (hb.block _ lB).trans fB; have lB := lt_step hb lB
           clear hb hK K
           refine wRd 5 (by kernel_rfl) rfl (fun K hK => ?_)
           ·go_simp
            refine (H5.out j ⟨uk, un, us⟩ HU.out _ (below_step HB.out.2.2 hH)).mono ?_
            rintro e w3 ⟨rfl, hb⟩
            refine hK.out _ _ (below_step hH hb) (fun hH => ?_)
            have fA := (hb.block _ lA).trans fA; have lA := lt_step hb lA
            have fB := (hb.block _ lB).trans fB; have lB := lt_step hb lB
            clear hb hK K
            refine wRd 8 (by kernel_rfl) rfl (fun K hK => ?_)
            have c0 := (three fA).1; have c1 := (three fA).2.1; have c2 := (three fA).2.2.1; have f0 := (three fA).2.2.2.1; have f1 := (three fA).2.2.2.2.1; have f2 := (three fA).2.2.2.2.2
            go_simp
            clear c0 c1 c2 f0 f1 f2
            refine hK.out _ _ (bset (bset (bset hH gA) gA) gA) (fun hH => ?_)
            clear hK K
            have fA := store3 (a' := .int .i64 tk) (b' := .int .i64 tn) (c' := .string ts) fA
            have fB := store3_other (.int .i64 tk) (.int .i64 tn) (.string ts) (by omega) fB
            revert hH fA fB
            generalize World.setCell (World.setCell (World.setCell _ _ _) _ _) _ _ = W2
            intro hH fA fB
            refine wRd 9 (by kernel_rfl) rfl (fun K hK => ?_)
            have c0 := (three fB).1; have c1 := (three fB).2.1; have c2 := (three fB).2.2.1; have f0 := (three fB).2.2.2.1; have f1 := (three fB).2.2.2.2.1; have f2 := (three fB).2.2.2.2.2
            go_simp
            clear c0 c1 c2 f0 f1 f2
            refine hK.out _ _ (bset (bset (bset hH gB) gB) gB) (fun hH => ?_)
            clear hK K
            have fB := store3 (a' := .int .i64 uk) (b' := .int .i64 un) (c' := .string us) fB
            have fA := store3_other (.int .i64 uk) (.int .i64 un) (.string us) (by omega) fA
            refine wpAnyH_done (by kernel_rfl) ?_ _
            go_wp2_with fail
            go_meet
            case rel => exact ⟨rfl, _, _, rfl, rfl, fA, fB, hH⟩
        ·go_simp
         have gB := hH.size
         refine hK.out _ _ (balloc hH) (fun hH => ?_)
         clear hK K
         have fB := heap_alloc_new W (.cells #[.int .i64 0, .int .i64 0, .string ⟨#[]⟩] 30)
         have lB : W.heap.size < (W.alloc (.cells #[.int .i64 0, .int .i64 0, .string ⟨#[]⟩] 30)).heap.size := by simp
         revert hH fB lB
         generalize W.alloc (.cells #[.int .i64 0, .int .i64 0, .string ⟨#[]⟩] 30) = W1
         intro hH fB lB
         refine wpAnyH_ready (rs := [2, 6]) (by kernel_rfl) (by simp) ?_
         refine (AllReadyH.cons (o := ⟨_, _, _, _, _, _⟩) rfl (fun K hK => ?_) (AllReadyH.cons (o := ⟨_, _, _, _, _, _⟩) rfl (fun K hK => ?_) AllReadyH.nil))
         ·go_simp
          refine (H4.out j ⟨tk, tn, ts⟩ HT.out _ (below_step HB.out.2.2 hH)).mono ?_
          rintro e w3 ⟨rfl, hb⟩
          refine hK.out _ _ (below_step hH hb) (fun hH => ?_)
          have fB := (hb.block _ lB).trans fB; have lB := lt_step hb lB
          clear hb hK K
          refine wpAnyH_ready (rs := [5, 6]) (by kernel_rfl) (by simp) ?_
          refine (AllReadyH.cons (o := ⟨_, _, _, _, _, _⟩) rfl (fun K hK => ?_) (AllReadyH.cons (o := ⟨_, _, _, _, _, _⟩) rfl (fun K hK => ?_) AllReadyH.nil))
          ·go_simp
           refine (H5.out j ⟨uk, un, us⟩ HU.out _ (below_step HB.out.2.2 hH)).mono ?_
           rintro e w3 ⟨rfl, hb⟩
           refine hK.out _ _ (below_step hH hb) (fun hH => ?_)
           have fB := (hb.block _ lB).trans fB; have lB := lt_step hb lB
           clear hb hK K
           refine wRd 6 (by kernel_rfl) rfl (fun K hK => ?_)
           ·go_simp
            have gA := hH.size
            refine hK.out _ _ (balloc hH) (fun hH => ?_)
            clear hK K
            have fB := (Below.heap_alloc _ (.cells #[.int .i64 0, .int .i64 0, .string ⟨#[]⟩] 30) _ lB).trans fB
            have hne := Nat.ne_of_lt lB
            have hen := Ne.symm hne
            have fA := heap_alloc_new w3 (.cells #[.int .i64 0, .int .i64 0, .string ⟨#[]⟩] 30)
            have lA : w3.heap.size < (w3.alloc (.cells #[.int .i64 0, .int .i64 0, .string ⟨#[]⟩] 30)).heap.size := by simp
            have lB := lt_step (below1 w3 (.cells #[.int .i64 0, .int .i64 0, .string ⟨#[]⟩] 30)) lB
            revert hH fA lA fB lB
            generalize w3.alloc (.cells #[.int .i64 0, .int .i64 0, .string ⟨#[]⟩] 30) = W1
            intro hH fB fA lA lB
            refine wRd 8 (by kernel_rfl) rfl (fun K hK => ?_)
            have c0 := (three fA).1; have c1 := (three fA).2.1; have c2 := (three fA).2.2.1; have f0 := (three fA).2.2.2.1; have f1 := (three fA).2.2.2.2.1; have f2 := (three fA).2.2.2.2.2
            go_simp
            clear c0 c1 c2 f0 f1 f2
            refine hK.out _ _ (bset (bset (bset hH gA) gA) gA) (fun hH => ?_)
            clear hK K
            have fA := store3 (a' := .int .i64 tk) (b' := .int .i64 tn) (c' := .string ts) fA
            have fB := store3_other (.int .i64 tk) (.int .i64 tn) (.string ts) (by omega) fB
            revert hH fA fB
            generalize World.setCell (World.setCell (World.setCell _ _ _) _ _) _ _ = W2
            intro hH fA fB
            refine wRd 9 (by kernel_rfl) rfl (fun K hK => ?_)
            have c0 := (three fB).1; have c1 := (three fB).2.1; have c2 := (three fB).2.2.1; have f0 := (three fB).2.2.2.1; have f1 := (three fB).2.2.2.2.1; have f2 := (three fB).2.2.2.2.2
            go_simp
            clear c0 c1 c2 f0 f1 f2
            refine hK.out _ _ (bset (bset (bset hH gB) gB) gB) (fun hH => ?_)
            clear hK K
            have fB := store3 (a' := .int .i64 uk) (b' := .int .i64 un) (c' := .string us) fB
            have fA := store3_other (.int .i64 uk) (.int .i64 un) (.string us) (by omega) fA
            refine wpAnyH_done (by kernel_rfl) ?_ _
            go_wp2_with fail
            go_meet
            case rel => exact ⟨rfl, _, _, rfl, rfl, fA, fB, hH⟩
          ·go_simp
           have gA := hH.size
           refine hK.out _ _ (balloc hH) (fun hH => ?_)
           clear hK K
           have fB := (Below.heap_alloc _ (.cells #[.int .i64 0, .int .i64 0, .string ⟨#[]⟩] 30) _ lB).trans fB
           have hne := Nat.ne_of_lt lB
           have hen := Ne.symm hne
           have fA := heap_alloc_new w3 (.cells #[.int .i64 0, .int .i64 0, .string ⟨#[]⟩] 30)
           have lA : w3.heap.size < (w3.alloc (.cells #[.int .i64 0, .int .i64 0, .string ⟨#[]⟩] 30)).heap.size := by simp
           have lB := lt_step (below1 w3 (.cells #[.int .i64 0, .int .i64 0, .string ⟨#[]⟩] 30)) lB
           revert hH fA lA fB lB
           generalize w3.alloc (.cells #[.int .i64 0, .int .i64 0, .string ⟨#[]⟩] 30) = W1
           intro hH fB fA lA lB
           refine wRd 5 (by kernel_rfl) rfl (fun K hK => ?_)
           ·go_simp
            refine (H5.out j ⟨uk, un, us⟩ HU.out _ (below_step HB.out.2.2 hH)).mono ?_
            rintro e w3 ⟨rfl, hb⟩
            refine hK.out _ _ (below_step hH hb) (fun hH => ?_)
            have fA := (hb.block _ lA).trans fA; have lA := lt_step hb lA
            have fB := (hb.block _ lB).trans fB; have lB := lt_step hb lB
            clear hb hK K
            refine wRd 8 (by kernel_rfl) rfl (fun K hK => ?_)
            have c0 := (three fA).1; have c1 := (three fA).2.1; have c2 := (three fA).2.2.1; have f0 := (three fA).2.2.2.1; have f1 := (three fA).2.2.2.2.1; have f2 := (three fA).2.2.2.2.2
            go_simp
            clear c0 c1 c2 f0 f1 f2
            refine hK.out _ _ (bset (bset (bset hH gA) gA) gA) (fun hH => ?_)
            clear hK K
            have fA := store3 (a' := .int .i64 tk) (b' := .int .i64 tn) (c' := .string ts) fA
            have fB := store3_other (.int .i64 tk) (.int .i64 tn) (.string ts) (by omega) fB
            revert hH fA fB
            generalize World.setCell (World.setCell (World.setCell _ _ _) _ _) _ _ = W2
            intro hH fA fB
            refine wRd 9 (by kernel_rfl) rfl (fun K hK => ?_)
            have c0 := (three fB).1; have c1 := (three fB).2.1; have c2 := (three fB).2.2.1; have f0 := (three fB).2.2.2.1; have f1 := (three fB).2.2.2.2.1; have f2 := (three fB).2.2.2.2.2
            go_simp
            clear c0 c1 c2 f0 f1 f2
            refine hK.out _ _ (bset (bset (bset hH gB) gB) gB) (fun hH => ?_)
            clear hK K
            have fB := store3 (a' := .int .i64 uk) (b' := .int .i64 un) (c' := .string us) fB
            have fA := store3_other (.int .i64 uk) (.int .i64 un) (.string us) (by omega) fA
            refine wpAnyH_done (by kernel_rfl) ?_ _
            go_wp2_with fail
            go_meet
            case rel => exact ⟨rfl, _, _, rfl, rfl, fA, fB, hH⟩
         ·go_simp
          have gA := hH.size
          refine hK.out _ _ (balloc hH) (fun hH => ?_)
          clear hK K
          have fB := (Below.heap_alloc _ (.cells #[.int .i64 0, .int .i64 0, .string ⟨#[]⟩] 30) _ lB).trans fB
          have hne := Nat.ne_of_lt lB
          have hen := Ne.symm hne
          have fA := heap_alloc_new W1 (.cells #[.int .i64 0, .int .i64 0, .string ⟨#[]⟩] 30)
          have lA : W1.heap.size < (W1.alloc (.cells #[.int .i64 0, .int .i64 0, .string ⟨#[]⟩] 30)).heap.size := by simp
          have lB := lt_step (below1 W1 (.cells #[.int .i64 0, .int .i64 0, .string ⟨#[]⟩] 30)) lB
          revert hH fA lA fB lB
          generalize W1.alloc (.cells #[.int .i64 0, .int .i64 0, .string ⟨#[]⟩] 30) = W1
          intro hH fB fA lA lB
          refine wRd 2 (by kernel_rfl) rfl (fun K hK => ?_)
          ·go_simp
           refine (H4.out j ⟨tk, tn, ts⟩ HT.out _ (below_step HB.out.2.2 hH)).mono ?_
           rintro e w3 ⟨rfl, hb⟩
           refine hK.out _ _ (below_step hH hb) (fun hH => ?_)
           have fA := (hb.block _ lA).trans fA; have lA := lt_step hb lA
           have fB := (hb.block _ lB).trans fB; have lB := lt_step hb lB
           clear hb hK K
           refine wRd 5 (by kernel_rfl) rfl (fun K hK => ?_)
           ·go_simp
            refine (H5.out j ⟨uk, un, us⟩ HU.out _ (below_step HB.out.2.2 hH)).mono ?_
            rintro e w3 ⟨rfl, hb⟩
            refine hK.out _ _ (below_step hH hb) (fun hH => ?_)
            have fA := (hb.block _ lA).trans fA; have lA := lt_step hb lA
            have fB := (hb.block _ lB).trans fB; have lB := lt_step hb lB
            clear hb hK K
            refine wRd 8 (by kernel_rfl) rfl (fun K hK => ?_)
            have c0 := (three fA).1; have c1 := (three fA).2.1; have c2 := (three fA).2.2.1; have f0 := (three fA).2.2.2.1; have f1 := (three fA).2.2.2.2.1; have f2 := (three fA).2.2.2.2.2
            go_simp
            clear c0 c1 c2 f0 f1 f2
            refine hK.out _ _ (bset (bset (bset hH gA) gA) gA) (fun hH => ?_)
            clear hK K
            have fA := store3 (a' := .int .i64 tk) (b' := .int .i64 tn) (c' := .string ts) fA
            have fB := store3_other (.int .i64 tk) (.int .i64 tn) (.string ts) (by omega) fB
            revert hH fA fB
            generalize World.setCell (World.setCell (World.setCell _ _ _) _ _) _ _ = W2
            intro hH fA fB
            refine wRd 9 (by kernel_rfl) rfl (fun K hK => ?_)
            have c0 := (three fB).1; have c1 := (three fB).2.1; have c2 := (three fB).2.2.1; have f0 := (three fB).2.2.2.1; have f1 := (three fB).2.2.2.2.1; have f2 := (three fB).2.2.2.2.2
            go_simp
            clear c0 c1 c2 f0 f1 f2
            refine hK.out _ _ (bset (bset (bset hH gB) gB) gB) (fun hH => ?_)
            clear hK K
            have fB := store3 (a' := .int .i64 uk) (b' := .int .i64 un) (c' := .string us) fB
            have fA := store3_other (.int .i64 uk) (.int .i64 un) (.string us) (by omega) fA
            refine wpAnyH_done (by kernel_rfl) ?_ _
            go_wp2_with fail
            go_meet
            case rel => exact ⟨rfl, _, _, rfl, rfl, fA, fB, hH⟩
       case rest =>
        obtain ⟨rfl, X1, X2, rfl, rfl, fA, fB, hbx⟩ := hcut
        obtain ⟨a0, a1, a2, -, -, -⟩ := three fA
        obtain ⟨b0, b1, b2, -, -, -⟩ := three fB
        have FA : Hid (wc.heap[X1]? = some (.cells #[.int .i64 tk, .int .i64 tn, .string ts] 30 (0, 0))) := fA
        have FB : Hid (wc.heap[X2]? = some (.cells #[.int .i64 uk, .int .i64 un, .string us] 30 (0, 0))) := fB
        have hbxw := HB.out.later hbx
        have HB1 : Hid (Box2 w wc #[.int .i64 k, .int .i64 n, .string ss, .string nm, x] #[.int .i64 k', .int .i64 n', .string ss', .string nm', y]) := hbxw
        have HO1 : Hid (Own wc (w.heap.size + 2) u8 out) := HO.out.later hbx
        have lX : X1 < wc.heap.size := (Array.getElem?_eq_some_iff.1 fA).1
        have lY : X2 < wc.heap.size := (Array.getElem?_eq_some_iff.1 fB).1
        have hol2 : out.length <= 1000000000000 - 1 := by have := HL.out; rw [pl_len] at *; omega
        clear fA fB hbxw hbx HB HO
        cases hv : Tm.var ⟨tk, tn, ts⟩
        ·have G4 : Hid (Tm.var ⟨tk, tn, ts⟩ = false) := hv
         have HG3 : Hid (mGo (fb s) (P.pl.zip A.pl) = mGo out ((P.pl.zip A.pl).drop (j + 1))) := by
          show mGo (fb s) _ = _
          rw [HG2.out, mGo]; simp only [hv]; simp
         clear hv
         go_wp2_with (go_at_call 61; refine (var_any ⟨tk, tn, ts⟩ _).mono ?_; rw [G4.out]; rintro e w3 ⟨rfl, hb3⟩)
         go_roundg g
         case measure => omega
         case rel => exact ⟨j + 1, out, by omega, by go_num, HO1.out.later hb3, by omega, HG3.out, HB1.out.later hb3⟩
        ·have G4 : Hid (Tm.var ⟨tk, tn, ts⟩ = true) := hv
         cases hq : look out tn with
         | some q =>
          have LT : Hid (lookT out tn = q) := by show lookT out tn = q; unfold lookT; rw [hq]; rfl
          have LB : Hid (lookB out tn = true) := by show lookB out tn = true; unfold lookB; rw [hq]; rfl
          have he := run_neq_tm q ⟨uk, un, us⟩
          obtain ⟨qk, qn, qs⟩ := q
          by_cases hqu : Tm.mk qk qn qs = ⟨uk, un, us⟩
          ·have HG3 : Hid (mGo (fb s) (P.pl.zip A.pl) = mGo out ((P.pl.zip A.pl).drop (j + 1))) := by
            show mGo (fb s) _ = _
            rw [HG2.out, mGo]; simp only [hv, hq, hqu]; simp
           rw [decide_eq_true hqu] at he
           clear hqu hq hv
           go_wp2_with (first
            | (go_at_call 61; refine (var_any ⟨tk, tn, ts⟩ _).mono ?_; rw [G4.out]; rintro e w3 ⟨rfl, hb3⟩; have a0' := cell_step hb3 lX a0; have a1' := cell_step hb3 lX a1; have a2' := cell_step hb3 lX a2; have b0' := cell_step hb3 lY b0; have b1' := cell_step hb3 lY b1; have b2' := cell_step hb3 lY b2; have lX' := lt_step hb3 lX; have lY' := lt_step hb3 lY; clear a0 a1 a2 b0 b1 b2)
            | (go_at_call 150; refine (look_any out u8 tn _ ((HO1.out.later hb3).bs (by omega))).mono ?_; rw [LT.out, LB.out]; rintro e w4 ⟨rfl, hb4⟩; have a0 := cell_step hb4 lX' a0'; have a1 := cell_step hb4 lX' a1'; have a2 := cell_step hb4 lX' a2'; have b0 := cell_step hb4 lY' b0'; have b1 := cell_step hb4 lY' b1'; have b2 := cell_step hb4 lY' b2'; have lX2 := lt_step hb4 lX'; have lY2 := lt_step hb4 lY'; clear a0' a1' a2' b0' b1' b2'))
           go_roundg g
           case measure => omega
           case rel =>
            have hbb := below_step (below_step hb3 hb4) (below1 w4 (.cells #[.int .i64 qk, .int .i64 qn, .string qs] 30))
            exact ⟨j + 1, out, by omega, by go_num, HO1.out.later hbb, by omega, HG3.out, HB1.out.later hbb⟩
          ·have HG3 : Hid (mRes P A s = none) := by
            show mRes P A s = none
            unfold mRes
            rw [HM1.out, if_pos rfl, HG2.out, mGo]; simp only [hv, hq, hqu]; simp
           rw [decide_eq_false hqu] at he
           clear hqu hq hv
           go_wp2_with (first
            | (go_at_call 61; refine (var_any ⟨tk, tn, ts⟩ _).mono ?_; rw [G4.out]; rintro e w3 ⟨rfl, hb3⟩; have a0' := cell_step hb3 lX a0; have a1' := cell_step hb3 lX a1; have a2' := cell_step hb3 lX a2; have b0' := cell_step hb3 lY b0; have b1' := cell_step hb3 lY b1; have b2' := cell_step hb3 lY b2; have lX' := lt_step hb3 lX; have lY' := lt_step hb3 lY; clear a0 a1 a2 b0 b1 b2)
            | (go_at_call 150; refine (look_any out u8 tn _ ((HO1.out.later hb3).bs (by omega))).mono ?_; rw [LT.out, LB.out]; rintro e w4 ⟨rfl, hb4⟩; have a0 := cell_step hb4 lX' a0'; have a1 := cell_step hb4 lX' a1'; have a2 := cell_step hb4 lX' a2'; have b0 := cell_step hb4 lY' b0'; have b1 := cell_step hb4 lY' b1'; have b2 := cell_step hb4 lY' b2'; have lX2 := lt_step hb4 lX'; have lY2 := lt_step hb4 lY'; clear a0' a1' a2' b0' b1' b2'))
           go_ret2
           have hbb := below_step (below_step hb3 hb4) (below1 w4 (.cells #[.int .i64 qk, .int .i64 qn, .string qs] 30))
           refine ⟨(HB1.out.later hbb).2.2, ?_⟩
           rw [HG3.out]
           rfl
         | none =>
          have LT : Hid (lookT out tn = zt) := by show lookT out tn = zt; unfold lookT; rw [hq]; rfl
          have LB : Hid (lookB out tn = false) := by show lookB out tn = false; unfold lookB; rw [hq]; rfl
          have HG3 : Hid (mGo (fb s) (P.pl.zip A.pl) = mGo (out ++ [⟨tn, ⟨uk, un, us⟩⟩]) ((P.pl.zip A.pl).drop (j + 1))) := by
           show mGo (fb s) _ = _
           rw [HG2.out, mGo]; simp only [hv, hq]; simp
          clear hq hv
          obtain ⟨i0, hi0, hz0, hz1, hz2⟩ := info_parts Tryz.infoBind
          go_wp2_with (first
            | (go_at_call 61; refine (var_any ⟨tk, tn, ts⟩ _).mono ?_; rw [G4.out]; rintro e w3 ⟨rfl, hb3⟩; have a0' := cell_step hb3 lX a0; have a1' := cell_step hb3 lX a1; have a2' := cell_step hb3 lX a2; have b0' := cell_step hb3 lY b0; have b1' := cell_step hb3 lY b1; have b2' := cell_step hb3 lY b2; have lX' := lt_step hb3 lX; have lY' := lt_step hb3 lY; clear a0 a1 a2 b0 b1 b2)
            | (go_at_call 150; refine (look_any out u8 tn _ ((HO1.out.later hb3).bs (by omega))).mono ?_; rw [LT.out, LB.out]; rintro e w4 ⟨rfl, hb4⟩; have a0 := cell_step hb4 lX' a0'; have a1 := cell_step hb4 lX' a1'; have a2 := cell_step hb4 lX' a2'; have b0 := cell_step hb4 lY' b0'; have b1 := cell_step hb4 lY' b1'; have b2 := cell_step hb4 lY' b2'; have lX2 := lt_step hb4 lX'; have lY2 := lt_step hb4 lY'; clear a0' a1' a2' b0' b1' b2')
            | (at_builtin; refine wpList_append_lies _ rfl _ _ _ rfl (w.heap.size + 2) 144 i0 _ 4 40 Tryz.underlying96 hi0 hz0 hz1 hz2 rfl (by omega) u8 out.length (bcs out) (by rfl) (HO1.out.later (below_step (below_step (below_step hb3 hb4) (below1 w4 _)) (below1 _ _))) ⟨w4.heap.size + 1, 0, none⟩ 1 1 (Bd.cs ⟨tn, ⟨uk, un, us⟩⟩) (by rfl) (by rfl) (World.news_of_block (cs := (Bd.cs ⟨tn, ⟨uk, un, us⟩⟩).toArray) (t := 144) (fr := (0, 0)) (heap_alloc2_new w4 _ _)) (by simp [Value.oneCell', Bd.cs]) (by omega) (by unfold maxLen; omega) (by omega) (by have := HB1.out.lt; have := hb3.size; have := hb4.size; simp; omega) (w4.heap.size + 2) (by simp) ?_; intro gg cap1 w7 hown1 hgrow hat hlt1))
          have hbb := below_step (below_step (below_step hb3 hb4) (below1 w4 (.cells #[.int .i64 0, .int .i64 0, .string ⟨#[]⟩] 30))) (below1 _ (.cells (Bd.cs ⟨tn, ⟨uk, un, us⟩⟩).toArray 144))
          have R : Own w7 (w.heap.size + 2) (.slice (some ⟨gg, 0, none⟩) (out.length + 1) cap1) (out ++ [⟨tn, ⟨uk, un, us⟩⟩]) := by
           unfold Own; rw [bcs_snoc, List.length_append]; exact hown1
          have hlto := (HO1.out.later hbb).lt
          have hbx := HB1.out.later hbb
          have hzz := hbx.lt
          have RB : Hid (Box2 w w7 #[.int .i64 k, .int .i64 n, .string ss, .string nm, x] #[.int .i64 k', .int .i64 n', .string ss', .string nm', y]) := by
           have hne1 : some w.heap.size ≠ u8.ownBlock := fun e => by have := hlto _ e.symm; omega
           have hne2 : some (w.heap.size + 1) ≠ u8.ownBlock := fun e => by have := hlto _ e.symm; omega
           exact ⟨(hgrow.block _ (Nat.lt_of_succ_lt hzz) hne1).trans hbx.1, (hgrow.block _ hzz hne2).trans hbx.2.1, hbx.2.2.grown hgrow hbx.2.2.size (fun q e => by have := hlto _ e; omega)⟩
          have RO : Hid (Own w7 (w.heap.size + 2) (.slice (some ⟨gg, 0, none⟩) (out.length + 1) cap1) (out ++ [⟨tn, ⟨uk, un, us⟩⟩])) := R
          clear hown1 hgrow hat hlt1 R hlto hbx
          go_wp2
          go_roundg g
          case measure => omega
          case rel => exact ⟨j + 1, _, by omega, by go_num, RO.out, by simp; omega, HG3.out, RB.out⟩
      | zero =>
       have hlt : ¬ (j : Int) < (P.pl.length : Int) := by omega
       have hjl : P.pl.length <= j := by omega
       have HR : Hid (mRes P A s = some out) := by
        show mRes P A s = some out
        unfold mRes
        rw [HM1.out, if_pos rfl, HG.out, List.drop_eq_nil_of_le (by rw [List.length_zip]; omega), mGo]
       clear hj hjl HG
       go_wp2_with (go_at_call 151; refine (HS.out out HR.out _ _ _ out HO.out (Nat.le_refl _)).mono ?_; rintro e w6 ⟨rfl, out', ho', hpm, hst, hb6⟩)
       go_ret2
       refine ⟨HB.out.2.2.trans (hb6.mono (by omega)), ?_⟩
       rw [HR.out]
       exact ⟨_, out', rfl, ho'.mono (by omega), hpm, hst⟩
theorem match_any (N : Nat) (hN : N <= 1000000000000) (p a : At) (s : List Bd) (x y v : Value) (w : World) (hx : Ts w x p.args) (hy : Ts w y a.args) (hv : Bs w v s) (hlen : s.length + p.args.length + 1 <= N) (hsort : ∀ out, mRes p a s = some out -> SortOK out.length) :
  Calls Tryz.prog 120 #[p.v x, a.v y, v] w (MPost w (mRes p a s)) := by
 obtain ⟨⟨k, n, ss⟩, nm, l⟩ := p
 obtain ⟨⟨k', n', ss'⟩, nm', l'⟩ := a
 exact match_go N hN k n k' n' ss nm ss' nm' l l' _ _ rfl rfl s x y v w hx hy hv hlen hsort
end Go.Proofs.YtechceagghcipabGreatDoor
