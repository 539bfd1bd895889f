/-
  variables: the numbers of a clause's variables, one by one.
-/
import Derived.Test.YtnikmcmkbjjcdaaGreatDoorCL3
namespace Go.Proofs.YtnikmcmkbjjcdaaGreatDoor
open Go.RowKit Go.Shelf
attribute [local go_sem] Oper.semAt_some

theorem variables_any (c : Cm) (w : World) (h : c.ok w) :
    Calls Tryz.prog 92 #[c.v] w fun e w' => e = .returned (.func (.func 108) #[] #[.pointer (some ⟨w.heap.size, 0, none⟩)]) ∧ w' = w.alloc (.cells c.cs 37) := by
  obtain ⟨⟨a, n, cap, h1⟩, ⟨a', cap', h2⟩, ⟨a'', cap'', h3⟩, -, -⟩ := h.shape
  obtain ⟨⟨⟨⟨k, m, s⟩, nm, l⟩, hx⟩, body, bv, tests, tv⟩ := c
  simp only at h1 h2 h3
  subst h1 h2 h3
  go_enter Tryz.func92, Tryz.ntmps92
  go_wp2
  go_ret
  exact ⟨rfl, rfl⟩
theorem below_grown {W W' : World} (h : Below W.heap.size W W') : W.grownBy W' none := ⟨h.os, h.tape, h.output, h.size, fun k hk _ => h.block k hk⟩
theorem own_later {β : Type} {B : Nat} {I : β → World → Prop} (h : OwnFrom B I) {s : β} {W W' : World} (hs : I s W) (hb : Below W.heap.size W W') : I s W' :=
  h s W W' none hs (below_grown hb) (fun r e => by cases e)
/-- The variables of terms. -/
def vrs (l : List Tm) : List Int := (l.filter Tm.var).map (·.n)
theorem vrs_yes {l : List Tm} {x : Tm} (h : x.var = true) : vrs (l ++ [x]) = vrs l ++ [x.n] := by simp [vrs, h]
theorem vrs_no {l : List Tm} {x : Tm} (h : x.var = false) : vrs (l ++ [x]) = vrs l := by simp [vrs, h]
theorem vrs_pre {pre xs : List Tm} {x : Tm} (h : pre ++ [x] <+: xs) (hx : x.var = true) : vrs pre ++ [x.n] <+: vrs xs := by
  obtain ⟨suf, rfl⟩ := h
  refine ⟨vrs suf, ?_⟩
  simp [vrs, hx]
theorem cthree {w : World} {g : Nat} {a b c : Value} {t : TypeId} (h : CBlk w g #[a, b, c] t) :
    w.cell? ⟨g, 0, none⟩ = some a ∧ w.cell? ⟨g, 1, none⟩ = some b ∧ w.cell? ⟨g, 2, none⟩ = some c :=
  ⟨cell_of_row _ _ _ _ _ _ h, cell_of_row _ _ _ _ _ _ h, cell_of_row _ _ _ _ _ _ h⟩
set_option maxRecDepth 100000 in
set_option maxHeartbeats 4000000 in
theorem variables_seq (c : Cm) (B0 : Nat) :
    SeqO Tryz.prog 108 #[.pointer (some ⟨B0, 0, none⟩)] (fun v : Int => #[.int .i64 v]) c.vars (CMem c B0) := by
  intro n l J Jx W hJB hJ hJx hY h0
  have hWB := hJB [] W h0
  obtain ⟨⟨a, hn, cap, h1⟩, ⟨a', cap', h2⟩, ⟨a'', cap'', h3⟩, hbl, htl⟩ := hWB.2.shape
  obtain ⟨c0, c1, c2, c3, c4, c5, c6⟩ := cseven (CBlk.later hWB.1 (below1 W (.cells #[.func (.yield l) #[] #[]] 164)))
  have hat := cterms_any c (W.alloc (.cells #[.func (.yield l) #[] #[]] 164)) (hWB.2.later (below1 _ _))
  obtain ⟨⟨⟨⟨k, m, s⟩, nm, ls⟩, hx⟩, body, bv, tests, tv⟩ := c
  simp only at h1 h2 h3 c0 c1 c2 c3 c4 c5 c6 hbl htl hat
  subst h1 h2 h3
  clear hWB
  refine callsIn_of_wp_marks Tryz.func108 rfl trivial ?_ rfl
  simp only [Tryz.ntmps108, List.size_toArray, List.length_cons, List.length_nil, Nat.reduceAdd, Nat.reduceSub, Array.replicate_succ, Array.replicate_zero, List.push_toArray, List.append_toArray, List.nil_append, List.cons_append]
  gi_wp2
  refine ⟨trivial, fun h => (by cases h), (callsIn_wide.2 hat).mono ?_⟩
  rintro e w' ⟨rfl, rfl⟩
  clear hat
  have hz1 : ((W.alloc (.cells #[.func (.yield l) #[] #[]] 164)).alloc (.cells (Cm.cs ⟨(⟨⟨k, m, s⟩, nm, ls⟩, .slice a hn cap), body, .slice a' body.length cap', tests, .slice a'' tests.length cap''⟩) 37)).heap.size = W.heap.size + 2 := by simp
  have b1 : CBlk ((W.alloc (.cells #[.func (.yield l) #[] #[]] 164)).alloc (.cells (Cm.cs ⟨(⟨⟨k, m, s⟩, nm, ls⟩, .slice a hn cap), body, .slice a' body.length cap', tests, .slice a'' tests.length cap''⟩) 37)) W.heap.size #[.func (.yield l) #[] #[]] 164 := (CBlk.new W _ _).later (below1 _ _)
  have b2 := CBlk.new (W.alloc (.cells #[.func (.yield l) #[] #[]] 164)) (Cm.cs ⟨(⟨⟨k, m, s⟩, nm, ls⟩, .slice a hn cap), body, .slice a' body.length cap', tests, .slice a'' tests.length cap''⟩) 37
  rw [show (W.alloc (.cells #[.func (.yield l) #[] #[]] 164)).heap.size = W.heap.size + 1 by simp] at b2
  have j1 : J [] ((W.alloc (.cells #[.func (.yield l) #[] #[]] 164)).alloc (.cells (Cm.cs ⟨(⟨⟨k, m, s⟩, nm, ls⟩, .slice a hn cap), body, .slice a' body.length cap', tests, .slice a'' tests.length cap''⟩) 37)) := hJ.alloc _ (hJ.alloc _ h0)
  gi_wp2
  revert hz1 b1 b2 j1
  generalize (W.alloc (.cells #[.func (.yield l) #[] #[]] 164)).alloc (.cells (Cm.cs ⟨(⟨⟨k, m, s⟩, nm, ls⟩, .slice a hn cap), body, .slice a' body.length cap', tests, .slice a'' tests.length cap''⟩) 37) = W1
  intro hz1 b1 b2 j1
  have HJB : Hid (∀ pre W1, J pre W1 → CMem ⟨(⟨⟨k, m, s⟩, nm, ls⟩, .slice a hn cap), body, .slice a' body.length cap', tests, .slice a'' tests.length cap''⟩ B0 W1) := hJB
  clear c0 c1 c2 c3 c4 c5 c6 h0 hJB
  refine wpIn_seq (gf := 126) (lb := #[.pointer (some ⟨W.heap.size + 1, 0, none⟩)]) rfl (enters_of Tryz.func126 (by kernel_rfl) rfl) (terms_seq ⟨(⟨⟨k, m, s⟩, nm, ls⟩, .slice a hn cap), body, .slice a' body.length cap', tests, .slice a'' tests.length cap''⟩ (W.heap.size + 1)) (fun _ => rfl)
    (fun pre X => J (vrs pre) X ∧ CBlk X W.heap.size #[.func (.yield l) #[] #[]] 164 ∧ CBlk X (W.heap.size + 1) (Cm.cs ⟨(⟨⟨k, m, s⟩, nm, ls⟩, .slice a hn cap), body, .slice a' body.length cap', tests, .slice a'' tests.length cap''⟩) 37)
    (fun cd _ X => cd = .ret ∧ ∃ q, q <+: Cm.vars ⟨(⟨⟨k, m, s⟩, nm, ls⟩, .slice a hn cap), body, .slice a' body.length cap', tests, .slice a'' tests.length cap''⟩ ∧ Jx q X)
    (OwnFrom.and (fun s X Y row hs hg hr => hJ _ X Y row hs hg (fun r e => ⟨by have := (hr r e).1; omega, (hr r e).2⟩)) (OwnFrom.and (cblk_own _ _ _ _) (cblk_own _ _ _ _)))
    (fun cd s X Y row hs hg hr => ⟨hs.1, by obtain ⟨q, hq, hx⟩ := hs.2; exact ⟨q, hq, hJx q X Y row hx hg (fun r e => ⟨by have := (hr r e).1; omega, (hr r e).2⟩)⟩⟩)
    (fun pre X h => ⟨h.2.2, (HJB.out _ X h.1).2⟩)
    ⟨j1, b1, b2⟩
    (fun x act X => ∃ Bx, W.heap.size + 1 < Bx ∧ CBlk X Bx #[.int .i64 x.k, .int .i64 x.n, .string x.s] 30 ∧ act = { tmps := #[.func (.yield l) #[] #[], .pointer (some ⟨B0, 0, none⟩), .pointer (some ⟨W.heap.size, 0, none⟩), .pointer (some ⟨Bx, 0, none⟩), .agg #[.int .i64 k, .int .i64 m, .string s, .string nm, .slice a hn cap, .slice a' body.length cap', .slice a'' tests.length cap''], .func (.func 126) #[] #[.pointer (some ⟨W.heap.size + 1, 0, none⟩)], x.v, undef, undef, undef, undef, undef, undef, undef, undef, undef], defers := [] })
    (fun x _ _ X Y row hs hg hr => by obtain ⟨Bx, h1, h2, h3⟩ := hs; exact ⟨Bx, h1, cblk_own (β := Unit) _ _ _ _ () X Y row h2 hg hr, h3⟩)
    ?assign ?body ?done ?stop
  case assign =>
    rintro l' mm pre x X K hpre ⟨hj, hf, hb⟩ hle hK
    obtain ⟨kx, mx, sx⟩ := x
    gi_wp2
    exact hK _ _ (Up.alloc _ _ _) ⟨hJ.alloc _ hj, hf.later (below1 _ _), hb.later (below1 _ _)⟩ ⟨X.heap.size, by omega, CBlk.new _ _ _, rfl⟩
  case body =>
    rintro l' mm pre x act X hpre ⟨hj, hf, hb⟩ ⟨Bx, hBx, hX, rfl⟩ hle
    have HP : Hid (pre ++ [x] <+: Cm.terms ⟨(⟨⟨k, m, s⟩, nm, ls⟩, .slice a hn cap), body, .slice a' body.length cap', tests, .slice a'' tests.length cap''⟩) := hpre
    have HJ0 : Hid (J (vrs pre) X) := hj
    have HF : Hid (CBlk X W.heap.size #[.func (.yield l) #[] #[]] 164) := hf
    have HB : Hid (CBlk X (W.heap.size + 1) (Cm.cs ⟨(⟨⟨k, m, s⟩, nm, ls⟩, .slice a hn cap), body, .slice a' body.length cap', tests, .slice a'' tests.length cap''⟩) 37) := hb
    have HX : Hid (CBlk X Bx #[.int .i64 x.k, .int .i64 x.n, .string x.s] 30) := hX
    have hva := var_any x X
    obtain ⟨x0, x1, x2⟩ := cthree hX
    cases hv : x.var with
    | true =>
      have HV : Hid (x.var = true) := hv
      rw [hv] at hva
      have hYx := fun (Y : World) (hY' : J (vrs pre) Y) => hY (mm - 1) (vrs pre) x.n Y hY' (vrs_pre hpre hv)
      obtain ⟨kx, mx, sx⟩ := x
      simp only at hva hYx x0 x1 x2
      clear hX hf hb hj hpre hv
      gi_wp2
      refine ⟨trivial, fun h => (by cases h), (CallsIn.inRound l' (callsIn_wide.2 hva)).mono ?_⟩
      clear hva x0 x1 x2
      rintro e w' ⟨rfl, hbw⟩
      obtain ⟨fn, tmps, assign, bd, hy, hR⟩ := hYx w' (own_later hJ HJ0.out hbw)
      obtain ⟨f0, -⟩ := one (HF.out.later hbw)
      obtain ⟨x0, x1, x2⟩ := cthree (HX.out.later hbw)
      have HUw : Hid (Up W.heap.size X w') := Up.below hbw
      clear hYx hbw
      gi_wp2
      refine ⟨fun h => (by cases h), hR.mono ?_⟩
      clear hR hy
      rintro e W3 (⟨rfl, hJ3, hu3⟩ | ⟨rfl, hx3, hu3⟩)
      · have HJ3 : Hid (J (vrs (pre ++ [⟨kx, mx, sx⟩])) W3) := by show J _ W3; rw [vrs_yes HV.out]; exact hJ3
        have HU3 : Hid (Up W.heap.size X W3) := HUw.out.trans hu3
        clear hJ3 hu3
        gi_wp2
        exact ⟨HU3.out.mono (by omega), HJ3.out, HF.out.up HU3.out (Nat.le_refl _), HB.out.up HU3.out (by omega)⟩
      · have HX3 : Hid (Jx (vrs pre ++ [mx]) W3) := hx3
        have HU3 : Hid (Up W.heap.size X W3) := HUw.out.trans hu3
        clear hx3 hu3
        gi_wp2
        exact ⟨HU3.out.mono (by omega), rfl, _, vrs_pre HP.out HV.out, HX3.out⟩
    | false =>
      have HV : Hid (x.var = false) := hv
      rw [hv] at hva
      obtain ⟨kx, mx, sx⟩ := x
      simp only at hva x0 x1 x2
      clear hX hf hb hj hpre hv
      gi_wp2
      refine ⟨trivial, fun h => (by cases h), (CallsIn.inRound l' (callsIn_wide.2 hva)).mono ?_⟩
      clear hva x0 x1 x2
      rintro e w' ⟨rfl, hbw⟩
      have HBw : Hid (Below X.heap.size X w') := hbw
      clear hbw
      gi_wp2
      refine ⟨fun _ h => (by cases h), ?_⟩
      gi_wp2
      have hu := Up.below (B := W.heap.size) HBw.out
      refine ⟨hu.mono (by omega), ?_, HF.out.up hu (Nat.le_refl _), HB.out.up hu (by omega)⟩
      rw [vrs_no HV.out]
      exact own_later hJ HJ0.out HBw.out
  case done =>
    rintro E X hE ⟨hj, hf, hb⟩ hD
    have HJ0 : Hid (J (Cm.vars ⟨(⟨⟨k, m, s⟩, nm, ls⟩, .slice a hn cap), body, .slice a' body.length cap', tests, .slice a'' tests.length cap''⟩) X) := hj
    clear hj hf hb
    gi_wp2
    refine ⟨by simp, .inl ⟨_, _, rfl, run_takeDeferred hD, ?_⟩⟩
    exact ⟨_, results_none rfl _ _ _, ⟨_, rfl⟩, .inl (hJ.putObj _ HJ0.out (by omega) hD rfl)⟩
  case stop =>
    rintro E cd pre X hE hpre ⟨rfl, q, hq, hx⟩ hD
    have HX : Hid _ := hx
    clear hx
    gi_wp2
    refine ⟨by simp, .inl ⟨_, _, rfl, run_takeDeferred hD, ?_⟩⟩
    exact ⟨_, results_none rfl _ _ _, ⟨_, rfl⟩, .inr ⟨q, hq, hJx.putObj _ HX.out (by omega) hD rfl⟩⟩
end Go.Proofs.YtnikmcmkbjjcdaaGreatDoor
