import Derived.Test.YtdfgijdededolabGreatDoorCL18
import Derived.Test.YtdfgijdededolabGreatDoorCL5
import Derived.Maps.OwnIn
import Derived.Maps.AppendAt
/-
  copied; unqualified; what a clause quoted is. (Written by CL19.py.)
-/
namespace Go.Proofs.YtdfgijdededolabGreatDoor
open Go.RowKit
attribute [local go_sem ↓] Go.wp_at_zero Go.wp_at_succ

set_option maxRecDepth 20000 in
set_option maxHeartbeats 4000000 in
theorem copied_any (c : Cm) (w : World) (h : c.ok w) (hl1 : c.head.1.args.length ≤ 1900000000000) (hl2 : c.body.length ≤ 1900000000000) (hl3 : c.tests.length ≤ 1900000000000) (hl4 : ∀ x ∈ c.body, x.1.args.length ≤ 1900000000000) :
    Calls Tryz.prog 56 #[c.v] w (RPost w c) := by
  have hb2 := below2 w (.cells c.cs 41) (.cells zcs 41)
  have K1 := rep_copied c ((w.alloc (.cells c.cs 41)).alloc (.cells zcs 41)) (h.later hb2) hl1 hl2 hl3 hl4
  have z2 : ((w.alloc (.cells c.cs 41)).alloc (.cells zcs 41)).heap.size = w.heap.size + 2 := by simp
  have HB2 : Hid (Below w.heap.size w ((w.alloc (.cells c.cs 41)).alloc (.cells zcs 41))) := hb2
  clear hl1 hl2 hl3 hl4 hb2
  obtain ⟨⟨a, hn, cap, h1⟩, ⟨a', cap', h2⟩, ⟨a'', cap'', h3⟩, hbl, htl⟩ := h.shape
  clear h
  obtain ⟨⟨⟨⟨k, m, s⟩, nm, ls⟩, hx⟩, body, bv, tests, tv⟩ := c
  simp only at h1 h2 h3 hbl htl
  subst h1 h2 h3
  go_enter Tryz.func56, Tryz.ntmps56
  go_wp2_with (go_at_call 100; refine K1.mono ?_; clear K1; rintro e w1 ⟨M1, M2, M3, lb, rfl, hrp, hb1⟩; have hbx := two_boxes hb1; obtain ⟨r0, r1, r2, r3, r4, r5, r6⟩ := cseven hbx.2; have hfr : ∀ i, w1.frozen? ⟨w.heap.size + 1, i, none⟩ = false := fun i => frozen_of_row _ _ _ _ _ hbx.2; have s0 := hfr 0; have s1 := hfr 1; have s2 := hfr 2; have s3 := hfr 3; have s4 := hfr 4; have s5 := hfr 5; have s6 := hfr 6; rw [z2] at hrp; have HRP : Hid (RP (w.heap.size + 2) w1 ⟨(⟨⟨k, m, s⟩, nm, ls⟩, .slice a hn cap), body, .slice a' body.length cap', tests, .slice a'' tests.length cap''⟩ M1 M2 M3 lb) := hrp; have HW1 : Hid (Below w.heap.size w w1) := below_step HB2.out hb1; clear hfr hrp hb1 hbx HB2; simp only [Cm.cp])
  have nw : w.heap.size ≤ w.heap.size + 1 := by omega
  have ng : w.heap.size + 1 < w.heap.size + 2 := by omega
  have hrp := HRP.out
  have hbw := HW1.out
  exact bodyPost_ret (v := (Cm.cp ⟨(⟨⟨k, m, s⟩, nm, ls⟩, .slice a hn cap), body, .slice a' body.length cap', tests, .slice a'' tests.length cap''⟩ M1 M2 M3 lb).v) (by simp [results, Tryz.results56, go_sem, Cm.v, Cm.cp, r0, r1, r2, r3, r4, r5, r6]) rfl
    ⟨M1, M2, M3, lb, rfl, (((((((hrp.off ng).off ng).off ng).off ng).off ng).off ng).off ng).mono (by omega), ((((((hbw.setCell nw _).setCell nw _).setCell nw _).setCell nw _).setCell nw _).setCell nw _).setCell nw _⟩

theorem unqualified_any (x : At) (v : Value) (w : World) (hv : ∃ a n cap, v = .slice a n cap) : Calls Tryz.prog 90 #[x.v v] w fun e w' => e = .returned (.bool (decide (x.by_ = zt))) ∧ Below w.heap.size w w' := by
  obtain ⟨⟨k, n, s⟩, nm, ls⟩ := x
  obtain ⟨a, hn, cap, rfl⟩ := hv
  have he := run_eql_tm ⟨k, n, s⟩ zt
  obtain ⟨b1, h1⟩ : ∃ b, decide (Tm.mk k n s = zt) = b := ⟨_, rfl⟩
  have HR : Hid (decide (Tm.mk k n s = zt) = b1) := h1
  rw [h1] at he
  unfold zt at he
  clear h1
  cases b1
  all_goals
    go_enter Tryz.func90, Tryz.ntmps90
    go_wp2
    go_ret
    exact ⟨ret_b (by rw [HR.out]), below1 _ _⟩

/-- Cells of an atom's qualifier set anew. -/
abbrev Aby (w : World) (g k : Nat) (t : Tm) : World := ((w.setCell ⟨g, k * 5, none⟩ (.int .i64 t.k)).setCell ⟨g, k * 5 + 1, none⟩ (.int .i64 t.n)).setCell ⟨g, k * 5 + 2, none⟩ (.string t.s)
theorem ABlk.by_ {w : World} {g n k : Nat} {l : List (At × Value)} {x : At × Value} (h : ABlk w g n l) (hx : l[k]? = some x) (hk : k < n) (t : Tm) : ABlk (Aby w g k t) g n (l.set k (⟨t, x.1.name, x.1.args⟩, x.2)) := by
  obtain ⟨C, h1, h2, h3⟩ := h
  have e0 := heap_setCell_same _ _ (k * 5) _ _ (.int .i64 t.k) h1
  have e1 := heap_setCell_same _ _ (k * 5 + 1) _ _ (.int .i64 t.n) e0
  have e2 := heap_setCell_same _ _ (k * 5 + 2) _ _ (.string t.s) e1
  refine ⟨_, e2, by simp [h2], fun i u hu => ?_⟩
  by_cases hik : i = k
  · subst hik
    have hlt : i < l.length := (List.getElem?_eq_some_iff.1 hx).1
    rw [List.getElem?_set_self hlt] at hu
    obtain rfl := Option.some.inj hu
    obtain ⟨q0, q1, q2, q3, q4⟩ := h3 i x hx
    refine ⟨?_, ?_, ?_, ?_, ?_⟩
    · simp [Array.getElem?_setIfInBounds, h2]; omega
    · simp [Array.getElem?_setIfInBounds, h2]; omega
    · simp [Array.getElem?_setIfInBounds, h2]; omega
    · rw [Array.getElem?_setIfInBounds_ne (by omega), Array.getElem?_setIfInBounds_ne (by omega), Array.getElem?_setIfInBounds_ne (by omega)]; exact q3
    · rw [Array.getElem?_setIfInBounds_ne (by omega), Array.getElem?_setIfInBounds_ne (by omega), Array.getElem?_setIfInBounds_ne (by omega)]; exact q4
  · rw [List.getElem?_set_ne (fun e => hik e.symm)] at hu
    obtain ⟨q0, q1, q2, q3, q4⟩ := h3 i u hu
    refine ⟨?_, ?_, ?_, ?_, ?_⟩ <;> rw [Array.getElem?_setIfInBounds_ne (by omega), Array.getElem?_setIfInBounds_ne (by omega), Array.getElem?_setIfInBounds_ne (by omega)] <;> assumption
end Go.Proofs.YtdfgijdededolabGreatDoor
/-
  variableSet.
-/
namespace Go.Proofs.YtdfgijdededolabGreatDoor
open Go.RowKit Go.Shelf
attribute [local go_sem] Oper.semAt_some

/-- The set of these numbers, as a datum. -/
def sv (l : List Int) : DataW Unit := Maps.setOf (.agg []) (l.map (Lit.int .i64))
theorem sv_snoc (l : List Int) (x : Int) : sv (l ++ [x]) = (sv l).put (.int .i64 x) (.agg []) := by
  unfold sv; rw [List.map_append, List.map_cons, List.map_nil, Maps.setOf_snoc]
def SetOk (X : World) (b : Nat) (l : List Int) : Prop := X.ownsMap Tryz.prog 3 (unitElem (H := Unit)) b l.length (sv l)
theorem SetOk.grown {X Y : World} {b : Nat} {l : List Int} {row : Option Nat} (h : SetOk X b l) (hg : X.grownBy Y row) (hr : some b ≠ row) : SetOk Y b l := h.kept hg hr
theorem SetOk.later {X Y : World} {b : Nat} {l : List Int} (h : SetOk X b l) (hb : Below X.heap.size X Y) : SetOk Y b l := h.grown (below_grown hb) (by simp)
theorem set_own (K b : Nat) (hb : b < K) : OwnFrom K (fun (l : List Int) X => SetOk X b l) := fun _ _ _ _ hs hg hr => hs.grown hg (fun e => by have := (hr b e.symm).1; omega)
def VPost (w : World) (l : List Int) (e : Ending) (w' : World) : Prop := ∃ b, e = .returned (.map (some b)) ∧ SetOk w' b l ∧ w.heap.size ≤ b ∧ Below w.heap.size w w'
set_option maxRecDepth 100000 in
set_option maxHeartbeats 4000000 in
theorem variableSet_any (c : Cm) (w : World) (h : c.ok w) (hw : ∀ v ∈ c.vars, (Lit.int .i64 v).wf = true) (hvl : c.vars.length < 4000000000000000000) :
    Calls Tryz.prog 91 #[c.v] w (VPost w c.vars) := by
  obtain ⟨⟨a, hn, cap, h1⟩, ⟨a', cap', h2⟩, ⟨a'', cap'', h3⟩, hbl, htl⟩ := h.shape
  have HOK : Hid (c.ok w) := h
  have HWF : Hid (∀ v ∈ c.vars, (Lit.int .i64 v).wf = true) := hw
  have HVL : Hid (c.vars.length < 4000000000000000000) := hvl
  have hb3 : Below w.heap.size w (((w.alloc (.cells c.cs 41)).alloc (.map #[] 0)).alloc (.cells #[.map (some (w.heap.size + 1))] 120)) := (below2 w _ _).trans ((below1 _ _).mono (by simp; omega))
  have hat := variables_any c (((w.alloc (.cells c.cs 41)).alloc (.map #[] 0)).alloc (.cells #[.map (some (w.heap.size + 1))] 120)) (h.later hb3)
  obtain ⟨⟨⟨⟨k, m, s⟩, nm, ls⟩, hx⟩, body, bv, tests, tv⟩ := c
  simp only at h1 h2 h3 hbl htl hat hb3
  subst h1 h2 h3
  have hmm := @run_makeMap Tryz.prog
  obtain ⟨n, -⟩ : ∃ n : Nat, True := ⟨0, trivial⟩
  refine (callsIn_wide (n := n)).1 ?_
  refine callsIn_of_wp_marks Tryz.func91 rfl trivial ?_ rfl
  simp only [Tryz.ntmps91, List.size_toArray, List.length_cons, List.length_nil, Nat.reduceAdd, Nat.reduceSub, Array.replicate_succ, Array.replicate_zero, List.push_toArray, List.append_toArray, List.nil_append, List.cons_append]
  gi_wp2
  refine ⟨trivial, fun h => (by cases h), (callsIn_wide.2 hat).mono ?_⟩
  rintro e w' ⟨rfl, rfl⟩
  clear hat h hw hvl
  have hz1 : ((((w.alloc (.cells (Cm.cs ⟨(⟨⟨k, m, s⟩, nm, ls⟩, .slice a hn cap), body, .slice a' body.length cap', tests, .slice a'' tests.length cap''⟩) 41)).alloc (.map #[] 0)).alloc (.cells #[.map (some (w.heap.size + 1))] 120)).alloc (.cells (Cm.cs ⟨(⟨⟨k, m, s⟩, nm, ls⟩, .slice a hn cap), body, .slice a' body.length cap', tests, .slice a'' tests.length cap''⟩) 41)).heap.size = w.heap.size + 4 := by simp
  have b0 : SetOk ((((w.alloc (.cells (Cm.cs ⟨(⟨⟨k, m, s⟩, nm, ls⟩, .slice a hn cap), body, .slice a' body.length cap', tests, .slice a'' tests.length cap''⟩) 41)).alloc (.map #[] 0)).alloc (.cells #[.map (some (w.heap.size + 1))] 120)).alloc (.cells (Cm.cs ⟨(⟨⟨k, m, s⟩, nm, ls⟩, .slice a hn cap), body, .slice a' body.length cap', tests, .slice a'' tests.length cap''⟩) 41)) (w.heap.size + 1) [] := by
    have h := World.ownsMap_made (w.alloc (.cells (Cm.cs ⟨(⟨⟨k, m, s⟩, nm, ls⟩, .slice a hn cap), body, .slice a' body.length cap', tests, .slice a'' tests.length cap''⟩) 41)) Tryz.prog 3 (unitElem (H := Unit))
    rw [show (w.alloc (.cells (Cm.cs ⟨(⟨⟨k, m, s⟩, nm, ls⟩, .slice a hn cap), body, .slice a' body.length cap', tests, .slice a'' tests.length cap''⟩) 41)).heap.size = w.heap.size + 1 by simp] at h
    have h' : SetOk ((w.alloc (.cells (Cm.cs ⟨(⟨⟨k, m, s⟩, nm, ls⟩, .slice a hn cap), body, .slice a' body.length cap', tests, .slice a'' tests.length cap''⟩) 41)).alloc (.map #[] 0)) (w.heap.size + 1) [] := h
    exact (h'.later (below1 _ _)).later (below1 _ _)
  have b1 : CBlk ((((w.alloc (.cells (Cm.cs ⟨(⟨⟨k, m, s⟩, nm, ls⟩, .slice a hn cap), body, .slice a' body.length cap', tests, .slice a'' tests.length cap''⟩) 41)).alloc (.map #[] 0)).alloc (.cells #[.map (some (w.heap.size + 1))] 120)).alloc (.cells (Cm.cs ⟨(⟨⟨k, m, s⟩, nm, ls⟩, .slice a hn cap), body, .slice a' body.length cap', tests, .slice a'' tests.length cap''⟩) 41)) (w.heap.size + 1 + 1) #[.map (some (w.heap.size + 1))] 120 := by
    have := (CBlk.new ((w.alloc (.cells (Cm.cs ⟨(⟨⟨k, m, s⟩, nm, ls⟩, .slice a hn cap), body, .slice a' body.length cap', tests, .slice a'' tests.length cap''⟩) 41)).alloc (.map #[] 0)) #[.map (some (w.heap.size + 1))] 120).later (below1 _ (.cells (Cm.cs ⟨(⟨⟨k, m, s⟩, nm, ls⟩, .slice a hn cap), body, .slice a' body.length cap', tests, .slice a'' tests.length cap''⟩) 41))
    rwa [show ((w.alloc (.cells (Cm.cs ⟨(⟨⟨k, m, s⟩, nm, ls⟩, .slice a hn cap), body, .slice a' body.length cap', tests, .slice a'' tests.length cap''⟩) 41)).alloc (.map #[] 0)).heap.size = w.heap.size + 1 + 1 by simp] at this
  have b2 : CBlk ((((w.alloc (.cells (Cm.cs ⟨(⟨⟨k, m, s⟩, nm, ls⟩, .slice a hn cap), body, .slice a' body.length cap', tests, .slice a'' tests.length cap''⟩) 41)).alloc (.map #[] 0)).alloc (.cells #[.map (some (w.heap.size + 1))] 120)).alloc (.cells (Cm.cs ⟨(⟨⟨k, m, s⟩, nm, ls⟩, .slice a hn cap), body, .slice a' body.length cap', tests, .slice a'' tests.length cap''⟩) 41)) (w.heap.size + 1 + 1 + 1) (Cm.cs ⟨(⟨⟨k, m, s⟩, nm, ls⟩, .slice a hn cap), body, .slice a' body.length cap', tests, .slice a'' tests.length cap''⟩) 41 := by
    have := CBlk.new (((w.alloc (.cells (Cm.cs ⟨(⟨⟨k, m, s⟩, nm, ls⟩, .slice a hn cap), body, .slice a' body.length cap', tests, .slice a'' tests.length cap''⟩) 41)).alloc (.map #[] 0)).alloc (.cells #[.map (some (w.heap.size + 1))] 120)) (Cm.cs ⟨(⟨⟨k, m, s⟩, nm, ls⟩, .slice a hn cap), body, .slice a' body.length cap', tests, .slice a'' tests.length cap''⟩) 41
    rwa [show (((w.alloc (.cells (Cm.cs ⟨(⟨⟨k, m, s⟩, nm, ls⟩, .slice a hn cap), body, .slice a' body.length cap', tests, .slice a'' tests.length cap''⟩) 41)).alloc (.map #[] 0)).alloc (.cells #[.map (some (w.heap.size + 1))] 120)).heap.size = w.heap.size + 1 + 1 + 1 by simp] at this
  have hB1 : Below w.heap.size w ((((w.alloc (.cells (Cm.cs ⟨(⟨⟨k, m, s⟩, nm, ls⟩, .slice a hn cap), body, .slice a' body.length cap', tests, .slice a'' tests.length cap''⟩) 41)).alloc (.map #[] 0)).alloc (.cells #[.map (some (w.heap.size + 1))] 120)).alloc (.cells (Cm.cs ⟨(⟨⟨k, m, s⟩, nm, ls⟩, .slice a hn cap), body, .slice a' body.length cap', tests, .slice a'' tests.length cap''⟩) 41)) := hb3.trans ((below1 _ _).mono hb3.size)
  gi_wp2
  revert hz1 b0 b1 b2 hB1
  generalize (((w.alloc (.cells (Cm.cs ⟨(⟨⟨k, m, s⟩, nm, ls⟩, .slice a hn cap), body, .slice a' body.length cap', tests, .slice a'' tests.length cap''⟩) 41)).alloc (.map #[] 0)).alloc (.cells #[.map (some (w.heap.size + 1))] 120)).alloc (.cells (Cm.cs ⟨(⟨⟨k, m, s⟩, nm, ls⟩, .slice a hn cap), body, .slice a' body.length cap', tests, .slice a'' tests.length cap''⟩) 41) = V
  intro hz1 b0 b1 b2 hB1
  clear hb3
  refine wpIn_seq (gf := 157) (lb := #[.pointer (some ⟨w.heap.size + 1 + 1 + 1, 0, none⟩)]) rfl (enters_of Tryz.func157 (by kernel_rfl) rfl) (variables_seq ⟨(⟨⟨k, m, s⟩, nm, ls⟩, .slice a hn cap), body, .slice a' body.length cap', tests, .slice a'' tests.length cap''⟩ (w.heap.size + 1 + 1 + 1)) (fun _ => rfl)
    (fun pre X => SetOk X (w.heap.size + 1) pre ∧ CBlk X (w.heap.size + 1 + 1) #[.map (some (w.heap.size + 1))] 120 ∧ CBlk X (w.heap.size + 1 + 1 + 1) (Cm.cs ⟨(⟨⟨k, m, s⟩, nm, ls⟩, .slice a hn cap), body, .slice a' body.length cap', tests, .slice a'' tests.length cap''⟩) 41 ∧ Below w.heap.size w X)
    (fun _ _ _ => False)
    (OwnFrom.and (set_own _ _ (by omega)) (OwnFrom.and (cblk_own _ _ _ _) (OwnFrom.and (cblk_own _ _ _ _) (ownFrom_below (Nat.le_refl _) (by omega)))))
    (fun cd => ownFrom_pure _ (fun _ => False))
    (fun pre X h => ⟨h.2.2.1, HOK.out.later h.2.2.2⟩)
    ⟨b0, b1, b2, hB1⟩
    (fun x act X => act = { tmps := #[.agg #[.int .i64 k, .int .i64 m, .string s, .string nm, .slice a hn cap, .slice a' body.length cap', .slice a'' tests.length cap''], .pointer (some ⟨w.heap.size, 0, none⟩), .map none, .pointer (some ⟨w.heap.size + 1 + 1, 0, none⟩), .int .i64 x, .map (some (w.heap.size + 1)), .agg #[.int .i64 k, .int .i64 m, .string s, .string nm, .slice a hn cap, .slice a' body.length cap', .slice a'' tests.length cap''], .func (.func 157) #[] #[.pointer (some ⟨w.heap.size + 1 + 1 + 1, 0, none⟩)], .int .i64 x, undef, undef, undef, undef], defers := [] })
    (fun x act => ownFrom_pure _ (fun _ => act = _))
    ?assign ?body ?done ?stop
  case assign =>
    rintro l' mm pre x X K hpre ⟨hs, hf, hb, hbw⟩ hle hK
    gi_wp2
    exact hK _ _ (Up.refl _ _) ⟨hs, hf, hb, hbw⟩ rfl
  case body =>
    rintro l' mm pre x act X hpre ⟨hs, hf, hb, hbw⟩ rfl hle
    have HS : Hid (SetOk X (w.heap.size + 1) pre) := hs
    have HF : Hid (CBlk X (w.heap.size + 1 + 1) #[.map (some (w.heap.size + 1))] 120) := hf
    have HB : Hid (CBlk X (w.heap.size + 1 + 1 + 1) (Cm.cs ⟨(⟨⟨k, m, s⟩, nm, ls⟩, .slice a hn cap), body, .slice a' body.length cap', tests, .slice a'' tests.length cap''⟩) 41) := hb
    have HBW : Hid (Below w.heap.size w X) := hbw
    have hwx : (Lit.int .i64 x).wf = true := HWF.out x (mem_of_pre hpre)
    have hpl : pre.length < maxLen := by
      have h1 := HVL.out
      have h2 := hpre.length_le
      simp only [List.length_append, List.length_cons, List.length_nil] at h2
      unfold maxLen; omega
    have HWX : Hid ((Lit.int .i64 x).wf = true) := hwx
    obtain ⟨f0, f1⟩ := one hf
    clear hs hf hb hbw hpre hwx
    gi_wp2_with (gi_at_mapUpdate; refine wpListIn_mapUpdate_own _ rfl _ _ _ 120 rfl 3 68 (Maps.int_keyed Tryz.underlying3) Tryz.underlying120 (unitElem (H := Unit)) (w.heap.size + 1) pre.length (sv pre) rfl HS.out hpl _ _ _ rfl rfl (Maps.keyOf_int_mk Tryz.underlying3 HWX.out) _ [] unitElem_mk ?_; intro w1 hown1 hgrow1)
    refine ⟨Up.grown hgrow1 (fun q e => by cases e; omega), ?_, ?_, ?_, HBW.out.grown hgrow1 HBW.out.size (fun q e => by cases e; omega)⟩
    · unfold SetOk
      rw [List.length_append, sv_snoc]
      exact hown1
    · exact (hgrow1.block _ HF.out.lt (fun e => by have := Option.some.inj e; omega)).trans HF.out
    · exact (hgrow1.block _ HB.out.lt (fun e => by have := Option.some.inj e; omega)).trans HB.out
  case done =>
    rintro E X hE ⟨hs, hf, hb, hbw⟩ hD
    obtain ⟨f0, f1⟩ := one hf
    have HS : Hid (SetOk X (w.heap.size + 1) (Cm.vars ⟨(⟨⟨k, m, s⟩, nm, ls⟩, .slice a hn cap), body, .slice a' body.length cap', tests, .slice a'' tests.length cap''⟩)) := hs
    clear hs
    gi_wp2
    refine ⟨by simp, .inl ⟨_, _, rfl, run_takeDeferred hD, ?_⟩⟩
    exact ⟨_, results_tmp rfl _ _ _, w.heap.size + 1, rfl, HS.out.grown (grownBy_putObj' _ E _) (fun e => by cases e; omega), by omega, below_put hbw (by omega)⟩
  case stop =>
    rintro E cd pre X hE hpre h hD
    exact h.elim
end Go.Proofs.YtdfgijdededolabGreatDoor
/-
  Vars; sets of numbers (plain).
-/
namespace Go.Proofs.YtdfgijdededolabGreatDoor
open Go.RowKit Go.Shelf

/-- The different ones. -/
def dstep (acc : List Int) (x : Int) : List Int := if x ∈ acc then acc else acc ++ [x]
def dis (l : List Int) : List Int := l.foldl dstep []
theorem key_int (x : Int) : WideAt.IsKeyLit (Lit.int .i64 x) := by trivial
theorem any_int (acc : List Int) (x : Int) : (acc.map (Lit.int .i64)).any (fun y => y.sameKey (.int .i64 x)) = decide (x ∈ acc) := by
  induction acc with
  | nil => rfl
  | cons a l ih =>
    rw [List.map_cons, List.any_cons, ih]
    by_cases e : a = x
    · subst e; rw [WideAt.sameKey_self (key_int _)]; simp
    · rw [Maps.sameKey_ne (fun h => e (by cases h; rfl))]
      have : x ≠ a := fun h => e h.symm
      simp [this]
theorem has_sv (l : List Int) (x : Int) : Maps.has (sv l) (.int .i64 x) = decide (x ∈ l) := by
  unfold sv
  rw [Maps.has_setOf _ _ _ (fun y hy => by obtain ⟨z, -, rfl⟩ := List.mem_map.1 hy; exact key_int z), any_int]
theorem addKey_int (acc : List Int) (x : Int) : Maps.addKey (acc.map (Lit.int .i64)) (.int .i64 x) = (dstep acc x).map (Lit.int .i64) := by
  unfold Maps.addKey dstep
  rw [any_int]
  by_cases h : x ∈ acc
  · rw [if_pos h]; simp [h]
  · rw [if_neg h]; simp [h]
theorem fold_int : ∀ (l acc : List Int), (l.map (Lit.int .i64)).foldl Maps.addKey (acc.map (Lit.int .i64)) = (l.foldl dstep acc).map (Lit.int .i64)
  | [], _ => rfl
  | x :: l, acc => by rw [List.map_cons, List.foldl_cons, List.foldl_cons, addKey_int, fold_int l]
theorem size_sv (l : List Int) : Maps.size (sv l) = (dis l).length := by
  unfold sv dis
  rw [Maps.size_setOf _ _ (fun y hy => by obtain ⟨z, -, rfl⟩ := List.mem_map.1 hy; exact key_int z)]
  have := fold_int l []
  rw [List.map_nil] at this
  rw [this, List.length_map]
set_option maxHeartbeats 1000000 in
theorem vars_any (c : Cm) (w : World) (h : c.ok w) (hw : ∀ v ∈ c.vars, (Lit.int .i64 v).wf = true) (hvl : c.vars.length < 4000000000000000000) :
    Calls Tryz.prog 44 #[c.v] w fun e w' => e = .returned (.int .i64 ((dis c.vars).length : Nat)) ∧ Below w.heap.size w w' := by
  obtain ⟨⟨a, hn, cap, h1⟩, ⟨a', cap', h2⟩, ⟨a'', cap'', h3⟩, hbl, htl⟩ := h.shape
  have hvs := variableSet_any c (w.alloc (.cells c.cs 41)) (h.later (below1 _ _)) hw hvl
  obtain ⟨l, hl⟩ : ∃ l, c.vars = l := ⟨_, rfl⟩
  rw [hl] at hvs ⊢
  clear hl hw hvl h
  obtain ⟨⟨⟨⟨k, m, s⟩, nm, ls⟩, hx⟩, body, bv, tests, tv⟩ := c
  simp only at h1 h2 h3 hbl htl hvs
  subst h1 h2 h3
  go_enter Tryz.func44, Tryz.ntmps44
  go_wp2_with (first
    | (go_at_call 91; refine hvs.mono ?_; rintro e w1 ⟨b, rfl, hs, hbb, hb1⟩; have HS : Hid (SetOk w1 b l) := hs; have HB : Hid (Below _ _ _) := hb1; clear hs hbb hb1)
    | (at_len; refine wpList_len_own _ rfl _ 120 rfl 3 68 Tryz.underlying120 (unitElem (H := Unit)) b _ _ rfl HS.out ?_))
  go_ret
  exact ⟨by rw [size_sv]; rfl, below_step (below1 _ _) HB.out⟩
end Go.Proofs.YtdfgijdededolabGreatDoor
