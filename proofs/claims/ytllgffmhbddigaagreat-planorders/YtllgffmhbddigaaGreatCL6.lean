/-
  variableSet.
-/
import Derived.Test.YtllgffmhbddigaaGreatCL5
import Derived.Maps.OwnIn
import Derived.Maps.AppendAt
namespace Go.Proofs.YtllgffmhbddigaaGreat
open Go.RowKit Go.Shelf
attribute [local go_sem] Oper.semAt_some

/-- The set of these numbers, as a datum. -/
def sv (l : List Int) : DataW Unit := Maps.setOf (.agg []) (l.map (Lit.int .i64))
theorem sv_snoc (l : List Int) (x : Int) : sv (l ++ [x]) = (sv l).put (.int .i64 x) (.agg []) := by
  unfold sv; rw [List.map_append, List.map_cons, List.map_nil, Maps.setOf_snoc]
def SetOk (X : World) (b : Nat) (l : List Int) : Prop := X.ownsMap Tryz.prog 3 (unitElem (H := Unit)) b l.length (sv l)
theorem SetOk.grown {X Y : World} {b : Nat} {l : List Int} {row : Option Nat} (h : SetOk X b l) (hg : X.grownBy Y row) (hr : some b ≠ row) : SetOk Y b l := h.kept hg hr
theorem SetOk.later {X Y : World} {b : Nat} {l : List Int} (h : SetOk X b l) (hb : Below X.heap.size X Y) : SetOk Y b l := h.grown (below_grown hb) (by simp)
theorem set_own (K b : Nat) (hb : b < K) : OwnFrom K (fun (l : List Int) X => SetOk X b l) := fun _ _ _ _ hs hg hr => hs.grown hg (fun e => by have := (hr b e.symm).1; omega)
def VPost (w : World) (l : List Int) (e : Ending) (w' : World) : Prop := ∃ b, e = .returned (.map (some b)) ∧ SetOk w' b l ∧ w.heap.size ≤ b ∧ Below w.heap.size w w'
set_option maxRecDepth 100000 in
set_option maxHeartbeats 4000000 in
theorem variableSet_any (c : Cm) (w : World) (h : c.ok w) (hw : ∀ v ∈ c.vars, (Lit.int .i64 v).wf = true) (hvl : c.vars.length < 4000000000000000000) :
    Calls Tryz.prog 44 #[c.v] w (VPost w c.vars) := by
  obtain ⟨⟨a, hn, cap, h1⟩, ⟨a', cap', h2⟩, ⟨a'', cap'', h3⟩, hbl, htl⟩ := h.shape
  have HOK : Hid (c.ok w) := h
  have HWF : Hid (∀ v ∈ c.vars, (Lit.int .i64 v).wf = true) := hw
  have HVL : Hid (c.vars.length < 4000000000000000000) := hvl
  have hb3 : Below w.heap.size w (((w.alloc (.cells c.cs 30)).alloc (.map #[] 0)).alloc (.cells #[.map (some (w.heap.size + 1))] 99)) := (below2 w _ _).trans ((below1 _ _).mono (by simp; omega))
  have hat := variables_any c (((w.alloc (.cells c.cs 30)).alloc (.map #[] 0)).alloc (.cells #[.map (some (w.heap.size + 1))] 99)) (h.later hb3)
  obtain ⟨⟨⟨⟨k, m, s⟩, nm, ls⟩, hx⟩, body, bv, tests, tv⟩ := c
  simp only at h1 h2 h3 hbl htl hat hb3
  subst h1 h2 h3
  have hmm := @run_makeMap Tryz.prog
  obtain ⟨n, -⟩ : ∃ n : Nat, True := ⟨0, trivial⟩
  refine (callsIn_wide (n := n)).1 ?_
  refine callsIn_of_wp_marks Tryz.func44 rfl trivial ?_ rfl
  simp only [Tryz.ntmps44, List.size_toArray, List.length_cons, List.length_nil, Nat.reduceAdd, Nat.reduceSub, Array.replicate_succ, Array.replicate_zero, List.push_toArray, List.append_toArray, List.nil_append, List.cons_append]
  gi_wp2
  refine ⟨trivial, fun h => (by cases h), (callsIn_wide.2 hat).mono ?_⟩
  rintro e w' ⟨rfl, rfl⟩
  clear hat h hw hvl
  have hz1 : ((((w.alloc (.cells (Cm.cs ⟨(⟨⟨k, m, s⟩, nm, ls⟩, .slice a hn cap), body, .slice a' body.length cap', tests, .slice a'' tests.length cap''⟩) 30)).alloc (.map #[] 0)).alloc (.cells #[.map (some (w.heap.size + 1))] 99)).alloc (.cells (Cm.cs ⟨(⟨⟨k, m, s⟩, nm, ls⟩, .slice a hn cap), body, .slice a' body.length cap', tests, .slice a'' tests.length cap''⟩) 30)).heap.size = w.heap.size + 4 := by simp
  have b0 : SetOk ((((w.alloc (.cells (Cm.cs ⟨(⟨⟨k, m, s⟩, nm, ls⟩, .slice a hn cap), body, .slice a' body.length cap', tests, .slice a'' tests.length cap''⟩) 30)).alloc (.map #[] 0)).alloc (.cells #[.map (some (w.heap.size + 1))] 99)).alloc (.cells (Cm.cs ⟨(⟨⟨k, m, s⟩, nm, ls⟩, .slice a hn cap), body, .slice a' body.length cap', tests, .slice a'' tests.length cap''⟩) 30)) (w.heap.size + 1) [] := by
    have h := World.ownsMap_made (w.alloc (.cells (Cm.cs ⟨(⟨⟨k, m, s⟩, nm, ls⟩, .slice a hn cap), body, .slice a' body.length cap', tests, .slice a'' tests.length cap''⟩) 30)) Tryz.prog 3 (unitElem (H := Unit))
    rw [show (w.alloc (.cells (Cm.cs ⟨(⟨⟨k, m, s⟩, nm, ls⟩, .slice a hn cap), body, .slice a' body.length cap', tests, .slice a'' tests.length cap''⟩) 30)).heap.size = w.heap.size + 1 by simp] at h
    have h' : SetOk ((w.alloc (.cells (Cm.cs ⟨(⟨⟨k, m, s⟩, nm, ls⟩, .slice a hn cap), body, .slice a' body.length cap', tests, .slice a'' tests.length cap''⟩) 30)).alloc (.map #[] 0)) (w.heap.size + 1) [] := h
    exact (h'.later (below1 _ _)).later (below1 _ _)
  have b1 : CBlk ((((w.alloc (.cells (Cm.cs ⟨(⟨⟨k, m, s⟩, nm, ls⟩, .slice a hn cap), body, .slice a' body.length cap', tests, .slice a'' tests.length cap''⟩) 30)).alloc (.map #[] 0)).alloc (.cells #[.map (some (w.heap.size + 1))] 99)).alloc (.cells (Cm.cs ⟨(⟨⟨k, m, s⟩, nm, ls⟩, .slice a hn cap), body, .slice a' body.length cap', tests, .slice a'' tests.length cap''⟩) 30)) (w.heap.size + 1 + 1) #[.map (some (w.heap.size + 1))] 99 := by
    have := (CBlk.new ((w.alloc (.cells (Cm.cs ⟨(⟨⟨k, m, s⟩, nm, ls⟩, .slice a hn cap), body, .slice a' body.length cap', tests, .slice a'' tests.length cap''⟩) 30)).alloc (.map #[] 0)) #[.map (some (w.heap.size + 1))] 99).later (below1 _ (.cells (Cm.cs ⟨(⟨⟨k, m, s⟩, nm, ls⟩, .slice a hn cap), body, .slice a' body.length cap', tests, .slice a'' tests.length cap''⟩) 30))
    rwa [show ((w.alloc (.cells (Cm.cs ⟨(⟨⟨k, m, s⟩, nm, ls⟩, .slice a hn cap), body, .slice a' body.length cap', tests, .slice a'' tests.length cap''⟩) 30)).alloc (.map #[] 0)).heap.size = w.heap.size + 1 + 1 by simp] at this
  have b2 : CBlk ((((w.alloc (.cells (Cm.cs ⟨(⟨⟨k, m, s⟩, nm, ls⟩, .slice a hn cap), body, .slice a' body.length cap', tests, .slice a'' tests.length cap''⟩) 30)).alloc (.map #[] 0)).alloc (.cells #[.map (some (w.heap.size + 1))] 99)).alloc (.cells (Cm.cs ⟨(⟨⟨k, m, s⟩, nm, ls⟩, .slice a hn cap), body, .slice a' body.length cap', tests, .slice a'' tests.length cap''⟩) 30)) (w.heap.size + 1 + 1 + 1) (Cm.cs ⟨(⟨⟨k, m, s⟩, nm, ls⟩, .slice a hn cap), body, .slice a' body.length cap', tests, .slice a'' tests.length cap''⟩) 30 := by
    have := CBlk.new (((w.alloc (.cells (Cm.cs ⟨(⟨⟨k, m, s⟩, nm, ls⟩, .slice a hn cap), body, .slice a' body.length cap', tests, .slice a'' tests.length cap''⟩) 30)).alloc (.map #[] 0)).alloc (.cells #[.map (some (w.heap.size + 1))] 99)) (Cm.cs ⟨(⟨⟨k, m, s⟩, nm, ls⟩, .slice a hn cap), body, .slice a' body.length cap', tests, .slice a'' tests.length cap''⟩) 30
    rwa [show (((w.alloc (.cells (Cm.cs ⟨(⟨⟨k, m, s⟩, nm, ls⟩, .slice a hn cap), body, .slice a' body.length cap', tests, .slice a'' tests.length cap''⟩) 30)).alloc (.map #[] 0)).alloc (.cells #[.map (some (w.heap.size + 1))] 99)).heap.size = w.heap.size + 1 + 1 + 1 by simp] at this
  have hB1 : Below w.heap.size w ((((w.alloc (.cells (Cm.cs ⟨(⟨⟨k, m, s⟩, nm, ls⟩, .slice a hn cap), body, .slice a' body.length cap', tests, .slice a'' tests.length cap''⟩) 30)).alloc (.map #[] 0)).alloc (.cells #[.map (some (w.heap.size + 1))] 99)).alloc (.cells (Cm.cs ⟨(⟨⟨k, m, s⟩, nm, ls⟩, .slice a hn cap), body, .slice a' body.length cap', tests, .slice a'' tests.length cap''⟩) 30)) := hb3.trans ((below1 _ _).mono hb3.size)
  gi_wp2
  revert hz1 b0 b1 b2 hB1
  generalize (((w.alloc (.cells (Cm.cs ⟨(⟨⟨k, m, s⟩, nm, ls⟩, .slice a hn cap), body, .slice a' body.length cap', tests, .slice a'' tests.length cap''⟩) 30)).alloc (.map #[] 0)).alloc (.cells #[.map (some (w.heap.size + 1))] 99)).alloc (.cells (Cm.cs ⟨(⟨⟨k, m, s⟩, nm, ls⟩, .slice a hn cap), body, .slice a' body.length cap', tests, .slice a'' tests.length cap''⟩) 30) = V
  intro hz1 b0 b1 b2 hB1
  clear hb3
  refine wpIn_seq (gf := 136) (lb := #[.pointer (some ⟨w.heap.size + 1 + 1 + 1, 0, none⟩)]) rfl (enters_of Tryz.func136 (by kernel_rfl) rfl) (variables_seq ⟨(⟨⟨k, m, s⟩, nm, ls⟩, .slice a hn cap), body, .slice a' body.length cap', tests, .slice a'' tests.length cap''⟩ (w.heap.size + 1 + 1 + 1)) (fun _ => rfl)
    (fun pre X => SetOk X (w.heap.size + 1) pre ∧ CBlk X (w.heap.size + 1 + 1) #[.map (some (w.heap.size + 1))] 99 ∧ CBlk X (w.heap.size + 1 + 1 + 1) (Cm.cs ⟨(⟨⟨k, m, s⟩, nm, ls⟩, .slice a hn cap), body, .slice a' body.length cap', tests, .slice a'' tests.length cap''⟩) 30 ∧ Below w.heap.size w X)
    (fun _ _ _ => False)
    (OwnFrom.and (set_own _ _ (by omega)) (OwnFrom.and (cblk_own _ _ _ _) (OwnFrom.and (cblk_own _ _ _ _) (ownFrom_below (Nat.le_refl _) (by omega)))))
    (fun cd => ownFrom_pure _ (fun _ => False))
    (fun pre X h => ⟨h.2.2.1, HOK.out.later h.2.2.2⟩)
    ⟨b0, b1, b2, hB1⟩
    (fun x act X => act = { tmps := #[.agg #[.int .i64 k, .int .i64 m, .string s, .string nm, .slice a hn cap, .slice a' body.length cap', .slice a'' tests.length cap''], .pointer (some ⟨w.heap.size, 0, none⟩), .map none, .pointer (some ⟨w.heap.size + 1 + 1, 0, none⟩), .int .i64 x, .map (some (w.heap.size + 1)), .agg #[.int .i64 k, .int .i64 m, .string s, .string nm, .slice a hn cap, .slice a' body.length cap', .slice a'' tests.length cap''], .func (.func 136) #[] #[.pointer (some ⟨w.heap.size + 1 + 1 + 1, 0, none⟩)], .int .i64 x, undef, undef, undef, undef], defers := [] })
    (fun x act => ownFrom_pure _ (fun _ => act = _))
    ?assign ?body ?done ?stop
  case assign =>
    rintro l' mm pre x X K hpre ⟨hs, hf, hb, hbw⟩ hle hK
    gi_wp2
    exact hK _ _ (Up.refl _ _) ⟨hs, hf, hb, hbw⟩ rfl
  case body =>
    rintro l' mm pre x act X hpre ⟨hs, hf, hb, hbw⟩ rfl hle
    have HS : Hid (SetOk X (w.heap.size + 1) pre) := hs
    have HF : Hid (CBlk X (w.heap.size + 1 + 1) #[.map (some (w.heap.size + 1))] 99) := hf
    have HB : Hid (CBlk X (w.heap.size + 1 + 1 + 1) (Cm.cs ⟨(⟨⟨k, m, s⟩, nm, ls⟩, .slice a hn cap), body, .slice a' body.length cap', tests, .slice a'' tests.length cap''⟩) 30) := hb
    have HBW : Hid (Below w.heap.size w X) := hbw
    have hwx : (Lit.int .i64 x).wf = true := HWF.out x (mem_of_pre hpre)
    have hpl : pre.length < maxLen := by
      have h1 := HVL.out
      have h2 := hpre.length_le
      simp only [List.length_append, List.length_cons, List.length_nil] at h2
      unfold maxLen; omega
    have HWX : Hid ((Lit.int .i64 x).wf = true) := hwx
    obtain ⟨f0, f1⟩ := one hf
    clear hs hf hb hbw hpre hwx
    gi_wp2_with (gi_at_mapUpdate; refine wpListIn_mapUpdate_own _ rfl _ _ _ 99 rfl 3 157 (Maps.int_keyed Tryz.underlying3) Tryz.underlying99 (unitElem (H := Unit)) (w.heap.size + 1) pre.length (sv pre) rfl HS.out hpl _ _ _ rfl rfl (Maps.keyOf_int_mk Tryz.underlying3 HWX.out) _ [] unitElem_mk ?_; intro w1 hown1 hgrow1)
    refine ⟨Up.grown hgrow1 (fun q e => by cases e; omega), ?_, ?_, ?_, HBW.out.grown hgrow1 HBW.out.size (fun q e => by cases e; omega)⟩
    · unfold SetOk
      rw [List.length_append, sv_snoc]
      exact hown1
    · exact (hgrow1.block _ HF.out.lt (fun e => by have := Option.some.inj e; omega)).trans HF.out
    · exact (hgrow1.block _ HB.out.lt (fun e => by have := Option.some.inj e; omega)).trans HB.out
  case done =>
    rintro E X hE ⟨hs, hf, hb, hbw⟩ hD
    obtain ⟨f0, f1⟩ := one hf
    have HS : Hid (SetOk X (w.heap.size + 1) (Cm.vars ⟨(⟨⟨k, m, s⟩, nm, ls⟩, .slice a hn cap), body, .slice a' body.length cap', tests, .slice a'' tests.length cap''⟩)) := hs
    clear hs
    gi_wp2
    refine ⟨by simp, .inl ⟨_, _, rfl, run_takeDeferred hD, ?_⟩⟩
    exact ⟨_, results_tmp rfl _ _ _, w.heap.size + 1, rfl, HS.out.grown (grownBy_putObj' _ E _) (fun e => by cases e; omega), by omega, below_put hbw (by omega)⟩
  case stop =>
    rintro E cd pre X hE hpre h hD
    exact h.elim
end Go.Proofs.YtllgffmhbddigaaGreat
