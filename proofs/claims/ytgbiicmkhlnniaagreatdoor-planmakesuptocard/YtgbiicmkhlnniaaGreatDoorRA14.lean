import Derived.Test.YtgbiicmkhlnniaaGreatDoorCL5
import Derived.Maps.OwnIn
import Derived.Maps.AppendAt
import Derived.Test.YtgbiicmkhlnniaaGreatDoorCL1
import Derived.Test.YtgbiicmkhlnniaaGreatDoorW1
import Derived.Test.YtgbiicmkhlnniaaGreatDoorB4
import Derived.ProofKit
import Derived.OpenShut
import Derived.ShutString
import Derived.ChangeOld
import Derived.Below
import Derived.Lib.SmallJoins
import Derived.Test.YtgbiicmkhlnniaaGreatDoorB2
import Derived.DeepKeys4
import Derived.Laws.AppendOwnNone
import Derived.Lib.SliceRun
import Derived.Laws.BitsAllLaws
import Derived.WalkLawsBesides
import Derived.Test.YtgbiicmkhlnniaaGreatDoorProg
import Derived.Conc.MuLone
import Derived.KernelRfl
/-
  variableSet.
-/
namespace Go.Proofs.YtgbiicmkhlnniaaGreatDoor
open Go.RowKit Go.Shelf
attribute [local go_sem] Oper.semAt_some

/-- The set of these numbers, as a datum. -/
def sv (l : List Int) : DataW Unit := Maps.setOf (.agg []) (l.map (Lit.int .i64))
theorem sv_snoc (l : List Int) (x : Int) : sv (l ++ [x]) = (sv l).put (.int .i64 x) (.agg []) := by
  unfold sv; rw [List.map_append, List.map_cons, List.map_nil, Maps.setOf_snoc]
def SetOk (X : World) (b : Nat) (l : List Int) : Prop := X.ownsMap Tryz.prog 3 (unitElem (H := Unit)) b l.length (sv l)
theorem SetOk.grown {X Y : World} {b : Nat} {l : List Int} {row : Option Nat} (h : SetOk X b l) (hg : X.grownBy Y row) (hr : some b ≠ row) : SetOk Y b l := h.kept hg hr
theorem SetOk.later {X Y : World} {b : Nat} {l : List Int} (h : SetOk X b l) (hb : Below X.heap.size X Y) : SetOk Y b l := h.grown (below_grown hb) (by simp)
theorem set_own (K b : Nat) (hb : b < K) : OwnFrom K (fun (l : List Int) X => SetOk X b l) := fun _ _ _ _ hs hg hr => hs.grown hg (fun e => by have := (hr b e.symm).1; omega)
def VPost (w : World) (l : List Int) (e : Ending) (w' : World) : Prop := ∃ b, e = .returned (.map (some b)) ∧ SetOk w' b l ∧ w.heap.size ≤ b ∧ Below w.heap.size w w'
set_option maxRecDepth 100000 in
set_option maxHeartbeats 4000000 in
theorem variableSet_any (c : Cm) (w : World) (h : c.ok w) (hw : ∀ v ∈ c.vars, (Lit.int .i64 v).wf = true) (hvl : c.vars.length < 4000000000000000000) :
    Calls Tryz.prog 55 #[c.v] w (VPost w c.vars) := by
  obtain ⟨⟨a, hn, cap, h1⟩, ⟨a', cap', h2⟩, ⟨a'', cap'', h3⟩, hbl, htl⟩ := h.shape
  have HOK : Hid (c.ok w) := h
  have HWF : Hid (∀ v ∈ c.vars, (Lit.int .i64 v).wf = true) := hw
  have HVL : Hid (c.vars.length < 4000000000000000000) := hvl
  have hb3 : Below w.heap.size w (((w.alloc (.cells c.cs 30)).alloc (.map #[] 0)).alloc (.cells #[.map (some (w.heap.size + 1))] 102)) := (below2 w _ _).trans ((below1 _ _).mono (by simp; omega))
  have hat := variables_any c (((w.alloc (.cells c.cs 30)).alloc (.map #[] 0)).alloc (.cells #[.map (some (w.heap.size + 1))] 102)) (h.later hb3)
  obtain ⟨⟨⟨⟨k, m, s⟩, nm, ls⟩, hx⟩, body, bv, tests, tv⟩ := c
  simp only at h1 h2 h3 hbl htl hat hb3
  subst h1 h2 h3
  have hmm := @run_makeMap Tryz.prog
  obtain ⟨n, -⟩ : ∃ n : Nat, True := ⟨0, trivial⟩
  refine (callsIn_wide (n := n)).1 ?_
  refine callsIn_of_wp_marks Tryz.func55 rfl trivial ?_ rfl
  simp only [Tryz.ntmps55, List.size_toArray, List.length_cons, List.length_nil, Nat.reduceAdd, Nat.reduceSub, Array.replicate_succ, Array.replicate_zero, List.push_toArray, List.append_toArray, List.nil_append, List.cons_append]
  gi_wp2
  refine ⟨trivial, fun h => (by cases h), (callsIn_wide.2 hat).mono ?_⟩
  rintro e w' ⟨rfl, rfl⟩
  clear hat h hw hvl
  have hz1 : ((((w.alloc (.cells (Cm.cs ⟨(⟨⟨k, m, s⟩, nm, ls⟩, .slice a hn cap), body, .slice a' body.length cap', tests, .slice a'' tests.length cap''⟩) 30)).alloc (.map #[] 0)).alloc (.cells #[.map (some (w.heap.size + 1))] 102)).alloc (.cells (Cm.cs ⟨(⟨⟨k, m, s⟩, nm, ls⟩, .slice a hn cap), body, .slice a' body.length cap', tests, .slice a'' tests.length cap''⟩) 30)).heap.size = w.heap.size + 4 := by simp
  have b0 : SetOk ((((w.alloc (.cells (Cm.cs ⟨(⟨⟨k, m, s⟩, nm, ls⟩, .slice a hn cap), body, .slice a' body.length cap', tests, .slice a'' tests.length cap''⟩) 30)).alloc (.map #[] 0)).alloc (.cells #[.map (some (w.heap.size + 1))] 102)).alloc (.cells (Cm.cs ⟨(⟨⟨k, m, s⟩, nm, ls⟩, .slice a hn cap), body, .slice a' body.length cap', tests, .slice a'' tests.length cap''⟩) 30)) (w.heap.size + 1) [] := by
    have h := World.ownsMap_made (w.alloc (.cells (Cm.cs ⟨(⟨⟨k, m, s⟩, nm, ls⟩, .slice a hn cap), body, .slice a' body.length cap', tests, .slice a'' tests.length cap''⟩) 30)) Tryz.prog 3 (unitElem (H := Unit))
    rw [show (w.alloc (.cells (Cm.cs ⟨(⟨⟨k, m, s⟩, nm, ls⟩, .slice a hn cap), body, .slice a' body.length cap', tests, .slice a'' tests.length cap''⟩) 30)).heap.size = w.heap.size + 1 by simp] at h
    have h' : SetOk ((w.alloc (.cells (Cm.cs ⟨(⟨⟨k, m, s⟩, nm, ls⟩, .slice a hn cap), body, .slice a' body.length cap', tests, .slice a'' tests.length cap''⟩) 30)).alloc (.map #[] 0)) (w.heap.size + 1) [] := h
    exact (h'.later (below1 _ _)).later (below1 _ _)
  have b1 : CBlk ((((w.alloc (.cells (Cm.cs ⟨(⟨⟨k, m, s⟩, nm, ls⟩, .slice a hn cap), body, .slice a' body.length cap', tests, .slice a'' tests.length cap''⟩) 30)).alloc (.map #[] 0)).alloc (.cells #[.map (some (w.heap.size + 1))] 102)).alloc (.cells (Cm.cs ⟨(⟨⟨k, m, s⟩, nm, ls⟩, .slice a hn cap), body, .slice a' body.length cap', tests, .slice a'' tests.length cap''⟩) 30)) (w.heap.size + 1 + 1) #[.map (some (w.heap.size + 1))] 102 := by
    have := (CBlk.new ((w.alloc (.cells (Cm.cs ⟨(⟨⟨k, m, s⟩, nm, ls⟩, .slice a hn cap), body, .slice a' body.length cap', tests, .slice a'' tests.length cap''⟩) 30)).alloc (.map #[] 0)) #[.map (some (w.heap.size + 1))] 102).later (below1 _ (.cells (Cm.cs ⟨(⟨⟨k, m, s⟩, nm, ls⟩, .slice a hn cap), body, .slice a' body.length cap', tests, .slice a'' tests.length cap''⟩) 30))
    rwa [show ((w.alloc (.cells (Cm.cs ⟨(⟨⟨k, m, s⟩, nm, ls⟩, .slice a hn cap), body, .slice a' body.length cap', tests, .slice a'' tests.length cap''⟩) 30)).alloc (.map #[] 0)).heap.size = w.heap.size + 1 + 1 by simp] at this
  have b2 : CBlk ((((w.alloc (.cells (Cm.cs ⟨(⟨⟨k, m, s⟩, nm, ls⟩, .slice a hn cap), body, .slice a' body.length cap', tests, .slice a'' tests.length cap''⟩) 30)).alloc (.map #[] 0)).alloc (.cells #[.map (some (w.heap.size + 1))] 102)).alloc (.cells (Cm.cs ⟨(⟨⟨k, m, s⟩, nm, ls⟩, .slice a hn cap), body, .slice a' body.length cap', tests, .slice a'' tests.length cap''⟩) 30)) (w.heap.size + 1 + 1 + 1) (Cm.cs ⟨(⟨⟨k, m, s⟩, nm, ls⟩, .slice a hn cap), body, .slice a' body.length cap', tests, .slice a'' tests.length cap''⟩) 30 := by
    have := CBlk.new (((w.alloc (.cells (Cm.cs ⟨(⟨⟨k, m, s⟩, nm, ls⟩, .slice a hn cap), body, .slice a' body.length cap', tests, .slice a'' tests.length cap''⟩) 30)).alloc (.map #[] 0)).alloc (.cells #[.map (some (w.heap.size + 1))] 102)) (Cm.cs ⟨(⟨⟨k, m, s⟩, nm, ls⟩, .slice a hn cap), body, .slice a' body.length cap', tests, .slice a'' tests.length cap''⟩) 30
    rwa [show (((w.alloc (.cells (Cm.cs ⟨(⟨⟨k, m, s⟩, nm, ls⟩, .slice a hn cap), body, .slice a' body.length cap', tests, .slice a'' tests.length cap''⟩) 30)).alloc (.map #[] 0)).alloc (.cells #[.map (some (w.heap.size + 1))] 102)).heap.size = w.heap.size + 1 + 1 + 1 by simp] at this
  have hB1 : Below w.heap.size w ((((w.alloc (.cells (Cm.cs ⟨(⟨⟨k, m, s⟩, nm, ls⟩, .slice a hn cap), body, .slice a' body.length cap', tests, .slice a'' tests.length cap''⟩) 30)).alloc (.map #[] 0)).alloc (.cells #[.map (some (w.heap.size + 1))] 102)).alloc (.cells (Cm.cs ⟨(⟨⟨k, m, s⟩, nm, ls⟩, .slice a hn cap), body, .slice a' body.length cap', tests, .slice a'' tests.length cap''⟩) 30)) := hb3.trans ((below1 _ _).mono hb3.size)
  gi_wp2
  revert hz1 b0 b1 b2 hB1
  generalize (((w.alloc (.cells (Cm.cs ⟨(⟨⟨k, m, s⟩, nm, ls⟩, .slice a hn cap), body, .slice a' body.length cap', tests, .slice a'' tests.length cap''⟩) 30)).alloc (.map #[] 0)).alloc (.cells #[.map (some (w.heap.size + 1))] 102)).alloc (.cells (Cm.cs ⟨(⟨⟨k, m, s⟩, nm, ls⟩, .slice a hn cap), body, .slice a' body.length cap', tests, .slice a'' tests.length cap''⟩) 30) = V
  intro hz1 b0 b1 b2 hB1
  clear hb3
  refine wpIn_seq (gf := 120) (lb := #[.pointer (some ⟨w.heap.size + 1 + 1 + 1, 0, none⟩)]) rfl (enters_of Tryz.func120 (by kernel_rfl) rfl) (variables_seq ⟨(⟨⟨k, m, s⟩, nm, ls⟩, .slice a hn cap), body, .slice a' body.length cap', tests, .slice a'' tests.length cap''⟩ (w.heap.size + 1 + 1 + 1)) (fun _ => rfl)
    (fun pre X => SetOk X (w.heap.size + 1) pre ∧ CBlk X (w.heap.size + 1 + 1) #[.map (some (w.heap.size + 1))] 102 ∧ CBlk X (w.heap.size + 1 + 1 + 1) (Cm.cs ⟨(⟨⟨k, m, s⟩, nm, ls⟩, .slice a hn cap), body, .slice a' body.length cap', tests, .slice a'' tests.length cap''⟩) 30 ∧ Below w.heap.size w X)
    (fun _ _ _ => False)
    (OwnFrom.and (set_own _ _ (by omega)) (OwnFrom.and (cblk_own _ _ _ _) (OwnFrom.and (cblk_own _ _ _ _) (ownFrom_below (Nat.le_refl _) (by omega)))))
    (fun cd => ownFrom_pure _ (fun _ => False))
    (fun pre X h => ⟨h.2.2.1, HOK.out.later h.2.2.2⟩)
    ⟨b0, b1, b2, hB1⟩
    (fun x act X => act = { tmps := #[.agg #[.int .i64 k, .int .i64 m, .string s, .string nm, .slice a hn cap, .slice a' body.length cap', .slice a'' tests.length cap''], .pointer (some ⟨w.heap.size, 0, none⟩), .map none, .pointer (some ⟨w.heap.size + 1 + 1, 0, none⟩), .int .i64 x, .map (some (w.heap.size + 1)), .agg #[.int .i64 k, .int .i64 m, .string s, .string nm, .slice a hn cap, .slice a' body.length cap', .slice a'' tests.length cap''], .func (.func 120) #[] #[.pointer (some ⟨w.heap.size + 1 + 1 + 1, 0, none⟩)], .int .i64 x, undef, undef, undef, undef], defers := [] })
    (fun x act => ownFrom_pure _ (fun _ => act = _))
    ?assign ?body ?done ?stop
  case assign =>
    rintro l' mm pre x X K hpre ⟨hs, hf, hb, hbw⟩ hle hK
    gi_wp2
    exact hK _ _ (Up.refl _ _) ⟨hs, hf, hb, hbw⟩ rfl
  case body =>
    rintro l' mm pre x act X hpre ⟨hs, hf, hb, hbw⟩ rfl hle
    have HS : Hid (SetOk X (w.heap.size + 1) pre) := hs
    have HF : Hid (CBlk X (w.heap.size + 1 + 1) #[.map (some (w.heap.size + 1))] 102) := hf
    have HB : Hid (CBlk X (w.heap.size + 1 + 1 + 1) (Cm.cs ⟨(⟨⟨k, m, s⟩, nm, ls⟩, .slice a hn cap), body, .slice a' body.length cap', tests, .slice a'' tests.length cap''⟩) 30) := hb
    have HBW : Hid (Below w.heap.size w X) := hbw
    have hwx : (Lit.int .i64 x).wf = true := HWF.out x (mem_of_pre hpre)
    have hpl : pre.length < maxLen := by
      have h1 := HVL.out
      have h2 := hpre.length_le
      simp only [List.length_append, List.length_cons, List.length_nil] at h2
      unfold maxLen; omega
    have HWX : Hid ((Lit.int .i64 x).wf = true) := hwx
    obtain ⟨f0, f1⟩ := one hf
    clear hs hf hb hbw hpre hwx
    gi_wp2_with (gi_at_mapUpdate; refine wpListIn_mapUpdate_own _ rfl _ _ _ 102 rfl 3 135 (Maps.int_keyed Tryz.underlying3) Tryz.underlying102 (unitElem (H := Unit)) (w.heap.size + 1) pre.length (sv pre) rfl HS.out hpl _ _ _ rfl rfl (Maps.keyOf_int_mk Tryz.underlying3 HWX.out) _ [] unitElem_mk ?_; intro w1 hown1 hgrow1)
    refine ⟨Up.grown hgrow1 (fun q e => by cases e; omega), ?_, ?_, ?_, HBW.out.grown hgrow1 HBW.out.size (fun q e => by cases e; omega)⟩
    · unfold SetOk
      rw [List.length_append, sv_snoc]
      exact hown1
    · exact (hgrow1.block _ HF.out.lt (fun e => by have := Option.some.inj e; omega)).trans HF.out
    · exact (hgrow1.block _ HB.out.lt (fun e => by have := Option.some.inj e; omega)).trans HB.out
  case done =>
    rintro E X hE ⟨hs, hf, hb, hbw⟩ hD
    obtain ⟨f0, f1⟩ := one hf
    have HS : Hid (SetOk X (w.heap.size + 1) (Cm.vars ⟨(⟨⟨k, m, s⟩, nm, ls⟩, .slice a hn cap), body, .slice a' body.length cap', tests, .slice a'' tests.length cap''⟩)) := hs
    clear hs
    gi_wp2
    refine ⟨by simp, .inl ⟨_, _, rfl, run_takeDeferred hD, ?_⟩⟩
    exact ⟨_, results_tmp rfl _ _ _, w.heap.size + 1, rfl, HS.out.grown (grownBy_putObj' _ E _) (fun e => by cases e; omega), by omega, below_put hbw (by omega)⟩
  case stop =>
    rintro E cd pre X hE hpre h hD
    exact h.elim
end Go.Proofs.YtgbiicmkhlnniaaGreatDoor
/-
  replace, ApplyTest.
-/
namespace Go.Proofs.YtgbiicmkhlnniaaGreatDoor
open Go.RowKit
attribute [local go_sem ↓] Go.wp_at_zero Go.wp_at_succ

def BoxB (w W : World) (c d : Array Value) (t t' : TypeId) : Prop := W.heap[w.heap.size]? = some (.cells c t (0, 0)) ∧ W.heap[w.heap.size + 1]? = some (.cells d t' (0, 0)) ∧ Below w.heap.size w W
theorem BoxB.start (w : World) (c d : Array Value) (t t' : TypeId) : BoxB w ((w.alloc (.cells c t)).alloc (.cells d t')) c d t t' := ⟨heap_alloc2_old _ _ _, heap_alloc2_new _ _ _, below2 _ _ _⟩
theorem BoxB.later {w W W' : World} {c d : Array Value} {t t' : TypeId} (h : BoxB w W c d t t') (hb : Below W.heap.size W W') : BoxB w W' c d t t' :=
  ⟨(hb.block _ (Array.getElem?_eq_some_iff.1 h.1).1).trans h.1, (hb.block _ (Array.getElem?_eq_some_iff.1 h.2.1).1).trans h.2.1, h.2.2.trans (hb.mono h.2.2.size)⟩
theorem BoxB.lt {w W : World} {c d : Array Value} {t t' : TypeId} (h : BoxB w W c d t t') : w.heap.size + 1 < W.heap.size := (Array.getElem?_eq_some_iff.1 h.2.1).1
theorem cell_stepB {B : Nat} {w' w3 : World} {b o : Nat} {v : Value} (h3 : Below B w' w3) (hb : b < B) (hc : w'.cell? ⟨b, o, none⟩ = some v) : w3.cell? ⟨b, o, none⟩ = some v := by
  rw [h3.cell (p := ⟨b, o, none⟩) hb]; exact hc
end Go.Proofs.YtgbiicmkhlnniaaGreatDoor
/-
  sortBinds of at most one bind; first.
-/
namespace Go.Proofs.YtgbiicmkhlnniaaGreatDoor
open Go.RowKit

set_option maxRecDepth 100000 in
theorem len64_tiny (n : Int) (h : n = 0 ∨ n = 1) (w : World) : Calls Tryz.prog 114 #[.int .u64 n] w fun e w' => (∃ m : Int, e = .returned (.int .i64 m)) ∧ w' = w := by
  rcases h with rfl | rfl
  · go_enter Tryz.func114, Tryz.ntmps114
    go_wp2
    go_ret
    exact ⟨⟨_, rfl⟩, rfl⟩
  · go_enter Tryz.func114, Tryz.ntmps114
    go_wp2
    go_ret
    exact ⟨⟨_, rfl⟩, rfl⟩
theorem len_tiny (n : Nat) (h : n ≤ 1) (w : World) : Calls Tryz.prog 79 #[.int .u64 n] w fun e w' => (∃ m : Int, e = .returned (.int .i64 m)) ∧ w' = w := by
  have hn : (n : Int) = 0 ∨ (n : Int) = 1 := by omega
  have HN : Hid ((n : Int) = 0 ∨ (n : Int) = 1) := hn
  clear hn h
  go_enter Tryz.func79, Tryz.ntmps79
  go_wp2_with (go_at_call 114; refine (len64_tiny _ HN.out _).mono ?_; rintro e w1 ⟨⟨m, rfl⟩, rfl⟩)
  go_ret
  exact ⟨⟨_, rfl⟩, rfl⟩
end Go.Proofs.YtgbiicmkhlnniaaGreatDoor
/-
  hearsaylaw02.TermDecides, for every two terms.
-/
namespace Go.Proofs.YtgbiicmkhlnniaaGreatDoor
open Go.RowKit
attribute [local go_sem ↓] Go.wp_at_zero Go.wp_at_succ

def x4 : Tm := ⟨3, 4, ⟨#[]⟩⟩
end Go.Proofs.YtgbiicmkhlnniaaGreatDoor
/-
  Arguments opened: a term, a list of terms, an atom, a binding.
-/
namespace Go.Proofs.YtgbiicmkhlnniaaGreatDoor
open Go.ChangeShapes Go.WideShapes Go.ChangeAt Go.RowKit Go.Joins
open Go.ChangeMaps (open_string shut_string)

theorem Tryz.own : ownKnob Tryz.prog.godebug = none := by kernel_rfl
theorem Tryz.laidOut : laidOutB Tryz.prog = true := by kernel_rfl
theorem Tryz.cellsTerm : Tryz.prog.cellsOf 23 = 3 := by kernel_rfl

end Go.Proofs.YtgbiicmkhlnniaaGreatDoor
/-
  Maps whose keys are structs: what they hold, value by value.
-/
namespace Go.Proofs.YtgbiicmkhlnniaaGreatDoor
open Go.RowKit

/-- How things of a kind are keys of a map. -/
structure Ky (P : Program) (k : TypeId) (κ : Type) where
  v : κ → Value
  l : κ → Lit
  ok : κ → Prop
  kd : Maps.Keyed P k
  of : ∀ x, ok x → keyOf P k (v x) = some (l x)
  inv : ∀ u kl, keyOf P k u = some kl → ∃ x, u = v x ∧ kl = l x ∧ ok x
  inj : ∀ x y, ok x → ok y → l x = l y → x = y
  key : ∀ x, WideAt.IsKeyLit (l x)
section
variable {P : Program} {k : TypeId} {κ : Type} {K : Ky P k κ} {w w' : World} {b n : Nat} {f : κ → Option Value}
end
end Go.Proofs.YtgbiicmkhlnniaaGreatDoor
/-
  Numbers as a text: rel.text.
-/
namespace Go.Proofs.YtgbiicmkhlnniaaGreatDoor
open Go.RowKit
attribute [local go_sem ↓] Go.wp_at_zero Go.wp_at_succ

/-- A number in so many bytes, the greatest first. -/
def tb : Nat → Int → List Int
  | 0, _ => []
  | k + 1, n => (n / (256 : Int) ^ k) % 256 :: tb k n
theorem Tryz.infoInt7 : (Tryz.prog.info? 3).map (fun i => (i.zero, i.size, i.bytes)) = some (some (.int .i64 0), 1, 8) := by kernel_rfl
theorem info7 {P : Program} {e : TypeId} {z : Value} {s b : Nat} (h : (P.info? e).map (fun i => (i.zero, i.size, i.bytes)) = some (some z, s, b)) : ∃ i, P.info? e = some i ∧ i.zero = some z ∧ i.size = s ∧ i.bytes = b := by
  cases hi : P.info? e with
  | none => rw [hi] at h; simp at h
  | some i =>
    rw [hi] at h
    simp only [Option.map_some, Option.some.injEq, Prod.mk.injEq] at h
    exact ⟨i, rfl, h.1, h.2.1, h.2.2⟩
/-- append of one thing of one cell that lies in a block of its own. -/
theorem gapp {T e : TypeId} {z : Value} {by_ : Nat} (hT : Tryz.prog.underlying T = some (.slice e)) (hI : (Tryz.prog.info? e).map (fun i => (i.zero, i.size, i.bytes)) = some (some z, 1, by_)) (hz : z.cells.size = 1) (hby : by_ ≤ 100)
    {ops : Array Oper} {rest : List Oper} {o : Oper} {a : Act} {Q : Exit → Act → World → Prop} {w : World} (hgd : o.guard = none) (s x : Operand)
    (ho : o.op = .call { callee := .builtin .append, args := #[s, x], argTypes := #[T, T] }) (base : Nat) (v : Value) (n : Nat) (l : List Value) (hs : a.eval s = v) (hown : w.ownsRow base e 1 v n l)
    (b : Nat) (y : Value) (hx : a.eval x = .slice (some ⟨b, 0, none⟩) 1 1) (hblk : Bk w b #[y] e) (hy : y.oneCell' = true) (hlen : n ≤ 1000000000000) (hbase : base ≤ w.heap.size)
    (h : ∀ g cap w', w'.ownsRow base e 1 (.slice (some ⟨g, 0, none⟩) (n + 1) cap) (n + 1) (l ++ [y]) → w.grownBy w' v.ownBlock → (v.ownBlock = some g ∨ g = w.heap.size) → g < w'.heap.size → wpList Tryz.prog ops Q rest (a.put o.dst (.slice (some ⟨g, 0, none⟩) (n + 1) cap)) w') : wpList Tryz.prog ops Q (o :: rest) a w := by
  obtain ⟨i, hi, h0, h1, h2⟩ := info7 hI
  refine wpList_append_lies _ hgd s x T ho base e i z 1 by_ hT hi h0 h1 h2 hz (by omega) v n l hs hown ⟨b, 0, none⟩ 1 1 [y] hx rfl ?_ (by simpa using hy) (by omega) (by unfold maxLen; omega) (Nat.le_trans (Nat.mul_le_mul (show n + 1 ≤ 1000000000001 by omega) hby) (by decide)) hbase _ rfl h
  intro j u hj
  exact World.news_of_block (cs := #[y]) (t := e) (fr := (0, 0)) hblk j u (by simpa using hj)
end Go.Proofs.YtgbiicmkhlnniaaGreatDoor
/-
  rel: New, Turn, Part.
-/
namespace Go.Proofs.YtgbiicmkhlnniaaGreatDoor
open Go.RowKit
attribute [local go_sem ↓] Go.wp_at_zero Go.wp_at_succ

theorem mk_map7 (T : TypeId) (w : World) : (Instr.makeMap T none).run Tryz.prog w = .ok (.map (some w.heap.size)) (w.alloc (.map #[] 0)) := by
  simp [Instr.makeMap, go_sem]
end Go.Proofs.YtgbiicmkhlnniaaGreatDoor
/-
  slices.Clone of numbers.
-/
namespace Go.Proofs.YtgbiicmkhlnniaaGreatDoor
open Go.RowKit
attribute [local go_sem ↓] Go.wp_at_zero Go.wp_at_succ

theorem row7_mono {e : TypeId} {w : World} {b b' n m : Nat} {v : Value} {xs : List Value} (h : w.ownsRow b e n v m xs) (hb : b' ≤ b) : w.ownsRow b' e n v m xs := by
  refine ⟨h.1, ?_⟩
  rcases h.2 with hn | ⟨g, cap, cur, hv, hbb, hg, rest⟩
  · exact Or.inl hn
  · exact Or.inr ⟨g, cap, cur, hv, Nat.le_trans hb hbb, hg, rest⟩
end Go.Proofs.YtgbiicmkhlnniaaGreatDoor
/-
  rel: Add. (Written by RA7.py.)
-/
namespace Go.Proofs.YtgbiicmkhlnniaaGreatDoor
open Go.RowKit
attribute [local go_sem ↓] Go.wp_at_zero Go.wp_at_succ

/-- The block of a row that a call owns has its element type. -/
theorem row7_blk {w : World} {base n m : Nat} {e : TypeId} {v : Value} {xs : List Value} (h : w.ownsRow base e n v m xs) {b : Nat} (hb : v.ownBlock = some b) : ∃ cur, Bk w b cur e := by
  rcases h.2 with ⟨rfl, -⟩ | ⟨g, cap, cur, rfl, -, hg, -⟩
  · cases hb
  · cases hb; exact ⟨cur, hg⟩
theorem Bk.ty {w : World} {b : Nat} {c c' : Array Value} {t t' : TypeId} (h : Bk w b c t) (h' : Bk w b c' t') : t = t' := by
  unfold Bk at h h'
  rw [h] at h'
  simp at h'
  exact h'.2
end Go.Proofs.YtgbiicmkhlnniaaGreatDoor
/-
  slices.BinarySearch of numbers; a stretch of places.
-/
namespace Go.Proofs.YtgbiicmkhlnniaaGreatDoor
open Go.RowKit
attribute [local go_sem ↓] Go.wp_at_zero Go.wp_at_succ

theorem nan7_any (x : Int) (w : World) : Calls Tryz.prog 94 #[.int .i64 x] w fun e w' => e = .returned (.bool false) ∧ w' = w := by
  go_enter Tryz.func94, Tryz.ntmps94
  go_wp2
  go_ret
  exact ⟨ret_b (by simp), rfl⟩
end Go.Proofs.YtgbiicmkhlnniaaGreatDoor
/-
  rel: stretches, Len. (Written by RA14.py.)
-/
namespace Go.Proofs.YtgbiicmkhlnniaaGreatDoor
open Go.RowKit
attribute [local go_sem ↓] Go.wp_at_zero Go.wp_at_succ

theorem gstepN {T e : TypeId} {z : Value} {by_ size : Nat} (hT : Tryz.prog.underlying T = some (.slice e)) (hI : (Tryz.prog.info? e).map (fun i => (i.zero, i.size, i.bytes)) = some (some z, size, by_)) (hz : z.cells.size = size) (hsz : 0 < size) (hby : by_ ≤ 100)
    {ops : Array Oper} {o : Oper} {a : Act} {K : Act → World → Prop} {Q : Exit → Act → World → Prop} {E : Prop} {w : World} (hgd : o.guard = none) (s x : Operand)
    (ho : o.op = .call { callee := .builtin .append, args := #[s, x], argTypes := #[T, T] }) (base : Nat) (v : Value) (n : Nat) (l : List Value) (hs : a.eval s = v) (hown : w.ownsRow base e size v n l)
    (b : Nat) (y : Array Value) (hx : a.eval x = .slice (some ⟨b, 0, none⟩) 1 1) (hblk : Bk w b y e) (hy : y.size = size) (hone : ∀ u ∈ y.toList, u.oneCell' = true) (hlen : n ≤ 1000000000000) (hbase : base ≤ w.heap.size)
    (h : ∀ g cap w', w'.ownsRow base e size (.slice (some ⟨g, 0, none⟩) (n + 1) cap) (n + 1) (l ++ y.toList) → w.grownBy w' v.ownBlock → (v.ownBlock = some g ∨ g = w.heap.size) → g < w'.heap.size → K (a.put o.dst (.slice (some ⟨g, 0, none⟩) (n + 1) cap)) w') : if Region.wanted o (yielded ops a.tmps) = true then Oper.wp Tryz.prog o a w K Q else E := by
  obtain ⟨i, hi, h0, h1, h2⟩ := info7 hI
  refine step_append_lies _ hgd s x T ho base e i z size by_ hT hi h0 h1 h2 hz hsz v n l hs hown ⟨b, 0, none⟩ 1 1 y.toList hx (by simp [hy]) ?_ hone (by omega) (by unfold maxLen; omega) (Nat.le_trans (Nat.mul_le_mul (show n + 1 ≤ 1000000000001 by omega) hby) (by decide)) hbase _ rfl h
  intro j u hj
  exact World.news_of_block (cs := y) (t := e) (fr := (0, 0)) hblk j u (by simpa using hj)
end Go.Proofs.YtgbiicmkhlnniaaGreatDoor
