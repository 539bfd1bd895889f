import Derived.Test.YtgbiicmkhlnniaaGreatDoorShelf
import Derived.Sort.OwnSorted
import Derived.Test.YtgbiicmkhlnniaaGreatDoorRA16
import Derived.Sort.QuietIn
import Derived.RangeFuncCalls
import Derived.Shelf.Abstract
import Derived.Shelf.RegionOpen
import Derived.WalkKit
import Derived.OwnWalkIn
import Derived.TacticsInMore
import Derived.LoopNIn
import Derived.LoopIn
import Derived.Lib.SlicesCompact
import Derived.Laws.CopyRow
import Derived.Laws.StructEq
import Derived.Laws.Cover1
import Derived.Deep.QuietTactic
import Derived.BigQuiet
import Derived.Laws.AppendOwn
import Derived.Test.YtgbiicmkhlnniaaGreatDoorCL2
import Derived.Laws.CopyOwn
import Derived.Test.YtgbiicmkhlnniaaGreatDoorRA14
/-
  The sort of rows.
-/
namespace Go.Proofs.YtgbiicmkhlnniaaGreatDoor
open Go.RowKit Go.Shelf Go.Lib Go.Sort

/-- A row that stays wherever the blocks below g stay. -/
def Rf (w : World) (g : Nat) : Type := { p : List Int × Value // ∀ X : World, RowKit.Below g w X → Li Any X p.2 p.1 }
instance (w : World) (g : Nat) : Inhabited (Rf w g) := ⟨⟨([], .slice none 0 0), fun _ _ => Li.nil _ _⟩⟩
end Go.Proofs.YtgbiicmkhlnniaaGreatDoor
/-
  rel: cmp.Or of numbers, compareCells. (Written by RA38.py.)
-/
namespace Go.Proofs.YtgbiicmkhlnniaaGreatDoor
open Go.RowKit
attribute [local go_sem ↓] Go.wp_at_zero Go.wp_at_succ

/-- The first that isn't 0. -/
def or7 : List Int → Int
  | [] => 0
  | x :: l => if x = 0 then or7 l else x
set_option maxRecDepth 20000 in
set_option maxHeartbeats 1000000 in
theorem cmpOr7_any (F : Nat → Prop) (l : List Int) (u : Value) (w : World) (h : Li F w u l) :
    Calls Tryz.prog 63 #[u] w fun e w' => e = .returned (.int .i64 (or7 l)) ∧ w' = w := by
  obtain ⟨ad, cap, rfl, g1, g2, -, h⟩ := h
  obtain ⟨n, hn⟩ : ∃ n, l.length = n := ⟨_, rfl⟩
  have hnb : n ≤ 9223372036854775807 := by omega
  clear g1 g2
  rw [hn]
  go_enter Tryz.func63, Tryz.ntmps63
  go_wp2
  go_loopg [8] n (fun g i wr => ∃ j : Nat, j + g = n ∧ i = .int .i64 j ∧ or7 l = or7 (l.drop j) ∧ wr = w)
  case atStart => exact ⟨0, by omega, rfl, rfl, rfl⟩
  case round =>
    obtain ⟨j, hj, rfl, hc, rfl⟩ := hrel
    have HC := hm7 hc
    clear hc
    cases gk with
    | succ g =>
      have hlt : (j : Int) < (n : Int) := by omega
      have j0 : (0 : Int) ≤ (j : Int) := by omega
      obtain ⟨x, hx⟩ : ∃ x, l[j]? = some x := ⟨_, List.getElem?_eq_getElem (by omega)⟩
      rcases h with ⟨h, -⟩ | ⟨b1, o1, rfl, hb1, -, h⟩
      · rw [h] at hx; simp at hx
      have p0 := h j x hx
      have HS : Hid (or7 l = if x = 0 then or7 (l.drop (j + 1)) else x) := by rw [HC.out, drop_cons7 hx]; rfl
      clear h hx
      by_cases hx0 : x = 0
      · subst hx0
        go_wp2
        go_roundg g
        case measure => omega
        case rel => exact ⟨j + 1, by omega, by go_num, by rw [HS.out, if_pos trivial], rfl⟩
      · have hk1 : (x == 0) = false := by simp [hx0]
        have hk2 : (x != 0) = true := by simp [hx0]
        go_wp2
        go_ret
        exact ⟨ret_i (by rw [HS.out, if_neg hx0]), rfl⟩
    | zero =>
      have hlt : ¬ (j : Int) < (n : Int) := by omega
      have HS : Hid (or7 l = 0) := by rw [HC.out, show l.drop j = [] from List.drop_eq_nil_of_le (by omega)]; rfl
      clear h hn
      go_wp2
      go_ret
      exact ⟨ret_i HS.out.symm, rfl⟩
theorem li_lit7 {w : World} {b n : Nat} {l : List Int} {c : Array Value} (h : Bk w b c 3) (hn : l.length = n) (hc : c.toList = ibs7 l) (hw : w64 l) (hl : n ≤ 1000) : Li Any w (.slice (some ⟨b, 0, none⟩) n n) l := by
  refine ⟨_, n, by rw [hn], by omega, by omega, hw, Or.inr ⟨b, 0, rfl, h.lt, trivial, fun i x hx => ?_⟩⟩
  rw [Nat.zero_add]
  refine h.cell ?_
  rw [← Array.getElem?_toList, hc]
  simp [ibs7, hx]
theorem sg7_wf (x y : Int) : (Lit.int .i64 (sg7 x y)).wf = true := by
  rcases sg7_v x y with ⟨e, -⟩ | ⟨e, -⟩ | ⟨e, -⟩ <;> rw [e] <;> rfl
end Go.Proofs.YtgbiicmkhlnniaaGreatDoor
/-
  A region that draws its order and only reads, inside a round of a range over a function; marks of ranges that are behind.
-/
namespace Go.Proofs.YtgbiicmkhlnniaaGreatDoor
open Go.RowKit Go.Shelf
section
variable {F : Fence} {n : Nat} {P : Program} {ops : Array Oper} {C : World → Prop} {md : Region.Mode}
end
/-- The marks that a function has laid: each in a block of its own, with no call in it. -/
def mk7 (Es : List Nat) : List Deferred := Es.map fun E => { target := .collected E, args := #[] }
end Go.Proofs.YtgbiicmkhlnniaaGreatDoor
/-
  base: its table: a new term. (Written by EB3.py.)
-/
namespace Go.Proofs.YtgbiicmkhlnniaaGreatDoor
open Go.RowKit
attribute [local go_sem ↓] Go.wp_at_zero Go.wp_at_succ

theorem Tryz.infoTerm8 : (Tryz.prog.info? 23).map (fun i => (i.zero, i.size, i.bytes)) = some (some (.agg #[.int .i64 0, .int .i64 0, .string ⟨#[]⟩]), 3, 32) := by kernel_rfl
end Go.Proofs.YtgbiicmkhlnniaaGreatDoor
/-
  Vars; sets of numbers (plain).
-/
namespace Go.Proofs.YtgbiicmkhlnniaaGreatDoor
open Go.RowKit Go.Shelf

/-- The different ones. -/
def dstep (acc : List Int) (x : Int) : List Int := if x ∈ acc then acc else acc ++ [x]
def dis (l : List Int) : List Int := l.foldl dstep []
theorem key_int (x : Int) : WideAt.IsKeyLit (Lit.int .i64 x) := by trivial
theorem any_int (acc : List Int) (x : Int) : (acc.map (Lit.int .i64)).any (fun y => y.sameKey (.int .i64 x)) = decide (x ∈ acc) := by
  induction acc with
  | nil => rfl
  | cons a l ih =>
    rw [List.map_cons, List.any_cons, ih]
    by_cases e : a = x
    · subst e; rw [WideAt.sameKey_self (key_int _)]; simp
    · rw [Maps.sameKey_ne (fun h => e (by cases h; rfl))]
      have : x ≠ a := fun h => e h.symm
      simp [this]
theorem has_sv (l : List Int) (x : Int) : Maps.has (sv l) (.int .i64 x) = decide (x ∈ l) := by
  unfold sv
  rw [Maps.has_setOf _ _ _ (fun y hy => by obtain ⟨z, -, rfl⟩ := List.mem_map.1 hy; exact key_int z), any_int]
theorem addKey_int (acc : List Int) (x : Int) : Maps.addKey (acc.map (Lit.int .i64)) (.int .i64 x) = (dstep acc x).map (Lit.int .i64) := by
  unfold Maps.addKey dstep
  rw [any_int]
  by_cases h : x ∈ acc
  · rw [if_pos h]; simp [h]
  · rw [if_neg h]; simp [h]
theorem fold_int : ∀ (l acc : List Int), (l.map (Lit.int .i64)).foldl Maps.addKey (acc.map (Lit.int .i64)) = (l.foldl dstep acc).map (Lit.int .i64)
  | [], _ => rfl
  | x :: l, acc => by rw [List.map_cons, List.foldl_cons, List.foldl_cons, addKey_int, fold_int l]
theorem size_sv (l : List Int) : Maps.size (sv l) = (dis l).length := by
  unfold sv dis
  rw [Maps.size_setOf _ _ (fun y hy => by obtain ⟨z, -, rfl⟩ := List.mem_map.1 hy; exact key_int z)]
  have := fold_int l []
  rw [List.map_nil] at this
  rw [this, List.length_map]
set_option maxHeartbeats 1000000 in
theorem vars_any (c : Cm) (w : World) (h : c.ok w) (hw : ∀ v ∈ c.vars, (Lit.int .i64 v).wf = true) (hvl : c.vars.length < 4000000000000000000) :
    Calls Tryz.prog 31 #[c.v] w fun e w' => e = .returned (.int .i64 ((dis c.vars).length : Nat)) ∧ Below w.heap.size w w' := by
  obtain ⟨⟨a, hn, cap, h1⟩, ⟨a', cap', h2⟩, ⟨a'', cap'', h3⟩, hbl, htl⟩ := h.shape
  have hvs := variableSet_any c (w.alloc (.cells c.cs 30)) (h.later (below1 _ _)) hw hvl
  obtain ⟨l, hl⟩ : ∃ l, c.vars = l := ⟨_, rfl⟩
  rw [hl] at hvs ⊢
  clear hl hw hvl h
  obtain ⟨⟨⟨⟨k, m, s⟩, nm, ls⟩, hx⟩, body, bv, tests, tv⟩ := c
  simp only at h1 h2 h3 hbl htl hvs
  subst h1 h2 h3
  go_enter Tryz.func31, Tryz.ntmps31
  go_wp2_with (first
    | (go_at_call 55; refine hvs.mono ?_; rintro e w1 ⟨b, rfl, hs, hbb, hb1⟩; have HS : Hid (SetOk w1 b l) := hs; have HB : Hid (Below _ _ _) := hb1; clear hs hbb hb1)
    | (at_len; refine wpList_len_own _ rfl _ 102 rfl 3 135 Tryz.underlying102 (unitElem (H := Unit)) b _ _ rfl HS.out ?_))
  go_ret
  exact ⟨by rw [size_sv]; rfl, below_step (below1 _ _) HB.out⟩
end Go.Proofs.YtgbiicmkhlnniaaGreatDoor
/-
  misnumbered.
-/
namespace Go.Proofs.YtgbiicmkhlnniaaGreatDoor
open Go.RowKit Go.Shelf
attribute [local go_sem] Oper.semAt_some

def mis : Int → List Int → Bool
  | _, [] => false
  | n, v :: r => if n < v then true else mis (if v = n then n + 1 else n) r
set_option maxRecDepth 100000 in
set_option maxHeartbeats 4000000 in
theorem misnumbered_any (c : Cm) (w : World) (h : c.ok w) (hvl : c.vars.length < 4000000000000000000) :
    Calls Tryz.prog 54 #[c.v] w fun e w' => e = .returned (.bool (mis 0 c.vars)) ∧ Below w.heap.size w w' := by
  obtain ⟨⟨a, hn, cap, h1⟩, ⟨a', cap', h2⟩, ⟨a'', cap'', h3⟩, hbl, htl⟩ := h.shape
  have HOK : Hid (c.ok w) := h
  have HVL : Hid (c.vars.length < 4000000000000000000) := hvl
  have hb3 : Below w.heap.size w (((w.alloc (.cells c.cs 30)).alloc (.cells #[.bool false] 4)).alloc (.cells #[.int .i64 0] 3)) := (below2 w _ _).trans ((below1 _ _).mono (by simp; omega))
  have hat := variables_any c (((w.alloc (.cells c.cs 30)).alloc (.cells #[.bool false] 4)).alloc (.cells #[.int .i64 0] 3)) (h.later hb3)
  obtain ⟨⟨⟨⟨k, m, s⟩, nm, ls⟩, hx⟩, body, bv, tests, tv⟩ := c
  simp only at h1 h2 h3 hbl htl hat hb3
  subst h1 h2 h3
  obtain ⟨n, -⟩ : ∃ n : Nat, True := ⟨0, trivial⟩
  refine (callsIn_wide (n := n)).1 ?_
  refine callsIn_of_wp_marks Tryz.func54 rfl trivial ?_ rfl
  simp only [Tryz.ntmps54, List.size_toArray, List.length_cons, List.length_nil, Nat.reduceAdd, Nat.reduceSub, Array.replicate_succ, Array.replicate_zero, List.push_toArray, List.append_toArray, List.nil_append, List.cons_append]
  gi_wp2
  refine ⟨trivial, fun h => (by cases h), (callsIn_wide.2 hat).mono ?_⟩
  rintro e w' ⟨rfl, rfl⟩
  clear hat h hvl
  have hz1 : ((((w.alloc (.cells (Cm.cs ⟨(⟨⟨k, m, s⟩, nm, ls⟩, .slice a hn cap), body, .slice a' body.length cap', tests, .slice a'' tests.length cap''⟩) 30)).alloc (.cells #[.bool false] 4)).alloc (.cells #[.int .i64 0] 3)).alloc (.cells (Cm.cs ⟨(⟨⟨k, m, s⟩, nm, ls⟩, .slice a hn cap), body, .slice a' body.length cap', tests, .slice a'' tests.length cap''⟩) 30)).heap.size = w.heap.size + 4 := by simp
  have b0 : CBlk ((((w.alloc (.cells (Cm.cs ⟨(⟨⟨k, m, s⟩, nm, ls⟩, .slice a hn cap), body, .slice a' body.length cap', tests, .slice a'' tests.length cap''⟩) 30)).alloc (.cells #[.bool false] 4)).alloc (.cells #[.int .i64 0] 3)).alloc (.cells (Cm.cs ⟨(⟨⟨k, m, s⟩, nm, ls⟩, .slice a hn cap), body, .slice a' body.length cap', tests, .slice a'' tests.length cap''⟩) 30)) (w.heap.size + 1) #[.bool false] 4 := by
    have := ((CBlk.new (w.alloc (.cells (Cm.cs ⟨(⟨⟨k, m, s⟩, nm, ls⟩, .slice a hn cap), body, .slice a' body.length cap', tests, .slice a'' tests.length cap''⟩) 30)) #[.bool false] 4).later (below1 _ (.cells #[.int .i64 0] 3))).later (below1 _ (.cells (Cm.cs ⟨(⟨⟨k, m, s⟩, nm, ls⟩, .slice a hn cap), body, .slice a' body.length cap', tests, .slice a'' tests.length cap''⟩) 30))
    rwa [show (w.alloc (.cells (Cm.cs ⟨(⟨⟨k, m, s⟩, nm, ls⟩, .slice a hn cap), body, .slice a' body.length cap', tests, .slice a'' tests.length cap''⟩) 30)).heap.size = w.heap.size + 1 by simp] at this
  have b1 : CBlk ((((w.alloc (.cells (Cm.cs ⟨(⟨⟨k, m, s⟩, nm, ls⟩, .slice a hn cap), body, .slice a' body.length cap', tests, .slice a'' tests.length cap''⟩) 30)).alloc (.cells #[.bool false] 4)).alloc (.cells #[.int .i64 0] 3)).alloc (.cells (Cm.cs ⟨(⟨⟨k, m, s⟩, nm, ls⟩, .slice a hn cap), body, .slice a' body.length cap', tests, .slice a'' tests.length cap''⟩) 30)) (w.heap.size + 1 + 1) #[.int .i64 0] 3 := by
    have := (CBlk.new ((w.alloc (.cells (Cm.cs ⟨(⟨⟨k, m, s⟩, nm, ls⟩, .slice a hn cap), body, .slice a' body.length cap', tests, .slice a'' tests.length cap''⟩) 30)).alloc (.cells #[.bool false] 4)) #[.int .i64 0] 3).later (below1 _ (.cells (Cm.cs ⟨(⟨⟨k, m, s⟩, nm, ls⟩, .slice a hn cap), body, .slice a' body.length cap', tests, .slice a'' tests.length cap''⟩) 30))
    rwa [show ((w.alloc (.cells (Cm.cs ⟨(⟨⟨k, m, s⟩, nm, ls⟩, .slice a hn cap), body, .slice a' body.length cap', tests, .slice a'' tests.length cap''⟩) 30)).alloc (.cells #[.bool false] 4)).heap.size = w.heap.size + 1 + 1 by simp] at this
  have b2 : CBlk ((((w.alloc (.cells (Cm.cs ⟨(⟨⟨k, m, s⟩, nm, ls⟩, .slice a hn cap), body, .slice a' body.length cap', tests, .slice a'' tests.length cap''⟩) 30)).alloc (.cells #[.bool false] 4)).alloc (.cells #[.int .i64 0] 3)).alloc (.cells (Cm.cs ⟨(⟨⟨k, m, s⟩, nm, ls⟩, .slice a hn cap), body, .slice a' body.length cap', tests, .slice a'' tests.length cap''⟩) 30)) (w.heap.size + 1 + 1 + 1) (Cm.cs ⟨(⟨⟨k, m, s⟩, nm, ls⟩, .slice a hn cap), body, .slice a' body.length cap', tests, .slice a'' tests.length cap''⟩) 30 := by
    have := CBlk.new (((w.alloc (.cells (Cm.cs ⟨(⟨⟨k, m, s⟩, nm, ls⟩, .slice a hn cap), body, .slice a' body.length cap', tests, .slice a'' tests.length cap''⟩) 30)).alloc (.cells #[.bool false] 4)).alloc (.cells #[.int .i64 0] 3)) (Cm.cs ⟨(⟨⟨k, m, s⟩, nm, ls⟩, .slice a hn cap), body, .slice a' body.length cap', tests, .slice a'' tests.length cap''⟩) 30
    rwa [show (((w.alloc (.cells (Cm.cs ⟨(⟨⟨k, m, s⟩, nm, ls⟩, .slice a hn cap), body, .slice a' body.length cap', tests, .slice a'' tests.length cap''⟩) 30)).alloc (.cells #[.bool false] 4)).alloc (.cells #[.int .i64 0] 3)).heap.size = w.heap.size + 1 + 1 + 1 by simp] at this
  have hB1 : Below w.heap.size w ((((w.alloc (.cells (Cm.cs ⟨(⟨⟨k, m, s⟩, nm, ls⟩, .slice a hn cap), body, .slice a' body.length cap', tests, .slice a'' tests.length cap''⟩) 30)).alloc (.cells #[.bool false] 4)).alloc (.cells #[.int .i64 0] 3)).alloc (.cells (Cm.cs ⟨(⟨⟨k, m, s⟩, nm, ls⟩, .slice a hn cap), body, .slice a' body.length cap', tests, .slice a'' tests.length cap''⟩) 30)) := hb3.trans ((below1 _ _).mono hb3.size)
  gi_wp2
  revert hz1 b0 b1 b2 hB1
  generalize (((w.alloc (.cells (Cm.cs ⟨(⟨⟨k, m, s⟩, nm, ls⟩, .slice a hn cap), body, .slice a' body.length cap', tests, .slice a'' tests.length cap''⟩) 30)).alloc (.cells #[.bool false] 4)).alloc (.cells #[.int .i64 0] 3)).alloc (.cells (Cm.cs ⟨(⟨⟨k, m, s⟩, nm, ls⟩, .slice a hn cap), body, .slice a' body.length cap', tests, .slice a'' tests.length cap''⟩) 30) = V
  intro hz1 b0 b1 b2 hB1
  clear hb3
  refine wpIn_seq (gf := 120) (lb := #[.pointer (some ⟨w.heap.size + 1 + 1 + 1, 0, none⟩)]) rfl (enters_of Tryz.func120 (by kernel_rfl) rfl) (variables_seq ⟨(⟨⟨k, m, s⟩, nm, ls⟩, .slice a hn cap), body, .slice a' body.length cap', tests, .slice a'' tests.length cap''⟩ (w.heap.size + 1 + 1 + 1)) (fun _ => rfl)
    (fun pre X => ∃ nx : Int, (0 ≤ nx ∧ nx ≤ pre.length ∧ ∀ suf, mis 0 (pre ++ suf) = mis nx suf) ∧ CBlk X (w.heap.size + 1) #[.bool false] 4 ∧ CBlk X (w.heap.size + 1 + 1) #[.int .i64 nx] 3 ∧ CBlk X (w.heap.size + 1 + 1 + 1) (Cm.cs ⟨(⟨⟨k, m, s⟩, nm, ls⟩, .slice a hn cap), body, .slice a' body.length cap', tests, .slice a'' tests.length cap''⟩) 30 ∧ Below w.heap.size w X)
    (fun cd _ X => (cd = .ret ∧ mis 0 (Cm.vars ⟨(⟨⟨k, m, s⟩, nm, ls⟩, .slice a hn cap), body, .slice a' body.length cap', tests, .slice a'' tests.length cap''⟩) = true) ∧ CBlk X (w.heap.size + 1) #[.bool true] 4 ∧ Below w.heap.size w X)
    (fun pre X Y row hs hg hr => by
      obtain ⟨nx, hp, h1, h2, h3, h4⟩ := hs
      exact ⟨nx, hp, cblk_own (β := Unit) _ _ _ _ () X Y row h1 hg hr, cblk_own (β := Unit) _ _ _ _ () X Y row h2 hg hr, cblk_own (β := Unit) _ _ _ _ () X Y row h3 hg hr, ownFrom_below (β := Unit) (Nat.le_refl _) (by omega) () X Y row h4 hg hr⟩)
    (fun cd => OwnFrom.and (ownFrom_pure _ (fun _ => cd = .ret ∧ mis 0 (Cm.vars ⟨(⟨⟨k, m, s⟩, nm, ls⟩, .slice a hn cap), body, .slice a' body.length cap', tests, .slice a'' tests.length cap''⟩) = true)) (OwnFrom.and (cblk_own _ _ _ _) (ownFrom_below (Nat.le_refl _) (by omega))))
    (fun pre X h => by obtain ⟨nx, -, -, -, h3, h4⟩ := h; exact ⟨h3, HOK.out.later h4⟩)
    ⟨0, ⟨by omega, by simp, fun suf => rfl⟩, b0, b1, b2, hB1⟩
    (fun x act X => act = { tmps := #[.agg #[.int .i64 k, .int .i64 m, .string s, .string nm, .slice a hn cap, .slice a' body.length cap', .slice a'' tests.length cap''], .pointer (some ⟨w.heap.size, 0, none⟩), .pointer (some ⟨w.heap.size + 1, 0, none⟩), .pointer (some ⟨w.heap.size + 1 + 1, 0, none⟩), .int .i64 x, .agg #[.int .i64 k, .int .i64 m, .string s, .string nm, .slice a hn cap, .slice a' body.length cap', .slice a'' tests.length cap''], .func (.func 120) #[] #[.pointer (some ⟨w.heap.size + 1 + 1 + 1, 0, none⟩)], .int .i64 x, undef, undef, undef, undef, undef, undef, undef, undef], defers := [] })
    (fun x act => ownFrom_pure _ (fun _ => act = _))
    ?assign ?body ?done ?stop
  case assign =>
    rintro l' mm pre x X K hpre hi hle hK
    gi_wp2
    exact hK _ _ (Up.refl _ _) hi rfl
  case body =>
    rintro l' mm pre x act X hpre ⟨nx, ⟨hn0, hn1, hms⟩, hr, hf, hb, hbw⟩ rfl hle
    have HM : Hid (∀ suf, mis 0 (pre ++ suf) = mis nx suf) := hms
    have HR : Hid (CBlk X (w.heap.size + 1) #[.bool false] 4) := hr
    have HF : Hid (CBlk X (w.heap.size + 1 + 1) #[.int .i64 nx] 3) := hf
    have HB : Hid (CBlk X (w.heap.size + 1 + 1 + 1) (Cm.cs ⟨(⟨⟨k, m, s⟩, nm, ls⟩, .slice a hn cap), body, .slice a' body.length cap', tests, .slice a'' tests.length cap''⟩) 30) := hb
    have HBW : Hid (Below w.heap.size w X) := hbw
    have HP : Hid (pre ++ [x] <+: Cm.vars ⟨(⟨⟨k, m, s⟩, nm, ls⟩, .slice a hn cap), body, .slice a' body.length cap', tests, .slice a'' tests.length cap''⟩) := hpre
    have hpl : nx < 4000000000000000000 := by
      have h1 := HVL.out
      have h2 := hpre.length_le
      simp only [List.length_append, List.length_cons, List.length_nil] at h2
      omega
    obtain ⟨f0, f1⟩ := one hf
    obtain ⟨r0, r1⟩ := one hr
    clear hr hf hb hbw hpre hms
    by_cases q1 : nx < x
    · have HQ : Hid (nx < x) := q1
      gi_wp2
      refine ⟨Up.setCell _ (by simp only; omega), ⟨rfl, ?_⟩, HR.out.set 0 (.bool true), HBW.out.setCell (by simp only; omega) _⟩
      obtain ⟨suf, hs⟩ := HP.out
      rw [← hs, List.append_assoc, HM.out, List.singleton_append, mis, if_pos (by have := HQ.out; omega)]
    · have HQ : Hid (¬ nx < x) := q1
      by_cases q2 : x = nx
      · have n1 : (x == nx) = true := by simp [q2]
        have HQ2 : Hid (x = nx) := q2
        clear q2
        gi_wp2
        refine ⟨Up.setCell _ (by simp only; omega), nx + 1, ⟨by omega, by simp; omega, fun suf => ?_⟩, HR.out.off (by omega), HF.out.set 0 (.int .i64 (nx + 1)), HB.out.off (by omega), HBW.out.setCell (by simp only; omega) _⟩
        rw [List.append_assoc, HM.out, List.singleton_append, mis, if_neg (by have := HQ.out; omega), if_pos HQ2.out]
      · have n1 : (x == nx) = false := beq_eq_false_iff_ne.2 q2
        have HQ2 : Hid (¬ x = nx) := q2
        clear q2
        gi_wp2
        refine ⟨Up.refl _ _, nx, ⟨hn0, by simp; omega, fun suf => ?_⟩, HR.out, HF.out, HB.out, HBW.out⟩
        rw [List.append_assoc, HM.out, List.singleton_append, mis, if_neg (by have := HQ.out; omega), if_neg HQ2.out]
  case done =>
    rintro E X hE ⟨nx, ⟨hn0, hn1, hms⟩, hr, hf, hb, hbw⟩ hD
    obtain ⟨r0, r1⟩ := one hr
    have HM : Hid (∀ suf, mis 0 (Cm.vars ⟨(⟨⟨k, m, s⟩, nm, ls⟩, .slice a hn cap), body, .slice a' body.length cap', tests, .slice a'' tests.length cap''⟩ ++ suf) = mis nx suf) := hms
    have HR : Hid (CBlk X (w.heap.size + 1) #[.bool false] 4) := hr
    have HBW : Hid (Below w.heap.size w X) := hbw
    have HD : Hid (X.heap[E]? = some (.deferred (some []))) := hD
    clear hr hf hb hbw hD hms
    gi_wp2
    refine ⟨by simp, .inl ⟨_, _, rfl, run_takeDeferred ((heap_setCell_other _ _ _ _ (show E ≠ w.heap.size + 1 by omega)).trans HD.out), ?_⟩⟩
    refine ⟨_, ret_bcell Tryz.results54 _ _ (w.heap.size + 1) false rfl (one ((HR.out.set 0 (.bool false)).put _ (by omega))).1, ?_, ?_⟩
    · have := HM.out []
      rw [List.append_nil] at this
      rw [this]; rfl
    · exact below_put (HBW.out.setCell (by simp only; omega) _) (by omega)
  case stop =>
    rintro E cd pre X hE hpre ⟨⟨rfl, hm⟩, hf, hbw⟩ hD
    have HF : Hid (CBlk X (w.heap.size + 1) #[.bool true] 4) := hf
    have HM : Hid (mis 0 (Cm.vars ⟨(⟨⟨k, m, s⟩, nm, ls⟩, .slice a hn cap), body, .slice a' body.length cap', tests, .slice a'' tests.length cap''⟩) = true) := hm
    clear hf hm
    gi_wp2
    refine ⟨by simp, .inl ⟨_, _, rfl, run_takeDeferred hD, ?_⟩⟩
    exact ⟨_, ret_bcell Tryz.results54 _ _ (w.heap.size + 1) true rfl (one (HF.out.put _ (by omega))).1, by rw [HM.out], below_put hbw (by omega)⟩
end Go.Proofs.YtgbiicmkhlnniaaGreatDoor
