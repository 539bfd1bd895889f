/-
  Vars; sets of numbers (plain).
-/
import Derived.Test.YtbhdalchnbfohaaCL6
namespace Go.Proofs.Ytbhdalchnbfohaa
open Go.RowKit Go.Shelf

/-- The different ones. -/
def dstep (acc : List Int) (x : Int) : List Int := if x ∈ acc then acc else acc ++ [x]
def dis (l : List Int) : List Int := l.foldl dstep []
theorem key_int (x : Int) : WideAt.IsKeyLit (Lit.int .i64 x) := by trivial
theorem any_int (acc : List Int) (x : Int) : (acc.map (Lit.int .i64)).any (fun y => y.sameKey (.int .i64 x)) = decide (x ∈ acc) := by
  induction acc with
  | nil => rfl
  | cons a l ih =>
    rw [List.map_cons, List.any_cons, ih]
    by_cases e : a = x
    · subst e; rw [WideAt.sameKey_self (key_int _)]; simp
    · rw [Maps.sameKey_ne (fun h => e (by cases h; rfl))]
      have : x ≠ a := fun h => e h.symm
      simp [this]
theorem has_sv (l : List Int) (x : Int) : Maps.has (sv l) (.int .i64 x) = decide (x ∈ l) := by
  unfold sv
  rw [Maps.has_setOf _ _ _ (fun y hy => by obtain ⟨z, -, rfl⟩ := List.mem_map.1 hy; exact key_int z), any_int]
theorem addKey_int (acc : List Int) (x : Int) : Maps.addKey (acc.map (Lit.int .i64)) (.int .i64 x) = (dstep acc x).map (Lit.int .i64) := by
  unfold Maps.addKey dstep
  rw [any_int]
  by_cases h : x ∈ acc
  · rw [if_pos h]; simp [h]
  · rw [if_neg h]; simp [h]
theorem fold_int : ∀ (l acc : List Int), (l.map (Lit.int .i64)).foldl Maps.addKey (acc.map (Lit.int .i64)) = (l.foldl dstep acc).map (Lit.int .i64)
  | [], _ => rfl
  | x :: l, acc => by rw [List.map_cons, List.foldl_cons, List.foldl_cons, addKey_int, fold_int l]
theorem size_sv (l : List Int) : Maps.size (sv l) = (dis l).length := by
  unfold sv dis
  rw [Maps.size_setOf _ _ (fun y hy => by obtain ⟨z, -, rfl⟩ := List.mem_map.1 hy; exact key_int z)]
  have := fold_int l []
  rw [List.map_nil] at this
  rw [this, List.length_map]
set_option maxHeartbeats 1000000 in
theorem vars_any (c : Cm) (w : World) (h : c.ok w) (hw : ∀ v ∈ c.vars, (Lit.int .i64 v).wf = true) (hvl : c.vars.length < 4000000000000000000) :
    Calls Try.prog 22 #[c.v] w fun e w' => e = .returned (.int .i64 ((dis c.vars).length : Nat)) ∧ Below w.heap.size w w' := by
  obtain ⟨⟨a, hn, cap, h1⟩, ⟨a', cap', h2⟩, ⟨a'', cap'', h3⟩, hbl, htl⟩ := h.shape
  have hvs := variableSet_any c (w.alloc (.cells c.cs 50)) (h.later (below1 _ _)) hw hvl
  obtain ⟨l, hl⟩ : ∃ l, c.vars = l := ⟨_, rfl⟩
  rw [hl] at hvs ⊢
  clear hl hw hvl h
  obtain ⟨⟨⟨⟨k, m, s⟩, nm, ls⟩, hx⟩, body, bv, tests, tv⟩ := c
  simp only at h1 h2 h3 hbl htl hvs
  subst h1 h2 h3
  go_enter Try.func22, Try.ntmps22
  go_wp2_with (first
    | (go_at_call 30; refine hvs.mono ?_; rintro e w1 ⟨b, rfl, hs, hbb, hb1⟩; have HS : Hid (SetOk w1 b l) := hs; have HB : Hid (Below _ _ _) := hb1; clear hs hbb hb1)
    | (at_len; refine wpList_len_own _ rfl _ 72 rfl 3 85 Try.underlying72 (unitElem (H := Unit)) b _ _ rfl HS.out ?_))
  go_ret
  exact ⟨by rw [size_sv]; rfl, below_step (below1 _ _) HB.out⟩
end Go.Proofs.Ytbhdalchnbfohaa
