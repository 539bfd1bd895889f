import Derived.Test.YtnaiecemmhioeaaDoorB7
import Derived.Test.YtnaiecemmhioeaaDoorS1
/-
  sortBinds of at most one bind; first.
-/
namespace Go.Proofs.YtnaiecemmhioeaaDoor
open Go.RowKit

set_option maxRecDepth 100000 in
theorem len64_tiny (n : Int) (h : n = 0 ∨ n = 1) (w : World) : Calls Tryd.prog 65 #[.int .u64 n] w fun e w' => (∃ m : Int, e = .returned (.int .i64 m)) ∧ w' = w := by
  rcases h with rfl | rfl
  · go_enter Tryd.func65, Tryd.ntmps65
    go_wp2
    go_ret
    exact ⟨⟨_, rfl⟩, rfl⟩
  · go_enter Tryd.func65, Tryd.ntmps65
    go_wp2
    go_ret
    exact ⟨⟨_, rfl⟩, rfl⟩
theorem len_tiny (n : Nat) (h : n ≤ 1) (w : World) : Calls Tryd.prog 54 #[.int .u64 n] w fun e w' => (∃ m : Int, e = .returned (.int .i64 m)) ∧ w' = w := by
  have hn : (n : Int) = 0 ∨ (n : Int) = 1 := by omega
  have HN : Hid ((n : Int) = 0 ∨ (n : Int) = 1) := hn
  clear hn h
  go_enter Tryd.func54, Tryd.ntmps54
  go_wp2_with (go_at_call 65; refine (len64_tiny _ HN.out _).mono ?_; rintro e w1 ⟨⟨m, rfl⟩, rfl⟩)
  go_ret
  exact ⟨⟨_, rfl⟩, rfl⟩
theorem ins_tiny (v f : Value) (n : Nat) (h : n ≤ 1) (w : World) : Calls Tryd.prog 56 #[v, .int .i64 0, .int .i64 n, f] w fun e w' => e = .returned (.tuple #[]) ∧ w' = w := by
  have hn : ¬ (1 : Int) < (n : Int) := by omega
  go_enter Tryd.func56, Tryd.ntmps56
  go_wp2
  go_loop [8] (fun i => i = .int .i64 1) (fun _ => 0)
  case atStart => rfl
  case round =>
    subst hrel
    go_wp2
    go_end0
    exact ⟨rfl, rfl⟩
theorem pdq_tiny (v f : Value) (n : Nat) (h : n ≤ 1) (m : Int) (w : World) : Calls Tryd.prog 53 #[v, .int .i64 0, .int .i64 n, .int .i64 m, f] w fun e w' => e = .returned (.tuple #[]) ∧ w' = w := by
  have hn : (n : Int) ≤ 12 := by omega
  have hn0 : (0 : Int) ≤ n := by omega
  go_enter Tryd.func53, Tryd.ntmps53
  go_wp2
  go_loop [1, 2] (fun a b => a = .int .i64 0 ∧ b = .int .i64 n) (fun _ _ => 0)
  case atStart => exact ⟨rfl, rfl⟩
  case round =>
    obtain ⟨rfl, rfl⟩ := hrel
    go_wp2_with (go_at_call 56; refine (ins_tiny _ _ _ h _).mono ?_; rintro e w1 ⟨rfl, rfl⟩)
    (try simp only [Exit.inBlock, Exit.then])
    refine bodyPost_ret (results_none rfl _ _ _) rfl ?_
    exact ⟨rfl, rfl⟩
theorem sortFunc_tiny (a : Option Addr) (f : Value) (n cap : Nat) (h : n ≤ 1) (w : World) : Calls Tryd.prog 43 #[.slice a n cap, f] w fun e w' => e = .returned (.tuple #[]) ∧ w' = w := by
  have hw : IntKind.u64.wrap (n : Int) = n := by rw [IntKind.wrap_u64]; omega
  go_enter Tryd.func43, Tryd.ntmps43
  go_wp2_with (first
    | (go_at_call 54; refine (len_tiny n h _).mono ?_; rintro e w1 ⟨⟨m, rfl⟩, rfl⟩)
    | (go_at_call 53; refine (pdq_tiny _ _ n h _ _).mono ?_; rintro e w1 ⟨rfl, rfl⟩))
  go_end0
  exact ⟨rfl, rfl⟩
theorem sort_one : SortOK 1 := by
  intro w base v l ho hl
  obtain ⟨a, cap, rfl⟩ := own_len ho
  have HO : Hid (Own w base (.slice a l.length cap) l) := ho
  have hs : srt l := by
    unfold srt
    match l, hl with
    | [], _ => exact List.Pairwise.nil
    | [x], _ => exact List.pairwise_singleton _ _
  have HS : Hid (srt l) := hs
  clear ho hs
  go_enter Tryd.func32, Tryd.ntmps32
  go_wp2_with (go_at_call 43; refine (sortFunc_tiny _ _ _ _ hl _).mono ?_; rintro e w1 ⟨rfl, rfl⟩)
  go_end0
  exact ⟨rfl, l, HO.out, List.Perm.refl _, HS.out, Below.refl _ _⟩
end Go.Proofs.YtnaiecemmhioeaaDoor
/-
  sortBinds, whatever the length.
-/
namespace Go.Proofs.YtnaiecemmhioeaaDoor
open Go.RowKit

theorem sortFunc_list (g cap base : Nat) (l : List Bd) (w : World) (h : Own w base (.slice (some ⟨g, 0, none⟩) l.length cap) l) (hsz : l.length < 4611686018427387904) :
    Calls Tryd.prog 43 #[.slice (some ⟨g, 0, none⟩) l.length cap, .func (.func 44) #[] #[]] w fun e w' => e = .returned (.tuple #[]) ∧ ∃ l', Own w' base (.slice (some ⟨g, 0, none⟩) l.length cap) l' ∧ l'.Perm l ∧ srt l' ∧ RowKit.Below base w w' :=
  sortFunc_all g cap base l.toArray w h hsz
theorem sort_all (N : Nat) (hN : N ≤ 4000000000000) : SortOK N := by
  intro w base v l ho hl
  by_cases h1 : l.length ≤ 1
  · exact sort_one w base v l ho h1
  · obtain ⟨g, cap, rfl, -, -⟩ := own_form ho (by omega)
    have HS : Hid (Calls Tryd.prog 43 #[.slice (some ⟨g, 0, none⟩) l.length cap, .func (.func 44) #[] #[]] w fun e w' => e = .returned (.tuple #[]) ∧ ∃ l', Own w' base (.slice (some ⟨g, 0, none⟩) l.length cap) l' ∧ l'.Perm l ∧ srt l' ∧ RowKit.Below base w w') := sortFunc_list g cap base l w ho (by omega)
    clear ho h1
    go_enter Tryd.func32, Tryd.ntmps32
    go_wp2_with (go_at_call 43; refine HS.out.mono ?_; rintro e w1 ⟨rfl, l', h1, h2, h3, h4⟩)
    go_end0
    exact ⟨rfl, l', h1, h2, h3, h4⟩
theorem mGo_len : ∀ (r : List (Tm × Tm)) (o out : List Bd), mGo o r = some out → out.length ≤ o.length + r.length := by
  intro r
  induction r with
  | nil => intro o out h; simp [mGo] at h; subst h; simp
  | cons x r ih =>
    intro o out h
    simp only [mGo] at h
    split at h
    · split at h
      · split at h
        · have := ih _ _ h; simp only [List.length_cons]; omega
        · cases h
      · have := ih _ _ h; simp only [List.length_cons, List.length_append, List.length_nil] at this ⊢; omega
    · have := ih _ _ h; simp only [List.length_cons]; omega
theorem mRes_len (p a : At) (s out : List Bd) (h : mRes p a s = some out) : out.length ≤ s.length + p.args.length + 1 := by
  unfold mRes at h
  split at h
  · have h1 := mGo_len _ _ _ h
    have h2 := fb_len s
    have h3 : (p.pl.zip a.pl).length ≤ p.args.length + 1 := by simp only [List.length_zip, At.pl, List.length_cons]; omega
    omega
  · cases h
/-- Match, with the sort paid. -/
theorem match_all (p a : At) (s : List Bd) (x y v : Value) (w : World) (hx : Ts w x p.args) (hy : Ts w y a.args) (hv : Bs w v s) (hlen : s.length + p.args.length + 1 ≤ 1000000000000) :
    Calls Tryd.prog 13 #[p.v x, a.v y, v] w (MPost w (mRes p a s)) :=
  match_any 1000000000000 (Nat.le_refl _) p a s x y v w hx hy hv hlen fun out ho => sort_all _ (by have := mRes_len p a s out ho; omega)
end Go.Proofs.YtnaiecemmhioeaaDoor
