import Derived.Test.YtechceagghcipaaGreatDoorB7
namespace Go.Proofs.YtechceagghcipaaGreatDoor
open Go.RowKit

set_option maxRecDepth 100000 in
theorem len64_tiny (n : Int) (h : n = 0 ∨ n = 1) (w : World) : Calls Tryz.prog 103 #[.int .u64 n] w fun e w' => (∃ m : Int, e = .returned (.int .i64 m)) /\ w' = w := by
 rcases h with rfl | rfl
 ·go_enter Tryz.func103, Tryz.ntmps103
  go_wp2
  go_ret
  exact ⟨⟨_, rfl⟩, rfl⟩
 ·go_enter Tryz.func103, Tryz.ntmps103
  go_wp2
  go_ret
  exact ⟨⟨_, rfl⟩, rfl⟩
theorem len_tiny (n : Nat) (h : n <= 1) (w : World) : Calls Tryz.prog 64 #[.int .u64 n] w fun e w' => (∃ m : Int, e = .returned (.int .i64 m)) /\ w' = w := by
 have hn : (n : Int) = 0 ∨ (n : Int) = 1 := by omega
 have HN : Hid ((n : Int) = 0 ∨ (n : Int) = 1) := hn
 clear hn h
 go_enter Tryz.func64, Tryz.ntmps64
 go_wp2_with (go_at_call 103; refine (len64_tiny _ HN.out _).mono ?_; rintro e w1 ⟨⟨m, rfl⟩, rfl⟩)
 go_ret
 exact ⟨⟨_, rfl⟩, rfl⟩
theorem ins_tiny (v f : Value) (n : Nat) (h : n <= 1) (w : World) : Calls Tryz.prog 169 #[v, .int .i64 0, .int .i64 n, f] w fun e w' => e = .returned (.tuple #[]) /\ w' = w := by
 have hn : ¬ (1 : Int) < (n : Int) := by omega
 go_enter Tryz.func169, Tryz.ntmps169
 go_wp2
 go_loop [8] (fun i => i = .int .i64 1) (fun _ => 0)
 case atStart => rfl
 case round =>
  subst hrel
  go_wp2
  go_end0
  exact ⟨rfl, rfl⟩
theorem pdq_tiny (v f : Value) (n : Nat) (h : n <= 1) (m : Int) (w : World) : Calls Tryz.prog 153 #[v, .int .i64 0, .int .i64 n, .int .i64 m, f] w fun e w' => e = .returned (.tuple #[]) /\ w' = w := by
 have hn : (n : Int) <= 12 := by omega
 have hn0 : (0 : Int) <= n := by omega
 go_enter Tryz.func153, Tryz.ntmps153
 go_wp2
 go_loop [1, 2] (fun a b => a = .int .i64 0 /\ b = .int .i64 n) (fun _ _ => 0)
 case atStart => exact ⟨rfl, rfl⟩
 case round =>
  obtain ⟨rfl, rfl⟩ := hrel
  go_wp2_with (go_at_call 169; refine (ins_tiny _ _ _ h _).mono ?_; rintro e w1 ⟨rfl, rfl⟩)
  (try simp only [Exit.inBlock, Exit.then])
  refine bodyPost_ret (results_none rfl _ _ _) rfl ?_
  exact ⟨rfl, rfl⟩
theorem sortFunc_tiny (a : Option Addr) (f : Value) (n cap : Nat) (h : n <= 1) (w : World) : Calls Tryz.prog 119 #[.slice a n cap, f] w fun e w' => e = .returned (.tuple #[]) /\ w' = w := by
 have hw : IntKind.u64.wrap (n : Int) = n := by rw [IntKind.wrap_u64]; omega
 go_enter Tryz.func119, Tryz.ntmps119
 go_wp2_with (first
  | (go_at_call 64; refine (len_tiny n h _).mono ?_; rintro e w1 ⟨⟨m, rfl⟩, rfl⟩)
  | (go_at_call 153; refine (pdq_tiny _ _ n h _ _).mono ?_; rintro e w1 ⟨rfl, rfl⟩))
 go_end0
 exact ⟨rfl, rfl⟩
theorem sort_one : SortOK 1 := by
 intro w base v l ho hl
 obtain ⟨a, cap, rfl⟩ := own_len ho
 have HO : Hid (Own w base (.slice a l.length cap) l) := ho
 have hs : srt l := by
  unfold srt
  match l, hl with
  | [], _ => exact List.Pairwise.nil
  | [x], _ => exact List.pairwise_singleton _ _
 have HS : Hid (srt l) := hs
 clear ho hs
 go_enter Tryz.func88, Tryz.ntmps88
 go_wp2_with (go_at_call 119; refine (sortFunc_tiny _ _ _ _ hl _).mono ?_; rintro e w1 ⟨rfl, rfl⟩)
 go_end0
 exact ⟨rfl, l, HO.out, List.Perm.refl _, HS.out, Below.refl _ _⟩
end Go.Proofs.YtechceagghcipaaGreatDoor
