import Derived.Test.YtllgffmhbddigaaGreatFB6
import Derived.Test.YtllgffmhbddigaaGreatRA14
/-
  plan: the sort of at most one row of terms; base.New, as much as law 9's first asks of it.
-/
namespace Go.Proofs.YtllgffmhbddigaaGreat
open Go.RowKit

theorem insTs_tiny (v f : Value) (n : Nat) (h : n ≤ 1) (w : World) : Calls Tryz.prog 142 #[v, .int .i64 0, .int .i64 n, f] w fun e w' => e = .returned (.tuple #[]) ∧ w' = w := by
  have hn : ¬ (1 : Int) < (n : Int) := by omega
  go_enter Tryz.func142, Tryz.ntmps142
  go_wp2
  go_loop [8] (fun i => i = .int .i64 1) (fun _ => 0)
  case atStart => rfl
  case round =>
    subst hrel
    go_wp2
    go_end0
    exact ⟨rfl, rfl⟩
theorem pdqTs_tiny (v f : Value) (n : Nat) (h : n ≤ 1) (m : Int) (w : World) : Calls Tryz.prog 94 #[v, .int .i64 0, .int .i64 n, .int .i64 m, f] w fun e w' => e = .returned (.tuple #[]) ∧ w' = w := by
  have hn : (n : Int) ≤ 12 := by omega
  have hn0 : (0 : Int) ≤ n := by omega
  go_enter Tryz.func94, Tryz.ntmps94
  go_wp2
  go_loop [1, 2] (fun a b => a = .int .i64 0 ∧ b = .int .i64 n) (fun _ _ => 0)
  case atStart => exact ⟨rfl, rfl⟩
  case round =>
    obtain ⟨rfl, rfl⟩ := hrel
    go_wp2_with (go_at_call 142; refine (insTs_tiny _ _ _ h _).mono ?_; rintro e w1 ⟨rfl, rfl⟩)
    (try simp only [Exit.inBlock, Exit.then])
    refine bodyPost_ret (results_none rfl _ _ _) rfl ?_
    exact ⟨rfl, rfl⟩
theorem sortTs_tiny (a : Option Addr) (f : Value) (n cap : Nat) (h : n ≤ 1) (w : World) : Calls Tryz.prog 46 #[.slice a n cap, f] w fun e w' => e = .returned (.tuple #[]) ∧ w' = w := by
  have hw : IntKind.u64.wrap (n : Int) = n := by rw [IntKind.wrap_u64]; omega
  go_enter Tryz.func46, Tryz.ntmps46
  go_wp2_with (first
    | (go_at_call 95; refine (len_tiny n h _).mono ?_; rintro e w1 ⟨⟨m, rfl⟩, rfl⟩)
    | (go_at_call 94; refine (pdqTs_tiny _ _ n h _ _).mono ?_; rintro e w1 ⟨rfl, rfl⟩))
  go_end0
  exact ⟨rfl, rfl⟩
theorem newTable9_any (Y : World) : Calls Tryz.prog 88 #[] Y fun e Y' => (∃ m, e = .returned (.agg #[.slice none 0 0, .map (some m)])) ∧ Below Y.heap.size Y Y' := by
  have m1 := mk_map7 110
  go_enter Tryz.func88, Tryz.ntmps88
  go_wp2
  exact bodyPost_ret (v := .agg #[.slice none 0 0, .map (some (Y.heap.size + 1))]) (by simp [results, Tryz.results88, go_sem]) rfl ⟨⟨_, rfl⟩, below_step (below1 _ _) (below1 _ _)⟩
set_option maxRecDepth 20000 in
set_option maxHeartbeats 1000000 in
theorem new9_any (Y : World) : Calls Tryz.prog 43 #[] Y fun e Y' => (∃ g, e = .returned (.pointer (some ⟨g, 0, none⟩))) ∧ Below Y.heap.size Y Y' := by
  have m1 := mk_map7 113
  go_enter Tryz.func43, Tryz.ntmps43
  go_wp2_with (go_at_call 88; refine (newTable9_any _).mono ?_; rintro e w1 ⟨⟨m, rfl⟩, hb1⟩; have HB1 := hm7 hb1; clear hb1)
  go_ret
  exact ⟨⟨_, rfl⟩, HB1.out.trans ((below_step (below1 _ _) (below1 _ _)).mono HB1.out.size)⟩
end Go.Proofs.YtllgffmhbddigaaGreat
/-
  plan: hold of no tests, values of no binds, solutions of a body without atoms.
-/
namespace Go.Proofs.YtllgffmhbddigaaGreat
open Go.RowKit
attribute [local go_sem ↓] Go.wp_at_zero Go.wp_at_succ

theorem Tryz.infoTerm9 : (Tryz.prog.info? 23).map (fun i => (i.zero, i.size, i.bytes)) = some (some (.agg #[.int .i64 0, .int .i64 0, .string ⟨#[]⟩]), 3, 32) := by kernel_rfl
theorem Tryz.infoLoop9 : (Tryz.prog.info? 163).map (fun i => (i.zero, i.size, i.bytes)) = some (some (.agg #[.slice none 0 0, .slice none 0 0]), 2, 48) := by kernel_rfl
theorem hold9_none (p v : Value) (a : Option Addr) (c : Nat) (w : World) : Calls Tryz.prog 90 #[p, .slice a 0 c, v] w fun e w' => e = .returned (.bool true) ∧ w' = w := by
  go_enter Tryz.func90, Tryz.ntmps90
  go_wp2
  go_loop [13] (fun i => i = .int .i64 0) (fun _ => 0)
  case atStart => rfl
  case round =>
    subst hrel
    go_wp2
    go_ret
    exact ⟨rfl, rfl⟩
theorem mk9_terms (w : World) : (Instr.makeSlice 24 (.int .i64 0) (.int .i64 0)).run Tryz.prog w = .ok (.slice (some ⟨w.heap.size, 0, none⟩) 0 0) (w.alloc (.cells #[] 23)) := by
  obtain ⟨i, hi, h0, h1, h2⟩ := info7 Tryz.infoTerm9
  have h := run_make (P := Tryz.prog) w 24 23 i _ Tryz.underlying24 hi h0 .i64 .i64 0 0 (by omega) (by omega) (by rw [h2]; omega) (by omega)
  rw [h1, show madeCells (Value.agg #[.int .i64 0, .int .i64 0, .string ⟨#[]⟩]).cells (Int.toNat 0 * 3) = #[] by simp [madeCells]] at h
  exact h
theorem mk9_loops (w : World) : (Instr.makeSlice 160 (.int .i64 1) (.int .i64 1)).run Tryz.prog w = .ok (.slice (some ⟨w.heap.size, 0, none⟩) 1 1) (w.alloc (.cells #[.slice none 0 0, .slice none 0 0] 163)) := by
  obtain ⟨i, hi, h0, h1, h2⟩ := info7 Tryz.infoLoop9
  have h := run_make (P := Tryz.prog) w 160 163 i _ Tryz.underlying160 hi h0 .i64 .i64 1 1 (by omega) (by omega) (by rw [h2]; omega) (by omega)
  rw [h1, show madeCells (Value.agg #[.slice none 0 0, .slice none 0 0]).cells (Int.toNat 1 * 2) = #[.slice none 0 0, .slice none 0 0] by kernel_rfl] at h
  exact h
set_option maxRecDepth 20000 in
theorem values9_none (w : World) : Calls Tryz.prog 92 #[.slice none 0 0] w fun e w' => (∃ g, e = .returned (.slice (some ⟨g, 0, none⟩) 0 0)) ∧ Below w.heap.size w w' := by
  go_enter Tryz.func92, Tryz.ntmps92
  have m1 := mk9_terms
  go_wp2
  go_loop [11] (fun i => i = .int .i64 0) (fun _ => 0)
  case atStart => rfl
  case round =>
    subst hrel
    go_wp2
    go_ret
    exact ⟨⟨_, rfl⟩, below1 _ _⟩
/-- One solution without values. -/
def SL9 (w : World) (e : Ending) (w' : World) : Prop :=
  ∃ g cap r rc, e = .returned (.slice (some ⟨g, 0, none⟩) 1 cap) ∧ w'.cell? ⟨g, 0, none⟩ = some (.slice (some ⟨r, 0, none⟩) 0 rc) ∧ w.heap.size ≤ g ∧ g < w'.heap.size ∧ Below w.heap.size w w'
theorem Tryz.infoTerms9 : (Tryz.prog.info? 24).map (fun i => (i.zero, i.size, i.bytes)) = some (some (.slice none 0 0), 1, 24) := by kernel_rfl
set_option maxRecDepth 20000 in
set_option maxHeartbeats 1000000 in
theorem sol9_none (q : Nat) (cs : Array Value) (w : World) (hq : Bk w q cs 102) (a j : Option Addr) (ca cj : Nat) (h9 : cs[9]? = some (.slice a 0 ca)) (h10 : cs[10]? = some (.slice j 0 cj)) :
    Calls Tryz.prog 45 #[.pointer (some ⟨q, 0, none⟩)] w (SL9 w) := by
  have d9 := hq.cell h9
  have d10 := hq.cell h10
  have hql := hq.lt
  clear hq h9 h10
  have m1 := mk9_loops
  go_enter Tryz.func45, Tryz.ntmps45
  go_wp2
  go_step3
  go_wp2_with (go_at_call 90; refine (hold9_none _ _ _ _ _).mono ?_; rintro e w1 ⟨rfl, rfl⟩)
  go_step3
  go_wp2
  obtain ⟨W1, hW1⟩ : ∃ W1, w1.alloc (.cells #[.slice none 0 0, .slice none 0 0] 163) = W1 := ⟨_, rfl⟩
  have HB1 : Hid (Below w1.heap.size w1 W1) := by rw [← hW1]; exact below1 _ _
  have HK : Hid (Bk W1 w1.heap.size #[.slice none 0 0, .slice none 0 0] 163) := by rw [← hW1]; exact Bk.new _ _ _
  rw [hW1]
  obtain ⟨n0, hn0⟩ : ∃ n0, w1.heap.size = n0 := ⟨_, rfl⟩
  rw [hn0] at HK ⊢
  have HN0 := hm7 hn0
  clear hW1 hn0
  have d0 : W1.cell? ⟨n0, 0, none⟩ = some (.slice none 0 0) := HK.out.cell (i := 0) rfl
  have d1 : W1.cell? ⟨n0, 1, none⟩ = some (.slice none 0 0) := HK.out.cell (i := 1) rfl
  have hl := HK.out.lt
  go_loopg [3, 6] 0 (fun g f a wr => g = 0 ∧ f = .slice none 0 0 ∧ a = .int .i64 0 ∧ wr = W1)
  case atStart => exact ⟨rfl, rfl, rfl, rfl⟩
  case round =>
    obtain ⟨-, rfl, rfl, rfl⟩ := hrel
    go_upto_region 11 with (first
      | (go_at_call 92; refine (values9_none _).mono ?_; rintro e w2 ⟨⟨r, rfl⟩, hb⟩; have HB2 := hm7 hb; clear hb)
      | (at_builtin; refine gapp Tryz.underlying57 Tryz.infoTerms9 rfl (by omega) rfl _ _ rfl w2.heap.size (.slice none 0 0) 0 [] rfl (World.ownsRow_nil _ _ _ _) w2.heap.size (.slice (some ⟨r, 0, none⟩) 0 0) rfl (Bk.new _ _ _) rfl (by omega) (by simp) ?_; intro g2 q2 w3 ho2 hg2 hv2 hl2; have HO2 := hm7 ho2; have HB3 := hm7 ((below1 _ _).trans (Fr.low (Fr.grown (P := fun b => w2.heap.size ≤ b) hg2 (fun k hk => by cases hk)) (by simp))); clear ho2 hg2))
    rw [Nat.zero_add] at HO2
    have hs2 : w3.cell? ⟨g2, 0, none⟩ = some (.slice (some ⟨r, 0, none⟩) 0 0) := by
      obtain ⟨g, hg, -, -, hc, -⟩ := row7_at HO2.out (i := 0) (u := .slice (some ⟨r, 0, none⟩) 0 0) rfl
      simp only [Option.some.injEq, Addr.mk.injEq] at hg
      rw [hg.1]; exact hc
    have HS2 := hm7 hs2
    have hge : w1.heap.size ≤ g2 := by
      have h1 := HB1.out.size
      have h2 := HB2.out.size
      rcases hv2 with h | h
      · cases h
      · rw [h]; simp; omega
    have HB5 := hm7 ((HB1.out.trans (HB2.out.mono HB1.out.size)).trans (HB3.out.mono (Nat.le_trans HB1.out.size HB2.out.size)))
    have HK5 := hm7 ((HK.out.below HB2.out).below HB3.out)
    have HGE := hm7 hge
    have e0 : w3.cell? ⟨n0, 0, none⟩ = some (.slice none 0 0) := HK5.out.cell (i := 0) rfl
    have e1 : w3.cell? ⟨n0, 1, none⟩ = some (.slice none 0 0) := HK5.out.cell (i := 1) rfl
    have hl5 := HK5.out.lt
    clear hs2 hge hv2 d0 d1 hl HO2 HB2 HB3 HK HN0
    go_wp2
    go_loopg [6] 0 (fun g a wr => g = 0 ∧ a = .int .i64 0 ∧ wr = w3)
    case atStart => exact ⟨rfl, rfl, rfl⟩
    case round =>
      obtain ⟨-, rfl, rfl⟩ := hrel
      obtain ⟨W4, rfl⟩ : ∃ W4, W4 = wr := ⟨_, rfl⟩
      go_wp2
      go_loopg [] 0 (fun g wr => g = 0 ∧ wr = W4)
      case atStart => exact ⟨rfl, rfl⟩
      case round =>
        obtain ⟨-, rfl⟩ := hrel
        go_wp2
        rw [Exit.noGoto_ret]
        go_ret
        exact ⟨_, _, _, _, rfl, HS2.out, HGE.out, hl2, HB5.out⟩
end Go.Proofs.YtllgffmhbddigaaGreat
