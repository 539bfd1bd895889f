import Derived.Test.YtllgffmhbddigaaGreatCL8
import Derived.Test.YtllgffmhbddigaaGreatMD2
import Derived.Lib.AppendZeros
import Derived.LoopN
import Derived.Test.YtllgffmhbddigaaGreatRA14
/-
  base: terms of an atom (slices.Concat of two lists).
-/
namespace Go.Proofs.YtllgffmhbddigaaGreat
open Go.RowKit
attribute [local go_sem ↓] Go.wp_at_zero Go.wp_at_succ

set_option maxRecDepth 100000 in
/-- append of so many zeros to none. -/
theorem app_zeros8 {ops : Array Oper} {rest : List Oper} {o : Oper} {a : Act} {Q : Exit → Act → World → Prop} {w : World} (hgd : o.guard = none) (s x : Operand)
    (ho : o.op = .call { callee := .builtin .append, args := #[s, x], argTypes := #[24, 3] }) (hs : a.eval s = .slice none 0 0) (n : Nat) (hx : a.eval x = .int .i64 (n : Int)) (h0 : 0 < n) (hn : n ≤ 1000000000000)
    (h : ∀ cap w', OwnT w' w.heap.size (.slice (some ⟨w.heap.size, 0, none⟩) 0 cap) [] → n ≤ cap → Below w.heap.size w w' → wpList Tryz.prog ops Q rest (a.put o.dst (.slice (some ⟨w.heap.size, 0, none⟩) n cap)) w') : wpList Tryz.prog ops Q (o :: rest) a w := by
  obtain ⟨i, hi, hz0, hz1, hz2⟩ := info7 Tryz.infoTerm8
  have hrun := Lib.run_append_nil_zeros (P := Tryz.prog) w 24 3 o.type 23 i _ .i64 .i64 Tryz.underlying24 Tryz.underlying3 hi hz0 n h0 (by omega) (by omega) (by rw [hz2]; omega)
  refine wpList_plain hgd fun K hK => ?_
  simp [Oper.wp, execOp, ho, resolve, invoke, builtin, hs, hx, hrun, Result.andThen]
  refine hK _ _ (h _ _ ?_ (grownCap_ge _ _ _ _) ?_)
  · refine ⟨rfl, Or.inr ⟨w.heap.size, grownCap w n 0 23, _, rfl, Nat.le_refl _, heap_alloc_new _ _, Nat.zero_le _, grownCap_le_maxLen _ _ _ _ (by unfold maxLen; omega), ?_, by simp [tcs]⟩⟩
    have hc : n ≤ grownCap w n 0 23 := grownCap_ge _ _ _ _
    rw [Array.size_append, size_zeroCells, size_zeroCells]
    have e3 : (Value.agg #[.int .i64 0, .int .i64 0, .string ⟨#[]⟩]).cells.size = 3 := rfl
    rw [e3, ← Nat.add_mul]
    congr 1
    omega
  · exact (show Below w.heap.size w w.drew from ⟨rfl, rfl, rfl, Nat.le_refl _, fun _ _ => rfl⟩).trans (show Below w.heap.size w.drew _ from below1 w.drew _)
set_option maxRecDepth 20000 in
theorem grow8_any (n : Nat) (h0 : 0 < n) (hn : n ≤ 1000000000000) (Y : World) : Calls Tryz.prog 201 #[.slice none 0 0, .int .i64 (n : Int)] Y fun e Y' => ∃ g cap, e = .returned (.slice (some ⟨g, 0, none⟩) 0 cap) ∧ OwnT Y' Y.heap.size (.slice (some ⟨g, 0, none⟩) 0 cap) [] ∧ Below Y.heap.size Y Y' := by
  have n0 : ¬ (n : Int) < 0 := by omega
  have n1 : (0 : Int) < (n : Int) := by omega
  have n2 : (n : Int) - (0 - 0) = (n : Int) := by omega
  have n3 : (n : Int) > 0 := n1
  go_enter Tryz.func201, Tryz.ntmps201
  go_wp2_with (at_builtin; refine app_zeros8 rfl _ _ rfl rfl n rfl h0 hn ?_; intro cap w' ho hc hb; have HO := hm7 ho; have HB := hm7 hb; clear ho hb)
  go_ret
  exact ⟨_, _, rfl, HO.out, HB.out⟩
end Go.Proofs.YtllgffmhbddigaaGreat
/-
  base: two lists of terms as one (slices.Concat); the terms of an atom.
-/
namespace Go.Proofs.YtllgffmhbddigaaGreat
open Go.RowKit
attribute [local go_sem ↓] Go.wp_at_zero Go.wp_at_succ

theorem TsP.shape {w : World} {v : Value} {l : List Tm} (h : TsP w v l) : ∃ ad cap, v = .slice ad l.length cap := by
  rcases h with ⟨rfl, rfl⟩ | ⟨ad, cap, rfl, -⟩
  · exact ⟨none, 0, rfl⟩
  · exact ⟨_, _, rfl⟩
set_option maxRecDepth 20000 in
set_option maxHeartbeats 2000000 in
theorem concat8_any (b : Nat) (x y : Value) (l m : List Tm) (Y : World) (hb : Bk Y b #[x, y] 24) (hx : TsP Y x l) (hy : TsP Y y m) (h0 : 0 < l.length) (hl : l.length ≤ 10000) (hm : m.length ≤ 100000000000) :
    Calls Tryz.prog 170 #[.slice (some ⟨b, 0, none⟩) 2 2] Y fun e Y' => ∃ v, e = .returned v ∧ OwnT Y' Y.heap.size v (l ++ m) ∧ Below Y.heap.size Y Y' := by
  have HX := hm7 hx
  have HY := hm7 hy
  have HK := hm7 hb
  obtain ⟨ax, cx, rfl⟩ := hx.shape
  obtain ⟨ay, cy, rfl⟩ := hy.shape
  have c0 := hb.cell (i := 0) rfl
  have c1 := hb.cell (i := 1) rfl
  have HG : Hid (∀ X : World, Calls Tryz.prog 201 #[.slice none 0 0, .int .i64 ((l.length : Int) + (m.length : Int))] X fun e Y' => ∃ g cap, e = .returned (.slice (some ⟨g, 0, none⟩) 0 cap) ∧ OwnT Y' X.heap.size (.slice (some ⟨g, 0, none⟩) 0 cap) [] ∧ Below X.heap.size X Y') := fun X => by
    have := grow8_any (l.length + m.length) (by omega) (by omega) X
    rw [show (((l.length + m.length : Nat)) : Int) = (l.length : Int) + (m.length : Int) by omega] at this
    exact this
  have HL := hm7 (show l.length + m.length ≤ 4000000000000 by omega)
  have HL1 := hm7 (show ([] : List Tm).length + l.length ≤ 4000000000000 by simp only [List.length_nil]; omega)
  have HL2 := hm7 (show ([] ++ l).length + m.length ≤ 4000000000000 by simp only [List.nil_append]; omega)
  have p0 : ¬ (l.length : Int) < 0 := by omega
  have p1 : ¬ (l.length : Int) + (m.length : Int) < 0 := by omega
  have p2 : (l.length : Int) ≤ 10000 := by omega
  have p3 : (m.length : Int) ≤ 100000000000 := by omega
  clear hx hy hb h0 hl hm
  go_enter Tryz.func170, Tryz.ntmps170
  go_wp2
  refine wp_loop_rounds 3 ?_
  rw [rounds_succ]; go_wp2
  rw [rounds_succ]; go_wp2
  rw [rounds_succ]; go_wp2_with (go_at_call 201; refine (HG.out _).mono ?_; clear HG; rintro e w1 ⟨g, cap, rfl, ho, hb⟩; have HO := hm7 ho; have c0 := (HK.out.below hb).cell (i := 0) rfl; have c1 := (HK.out.below hb).cell (i := 1) rfl; have HB := hm7 hb; clear ho hb)
  refine wp_loop_rounds 3 ?_
  rw [rounds_succ]; go_wp2_with (at_builtin; refine app_terms rfl _ _ rfl Y.heap.size _ [] (by rfl) HO.out _ l (by rfl) (HX.out.later HB.out) HL1.out HB.out.size ?_; intro v2 w2 ho hb hg; have HO2 := hm7 ho; have c0 := (HK.out.below (HB.out.trans hb)).cell (i := 0) rfl; have c1 := (HK.out.below (HB.out.trans hb)).cell (i := 1) rfl; have HB2 := hm7 (HB.out.trans hb); clear ho hb hg)
  rw [rounds_succ]; go_wp2_with (at_builtin; refine app_terms rfl _ _ rfl Y.heap.size _ _ (by rfl) HO2.out _ m (by rfl) (HY.out.later HB2.out) HL2.out HB2.out.size ?_; intro v3 w3 ho hb hg; have HO3 := hm7 ho; have HB3 := hm7 (HB2.out.trans hb); clear ho hb hg)
  rw [rounds_succ]; go_wp2
  go_ret
  exact ⟨_, rfl, by have := HO3.out; rw [List.nil_append] at this; exact this, HB3.out⟩
end Go.Proofs.YtllgffmhbddigaaGreat
/-
  base: the terms of an atom, its predicate; a thing of the table.
-/
namespace Go.Proofs.YtllgffmhbddigaaGreat
open Go.RowKit
attribute [local go_sem ↓] Go.wp_at_zero Go.wp_at_succ

theorem three8 (w : World) (c0 c1 c2 : Array Value) (t0 t1 t2 : TypeId) : Bk (((w.alloc (.cells c0 t0)).alloc (.cells c1 t1)).alloc (.cells c2 t2)) (w.heap.size + 2) c2 t2 ∧ CBlk (((w.alloc (.cells c0 t0)).alloc (.cells c1 t1)).alloc (.cells c2 t2)) (w.heap.size + 1) c1 t1 ∧ Below w.heap.size w (((w.alloc (.cells c0 t0)).alloc (.cells c1 t1)).alloc (.cells c2 t2)) := by
  refine ⟨?_, ?_, below_step (below_step (below1 _ _) (below1 _ _)) (below1 _ _)⟩
  · have := Bk.new ((w.alloc (.cells c0 t0)).alloc (.cells c1 t1)) c2 t2
    rw [show ((w.alloc (.cells c0 t0)).alloc (.cells c1 t1)).heap.size = w.heap.size + 2 by simp] at this
    exact this
  · have := (CBlk.new (w.alloc (.cells c0 t0)) c1 t1).later (below1 _ (.cells c2 t2))
    rw [show (w.alloc (.cells c0 t0)).heap.size = w.heap.size + 1 by simp] at this
    exact this
theorem two8 (w : World) (c0 c1 : Array Value) (t0 t1 : TypeId) : Bk ((w.alloc (.cells c0 t0)).alloc (.cells c1 t1)) (w.heap.size + 1) c1 t1 ∧ Bk ((w.alloc (.cells c0 t0)).alloc (.cells c1 t1)) w.heap.size c0 t0 ∧ Below w.heap.size w ((w.alloc (.cells c0 t0)).alloc (.cells c1 t1)) := by
  refine ⟨?_, (Bk.new _ _ _).below (below1 _ _), below_step (below1 _ _) (below1 _ _)⟩
  have := Bk.new (w.alloc (.cells c0 t0)) c1 t1
  rw [show (w.alloc (.cells c0 t0)).heap.size = w.heap.size + 1 by simp] at this
  exact this
end Go.Proofs.YtllgffmhbddigaaGreat
/-
  plan: below, columns.
-/
namespace Go.Proofs.YtllgffmhbddigaaGreat
open Go.RowKit
attribute [local go_sem ↓] Go.wp_at_zero Go.wp_at_succ

/-- The numbers below n. -/
def up9 (n : Nat) : List Int := (List.range n).map fun i : Nat => (i : Int)
theorem up9_len (n : Nat) : (up9 n).length = n := by simp [up9]
theorem up9_succ (n : Nat) : up9 (n + 1) = up9 n ++ [(n : Int)] := by simp [up9, List.range_succ]
theorem ibs7_app (l m : List Int) : ibs7 (l ++ m) = ibs7 l ++ ibs7 m := by simp [ibs7]
/-- One more behind. -/
theorem OwI.snoc9 {w : World} {base : Nat} {v : Value} {l : List Int} {n : Int} {m : Nat} (hm : m = l.length) (h : w.ownsRow base 3 1 v (m + 1) (ibs7 l ++ [.int .i64 n])) : OwI w base v (l ++ [n]) := by
  subst hm
  unfold OwI
  rw [ibs7_app, List.length_append]
  exact h
set_option maxRecDepth 20000 in
set_option maxHeartbeats 1000000 in
theorem below9_any (n : Nat) (Y : World) (hn : n ≤ 1000000000) : Calls Tryz.prog 84 #[.int .i64 (n : Int)] Y fun e Y' => ∃ v, e = .returned v ∧ OwI Y' Y.heap.size v (up9 n) ∧ Below Y.heap.size Y Y' := by
  go_enter Tryz.func84, Tryz.ntmps84
  go_wp2
  go_loopg [6, 3, 4] n (fun g i v _ wr => ∃ j : Nat, j + g = n ∧ i = .int .i64 j ∧ OwI wr Y.heap.size v (up9 j) ∧ Below Y.heap.size Y wr)
  case atStart => exact ⟨0, by omega, rfl, OwI.nil _ _, Below.refl _ _⟩
  case round =>
    obtain ⟨j, hj, rfl, ho, hb⟩ := hrel
    have HO := hm7 ho
    have HB := hm7 hb
    cases gk with
    | succ g =>
      have hlt : (j : Int) < (n : Int) := by omega
      obtain ⟨va, vc, hv, -⟩ := row7_form ho
      rw [up9_len] at hv
      subst hv
      have hz := hb.size
      have ho' : wr.ownsRow Y.heap.size 3 1 (.slice va j vc) j (ibs7 (up9 j)) := by have := HO.out; unfold OwI at this; rw [up9_len] at this; exact this
      have HO1 := hm7 ho'
      clear ho hb ho'
      go_wp2_with (at_builtin; refine gapp Tryz.underlying32 Tryz.infoInt7 rfl (by omega) rfl _ _ rfl Y.heap.size (.slice va j vc) j (ibs7 (up9 j)) rfl (row7_below HO1.out (below1 _ _)) wr.heap.size (.int .i64 (j : Int)) rfl (Bk.new _ _ _) rfl (by omega) (by simp; omega) ?_; intro g2 q2 w2 ho2 hg2 hv2 hl2; have HO2 := hm7 ho2; have HB2 := hm7 (HB.out.trans (((below1 _ _).mono hz).trans (Fr.low (Fr.grown hg2 fun b hb => (World.ownsRow.lt HO1.out b hb).1) (by simp; omega)))); clear ho2 hg2 hv2 hl2)
      go_roundg g
      case measure => omega
      case rel => exact ⟨j + 1, by omega, by go_num, by rw [up9_succ]; exact OwI.snoc9 (up9_len j).symm HO2.out, HB2.out⟩
    | zero =>
      have hlt : ¬ (j : Int) < (n : Int) := by omega
      obtain rfl : j = n := by omega
      clear ho hb
      go_wp2
      go_ret
      exact ⟨_, rfl, HO.out, HB.out⟩
set_option maxRecDepth 20000 in
set_option maxHeartbeats 1000000 in
theorem columns9_any (a : At) (x : Value) (Y : World) (hx : TsP Y x a.args) (hm : a.args.length ≤ 100000000000) :
    Calls Tryz.prog 174 #[a.v x] Y fun e Y' => ∃ v, e = .returned v ∧ OwnT Y' Y.heap.size v a.pl ∧ Below Y.heap.size Y Y' := by
  have HC : Hid (∀ (b c : Nat) (X : World), Below Y.heap.size Y X → Bk X b #[.slice (some ⟨c, 0, none⟩) 1 1, x] 24 → CBlk X c #[.int .i64 a.by_.k, .int .i64 a.by_.n, .string a.by_.s] 23 → Calls Tryz.prog 170 #[.slice (some ⟨b, 0, none⟩) 2 2] X fun e Y' => ∃ v, e = .returned v ∧ OwnT Y' X.heap.size v a.pl ∧ Below X.heap.size X Y') :=
    fun b c X hX h1 h2 => concat8_any b _ _ [a.by_] a.args X h1 (TsP.one h2) (hx.later hX) (by simp) (by simp) hm
  obtain ⟨ax, cx, rfl⟩ := hx.shape
  clear hx hm
  obtain ⟨⟨k, n, s⟩, nm, l⟩ := a
  go_enter Tryz.func174, Tryz.ntmps174
  go_wp2_with (go_at_call 170; refine (HC.out _ _ _ (by exact (three8 _ _ _ _ _ _ _).2.2) (by exact (three8 _ _ _ _ _ _ _).1) (by exact (three8 _ _ _ _ _ _ _).2.1)).mono ?_; clear HC; rintro e w1 ⟨v, rfl, ho, hb⟩; have HO := hm7 (ho.mono (b' := Y.heap.size) (by simp; omega)); have HB := hm7 (below_step (three8 Y _ _ _ _ _ _).2.2 hb); clear ho hb)
  go_ret
  exact ⟨_, rfl, HO.out, HB.out⟩
end Go.Proofs.YtllgffmhbddigaaGreat
