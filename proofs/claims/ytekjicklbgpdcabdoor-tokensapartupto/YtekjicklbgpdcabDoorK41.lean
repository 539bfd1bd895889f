/-
  same: two lists of tokens that are the same, places too; fill; what stays beside a list that grows.
-/
import Derived.Test.YtekjicklbgpdcabDoorK34
import Derived.Test.YtekjicklbgpdcabDoorK40
namespace Go.Proofs.YtekjicklbgpdcabDoor
open Go.RowKit

set_option maxRecDepth 20000 in
set_option maxHeartbeats 2000000 in
theorem same_any (l : List Tk) (v u : Value) (w : World) (hv : Ks w v l) (hu : Ks w u l) (hl : l.length < 1000000000) :
    Calls Tryd.prog 13 #[v, u] w fun e w' => e = .returned (.bool true) ∧ Below w.heap.size w w' := by
  have HV0 : Hid (Ks w v l) := hv
  have HU0 : Hid (Ks w u l) := hu
  obtain ⟨va, vc, rfl, -⟩ := hv
  obtain ⟨ua, vc2, rfl, -⟩ := hu
  go_enter Tryd.func13, Tryd.ntmps13
  go_wp2
  go_loopg [5] l.length (fun g i wr => ∃ j : Nat, j + g = l.length ∧ i = .int .i64 (j : Int) ∧ Below w.heap.size w wr)
  case atStart => exact ⟨0, by omega, rfl, Below.refl _ _⟩
  case round =>
    obtain ⟨j, hj, rfl, hbr⟩ := hrel
    have HBr : Hid (Below w.heap.size w wr) := hbr
    cases gk with
    | succ g =>
      have hlt : j < l.length := by omega
      have i0 : (0 : Int) ≤ (j : Int) := by omega
      have i1 : (j : Int) < (l.length : Int) := by omega
      obtain ⟨t, ht⟩ : ∃ t, l[j]? = some t := ⟨_, List.getElem?_eq_getElem hlt⟩
      obtain ⟨a1, cap1, hva, hm1⟩ := HV0.out.later hbr
      simp only [Value.slice.injEq, true_and] at hva
      obtain ⟨rfl, rfl⟩ := hva
      obtain ⟨a2, cap2, hva, hm2⟩ := HU0.out.later hbr
      simp only [Value.slice.injEq, true_and] at hva
      obtain ⟨rfl, rfl⟩ := hva
      rcases hm1 with hm1 | ⟨b1, o1, rfl, hb1, hm1⟩
      · rw [hm1] at hlt; simp at hlt
      rcases hm2 with hm2 | ⟨b2, o2, rfl, hb2, hm2⟩
      · rw [hm2] at hlt; simp at hlt
      have c1 := hm1 j t ht
      have c2 := hm2 j t ht
      have HN : Hid (∀ w' : World, (binOp .neq 37 t.v t.v).run Tryd.prog w' = .ok (.bool false) w') := run_neq_tk t
      obtain ⟨k, x, n, a, e⟩ := t
      simp only at c1 c2
      have HAc : Hid (wr.cell? ⟨b1, o1 + j * 5, none⟩ = some (.int .i64 k) ∧ wr.cell? ⟨b1, o1 + j * 5 + 1, none⟩ = some (.string x) ∧ wr.cell? ⟨b1, o1 + j * 5 + 2, none⟩ = some (.int .i64 n) ∧ wr.cell? ⟨b1, o1 + j * 5 + 3, none⟩ = some (.int .i64 a) ∧ wr.cell? ⟨b1, o1 + j * 5 + 4, none⟩ = some (.int .i64 e)) := c1
      have HAz : Hid (b1 < wr.heap.size) := hb1
      have HBc : Hid (wr.cell? ⟨b2, o2 + j * 5, none⟩ = some (.int .i64 k) ∧ wr.cell? ⟨b2, o2 + j * 5 + 1, none⟩ = some (.string x) ∧ wr.cell? ⟨b2, o2 + j * 5 + 2, none⟩ = some (.int .i64 n) ∧ wr.cell? ⟨b2, o2 + j * 5 + 3, none⟩ = some (.int .i64 a) ∧ wr.cell? ⟨b2, o2 + j * 5 + 4, none⟩ = some (.int .i64 e)) := c2
      have HBz : Hid (b2 < wr.heap.size) := hb2
      clear c1 c2 hm1 hm2 ht hb1 hb2 hbr
      go_upto_region 6 with fail
      refine wp_region_held_drew (S := fun w' => Below wr.heap.size wr w') (by kernel_rfl) (Below.refl _ _).drew (fun hH => ?_)
      revert hH
      generalize wr.drew = V
      intro hH
      refine wpAnyH_take (i := 0) (oi := ⟨_, _, _, _, _, _⟩) (v := .slice (some ⟨b1, o1, none⟩) l.length vc) rfl (by kernel_rfl) (by kernel_rfl) (by kernel_rfl) (fun _ _ _ h => h) (Or.inl ⟨by rfl, fun w' _ => by go_simp⟩) hH ?_
      simp only [Act.put, List.setIfInBounds_toArray, List.set_cons_zero, List.set_cons_succ]
      refine wpAnyH_take (i := 1) (oi := ⟨_, _, _, _, _, _⟩) (v := .int .i64 (j : Int)) rfl (by kernel_rfl) (by kernel_rfl) (by kernel_rfl) (fun _ _ _ h => h) (Or.inl ⟨by rfl, fun w' _ => by go_simp⟩) hH ?_
      simp only [Act.put, List.setIfInBounds_toArray, List.set_cons_zero, List.set_cons_succ]
      refine wpAnyH_take (i := 2) (oi := ⟨_, _, _, _, _, _⟩) (v := .pointer (some ⟨b1, o1 + j * 5, none⟩)) rfl (by kernel_rfl) (by kernel_rfl) (by kernel_rfl) (fun _ _ _ h => h) (Or.inl ⟨by rfl, fun w' _ => by go_simp⟩) hH ?_
      simp only [Act.put, List.setIfInBounds_toArray, List.set_cons_zero, List.set_cons_succ]
      refine wpAnyH_take (i := 3) (oi := ⟨_, _, _, _, _, _⟩) (v := Tk.v ⟨k, x, n, a, e⟩) rfl (by kernel_rfl) (by kernel_rfl) (by kernel_rfl) (fun _ _ _ h => h) (Or.inl ⟨by rfl, fun w' h => by obtain ⟨p0, p1, p2, p3, p4⟩ := HAc.out; have z := HAz.out; have a0 := cell_step h z p0; have a1 := cell_step h z p1; have a2 := cell_step h z p2; have a3 := cell_step h z p3; have a4 := cell_step h z p4; clear p0 p1 p2 p3 p4; go_simp⟩) hH ?_
      simp only [Act.put, List.setIfInBounds_toArray, List.set_cons_zero, List.set_cons_succ]
      refine wpAnyH_take (i := 4) (oi := ⟨_, _, _, _, _, _⟩) (v := .slice (some ⟨b2, o2, none⟩) l.length vc2) rfl (by kernel_rfl) (by kernel_rfl) (by kernel_rfl) (fun _ _ _ h => h) (Or.inl ⟨by rfl, fun w' _ => by go_simp⟩) hH ?_
      simp only [Act.put, List.setIfInBounds_toArray, List.set_cons_zero, List.set_cons_succ]
      refine wpAnyH_take (i := 5) (oi := ⟨_, _, _, _, _, _⟩) (v := .int .i64 (j : Int)) rfl (by kernel_rfl) (by kernel_rfl) (by kernel_rfl) (fun _ _ _ h => h) (Or.inl ⟨by rfl, fun w' _ => by go_simp⟩) hH ?_
      simp only [Act.put, List.setIfInBounds_toArray, List.set_cons_zero, List.set_cons_succ]
      refine wpAnyH_take (i := 6) (oi := ⟨_, _, _, _, _, _⟩) (v := .pointer (some ⟨b2, o2 + j * 5, none⟩)) rfl (by kernel_rfl) (by kernel_rfl) (by kernel_rfl) (fun _ _ _ h => h) (Or.inl ⟨by rfl, fun w' _ => by go_simp⟩) hH ?_
      simp only [Act.put, List.setIfInBounds_toArray, List.set_cons_zero, List.set_cons_succ]
      refine wpAnyH_take (i := 7) (oi := ⟨_, _, _, _, _, _⟩) (v := Tk.v ⟨k, x, n, a, e⟩) rfl (by kernel_rfl) (by kernel_rfl) (by kernel_rfl) (fun _ _ _ h => h) (Or.inl ⟨by rfl, fun w' h => by obtain ⟨p0, p1, p2, p3, p4⟩ := HBc.out; have z := HBz.out; have a0 := cell_step h z p0; have a1 := cell_step h z p1; have a2 := cell_step h z p2; have a3 := cell_step h z p3; have a4 := cell_step h z p4; clear p0 p1 p2 p3 p4; go_simp⟩) hH ?_
      simp only [Act.put, List.setIfInBounds_toArray, List.set_cons_zero, List.set_cons_succ]
      refine wpAnyH_take (i := 8) (oi := ⟨_, _, _, _, _, _⟩) (v := .bool false) rfl (by kernel_rfl) (by kernel_rfl) (by kernel_rfl) (fun _ _ _ h => h) (Or.inl ⟨by rfl, fun w' _ => by have hn := HN.out w'; go_simp⟩) hH ?_
      simp only [Act.put, List.setIfInBounds_toArray, List.set_cons_zero, List.set_cons_succ]
      refine wpAnyH_done (by kernel_rfl) ?_ _
      have HV : Hid (Below wr.heap.size wr V) := hH
      clear hH
      go_wp2
      go_roundg g
      case measure => omega
      case rel => exact ⟨j + 1, by omega, by go_num, below_step HBr.out HV.out⟩
    | zero =>
      obtain rfl : j = l.length := by omega
      have hz : ¬ ((l.length : Int) < (l.length : Int)) := by omega
      clear hbr
      go_wp2
      go_ret
      exact ⟨rfl, HBr.out⟩
/-- Bytes and tokens never share a block. -/
theorem bk_ne {w : World} {base base' : Nat} {b k : Value} {bs : List Int} {ws : List Tk} (hB : OwnB w base b bs) (hK : OwnK w base' k ws) : k.ownBlock = none ∨ k.ownBlock ≠ b.ownBlock := by
  rcases hK.2 with ⟨rfl, -⟩ | ⟨g, cap, cur, rfl, -, hg, -⟩
  · exact Or.inl rfl
  · right
    rcases hB.2 with ⟨rfl, -⟩ | ⟨g', cap', cur', rfl, -, hg', -⟩
    · simp [Value.ownBlock]
    · simp only [Value.ownBlock, ne_eq, Option.some.injEq]
      rintro rfl
      rw [hg] at hg'
      simp at hg'
theorem OwnK.keptB {w w' : World} {base base' : Nat} {b k : Value} {bs : List Int} {ws : List Tk} (hK : OwnK w base' k ws) (hB : OwnB w base b bs) (hg : w.grownBy w' b.ownBlock) : OwnK w' base' k ws :=
  World.ownsRow.kept hK hg (bk_ne hB hK)
theorem OwnB.keptK {w w' : World} {base base' : Nat} {b k : Value} {bs : List Int} {ws : List Tk} (hB : OwnB w base b bs) (hK : OwnK w base' k ws) (hg : w.grownBy w' k.ownBlock) : OwnB w' base b bs := by
  refine World.ownsRow.kept hB hg ?_
  rcases bk_ne hB hK with h | h
  · rw [h]
    cases b.ownBlock with
    | none => exact Or.inl rfl
    | some x => right; simp
  · exact Or.inr (fun e => h e.symm)
theorem Blk.keptB {w w' : World} {base g : Nat} {b : Value} {bs : List Int} {c : Array Value} (hb : Blk w g c 37) (hB : OwnB w base b bs) (hg : w.grownBy w' b.ownBlock) : Blk w' g c 37 := by
  refine (hg.block g hb.lt ?_).trans hb
  rcases hB.2 with ⟨rfl, -⟩ | ⟨g', cap', cur', rfl, -, hg', -⟩
  · simp [Value.ownBlock]
  · simp only [Value.ownBlock, ne_eq, Option.some.injEq]
    rintro rfl
    have h : w.heap[g]? = some (.cells c 37 (0, 0)) := hb
    rw [h] at hg'
    simp at hg'
theorem OwnB.setT {w : World} {base g i : Nat} {b a : Value} {bs : List Int} {c : Array Value} (hB : OwnB w base b bs) (hb : Blk w g c 37) : OwnB (w.setCell ⟨g, i, none⟩ a) base b bs := by
  refine ⟨hB.1, ?_⟩
  rcases hB.2 with h | ⟨g', cap', cur', hv, h1, hg', rest⟩
  · exact Or.inl h
  · refine Or.inr ⟨g', cap', cur', hv, h1, ?_, rest⟩
    rw [heap_setCell_other _ _ _ _ (fun e => ?_)]
    · exact hg'
    · subst e
      have h : w.heap[g']? = some (.cells c 37 (0, 0)) := hb
      rw [h] at hg'
      simp at hg'
theorem OwnK.setT {w : World} {base g i : Nat} {k a : Value} {ws : List Tk} (hK : OwnK w base k ws) (hne : k.ownBlock ≠ some g) : OwnK (w.setCell ⟨g, i, none⟩ a) base k ws := by
  refine ⟨hK.1, ?_⟩
  rcases hK.2 with h | ⟨g', cap', cur', hv, h1, hg', rest⟩
  · exact Or.inl h
  · refine Or.inr ⟨g', cap', cur', hv, h1, ?_, rest⟩
    rw [heap_setCell_other _ _ _ _ (fun e => hne (by rw [hv]; exact congrArg some e))]
    exact hg'
theorem app_str2 {ops : Array Oper} {rest : List Oper} {o : Oper} {a : Act} {Q : Exit → Act → World → Prop} {w : World} (hgd : o.guard = none) (sl x : Operand)
    (ho : o.op = .call { callee := .builtin .append, args := #[sl, x], argTypes := #[50, 9] }) (base : Nat) (v : Value) (l : List Int) (hs : a.eval sl = v) (hown : OwnB w base v l) (s : ByteArray) (hx : a.eval x = .string s)
    (hlen : l.length + s.size ≤ 100000000) (hbase : base ≤ w.heap.size)
    (h : ∀ v' w', OwnB w' base v' (l ++ bl s) → Below base w w' → w.grownBy w' v.ownBlock → wpList Tryd.prog ops Q rest (a.put o.dst v') w') : wpList Tryd.prog ops Q (o :: rest) a w := by
  obtain ⟨i, hi, hz0, hz1, hz2⟩ := Tryd.zeroU8
  refine Lib.wpList_append_own_string _ hgd sl x 50 9 ho base 5 i Tryd.underlying50 Tryd.underlying9 hi hz0 hz1 hz2 v l.length (ibs l) hs hown s hx (by unfold maxLen; omega) (by omega) hbase ?_
  intro v' w' h1 h2 h3
  refine h v' w' ?_ (grown_below h2 (fun k hk => (World.ownsRow.lt hown k hk).1) hbase) h2
  unfold OwnB
  rw [List.length_append, bl_len, show ibs (l ++ bl s) = ibs l ++ ibs (bl s) by simp [ibs], ibs_bl]
  exact h1
theorem OwnB.shape {w : World} {base : Nat} {v : Value} {l : List Int} (h : OwnB w base v l) : ∃ a cap, v = .slice a l.length cap := by
  rcases h.2 with ⟨hv, hn⟩ | ⟨g, cap, cur, hv, -⟩
  · exact ⟨none, 0, by rw [hv, hn]⟩
  · exact ⟨_, _, hv⟩
theorem OwnK.shape {w : World} {base : Nat} {v : Value} {l : List Tk} (h : OwnK w base v l) : ∃ a cap, v = .slice a l.length cap := by
  obtain ⟨a, cap, hv, -⟩ := h.ks
  exact ⟨a, cap, hv⟩
/-- Numbers that lie in memory. -/
def Js (w : World) (v : Value) (h : List Int) : Prop :=
  ∃ a cap, v = .slice a h.length cap ∧ (h = [] ∨ ∃ b o, a = some ⟨b, o, none⟩ ∧ b < w.heap.size ∧ ∀ (i : Nat) (x : Int), h[i]? = some x → w.cell? ⟨b, o + i, none⟩ = some (.int .i64 x))
def kh (h : List Int) (i : Nat) : Int := match h[i % h.length]? with
  | some x => x
  | none => 0
end Go.Proofs.YtekjicklbgpdcabDoor
