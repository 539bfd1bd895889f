import Derived.Test.YtgbiicmkhlnniaaGreatDoorMD6
/-
  ref's variables.
-/
namespace Go.Proofs.YtgbiicmkhlnniaaGreatDoor
open Go.RowKit
attribute [local go_sem ↓] Go.wp_at_zero Go.wp_at_succ

theorem disT_no {l : List Tm} {j : Nat} {t : Tm} (h : l[j]? = some t) (hv : t.var = false) : disT (l.take (j + 1)) = disT (l.take j) := by
  unfold disT; rw [List.take_add_one, h, Option.toList_some, List.filter_append]; simp [hv]
theorem disT_yes {l : List Tm} {j : Nat} {t : Tm} (h : l[j]? = some t) (hv : t.var = true) : disT (l.take (j + 1)) = dstepT (disT (l.take j)) t := by
  unfold disT; rw [List.take_add_one, h, Option.toList_some, List.filter_append, List.foldl_append]; simp [hv]
theorem foldT_len : ∀ (l acc : List Tm), (l.foldl dstepT acc).length ≤ acc.length + l.length
  | [], acc => by simp
  | x :: l, acc => by
    rw [List.foldl_cons]
    refine Nat.le_trans (foldT_len l _) ?_
    unfold dstepT
    split
    · simp only [List.length_cons]; omega
    · simp only [List.length_append, List.length_cons, List.length_nil]; omega
theorem disT_len (l : List Tm) : (disT l).length ≤ l.length := by
  have h1 := foldT_len (l.filter Tm.var) []
  have h2 := List.length_filter_le Tm.var l
  unfold disT
  simp only [List.length_nil, Nat.zero_add] at h1
  omega
set_option maxRecDepth 20000 in
set_option maxHeartbeats 4000000 in
theorem variables3_any (l : List Tm) (v : Value) (w : World) (h : Ts w v l) (hl : l.length ≤ 3900000000000) :
    Calls Tryz.prog 70 #[v] w fun e w' => ∃ v', e = .returned v' ∧ OwnT w' w.heap.size v' (disT l) ∧ Below w.heap.size w w' := by
  obtain ⟨ad, cap, rfl, -, h⟩ := h
  go_enter Tryz.func70, Tryz.ntmps70
  go_wp2
  go_loopg [3, 4] l.length (fun g u i wr => ∃ j : Nat, j + g = l.length ∧ i = .int .i64 j ∧ OwnT wr w.heap.size u (disT (l.take j)) ∧ Below w.heap.size w wr)
  case atStart => exact ⟨0, by omega, rfl, ownT_nil _ _, Below.refl _ _⟩
  case round =>
    obtain ⟨j, hj, rfl, hown, hb⟩ := hrel
    have HO : Hid (OwnT wr w.heap.size u3 (disT (l.take j))) := hown
    have HB : Hid (Below w.heap.size w wr) := hb
    clear hown hb
    cases gk with
    | succ g =>
      have hlt : (j : Int) < (l.length : Int) := by omega
      have j0 : (0 : Int) ≤ (j : Int) := by omega
      obtain ⟨t, ht⟩ : ∃ t, l[j]? = some t := ⟨_, List.getElem?_eq_getElem (by omega)⟩
      rcases h with h | ⟨b1, o1, rfl, hb1, h⟩
      · subst h; simp at hj
      obtain ⟨p0, p1, p2⟩ := h j t ht
      have q0 := cell_step HB.out hb1 p0
      have q1 := cell_step HB.out hb1 p1
      have q2 := cell_step HB.out hb1 p2
      have hbW := lt_step HB.out hb1
      have HD : Hid ((disT (l.take j)).length ≤ j) := by show _ ≤ _; refine Nat.le_trans (disT_len _) ?_; rw [List.length_take]; omega
      have HVA : Hid (∀ X : World, Calls Tryz.prog 39 #[t.v] X fun e w' => e = .returned (.bool t.var) ∧ Below X.heap.size X w') := fun X => rvar_any t X
      cases hv : t.var
      · have HN : Hid (disT (l.take (j + 1)) = disT (l.take j)) := disT_no ht hv
        rw [hv] at HVA
        clear h ht hv p0 p1 p2
        obtain ⟨tk, tn, ts⟩ := t
        simp only at q0 q1 q2
        go_wp2_with (go_at_call 39; refine (HVA.out _).mono ?_; clear HVA; rintro e w1 ⟨rfl, hb⟩; have HO1 : Hid (OwnT w1 w.heap.size u3 (disT (l.take j))) := HO.out.later hb; have HB1 : Hid (Below w.heap.size w w1) := below_step HB.out hb; clear hb HO HB)
        go_roundg g
        case measure => omega
        case rel => exact ⟨j + 1, by omega, by go_num, by rw [HN.out]; exact HO1.out, HB1.out⟩
      · have hn := disT_yes ht hv
        rw [hv] at HVA
        have HWI : Hid (∀ X : World, Below wr.heap.size wr X → Calls Tryz.prog 71 #[u3, t.v] X fun e w' => e = .returned (.bool (decide (t ∈ disT (l.take j)))) ∧ Below X.heap.size X w') := fun X hX => within_any _ u3 t X ((HO.out.later hX).tsP.ts (by have := HD.out; omega))
        by_cases hm : t ∈ disT (l.take j)
        · have HN : Hid (disT (l.take (j + 1)) = disT (l.take j)) := by show _ = _; rw [hn, dstepT, if_pos hm]
          rw [decide_eq_true hm] at HWI
          clear h ht hv p0 p1 p2 hn hm
          obtain ⟨tk, tn, ts⟩ := t
          simp only at q0 q1 q2
          go_wp2_with (first
            | (go_at_call 39; refine (HVA.out _).mono ?_; clear HVA; rintro e w1 ⟨rfl, hb⟩; have HBx : Hid (Below wr.heap.size wr w1) := hb; have q0 := cell_step hb hbW q0; have q1 := cell_step hb hbW q1; have q2 := cell_step hb hbW q2; clear hb)
            | (go_at_call 71; refine (HWI.out _ HBx.out).mono ?_; clear HWI; rintro e w2 ⟨rfl, hb⟩; have HO1 : Hid (OwnT w2 w.heap.size u3 (disT (l.take j))) := HO.out.later (below_step HBx.out hb); have HB1 : Hid (Below w.heap.size w w2) := below_step (below_step HB.out HBx.out) hb; clear hb HO HB HBx))
          go_roundg g
          case measure => omega
          case rel => exact ⟨j + 1, by omega, by go_num, by rw [HN.out]; exact HO1.out, HB1.out⟩
        · have HN : Hid (disT (l.take (j + 1)) = disT (l.take j) ++ [t]) := by show _ = _; rw [hn, dstepT, if_neg hm]
          rw [decide_eq_false hm] at HWI
          clear h ht hv p0 p1 p2 hn hm
          obtain ⟨tk, tn, ts⟩ := t
          simp only at q0 q1 q2
          generalize disT (l.take j) = DJ at HO HN HD HWI
          go_upto_if 24 with (first
            | (go_at_call 39; refine (HVA.out _).mono ?_; clear HVA; rintro e w1 ⟨rfl, hb⟩; have HBx : Hid (Below wr.heap.size wr w1) := hb; have q0 := cell_step hb hbW q0; have q1 := cell_step hb hbW q1; have q2 := cell_step hb hbW q2; clear hb)
            | (go_at_call 71; refine (HWI.out _ HBx.out).mono ?_; clear HWI; rintro e w2 ⟨rfl, hb⟩; have HO1 : Hid (OwnT w2 w.heap.size u3 DJ) := HO.out.later (below_step HBx.out hb); have HB1 : Hid (Below w.heap.size w w2) := below_step (below_step HB.out HBx.out) hb; have hbW := lt_step HBx.out hbW; have q0 := cell_step hb hbW q0; have q1 := cell_step hb hbW q1; have q2 := cell_step hb hbW q2; clear hb HO HB HBx))
          have HG : Hid (CBlk (w2.alloc (.cells #[.int .i64 tk, .int .i64 tn, .string ts] 23)) w2.heap.size #[.int .i64 tk, .int .i64 tn, .string ts] 23) := CBlk.new _ _ _
          have hsz := HB1.out.size
          go_wp2_with (at_builtin; refine app_terms rfl _ _ rfl w.heap.size u3 DJ (by rfl) (HO1.out.later (below1 _ _)) (.slice (some ⟨w2.heap.size, 0, none⟩) 1 1) [⟨tk, tn, ts⟩] (by rfl) (TsP.one HG.out) (by have := HD.out; simp; omega) (by simp; omega) ?_; intro v' w3 hown hb3 hg3; have HO3 : Hid (OwnT w3 w.heap.size v' (DJ ++ [⟨tk, tn, ts⟩])) := hown; have HB3 : Hid (Below w.heap.size w w3) := (below_step HB1.out (below1 _ _)).trans hb3; clear hown hb3 hg3)
          go_roundg g
          case measure => omega
          case rel => exact ⟨j + 1, by omega, by go_num, by rw [HN.out]; exact HO3.out, HB3.out⟩
    | zero =>
      obtain rfl : j = l.length := by omega
      have hz : ¬ ((l.length : Int) < (l.length : Int)) := by omega
      rw [List.take_length] at HO
      clear h
      go_wp2
      go_ret
      exact ⟨_, rfl, HO.out, HB.out⟩
end Go.Proofs.YtgbiicmkhlnniaaGreatDoor
/-
  Lists of atoms and of tests that a call makes by append. (Written by MD8.py.)
-/
namespace Go.Proofs.YtgbiicmkhlnniaaGreatDoor
open Go.RowKit
attribute [local go_sem ↓] Go.wp_at_zero Go.wp_at_succ

def acell (x : At × Value) : List Value := [.int .i64 x.1.by_.k, .int .i64 x.1.by_.n, .string x.1.by_.s, .string x.1.name, x.2]
def ecell (x : Te) : List Value := [.int .i64 x.op, .int .i64 x.l.k, .int .i64 x.l.n, .string x.l.s, .int .i64 x.r.k, .int .i64 x.r.n, .string x.r.s]
def acs (l : List (At × Value)) : List Value := l.flatMap acell
theorem acs_len (l : List (At × Value)) : (acs l).length = l.length * 5 := by
  induction l with
  | nil => rfl
  | cons d l ih => simp only [acs, List.flatMap_cons, List.length_append, List.length_cons] at *; rw [ih]; simp [acell]; omega
theorem acs_app (l m : List (At × Value)) : acs (l ++ m) = acs l ++ acs m := by simp [acs]
theorem acs_get (l : List (At × Value)) (j : Nat) (d : (At × Value)) (h : l[j]? = some d) (i : Nat) (hi : i < 5) : (acs l)[j * 5 + i]? = (acell d)[i]? := by
  induction l generalizing j with
  | nil => simp at h
  | cons e l ih =>
    rw [acs, List.flatMap_cons]
    cases j with
    | zero =>
      simp only [List.getElem?_cons_zero, Option.some.injEq] at h
      subst h
      rw [List.getElem?_append_left (by simp [acell]; omega)]
      simp
    | succ j =>
      simp only [List.getElem?_cons_succ] at h
      rw [List.getElem?_append_right (by simp [acell]; omega)]
      have e1 : (j + 1) * 5 + i - (acell e).length = j * 5 + i := by simp [acell]; omega
      rw [e1]
      exact ih j h
def OwnA (w : World) (base : Nat) (v : Value) (l : List (At × Value)) : Prop := w.ownsRow base 26 5 v l.length (acs l)
theorem OwnA.later {w w' : World} {base : Nat} {v : Value} {l : List (At × Value)} (h : OwnA w base v l) (hb : Below w.heap.size w w') : OwnA w' base v l := by
  refine ⟨h.1, ?_⟩
  rcases h.2 with hn | ⟨g, cap, cur, hv, hbb, hg, rest⟩
  · exact Or.inl hn
  · exact Or.inr ⟨g, cap, cur, hv, hbb, (hb.block g (Array.getElem?_eq_some_iff.1 hg).1).trans hg, rest⟩
theorem OwnA.mono {w : World} {b b' : Nat} {v : Value} {l : List (At × Value)} (h : OwnA w b v l) (hb : b' ≤ b) : OwnA w b' v l := by
  refine ⟨h.1, ?_⟩
  rcases h.2 with hn | ⟨g, cap, cur, hv, hbb, rest⟩
  · exact Or.inl hn
  · exact Or.inr ⟨g, cap, cur, hv, Nat.le_trans hb hbb, rest⟩
theorem OwnA.nil (w : World) (base : Nat) : OwnA w base (.slice none 0 0) [] := World.ownsRow_nil _ _ _ _
theorem OwnA.lt {w : World} {base : Nat} {v : Value} {l : List (At × Value)} (h : OwnA w base v l) : ∀ k, v.ownBlock = some k → base ≤ k ∧ k < w.heap.size := World.ownsRow.lt h
theorem OwnA.form {w : World} {base : Nat} {v : Value} {l : List (At × Value)} (h : OwnA w base v l) : ∃ a cap, v = .slice a l.length cap := by
  rcases h.2 with ⟨rfl, hn⟩ | ⟨g, cap, cur, hv, -⟩
  · exact ⟨none, 0, by rw [hn]⟩
  · exact ⟨_, cap, hv⟩
theorem OwnA.cells {w : World} {base g cap n : Nat} {l : List (At × Value)} (h : OwnA w base (.slice (some ⟨g, 0, none⟩) n cap) l) (j : Nat) (d : (At × Value)) (hd : l[j]? = some d) (i : Nat) (hi : i < 5) : w.cell? ⟨g, j * 5 + i, none⟩ = (acell d)[i]? := by
  rcases h.2 with ⟨h, _⟩ | ⟨g', cap', cur, hv, hb, hg, hn, hc, hs, ht⟩
  · cases h
  · simp only [Value.slice.injEq, Option.some.injEq, Addr.mk.injEq] at hv
    obtain ⟨⟨rfl, -⟩, -, rfl⟩ := hv
    have hj := (List.getElem?_eq_some_iff.1 hd).1
    rw [cell_of_row _ _ _ _ _ _ hg, ← acs_get l j d hd i hi, ← ht, List.getElem?_take_of_lt (by omega)]
    simp
theorem aapp_one {ops : Array Oper} {rest : List Oper} {o : Oper} {a : Act} {Q : Exit → Act → World → Prop} {w : World} (hgd : o.guard = none) (s x : Operand)
    (ho : o.op = .call { callee := .builtin .append, args := #[s, x], argTypes := #[27, 27] }) (base : Nat) (v : Value) (l : List (At × Value)) (hs : a.eval s = v) (hown : OwnA w base v l)
    (b : Nat) (y : (At × Value)) (hx : a.eval x = .slice (some ⟨b, 0, none⟩) 1 1) (hblk : CBlk w b (acell y).toArray 26) (h1c : ∀ u ∈ acell y, u.oneCell' = true) (hlen : l.length ≤ 1800000000000) (hbase : base ≤ w.heap.size)
    (h : ∀ v' w', OwnA w' base v' (l ++ [y]) → Below base w w' → w.grownBy w' v.ownBlock → (∀ k, v'.ownBlock = some k → v.ownBlock = some k ∨ w.heap.size ≤ k) → wpList Tryz.prog ops Q rest (a.put o.dst v') w') : wpList Tryz.prog ops Q (o :: rest) a w := by
  obtain ⟨i0, hi0, hz0, hz1, hz2⟩ := info_parts Tryz.infoAtom
  refine wpList_append_lies _ hgd s x 27 ho base 26 i0 _ 5 72 Tryz.underlying27 hi0 hz0 hz1 hz2 rfl (by omega) v l.length (acs l) hs hown ⟨b, 0, none⟩ 1 1 (acs [y]) hx (by simp [acs, acell]) ?_ (by simpa [acs] using h1c) (by omega) (by unfold maxLen; omega) (by omega) hbase _ rfl ?_
  · intro j u hj
    have := World.news_of_block (cs := (acell y).toArray) (t := 26) (fr := (0, 0)) hblk j u
    exact this (by simpa [acs] using hj)
  · intro g cap w' h1 h2 h3 h4
    refine h _ w' ?_ (grown_below3 h2 (fun k hk => (World.ownsRow.lt hown k hk).1) hbase) h2 (fun k hk => by cases hk; exact h3.imp id (fun e => Nat.le_of_eq e.symm))
    unfold OwnA
    rw [List.length_append, acs_app]
    exact h1
def ecs (l : List Te) : List Value := l.flatMap ecell
theorem ecs_len (l : List Te) : (ecs l).length = l.length * 7 := by
  induction l with
  | nil => rfl
  | cons d l ih => simp only [ecs, List.flatMap_cons, List.length_append, List.length_cons] at *; rw [ih]; simp [ecell]; omega
theorem ecs_app (l m : List Te) : ecs (l ++ m) = ecs l ++ ecs m := by simp [ecs]
theorem ecs_get (l : List Te) (j : Nat) (d : Te) (h : l[j]? = some d) (i : Nat) (hi : i < 7) : (ecs l)[j * 7 + i]? = (ecell d)[i]? := by
  induction l generalizing j with
  | nil => simp at h
  | cons e l ih =>
    rw [ecs, List.flatMap_cons]
    cases j with
    | zero =>
      simp only [List.getElem?_cons_zero, Option.some.injEq] at h
      subst h
      rw [List.getElem?_append_left (by simp [ecell]; omega)]
      simp
    | succ j =>
      simp only [List.getElem?_cons_succ] at h
      rw [List.getElem?_append_right (by simp [ecell]; omega)]
      have e1 : (j + 1) * 7 + i - (ecell e).length = j * 7 + i := by simp [ecell]; omega
      rw [e1]
      exact ih j h
def OwnE (w : World) (base : Nat) (v : Value) (l : List Te) : Prop := w.ownsRow base 46 7 v l.length (ecs l)
theorem OwnE.later {w w' : World} {base : Nat} {v : Value} {l : List Te} (h : OwnE w base v l) (hb : Below w.heap.size w w') : OwnE w' base v l := by
  refine ⟨h.1, ?_⟩
  rcases h.2 with hn | ⟨g, cap, cur, hv, hbb, hg, rest⟩
  · exact Or.inl hn
  · exact Or.inr ⟨g, cap, cur, hv, hbb, (hb.block g (Array.getElem?_eq_some_iff.1 hg).1).trans hg, rest⟩
theorem OwnE.mono {w : World} {b b' : Nat} {v : Value} {l : List Te} (h : OwnE w b v l) (hb : b' ≤ b) : OwnE w b' v l := by
  refine ⟨h.1, ?_⟩
  rcases h.2 with hn | ⟨g, cap, cur, hv, hbb, rest⟩
  · exact Or.inl hn
  · exact Or.inr ⟨g, cap, cur, hv, Nat.le_trans hb hbb, rest⟩
theorem OwnE.nil (w : World) (base : Nat) : OwnE w base (.slice none 0 0) [] := World.ownsRow_nil _ _ _ _
theorem OwnE.lt {w : World} {base : Nat} {v : Value} {l : List Te} (h : OwnE w base v l) : ∀ k, v.ownBlock = some k → base ≤ k ∧ k < w.heap.size := World.ownsRow.lt h
theorem OwnE.off {w : World} {base G i : Nat} {a : Value} {v : Value} {l : List Te} (h : OwnE w base v l) (hG : ∀ k, v.ownBlock = some k → k ≠ G) : OwnE (w.setCell ⟨G, i, none⟩ a) base v l := by
  refine ⟨h.1, ?_⟩
  rcases h.2 with hn | ⟨g, cap, cur, hv, hbb, hg, rest⟩
  · exact Or.inl hn
  · exact Or.inr ⟨g, cap, cur, hv, hbb, by rw [heap_setCell_other _ _ _ _ (hG g (by rw [hv]; rfl))]; exact hg, rest⟩
theorem OwnE.set {w : World} {base G i : Nat} {a : Value} {v : Value} {l : List Te} (h : OwnE w base v l) (hG : G < base) : OwnE (w.setCell ⟨G, i, none⟩ a) base v l := h.off fun k hk => by have := (h.lt k hk).1; omega
theorem OwnE.form {w : World} {base : Nat} {v : Value} {l : List Te} (h : OwnE w base v l) : ∃ a cap, v = .slice a l.length cap := by
  rcases h.2 with ⟨rfl, hn⟩ | ⟨g, cap, cur, hv, -⟩
  · exact ⟨none, 0, by rw [hn]⟩
  · exact ⟨_, cap, hv⟩
theorem OwnE.cells {w : World} {base g cap n : Nat} {l : List Te} (h : OwnE w base (.slice (some ⟨g, 0, none⟩) n cap) l) (j : Nat) (d : Te) (hd : l[j]? = some d) (i : Nat) (hi : i < 7) : w.cell? ⟨g, j * 7 + i, none⟩ = (ecell d)[i]? := by
  rcases h.2 with ⟨h, _⟩ | ⟨g', cap', cur, hv, hb, hg, hn, hc, hs, ht⟩
  · cases h
  · simp only [Value.slice.injEq, Option.some.injEq, Addr.mk.injEq] at hv
    obtain ⟨⟨rfl, -⟩, -, rfl⟩ := hv
    have hj := (List.getElem?_eq_some_iff.1 hd).1
    rw [cell_of_row _ _ _ _ _ _ hg, ← ecs_get l j d hd i hi, ← ht, List.getElem?_take_of_lt (by omega)]
    simp
theorem eapp_one {ops : Array Oper} {rest : List Oper} {o : Oper} {a : Act} {Q : Exit → Act → World → Prop} {w : World} (hgd : o.guard = none) (s x : Operand)
    (ho : o.op = .call { callee := .builtin .append, args := #[s, x], argTypes := #[28, 28] }) (base : Nat) (v : Value) (l : List Te) (hs : a.eval s = v) (hown : OwnE w base v l)
    (b : Nat) (y : Te) (hx : a.eval x = .slice (some ⟨b, 0, none⟩) 1 1) (hblk : CBlk w b (ecell y).toArray 46) (h1c : ∀ u ∈ ecell y, u.oneCell' = true) (hlen : l.length ≤ 1800000000000) (hbase : base ≤ w.heap.size)
    (h : ∀ v' w', OwnE w' base v' (l ++ [y]) → Below base w w' → w.grownBy w' v.ownBlock → (∀ k, v'.ownBlock = some k → v.ownBlock = some k ∨ w.heap.size ≤ k) → wpList Tryz.prog ops Q rest (a.put o.dst v') w') : wpList Tryz.prog ops Q (o :: rest) a w := by
  obtain ⟨i0, hi0, hz0, hz1, hz2⟩ := info_parts Tryz.infoTest
  refine wpList_append_lies _ hgd s x 28 ho base 46 i0 _ 7 72 Tryz.underlying28 hi0 hz0 hz1 hz2 rfl (by omega) v l.length (ecs l) hs hown ⟨b, 0, none⟩ 1 1 (ecs [y]) hx (by simp [ecs, ecell]) ?_ (by simpa [ecs] using h1c) (by omega) (by unfold maxLen; omega) (by omega) hbase _ rfl ?_
  · intro j u hj
    have := World.news_of_block (cs := (ecell y).toArray) (t := 46) (fr := (0, 0)) hblk j u
    exact this (by simpa [ecs] using hj)
  · intro g cap w' h1 h2 h3 h4
    refine h _ w' ?_ (grown_below3 h2 (fun k hk => (World.ownsRow.lt hown k hk).1) hbase) h2 (fun k hk => by cases hk; exact h3.imp id (fun e => Nat.le_of_eq e.symm))
    unfold OwnE
    rw [List.length_append, ecs_app]
    exact h1
theorem OwnA.as {w : World} {base : Nat} {v : Value} {l : List (At × Value)} (h : OwnA w base v l) (hl : l.length < 1000000000000000000) (ht : ∀ x ∈ l, Ts w x.2 x.1.args) : As w v l := by
  have hh := h
  rcases h.2 with ⟨rfl, hn⟩ | ⟨g, cap, cur, rfl, hb, hg, -⟩
  · exact ⟨none, 0, by rw [hn], hl, Or.inl (List.length_eq_zero_iff.1 hn), ht⟩
  · refine ⟨_, cap, rfl, hl, Or.inr ⟨g, 0, rfl, (Array.getElem?_eq_some_iff.1 hg).1, fun i x hx => ?_⟩, ht⟩
    have k := fun j hj => OwnA.cells hh i x hx j hj
    simp only [Nat.zero_add]
    exact ⟨k 0 (by omega), k 1 (by omega), k 2 (by omega), k 3 (by omega), k 4 (by omega)⟩
theorem OwnT.grown {w w' : World} {base : Nat} {v : Value} {l : List Tm} {row : Option Nat} (h : OwnT w base v l) (hg : w.grownBy w' row) (hne : ∀ k, v.ownBlock = some k → row ≠ some k) : OwnT w' base v l := by
  refine ⟨h.1, ?_⟩
  rcases h.2 with hn | ⟨g, cap, cur, hv, hbb, hgg, rest⟩
  · exact Or.inl hn
  · exact Or.inr ⟨g, cap, cur, hv, hbb, (hg.block g (Array.getElem?_eq_some_iff.1 hgg).1 (fun e => hne g (by rw [hv]; rfl) e.symm)).trans hgg, rest⟩
theorem ecell_one (y : Te) : ∀ u ∈ ecell y, u.oneCell' = true := by
  intro u hu
  simp [ecell] at hu
  rcases hu with rfl | rfl | rfl | rfl | rfl | rfl | rfl <;> rfl
theorem acell_one (y : At) (a : Option Addr) (n cap : Nat) : ∀ u ∈ acell (y, .slice a n cap), u.oneCell' = true := by
  intro u hu
  simp [acell] at hu
  rcases hu with rfl | rfl | rfl | rfl | rfl <;> rfl
end Go.Proofs.YtgbiicmkhlnniaaGreatDoor
