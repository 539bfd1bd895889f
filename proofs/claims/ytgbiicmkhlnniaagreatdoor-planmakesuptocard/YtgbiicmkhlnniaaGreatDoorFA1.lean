import Derived.Test.YtgbiicmkhlnniaaGreatDoorCL17
import Derived.Test.YtgbiicmkhlnniaaGreatDoorCL5
import Derived.Test.YtgbiicmkhlnniaaGreatDoorCL12
import Derived.Test.YtgbiicmkhlnniaaGreatDoorMD1
import Derived.Test.YtgbiicmkhlnniaaGreatDoorRA16
import Derived.Test.YtgbiicmkhlnniaaGreatDoorCL8
import Derived.Lib.AppendZeros
import Derived.LoopN
import Derived.Test.YtgbiicmkhlnniaaGreatDoorRA14
/-
  replaced, with what copies each term. (Written by CL18.py.)
-/
namespace Go.Proofs.YtgbiicmkhlnniaaGreatDoor
open Go.RowKit
attribute [local go_sem ↓] Go.wp_at_zero Go.wp_at_succ

def zcs : Array Value := #[.int .i64 0, .int .i64 0, .string ⟨#[]⟩, .string ⟨#[]⟩, .slice none 0 0, .slice none 0 0, .slice none 0 0]
theorem fsts_get {l : List (At × Value)} {j : Nat} {x : At × Value} (h : l[j]? = some x) : (fsts l)[j]? = some x.1 := by unfold fsts; rw [List.getElem?_map, h]; rfl
theorem fsts_app (l m : List (At × Value)) : fsts (l ++ m) = fsts l ++ fsts m := by simp [fsts]
end Go.Proofs.YtgbiicmkhlnniaaGreatDoor
/-
  Quote, of a clause that may be quoted. (Written by CL20.py.)
-/
namespace Go.Proofs.YtgbiicmkhlnniaaGreatDoor
open Go.RowKit
attribute [local go_sem ↓] Go.wp_at_zero Go.wp_at_succ

theorem CBlk.froz {w : World} {g i : Nat} {c : Array Value} {t : TypeId} (h : CBlk w g c t) : w.frozen? ⟨g, i, none⟩ = false := frozen_of_row _ _ _ _ _ h

end Go.Proofs.YtgbiicmkhlnniaaGreatDoor
/-
  What Instance makes of a term.
-/
namespace Go.Proofs.YtgbiicmkhlnniaaGreatDoor
open Go.RowKit
attribute [local go_sem ↓] Go.wp_at_zero Go.wp_at_succ

/-- The list of values in its box. -/
def VB (w : World) (P : Nat) (v : Value) (vs : List Tm) : Prop := CBlk w P #[v] 24 ∧ Ts w v vs
theorem VB.later {w w' : World} {P : Nat} {v : Value} {vs : List Tm} (h : VB w P v vs) (hb : Below w.heap.size w w') : VB w' P v vs := ⟨h.1.later hb, h.2.later hb⟩
def ins (vs : List Tm) (t : Tm) : Tm := if t.var = true then (vs[t.n.toNat]?).getD t else t
theorem cone {w : World} {g : Nat} {a : Value} {t : TypeId} (h : CBlk w g #[a] t) : w.cell? ⟨g, 0, none⟩ = some a := cell_of_row _ _ _ _ _ _ h
theorem two3 (w : World) (t : Tm) : CBlk ((w.alloc (.cells #[.int .i64 t.k, .int .i64 t.n, .string t.s] 23)).alloc (.cells #[.int .i64 0, .int .i64 0, .string ⟨#[]⟩] 23)) w.heap.size #[.int .i64 t.k, .int .i64 t.n, .string t.s] 23 ∧
    CBlk ((w.alloc (.cells #[.int .i64 t.k, .int .i64 t.n, .string t.s] 23)).alloc (.cells #[.int .i64 0, .int .i64 0, .string ⟨#[]⟩] 23)) (w.heap.size + 1) #[.int .i64 0, .int .i64 0, .string ⟨#[]⟩] 23 := by
  have x2 := CBlk.new (w.alloc (.cells #[.int .i64 t.k, .int .i64 t.n, .string t.s] 23)) #[.int .i64 0, .int .i64 0, .string ⟨#[]⟩] 23
  rw [show (w.alloc (.cells #[.int .i64 t.k, .int .i64 t.n, .string t.s] 23)).heap.size = w.heap.size + 1 by simp] at x2
  exact ⟨(CBlk.new w _ _).later (below1 _ _), x2⟩
set_option maxRecDepth 20000 in
set_option maxHeartbeats 4000000 in
theorem ins1_any (vs : List Tm) (v : Value) (P : Nat) (t : Tm) (w : World) (h : VB w P v vs) : Calls Tryz.prog 83 #[t.v, .pointer (some ⟨P, 0, none⟩)] w fun e w' => e = .returned (ins vs t).v ∧ Below w.heap.size w w' := by
  have HV : Hid (VB w P v vs) := h
  have hvar := fun X => var_any t X
  obtain ⟨b, hb⟩ : ∃ b, t.var = b := ⟨_, rfl⟩
  have HB : Hid (t.var = b) := hb
  rw [hb] at hvar
  have HVA : Hid (∀ X : World, Calls Tryz.prog 84 #[t.v] X fun e w' => e = .returned (.bool b) ∧ Below X.heap.size X w') := hvar
  obtain ⟨R, hR⟩ : ∃ R, ins vs t = R := ⟨_, rfl⟩
  have HR : Hid (ins vs t = R) := hR
  have HT3 : Hid (CBlk _ _ _ _ ∧ CBlk _ _ _ _) := two3 w t
  rw [hR]
  clear hvar hb hR
  obtain ⟨k, n, s⟩ := t
  obtain ⟨ad, cap, rfl, hvl, hm⟩ := h.2
  clear h
  cases b
  · obtain rfl : (⟨k, n, s⟩ : Tm) = R := by have := HR.out; unfold ins at this; rw [HB.out, if_neg (by simp)] at this; exact this
    go_enter Tryz.func83, Tryz.ntmps83
    go_wp2_with (go_at_call 84; refine (HVA.out _).mono ?_; clear HVA; rintro e w1 ⟨rfl, hb⟩; obtain ⟨c0, c1, c2⟩ := cthree (HT3.out.1.later hb); obtain ⟨r0, r1, r2⟩ := cthree (HT3.out.2.later hb); have f0 : w1.frozen? ⟨w.heap.size + 1, 0, none⟩ = false := (HT3.out.2.later hb).froz; have f1 : w1.frozen? ⟨w.heap.size + 1, 1, none⟩ = false := (HT3.out.2.later hb).froz; have f2 : w1.frozen? ⟨w.heap.size + 1, 2, none⟩ = false := (HT3.out.2.later hb).froz; have HW : Hid (Below w.heap.size w w1) := below_step (below2 _ _ _) hb; clear hb HT3; simp only at c0 c1 c2)
    have nw : w.heap.size ≤ w.heap.size + 1 := by omega
    exact bodyPost_ret (v := Tm.v ⟨k, n, s⟩) (by simp [results, Tryz.results83, go_sem, r0, r1, r2]) rfl ⟨rfl, ((HW.out.setCell nw _).setCell nw _).setCell nw _⟩
  · have hn0 : 0 ≤ n := by have := HB.out; unfold Tm.var at this; exact (of_decide_eq_true this).2.1
    by_cases hlt : n < (vs.length : Int)
    · have hlt' : n.toNat < vs.length := by omega
      obtain ⟨y, hy⟩ : ∃ y, vs[n.toNat]? = some y := ⟨_, List.getElem?_eq_getElem hlt'⟩
      obtain rfl : y = R := by have := HR.out; unfold ins at this; rw [HB.out, if_pos rfl] at this; simp only [hy, Option.getD_some] at this; exact this
      obtain ⟨j, rfl⟩ : ∃ j : Nat, n = (j : Int) := ⟨n.toNat, by omega⟩
      rcases hm with hm | ⟨bb, o, rfl, hm⟩
      · subst hm; simp at hlt'
      have hlb := hm.1
      have HM : Hid _ := hm.2 j y (by simpa using hy)
      clear hm hy hlt'
      obtain ⟨yk, yn, ys⟩ := y
      go_enter Tryz.func83, Tryz.ntmps83
      go_wp2_with (go_at_call 84; refine (HVA.out _).mono ?_; clear HVA; rintro e w1 ⟨rfl, hb⟩; obtain ⟨c0, c1, c2⟩ := cthree (HT3.out.1.later hb); obtain ⟨r0, r1, r2⟩ := cthree (HT3.out.2.later hb); have f0 : w1.frozen? ⟨w.heap.size + 1, 0, none⟩ = false := (HT3.out.2.later hb).froz; have f1 : w1.frozen? ⟨w.heap.size + 1, 1, none⟩ = false := (HT3.out.2.later hb).froz; have f2 : w1.frozen? ⟨w.heap.size + 1, 2, none⟩ = false := (HT3.out.2.later hb).froz; have HW : Hid (Below w.heap.size w w1) := below_step (below2 _ _ _) hb; have e0 := cone (HV.out.later HW.out).1; have q0 := cell_step HW.out hlb HM.out.1; have q1 := cell_step HW.out hlb HM.out.2.1; have q2 := cell_step HW.out hlb HM.out.2.2; clear hb HT3 HM; simp only at c0 c1 c2 q0 q1 q2)
      have nw : w.heap.size ≤ w.heap.size + 1 := by omega
      exact bodyPost_ret (v := Tm.v ⟨yk, yn, ys⟩) (by simp [results, Tryz.results83, go_sem, r0, r1, r2]) rfl ⟨rfl, ((HW.out.setCell nw _).setCell nw _).setCell nw _⟩
    · obtain rfl : (⟨k, n, s⟩ : Tm) = R := by have := HR.out; unfold ins at this; rw [HB.out, if_pos rfl] at this; simp only [List.getElem?_eq_none (show vs.length ≤ n.toNat by omega), Option.getD_none] at this; exact this
      go_enter Tryz.func83, Tryz.ntmps83
      go_wp2_with (go_at_call 84; refine (HVA.out _).mono ?_; clear HVA; rintro e w1 ⟨rfl, hb⟩; obtain ⟨c0, c1, c2⟩ := cthree (HT3.out.1.later hb); obtain ⟨r0, r1, r2⟩ := cthree (HT3.out.2.later hb); have f0 : w1.frozen? ⟨w.heap.size + 1, 0, none⟩ = false := (HT3.out.2.later hb).froz; have f1 : w1.frozen? ⟨w.heap.size + 1, 1, none⟩ = false := (HT3.out.2.later hb).froz; have f2 : w1.frozen? ⟨w.heap.size + 1, 2, none⟩ = false := (HT3.out.2.later hb).froz; have HW : Hid (Below w.heap.size w w1) := below_step (below2 _ _ _) hb; have e0 := cone (HV.out.later HW.out).1; clear hb HT3; simp only at c0 c1 c2)
      have nw : w.heap.size ≤ w.heap.size + 1 := by omega
      exact bodyPost_ret (v := Tm.v ⟨k, n, s⟩) (by simp [results, Tryz.results83, go_sem, r0, r1, r2]) rfl ⟨rfl, ((HW.out.setCell nw _).setCell nw _).setCell nw _⟩
end Go.Proofs.YtgbiicmkhlnniaaGreatDoor
/-
  safe, MadeConst; lists of terms appended; atomTerms.
-/
namespace Go.Proofs.YtgbiicmkhlnniaaGreatDoor
open Go.RowKit
attribute [local go_sem ↓] Go.wp_at_zero Go.wp_at_succ

/-- A list of terms in memory that is nil, or has a place. -/
def TsP (w : World) (v : Value) (l : List Tm) : Prop := (v = .slice none 0 0 ∧ l = []) ∨ ∃ ad cap, v = .slice (some ad) l.length cap ∧ (l = [] ∨ ∃ b o, ad = ⟨b, o, none⟩ ∧ TRow w b o l)
theorem TsP.later {w w' : World} {v : Value} {l : List Tm} (h : TsP w v l) (hb : Below w.heap.size w w') : TsP w' v l := by
  rcases h with h | ⟨ad, cap, h1, h2⟩
  · exact Or.inl h
  · refine Or.inr ⟨ad, cap, h1, ?_⟩
    rcases h2 with h2 | ⟨b, o, h2, h3⟩
    · exact Or.inl h2
    · exact Or.inr ⟨b, o, h2, h3.later hb⟩
theorem TsP.ts {w : World} {v : Value} {l : List Tm} (h : TsP w v l) (hl : l.length < 1000000000000000000) : Ts w v l := by
  rcases h with ⟨rfl, rfl⟩ | ⟨ad, cap, rfl, h2⟩
  · exact ⟨none, 0, rfl, by simp, Or.inl rfl⟩
  · refine ⟨some ad, cap, rfl, hl, ?_⟩
    rcases h2 with h2 | ⟨b, o, rfl, h3⟩
    · exact Or.inl h2
    · exact Or.inr ⟨b, o, rfl, h3⟩
theorem OwnT.tsP {w : World} {base : Nat} {v : Value} {l : List Tm} (h : OwnT w base v l) : TsP w v l := by
  have hh := h
  rcases h.2 with ⟨rfl, hn⟩ | ⟨g, cap, cur, rfl, hb, hg, -⟩
  · exact Or.inl ⟨rfl, List.length_eq_zero_iff.1 hn⟩
  · refine Or.inr ⟨_, cap, rfl, Or.inr ⟨g, 0, rfl, (Array.getElem?_eq_some_iff.1 hg).1, fun i t ht => ?_⟩⟩
    simpa using ownT_cells hh i t ht
theorem tcs_app (l m : List Tm) : tcs (l ++ m) = tcs l ++ tcs m := by simp [tcs]
theorem ownT_nil (w : World) (base : Nat) : OwnT w base (.slice none 0 0) [] := World.ownsRow_nil _ _ _ _
theorem grown_below3 {w w' : World} {base : Nat} {v : Value} (hg : w.grownBy w' v.ownBlock) (h : ∀ k, v.ownBlock = some k → base ≤ k) (hb : base ≤ w.heap.size) : Below base w w' :=
  (Below.refl _ _).grown hg hb h
theorem app_terms {ops : Array Oper} {rest : List Oper} {o : Oper} {a : Act} {Q : Exit → Act → World → Prop} {w : World} (hgd : o.guard = none) (s x : Operand)
    (ho : o.op = .call { callee := .builtin .append, args := #[s, x], argTypes := #[24, 24] }) (base : Nat) (v : Value) (l : List Tm) (hs : a.eval s = v) (hown : OwnT w base v l)
    (y : Value) (m : List Tm) (hx : a.eval x = y) (hy : TsP w y m) (hlen : l.length + m.length ≤ 4000000000000) (hbase : base ≤ w.heap.size)
    (h : ∀ v' w', OwnT w' base v' (l ++ m) → Below base w w' → w.grownBy w' v.ownBlock → wpList Tryz.prog ops Q rest (a.put o.dst v') w') : wpList Tryz.prog ops Q (o :: rest) a w := by
  obtain ⟨i0, hi0, hz0, hz1, hz2⟩ := info_parts Tryz.infoTerm
  rcases hy with ⟨rfl, rfl⟩ | ⟨ad, cap, rfl, hm⟩
  · refine wpList_append_own_none hgd s x 24 ho base 23 i0 3 Tryz.underlying24 hi0 v l.length (tcs l) hs hown hx ?_
    refine h v w (by rw [List.append_nil]; exact hown) (Below.refl _ _) ?_
    exact World.grownBy.refl _ _
  · refine wpList_append_own _ hgd s x 24 ho base 23 i0 _ 3 32 Tryz.underlying24 hi0 hz0 hz1 hz2 rfl (by omega) v l.length (tcs l) hs hown ad m.length cap (tcs m) hx (tcs_len m) ?_ (fun u hu => tcs_mem hu) (by unfold maxLen; omega) (by omega) hbase ?_
    · rcases hm with rfl | ⟨b, o', rfl, hm⟩
      · intro j u hu; simp [tcs] at hu
      · exact trow_get hm
    · intro v' w' h1 h2 _
      refine h v' w' ?_ (grown_below3 h2 (fun k hk => (World.ownsRow.lt hown k hk).1) hbase) h2
      unfold OwnT
      rw [List.length_append, tcs_app]
      exact h1
theorem TsP.one {w : World} {b : Nat} {t : Tm} (h : CBlk w b #[.int .i64 t.k, .int .i64 t.n, .string t.s] 23) : TsP w (.slice (some ⟨b, 0, none⟩) 1 1) [t] := by
  refine Or.inr ⟨_, 1, rfl, Or.inr ⟨b, 0, rfl, h.lt, fun i u hu => ?_⟩⟩
  obtain ⟨c0, c1, c2⟩ := cthree h
  cases i with
  | zero => simp at hu; subst hu; exact ⟨c0, c1, c2⟩
  | succ i => simp at hu
theorem TsP.two {w : World} {b : Nat} {t u : Tm} (h : CBlk w b #[.int .i64 t.k, .int .i64 t.n, .string t.s, .int .i64 u.k, .int .i64 u.n, .string u.s] 23) : TsP w (.slice (some ⟨b, 0, none⟩) 2 2) [t, u] := by
  refine Or.inr ⟨_, 2, rfl, Or.inr ⟨b, 0, rfl, h.lt, fun i x hx => ?_⟩⟩
  match i, hx with
  | 0, hx => simp at hx; subst hx; exact ⟨cell_of_row _ _ _ _ _ _ h, cell_of_row _ _ _ _ _ _ h, cell_of_row _ _ _ _ _ _ h⟩
  | 1, hx => simp at hx; subst hx; exact ⟨cell_of_row _ _ _ _ _ _ h, cell_of_row _ _ _ _ _ _ h, cell_of_row _ _ _ _ _ _ h⟩
  | i + 2, hx => simp at hx
theorem OwnT.one {w : World} {b base : Nat} {t : Tm} (h : CBlk w b #[.int .i64 t.k, .int .i64 t.n, .string t.s] 23) (hb : base ≤ b) : OwnT w base (.slice (some ⟨b, 0, none⟩) 1 1) [t] := by
  refine ⟨by simp [tcs, Tm.cs], Or.inr ⟨_, 1, #[.int .i64 t.k, .int .i64 t.n, .string t.s], rfl, hb, h, Nat.le_refl _, by unfold maxLen; omega, by simp, by simp [tcs, Tm.cs]⟩⟩
set_option maxHeartbeats 2000000 in
theorem atomTerms_any (x : At) (v : Value) (w : World) (h : TsP w v x.args) (hl : x.args.length ≤ 3900000000000) :
    Calls Tryz.prog 68 #[x.v v] w fun e w' => ∃ v', e = .returned v' ∧ OwnT w' w.heap.size v' x.pl ∧ Below w.heap.size w w' := by
  have hb2 := below2 w (.cells (At.cs x v) 26) (.cells #[.int .i64 x.by_.k, .int .i64 x.by_.n, .string x.by_.s] 23)
  have g1 := CBlk.new (w.alloc (.cells (At.cs x v) 26)) #[.int .i64 x.by_.k, .int .i64 x.by_.n, .string x.by_.s] 23
  rw [show (w.alloc (.cells (At.cs x v) 26)).heap.size = w.heap.size + 1 by simp] at g1
  have H1 : Hid _ := OwnT.one g1 (show w.heap.size ≤ w.heap.size + 1 by omega)
  have H2 : Hid _ := h.later hb2
  have HB : Hid _ := hb2
  clear hb2 g1 h
  obtain ⟨⟨k, n, ss⟩, nm, l⟩ := x
  simp only [At.cs] at H1 H2 HB hl
  simp only [At.pl]
  go_enter Tryz.func68, Tryz.ntmps68
  go_wp2_with (at_builtin; refine app_terms rfl _ _ rfl w.heap.size (.slice (some ⟨w.heap.size + 1, 0, none⟩) 1 1) [⟨k, n, ss⟩] (by rfl) H1.out v l (by rfl) H2.out (by simp; omega) (by simp; omega) ?_; intro v' w1 hown hb hg)
  go_ret
  exact ⟨_, rfl, hown, HB.out.trans hb⟩
end Go.Proofs.YtgbiicmkhlnniaaGreatDoor
/-
  base: terms of an atom (slices.Concat of two lists).
-/
namespace Go.Proofs.YtgbiicmkhlnniaaGreatDoor
open Go.RowKit
attribute [local go_sem ↓] Go.wp_at_zero Go.wp_at_succ

set_option maxRecDepth 100000 in
/-- append of so many zeros to none. -/
theorem app_zeros8 {ops : Array Oper} {rest : List Oper} {o : Oper} {a : Act} {Q : Exit → Act → World → Prop} {w : World} (hgd : o.guard = none) (s x : Operand)
    (ho : o.op = .call { callee := .builtin .append, args := #[s, x], argTypes := #[24, 3] }) (hs : a.eval s = .slice none 0 0) (n : Nat) (hx : a.eval x = .int .i64 (n : Int)) (h0 : 0 < n) (hn : n ≤ 1000000000000)
    (h : ∀ cap w', OwnT w' w.heap.size (.slice (some ⟨w.heap.size, 0, none⟩) 0 cap) [] → n ≤ cap → Below w.heap.size w w' → wpList Tryz.prog ops Q rest (a.put o.dst (.slice (some ⟨w.heap.size, 0, none⟩) n cap)) w') : wpList Tryz.prog ops Q (o :: rest) a w := by
  obtain ⟨i, hi, hz0, hz1, hz2⟩ := info7 Tryz.infoTerm8
  have hrun := Lib.run_append_nil_zeros (P := Tryz.prog) w 24 3 o.type 23 i _ .i64 .i64 Tryz.underlying24 Tryz.underlying3 hi hz0 n h0 (by omega) (by omega) (by rw [hz2]; omega)
  refine wpList_plain hgd fun K hK => ?_
  simp [Oper.wp, execOp, ho, resolve, invoke, builtin, hs, hx, hrun, Result.andThen]
  refine hK _ _ (h _ _ ?_ (grownCap_ge _ _ _ _) ?_)
  · refine ⟨rfl, Or.inr ⟨w.heap.size, grownCap w n 0 23, _, rfl, Nat.le_refl _, heap_alloc_new _ _, Nat.zero_le _, grownCap_le_maxLen _ _ _ _ (by unfold maxLen; omega), ?_, by simp [tcs]⟩⟩
    have hc : n ≤ grownCap w n 0 23 := grownCap_ge _ _ _ _
    rw [Array.size_append, size_zeroCells, size_zeroCells]
    have e3 : (Value.agg #[.int .i64 0, .int .i64 0, .string ⟨#[]⟩]).cells.size = 3 := rfl
    rw [e3, ← Nat.add_mul]
    congr 1
    omega
  · exact (show Below w.heap.size w w.drew from ⟨rfl, rfl, rfl, Nat.le_refl _, fun _ _ => rfl⟩).trans (show Below w.heap.size w.drew _ from below1 w.drew _)
set_option maxRecDepth 20000 in
theorem grow8_any (n : Nat) (h0 : 0 < n) (hn : n ≤ 1000000000000) (Y : World) : Calls Tryz.prog 145 #[.slice none 0 0, .int .i64 (n : Int)] Y fun e Y' => ∃ g cap, e = .returned (.slice (some ⟨g, 0, none⟩) 0 cap) ∧ OwnT Y' Y.heap.size (.slice (some ⟨g, 0, none⟩) 0 cap) [] ∧ Below Y.heap.size Y Y' := by
  have n0 : ¬ (n : Int) < 0 := by omega
  have n1 : (0 : Int) < (n : Int) := by omega
  have n2 : (n : Int) - (0 - 0) = (n : Int) := by omega
  have n3 : (n : Int) > 0 := n1
  go_enter Tryz.func145, Tryz.ntmps145
  go_wp2_with (at_builtin; refine app_zeros8 rfl _ _ rfl rfl n rfl h0 hn ?_; intro cap w' ho hc hb; have HO := hm7 ho; have HB := hm7 hb; clear ho hb)
  go_ret
  exact ⟨_, _, rfl, HO.out, HB.out⟩
end Go.Proofs.YtgbiicmkhlnniaaGreatDoor
/-
  base: two lists of terms as one (slices.Concat); the terms of an atom.
-/
namespace Go.Proofs.YtgbiicmkhlnniaaGreatDoor
open Go.RowKit
attribute [local go_sem ↓] Go.wp_at_zero Go.wp_at_succ

theorem TsP.shape {w : World} {v : Value} {l : List Tm} (h : TsP w v l) : ∃ ad cap, v = .slice ad l.length cap := by
  rcases h with ⟨rfl, rfl⟩ | ⟨ad, cap, rfl, -⟩
  · exact ⟨none, 0, rfl⟩
  · exact ⟨_, _, rfl⟩
set_option maxRecDepth 20000 in
set_option maxHeartbeats 2000000 in
theorem concat8_any (b : Nat) (x y : Value) (l m : List Tm) (Y : World) (hb : Bk Y b #[x, y] 24) (hx : TsP Y x l) (hy : TsP Y y m) (h0 : 0 < l.length) (hl : l.length ≤ 10000) (hm : m.length ≤ 100000000000) :
    Calls Tryz.prog 122 #[.slice (some ⟨b, 0, none⟩) 2 2] Y fun e Y' => ∃ v, e = .returned v ∧ OwnT Y' Y.heap.size v (l ++ m) ∧ Below Y.heap.size Y Y' := by
  have HX := hm7 hx
  have HY := hm7 hy
  have HK := hm7 hb
  obtain ⟨ax, cx, rfl⟩ := hx.shape
  obtain ⟨ay, cy, rfl⟩ := hy.shape
  have c0 := hb.cell (i := 0) rfl
  have c1 := hb.cell (i := 1) rfl
  have HG : Hid (∀ X : World, Calls Tryz.prog 145 #[.slice none 0 0, .int .i64 ((l.length : Int) + (m.length : Int))] X fun e Y' => ∃ g cap, e = .returned (.slice (some ⟨g, 0, none⟩) 0 cap) ∧ OwnT Y' X.heap.size (.slice (some ⟨g, 0, none⟩) 0 cap) [] ∧ Below X.heap.size X Y') := fun X => by
    have := grow8_any (l.length + m.length) (by omega) (by omega) X
    rw [show (((l.length + m.length : Nat)) : Int) = (l.length : Int) + (m.length : Int) by omega] at this
    exact this
  have HL := hm7 (show l.length + m.length ≤ 4000000000000 by omega)
  have HL1 := hm7 (show ([] : List Tm).length + l.length ≤ 4000000000000 by simp only [List.length_nil]; omega)
  have HL2 := hm7 (show ([] ++ l).length + m.length ≤ 4000000000000 by simp only [List.nil_append]; omega)
  have p0 : ¬ (l.length : Int) < 0 := by omega
  have p1 : ¬ (l.length : Int) + (m.length : Int) < 0 := by omega
  have p2 : (l.length : Int) ≤ 10000 := by omega
  have p3 : (m.length : Int) ≤ 100000000000 := by omega
  clear hx hy hb h0 hl hm
  go_enter Tryz.func122, Tryz.ntmps122
  go_wp2
  refine wp_loop_rounds 3 ?_
  rw [rounds_succ]; go_wp2
  rw [rounds_succ]; go_wp2
  rw [rounds_succ]; go_wp2_with (go_at_call 145; refine (HG.out _).mono ?_; clear HG; rintro e w1 ⟨g, cap, rfl, ho, hb⟩; have HO := hm7 ho; have c0 := (HK.out.below hb).cell (i := 0) rfl; have c1 := (HK.out.below hb).cell (i := 1) rfl; have HB := hm7 hb; clear ho hb)
  refine wp_loop_rounds 3 ?_
  rw [rounds_succ]; go_wp2_with (at_builtin; refine app_terms rfl _ _ rfl Y.heap.size _ [] (by rfl) HO.out _ l (by rfl) (HX.out.later HB.out) HL1.out HB.out.size ?_; intro v2 w2 ho hb hg; have HO2 := hm7 ho; have c0 := (HK.out.below (HB.out.trans hb)).cell (i := 0) rfl; have c1 := (HK.out.below (HB.out.trans hb)).cell (i := 1) rfl; have HB2 := hm7 (HB.out.trans hb); clear ho hb hg)
  rw [rounds_succ]; go_wp2_with (at_builtin; refine app_terms rfl _ _ rfl Y.heap.size _ _ (by rfl) HO2.out _ m (by rfl) (HY.out.later HB2.out) HL2.out HB2.out.size ?_; intro v3 w3 ho hb hg; have HO3 := hm7 ho; have HB3 := hm7 (HB2.out.trans hb); clear ho hb hg)
  rw [rounds_succ]; go_wp2
  go_ret
  exact ⟨_, rfl, by have := HO3.out; rw [List.nil_append] at this; exact this, HB3.out⟩
end Go.Proofs.YtgbiicmkhlnniaaGreatDoor
/-
  base: the terms of an atom, its predicate; a thing of the table.
-/
namespace Go.Proofs.YtgbiicmkhlnniaaGreatDoor
open Go.RowKit
attribute [local go_sem ↓] Go.wp_at_zero Go.wp_at_succ

theorem three8 (w : World) (c0 c1 c2 : Array Value) (t0 t1 t2 : TypeId) : Bk (((w.alloc (.cells c0 t0)).alloc (.cells c1 t1)).alloc (.cells c2 t2)) (w.heap.size + 2) c2 t2 ∧ CBlk (((w.alloc (.cells c0 t0)).alloc (.cells c1 t1)).alloc (.cells c2 t2)) (w.heap.size + 1) c1 t1 ∧ Below w.heap.size w (((w.alloc (.cells c0 t0)).alloc (.cells c1 t1)).alloc (.cells c2 t2)) := by
  refine ⟨?_, ?_, below_step (below_step (below1 _ _) (below1 _ _)) (below1 _ _)⟩
  · have := Bk.new ((w.alloc (.cells c0 t0)).alloc (.cells c1 t1)) c2 t2
    rw [show ((w.alloc (.cells c0 t0)).alloc (.cells c1 t1)).heap.size = w.heap.size + 2 by simp] at this
    exact this
  · have := (CBlk.new (w.alloc (.cells c0 t0)) c1 t1).later (below1 _ (.cells c2 t2))
    rw [show (w.alloc (.cells c0 t0)).heap.size = w.heap.size + 1 by simp] at this
    exact this
theorem two8 (w : World) (c0 c1 : Array Value) (t0 t1 : TypeId) : Bk ((w.alloc (.cells c0 t0)).alloc (.cells c1 t1)) (w.heap.size + 1) c1 t1 ∧ Bk ((w.alloc (.cells c0 t0)).alloc (.cells c1 t1)) w.heap.size c0 t0 ∧ Below w.heap.size w ((w.alloc (.cells c0 t0)).alloc (.cells c1 t1)) := by
  refine ⟨?_, (Bk.new _ _ _).below (below1 _ _), below_step (below1 _ _) (below1 _ _)⟩
  have := Bk.new (w.alloc (.cells c0 t0)) c1 t1
  rw [show (w.alloc (.cells c0 t0)).heap.size = w.heap.size + 1 by simp] at this
  exact this
end Go.Proofs.YtgbiicmkhlnniaaGreatDoor
/-
  plan: below, columns.
-/
namespace Go.Proofs.YtgbiicmkhlnniaaGreatDoor
open Go.RowKit
attribute [local go_sem ↓] Go.wp_at_zero Go.wp_at_succ

/-- The numbers below n. -/
def up9 (n : Nat) : List Int := (List.range n).map fun i : Nat => (i : Int)
theorem up9_len (n : Nat) : (up9 n).length = n := by simp [up9]
theorem up9_succ (n : Nat) : up9 (n + 1) = up9 n ++ [(n : Int)] := by simp [up9, List.range_succ]
theorem ibs7_app (l m : List Int) : ibs7 (l ++ m) = ibs7 l ++ ibs7 m := by simp [ibs7]
/-- One more behind. -/
theorem OwI.snoc9 {w : World} {base : Nat} {v : Value} {l : List Int} {n : Int} {m : Nat} (hm : m = l.length) (h : w.ownsRow base 3 1 v (m + 1) (ibs7 l ++ [.int .i64 n])) : OwI w base v (l ++ [n]) := by
  subst hm
  unfold OwI
  rw [ibs7_app, List.length_append]
  exact h
set_option maxRecDepth 20000 in
set_option maxHeartbeats 1000000 in
theorem below9_any (n : Nat) (Y : World) (hn : n ≤ 1000000000) : Calls Tryz.prog 32 #[.int .i64 (n : Int)] Y fun e Y' => ∃ v, e = .returned v ∧ OwI Y' Y.heap.size v (up9 n) ∧ Below Y.heap.size Y Y' := by
  go_enter Tryz.func32, Tryz.ntmps32
  go_wp2
  go_loopg [6, 3, 4] n (fun g i v _ wr => ∃ j : Nat, j + g = n ∧ i = .int .i64 j ∧ OwI wr Y.heap.size v (up9 j) ∧ Below Y.heap.size Y wr)
  case atStart => exact ⟨0, by omega, rfl, OwI.nil _ _, Below.refl _ _⟩
  case round =>
    obtain ⟨j, hj, rfl, ho, hb⟩ := hrel
    have HO := hm7 ho
    have HB := hm7 hb
    cases gk with
    | succ g =>
      have hlt : (j : Int) < (n : Int) := by omega
      obtain ⟨va, vc, hv, -⟩ := row7_form ho
      rw [up9_len] at hv
      subst hv
      have hz := hb.size
      have ho' : wr.ownsRow Y.heap.size 3 1 (.slice va j vc) j (ibs7 (up9 j)) := by have := HO.out; unfold OwI at this; rw [up9_len] at this; exact this
      have HO1 := hm7 ho'
      clear ho hb ho'
      go_wp2_with (at_builtin; refine gapp Tryz.underlying32 Tryz.infoInt7 rfl (by omega) rfl _ _ rfl Y.heap.size (.slice va j vc) j (ibs7 (up9 j)) rfl (row7_below HO1.out (below1 _ _)) wr.heap.size (.int .i64 (j : Int)) rfl (Bk.new _ _ _) rfl (by omega) (by simp; omega) ?_; intro g2 q2 w2 ho2 hg2 hv2 hl2; have HO2 := hm7 ho2; have HB2 := hm7 (HB.out.trans (((below1 _ _).mono hz).trans (Fr.low (Fr.grown hg2 fun b hb => (World.ownsRow.lt HO1.out b hb).1) (by simp; omega)))); clear ho2 hg2 hv2 hl2)
      go_roundg g
      case measure => omega
      case rel => exact ⟨j + 1, by omega, by go_num, by rw [up9_succ]; exact OwI.snoc9 (up9_len j).symm HO2.out, HB2.out⟩
    | zero =>
      have hlt : ¬ (j : Int) < (n : Int) := by omega
      obtain rfl : j = n := by omega
      clear ho hb
      go_wp2
      go_ret
      exact ⟨_, rfl, HO.out, HB.out⟩
set_option maxRecDepth 20000 in
set_option maxHeartbeats 1000000 in
theorem columns9_any (a : At) (x : Value) (Y : World) (hx : TsP Y x a.args) (hm : a.args.length ≤ 100000000000) :
    Calls Tryz.prog 90 #[a.v x] Y fun e Y' => ∃ v, e = .returned v ∧ OwnT Y' Y.heap.size v a.pl ∧ Below Y.heap.size Y Y' := by
  have HC : Hid (∀ (b c : Nat) (X : World), Below Y.heap.size Y X → Bk X b #[.slice (some ⟨c, 0, none⟩) 1 1, x] 24 → CBlk X c #[.int .i64 a.by_.k, .int .i64 a.by_.n, .string a.by_.s] 23 → Calls Tryz.prog 122 #[.slice (some ⟨b, 0, none⟩) 2 2] X fun e Y' => ∃ v, e = .returned v ∧ OwnT Y' X.heap.size v a.pl ∧ Below X.heap.size X Y') :=
    fun b c X hX h1 h2 => concat8_any b _ _ [a.by_] a.args X h1 (TsP.one h2) (hx.later hX) (by simp) (by simp) hm
  obtain ⟨ax, cx, rfl⟩ := hx.shape
  clear hx hm
  obtain ⟨⟨k, n, s⟩, nm, l⟩ := a
  go_enter Tryz.func90, Tryz.ntmps90
  go_wp2_with (go_at_call 122; refine (HC.out _ _ _ (by exact (three8 _ _ _ _ _ _ _).2.2) (by exact (three8 _ _ _ _ _ _ _).1) (by exact (three8 _ _ _ _ _ _ _).2.1)).mono ?_; clear HC; rintro e w1 ⟨v, rfl, ho, hb⟩; have HO := hm7 (ho.mono (b' := Y.heap.size) (by simp; omega)); have HB := hm7 (below_step (three8 Y _ _ _ _ _ _).2.2 hb); clear ho hb)
  go_ret
  exact ⟨_, rfl, HO.out, HB.out⟩
end Go.Proofs.YtgbiicmkhlnniaaGreatDoor
