import Derived.Test.YtcejljehjhlonaaGreatDoorCL17
import Derived.Test.YtcejljehjhlonaaGreatDoorCL5
import Derived.Test.YtcejljehjhlonaaGreatDoorCL12
import Derived.Test.YtcejljehjhlonaaGreatDoorMD1
namespace Go.Proofs.YtcejljehjhlonaaGreatDoor
open Go.RowKit
attribute [local go_sem ↓] Go.wp_at_zero Go.wp_at_succ

def zcs : Array Value := #[.int .i64 0, .int .i64 0, .string ⟨#[]⟩, .string ⟨#[]⟩, .slice none 0 0, .slice none 0 0, .slice none 0 0]
theorem fsts_get {l : List (At × Value)} {j : Nat} {x : At × Value} (h : l[j]? = some x) : (fsts l)[j]? = some x.1 := by unfold fsts; rw [List.getElem?_map, h]; rfl
theorem fsts_app (l m : List (At × Value)) : fsts (l ++ m) = fsts l ++ fsts m := by simp [fsts]
end Go.Proofs.YtcejljehjhlonaaGreatDoor
namespace Go.Proofs.YtcejljehjhlonaaGreatDoor
open Go.RowKit
attribute [local go_sem ↓] Go.wp_at_zero Go.wp_at_succ

theorem CBlk.froz {w : World} {g i : Nat} {c : Array Value} {t : TypeId} (h : CBlk w g c t) : w.frozen? ⟨g, i, none⟩ = false := frozen_of_row _ _ _ _ _ h

end Go.Proofs.YtcejljehjhlonaaGreatDoor
namespace Go.Proofs.YtcejljehjhlonaaGreatDoor
open Go.RowKit
attribute [local go_sem ↓] Go.wp_at_zero Go.wp_at_succ

def VB (w : World) (P : Nat) (v : Value) (vs : List Tm) : Prop := CBlk w P #[v] 37 /\ Ts w v vs
theorem VB.later {w w' : World} {P : Nat} {v : Value} {vs : List Tm} (h : VB w P v vs) (hb : Below w.heap.size w w') : VB w' P v vs := ⟨h.1.later hb, h.2.later hb⟩
def ins (vs : List Tm) (t : Tm) : Tm := if t.var = true then (vs[t.n.toNat]?).getD t else t
theorem cone {w : World} {g : Nat} {a : Value} {t : TypeId} (h : CBlk w g #[a] t) : w.cell? ⟨g, 0, none⟩ = some a := cell_of_row _ _ _ _ _ _ h
theorem two3 (w : World) (t : Tm) : CBlk ((w.alloc (.cells #[.int .i64 t.k, .int .i64 t.n, .string t.s] 36)).alloc (.cells #[.int .i64 0, .int .i64 0, .string ⟨#[]⟩] 36)) w.heap.size #[.int .i64 t.k, .int .i64 t.n, .string t.s] 36 ∧
  CBlk ((w.alloc (.cells #[.int .i64 t.k, .int .i64 t.n, .string t.s] 36)).alloc (.cells #[.int .i64 0, .int .i64 0, .string ⟨#[]⟩] 36)) (w.heap.size + 1) #[.int .i64 0, .int .i64 0, .string ⟨#[]⟩] 36 := by
 have x2 := CBlk.new (w.alloc (.cells #[.int .i64 t.k, .int .i64 t.n, .string t.s] 36)) #[.int .i64 0, .int .i64 0, .string ⟨#[]⟩] 36
 rw [show (w.alloc (.cells #[.int .i64 t.k, .int .i64 t.n, .string t.s] 36)).heap.size = w.heap.size + 1 by simp] at x2
 exact ⟨(CBlk.new w _ _).later (below1 _ _), x2⟩
set_option maxRecDepth 20000 in
set_option maxHeartbeats 4000000 in
theorem ins1_any (vs : List Tm) (v : Value) (P : Nat) (t : Tm) (w : World) (h : VB w P v vs) : Calls Tryz.prog 58 #[t.v, .pointer (some ⟨P, 0, none⟩)] w fun e w' => e = .returned (ins vs t).v /\ Below w.heap.size w w' := by
 have HV : Hid (VB w P v vs) := h
 have hvar := fun X => var_any t X
 obtain ⟨b, hb⟩ : ∃ b, t.var = b := ⟨_, rfl⟩
 have HB : Hid (t.var = b) := hb
 rw [hb] at hvar
 have HVA : Hid (∀ X : World, Calls Tryz.prog 59 #[t.v] X fun e w' => e = .returned (.bool b) /\ Below X.heap.size X w') := hvar
 obtain ⟨R, hR⟩ : ∃ R, ins vs t = R := ⟨_, rfl⟩
 have HR : Hid (ins vs t = R) := hR
 have HT3 : Hid (CBlk _ _ _ _ /\ CBlk _ _ _ _) := two3 w t
 rw [hR]
 clear hvar hb hR
 obtain ⟨k, n, s⟩ := t
 obtain ⟨ad, cap, rfl, hvl, hm⟩ := h.2
 clear h
 cases b
 ·obtain rfl : (⟨k, n, s⟩ : Tm) = R := by have := HR.out; unfold ins at this; rw [HB.out, if_neg (by simp)] at this; exact this
  go_enter Tryz.func58, Tryz.ntmps58
  go_wp2_with (go_at_call 59; refine (HVA.out _).mono ?_; clear HVA; rintro e w1 ⟨rfl, hb⟩; obtain ⟨c0, c1, c2⟩ := cthree (HT3.out.1.later hb); obtain ⟨r0, r1, r2⟩ := cthree (HT3.out.2.later hb); have f0 : w1.frozen? ⟨w.heap.size + 1, 0, none⟩ = false := (HT3.out.2.later hb).froz; have f1 : w1.frozen? ⟨w.heap.size + 1, 1, none⟩ = false := (HT3.out.2.later hb).froz; have f2 : w1.frozen? ⟨w.heap.size + 1, 2, none⟩ = false := (HT3.out.2.later hb).froz; have HW : Hid (Below w.heap.size w w1) := below_step (below2 _ _ _) hb; clear hb HT3; simp only at c0 c1 c2)
  have nw : w.heap.size <= w.heap.size + 1 := by omega
  exact bodyPost_ret (v := Tm.v ⟨k, n, s⟩) (by simp [results, Tryz.results58, go_sem, r0, r1, r2]) rfl ⟨rfl, ((HW.out.setCell nw _).setCell nw _).setCell nw _⟩
 ·have hn0 : 0 <= n := by have := HB.out; unfold Tm.var at this; exact (of_decide_eq_true this).2.1
  by_cases hlt : n < (vs.length : Int)
  ·have hlt' : n.toNat < vs.length := by omega
   obtain ⟨y, hy⟩ : ∃ y, vs[n.toNat]? = some y := ⟨_, List.getElem?_eq_getElem hlt'⟩
   obtain rfl : y = R := by have := HR.out; unfold ins at this; rw [HB.out, if_pos rfl] at this; simp only [hy, Option.getD_some] at this; exact this
   obtain ⟨j, rfl⟩ : ∃ j : Nat, n = (j : Int) := ⟨n.toNat, by omega⟩
   rcases hm with hm | ⟨bb, o, rfl, hm⟩
   ·subst hm; simp at hlt'
   have hlb := hm.1
   have HM : Hid _ := hm.2 j y (by simpa using hy)
   clear hm hy hlt'
   obtain ⟨yk, yn, ys⟩ := y
   go_enter Tryz.func58, Tryz.ntmps58
   go_wp2_with (go_at_call 59; refine (HVA.out _).mono ?_; clear HVA; rintro e w1 ⟨rfl, hb⟩; obtain ⟨c0, c1, c2⟩ := cthree (HT3.out.1.later hb); obtain ⟨r0, r1, r2⟩ := cthree (HT3.out.2.later hb); have f0 : w1.frozen? ⟨w.heap.size + 1, 0, none⟩ = false := (HT3.out.2.later hb).froz; have f1 : w1.frozen? ⟨w.heap.size + 1, 1, none⟩ = false := (HT3.out.2.later hb).froz; have f2 : w1.frozen? ⟨w.heap.size + 1, 2, none⟩ = false := (HT3.out.2.later hb).froz; have HW : Hid (Below w.heap.size w w1) := below_step (below2 _ _ _) hb; have e0 := cone (HV.out.later HW.out).1; have q0 := cell_step HW.out hlb HM.out.1; have q1 := cell_step HW.out hlb HM.out.2.1; have q2 := cell_step HW.out hlb HM.out.2.2; clear hb HT3 HM; simp only at c0 c1 c2 q0 q1 q2)
   have nw : w.heap.size <= w.heap.size + 1 := by omega
   exact bodyPost_ret (v := Tm.v ⟨yk, yn, ys⟩) (by simp [results, Tryz.results58, go_sem, r0, r1, r2]) rfl ⟨rfl, ((HW.out.setCell nw _).setCell nw _).setCell nw _⟩
  ·obtain rfl : (⟨k, n, s⟩ : Tm) = R := by have := HR.out; unfold ins at this; rw [HB.out, if_pos rfl] at this; simp only [List.getElem?_eq_none (show vs.length <= n.toNat by omega), Option.getD_none] at this; exact this
   go_enter Tryz.func58, Tryz.ntmps58
   go_wp2_with (go_at_call 59; refine (HVA.out _).mono ?_; clear HVA; rintro e w1 ⟨rfl, hb⟩; obtain ⟨c0, c1, c2⟩ := cthree (HT3.out.1.later hb); obtain ⟨r0, r1, r2⟩ := cthree (HT3.out.2.later hb); have f0 : w1.frozen? ⟨w.heap.size + 1, 0, none⟩ = false := (HT3.out.2.later hb).froz; have f1 : w1.frozen? ⟨w.heap.size + 1, 1, none⟩ = false := (HT3.out.2.later hb).froz; have f2 : w1.frozen? ⟨w.heap.size + 1, 2, none⟩ = false := (HT3.out.2.later hb).froz; have HW : Hid (Below w.heap.size w w1) := below_step (below2 _ _ _) hb; have e0 := cone (HV.out.later HW.out).1; clear hb HT3; simp only at c0 c1 c2)
   have nw : w.heap.size <= w.heap.size + 1 := by omega
   exact bodyPost_ret (v := Tm.v ⟨k, n, s⟩) (by simp [results, Tryz.results58, go_sem, r0, r1, r2]) rfl ⟨rfl, ((HW.out.setCell nw _).setCell nw _).setCell nw _⟩
end Go.Proofs.YtcejljehjhlonaaGreatDoor
namespace Go.Proofs.YtcejljehjhlonaaGreatDoor
open Go.RowKit
attribute [local go_sem ↓] Go.wp_at_zero Go.wp_at_succ

def TsP (w : World) (v : Value) (l : List Tm) : Prop := (v = .slice none 0 0 /\ l = []) ∨ ∃ ad cap, v = .slice (some ad) l.length cap /\ (l = [] ∨ ∃ b o, ad = ⟨b, o, none⟩ /\ TRow w b o l)
theorem TsP.later {w w' : World} {v : Value} {l : List Tm} (h : TsP w v l) (hb : Below w.heap.size w w') : TsP w' v l := by
 rcases h with h | ⟨ad, cap, h1, h2⟩
 ·exact Or.inl h
 ·refine Or.inr ⟨ad, cap, h1, ?_⟩
  rcases h2 with h2 | ⟨b, o, h2, h3⟩
  ·exact Or.inl h2
  ·exact Or.inr ⟨b, o, h2, h3.later hb⟩
theorem TsP.ts {w : World} {v : Value} {l : List Tm} (h : TsP w v l) (hl : l.length < 1000000000000000000) : Ts w v l := by
 rcases h with ⟨rfl, rfl⟩ | ⟨ad, cap, rfl, h2⟩
 ·exact ⟨none, 0, rfl, by simp, Or.inl rfl⟩
 ·refine ⟨some ad, cap, rfl, hl, ?_⟩
  rcases h2 with h2 | ⟨b, o, rfl, h3⟩
  ·exact Or.inl h2
  ·exact Or.inr ⟨b, o, rfl, h3⟩
theorem OwnT.tsP {w : World} {base : Nat} {v : Value} {l : List Tm} (h : OwnT w base v l) : TsP w v l := by
 have hh := h
 rcases h.2 with ⟨rfl, hn⟩ | ⟨g, cap, cur, rfl, hb, hg, -⟩
 ·exact Or.inl ⟨rfl, List.length_eq_zero_iff.1 hn⟩
 ·refine Or.inr ⟨_, cap, rfl, Or.inr ⟨g, 0, rfl, (Array.getElem?_eq_some_iff.1 hg).1, fun i t ht => ?_⟩⟩
  simpa using ownT_cells hh i t ht
theorem tcs_app (l m : List Tm) : tcs (l ++ m) = tcs l ++ tcs m := by simp [tcs]
theorem ownT_nil (w : World) (base : Nat) : OwnT w base (.slice none 0 0) [] := World.ownsRow_nil _ _ _ _
theorem grown_below3 {w w' : World} {base : Nat} {v : Value} (hg : w.grownBy w' v.ownBlock) (h : ∀ k, v.ownBlock = some k -> base <= k) (hb : base <= w.heap.size) : Below base w w' :=
 (Below.refl _ _).grown hg hb h
theorem app_terms {ops : Array Oper} {rest : List Oper} {o : Oper} {a : Act} {Q : Exit -> Act -> World -> Prop} {w : World} (hgd : o.guard = none) (s x : Operand)
  (ho : o.op = .call { callee := .builtin .append, args := #[s, x], argTypes := #[37, 37] }) (base : Nat) (v : Value) (l : List Tm) (hs : a.eval s = v) (hown : OwnT w base v l)
  (y : Value) (m : List Tm) (hx : a.eval x = y) (hy : TsP w y m) (hlen : l.length + m.length <= 4000000000000) (hbase : base <= w.heap.size)
  (h : ∀ v' w', OwnT w' base v' (l ++ m) -> Below base w w' -> w.grownBy w' v.ownBlock -> wpList Tryz.prog ops Q rest (a.put o.dst v') w') : wpList Tryz.prog ops Q (o :: rest) a w := by
 obtain ⟨i0, hi0, hz0, hz1, hz2⟩ := info_parts Tryz.infoTerm
 rcases hy with ⟨rfl, rfl⟩ | ⟨ad, cap, rfl, hm⟩
 ·refine wpList_append_own_none hgd s x 37 ho base 36 i0 3 Tryz.underlying37 hi0 v l.length (tcs l) hs hown hx ?_
  refine h v w (by rw [List.append_nil]; exact hown) (Below.refl _ _) ?_
  exact World.grownBy.refl _ _
 ·refine wpList_append_own _ hgd s x 37 ho base 36 i0 _ 3 32 Tryz.underlying37 hi0 hz0 hz1 hz2 rfl (by omega) v l.length (tcs l) hs hown ad m.length cap (tcs m) hx (tcs_len m) ?_ (fun u hu => tcs_mem hu) (by unfold maxLen; omega) (by omega) hbase ?_
  ·rcases hm with rfl | ⟨b, o', rfl, hm⟩
   ·intro j u hu; simp [tcs] at hu
   ·exact trow_get hm
  ·intro v' w' h1 h2 _
   refine h v' w' ?_ (grown_below3 h2 (fun k hk => (World.ownsRow.lt hown k hk).1) hbase) h2
   unfold OwnT
   rw [List.length_append, tcs_app]
   exact h1
theorem TsP.one {w : World} {b : Nat} {t : Tm} (h : CBlk w b #[.int .i64 t.k, .int .i64 t.n, .string t.s] 36) : TsP w (.slice (some ⟨b, 0, none⟩) 1 1) [t] := by
 refine Or.inr ⟨_, 1, rfl, Or.inr ⟨b, 0, rfl, h.lt, fun i u hu => ?_⟩⟩
 obtain ⟨c0, c1, c2⟩ := cthree h
 cases i with
 | zero => simp at hu; subst hu; exact ⟨c0, c1, c2⟩
 | succ i => simp at hu
theorem TsP.two {w : World} {b : Nat} {t u : Tm} (h : CBlk w b #[.int .i64 t.k, .int .i64 t.n, .string t.s, .int .i64 u.k, .int .i64 u.n, .string u.s] 36) : TsP w (.slice (some ⟨b, 0, none⟩) 2 2) [t, u] := by
 refine Or.inr ⟨_, 2, rfl, Or.inr ⟨b, 0, rfl, h.lt, fun i x hx => ?_⟩⟩
 match i, hx with
 | 0, hx => simp at hx; subst hx; exact ⟨cell_of_row _ _ _ _ _ _ h, cell_of_row _ _ _ _ _ _ h, cell_of_row _ _ _ _ _ _ h⟩
 | 1, hx => simp at hx; subst hx; exact ⟨cell_of_row _ _ _ _ _ _ h, cell_of_row _ _ _ _ _ _ h, cell_of_row _ _ _ _ _ _ h⟩
 | i + 2, hx => simp at hx
theorem OwnT.one {w : World} {b base : Nat} {t : Tm} (h : CBlk w b #[.int .i64 t.k, .int .i64 t.n, .string t.s] 36) (hb : base <= b) : OwnT w base (.slice (some ⟨b, 0, none⟩) 1 1) [t] := by
 refine ⟨by simp [tcs, Tm.cs], Or.inr ⟨_, 1, #[.int .i64 t.k, .int .i64 t.n, .string t.s], rfl, hb, h, Nat.le_refl _, by unfold maxLen; omega, by simp, by simp [tcs, Tm.cs]⟩⟩
set_option maxHeartbeats 2000000 in
theorem atomTerms_any (x : At) (v : Value) (w : World) (h : TsP w v x.args) (hl : x.args.length <= 3900000000000) :
  Calls Tryz.prog 65 #[x.v v] w fun e w' => ∃ v', e = .returned v' /\ OwnT w' w.heap.size v' x.pl /\ Below w.heap.size w w' := by
 have hb2 := below2 w (.cells (At.cs x v) 39) (.cells #[.int .i64 x.by_.k, .int .i64 x.by_.n, .string x.by_.s] 36)
 have g1 := CBlk.new (w.alloc (.cells (At.cs x v) 39)) #[.int .i64 x.by_.k, .int .i64 x.by_.n, .string x.by_.s] 36
 rw [show (w.alloc (.cells (At.cs x v) 39)).heap.size = w.heap.size + 1 by simp] at g1
 have H1 : Hid _ := OwnT.one g1 (show w.heap.size <= w.heap.size + 1 by omega)
 have H2 : Hid _ := h.later hb2
 have HB : Hid _ := hb2
 clear hb2 g1 h
 obtain ⟨⟨k, n, ss⟩, nm, l⟩ := x
 simp only [At.cs] at H1 H2 HB hl
 simp only [At.pl]
 go_enter Tryz.func65, Tryz.ntmps65
 go_wp2_with (at_builtin; refine app_terms rfl _ _ rfl w.heap.size (.slice (some ⟨w.heap.size + 1, 0, none⟩) 1 1) [⟨k, n, ss⟩] (by rfl) H1.out v l (by rfl) H2.out (by simp; omega) (by simp; omega) ?_; intro v' w1 hown hb hg)
 go_ret
 exact ⟨_, rfl, hown, HB.out.trans hb⟩
end Go.Proofs.YtcejljehjhlonaaGreatDoor
