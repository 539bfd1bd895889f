import Derived.Test.YtjnipcakjoiplaaGreatDoorCL18
import Derived.Test.YtjnipcakjoiplaaGreatDoorCL12
import Derived.Test.YtjnipcakjoiplaaGreatDoorL1
import Derived.Test.YtjnipcakjoiplaaGreatDoorW2
import Derived.Deep.CutRange
/-
  copied; unqualified; what a clause quoted is. (Written by CL19.py.)
-/
namespace Go.Proofs.YtjnipcakjoiplaaGreatDoor
open Go.RowKit
attribute [local go_sem ↓] Go.wp_at_zero Go.wp_at_succ

/-- Cells of an atom's qualifier set anew. -/
abbrev Aby (w : World) (g k : Nat) (t : Tm) : World := ((w.setCell ⟨g, k * 5, none⟩ (.int .i64 t.k)).setCell ⟨g, k * 5 + 1, none⟩ (.int .i64 t.n)).setCell ⟨g, k * 5 + 2, none⟩ (.string t.s)
theorem ABlk.by_ {w : World} {g n k : Nat} {l : List (At × Value)} {x : At × Value} (h : ABlk w g n l) (hx : l[k]? = some x) (hk : k < n) (t : Tm) : ABlk (Aby w g k t) g n (l.set k (⟨t, x.1.name, x.1.args⟩, x.2)) := by
  obtain ⟨C, h1, h2, h3⟩ := h
  have e0 := heap_setCell_same _ _ (k * 5) _ _ (.int .i64 t.k) h1
  have e1 := heap_setCell_same _ _ (k * 5 + 1) _ _ (.int .i64 t.n) e0
  have e2 := heap_setCell_same _ _ (k * 5 + 2) _ _ (.string t.s) e1
  refine ⟨_, e2, by simp [h2], fun i u hu => ?_⟩
  by_cases hik : i = k
  · subst hik
    have hlt : i < l.length := (List.getElem?_eq_some_iff.1 hx).1
    rw [List.getElem?_set_self hlt] at hu
    obtain rfl := Option.some.inj hu
    obtain ⟨q0, q1, q2, q3, q4⟩ := h3 i x hx
    refine ⟨?_, ?_, ?_, ?_, ?_⟩
    · simp [Array.getElem?_setIfInBounds, h2]; omega
    · simp [Array.getElem?_setIfInBounds, h2]; omega
    · simp [Array.getElem?_setIfInBounds, h2]; omega
    · rw [Array.getElem?_setIfInBounds_ne (by omega), Array.getElem?_setIfInBounds_ne (by omega), Array.getElem?_setIfInBounds_ne (by omega)]; exact q3
    · rw [Array.getElem?_setIfInBounds_ne (by omega), Array.getElem?_setIfInBounds_ne (by omega), Array.getElem?_setIfInBounds_ne (by omega)]; exact q4
  · rw [List.getElem?_set_ne (fun e => hik e.symm)] at hu
    obtain ⟨q0, q1, q2, q3, q4⟩ := h3 i u hu
    refine ⟨?_, ?_, ?_, ?_, ?_⟩ <;> rw [Array.getElem?_setIfInBounds_ne (by omega), Array.getElem?_setIfInBounds_ne (by omega), Array.getElem?_setIfInBounds_ne (by omega)] <;> assumption
end Go.Proofs.YtjnipcakjoiplaaGreatDoor
/-
  Quote, of a clause that may be quoted. (Written by CL20.py.)
-/
namespace Go.Proofs.YtjnipcakjoiplaaGreatDoor
open Go.RowKit
attribute [local go_sem ↓] Go.wp_at_zero Go.wp_at_succ

/-- An atom quoted. -/
def qa (u : ByteArray) (x : At) : At := if x.by_ = zt then ⟨⟨2, 0, u⟩, x.name, x.args⟩ else x
theorem ABlk.froz {w : World} {g n i : Nat} {l : List (At × Value)} (h : ABlk w g n l) : w.frozen? ⟨g, i, none⟩ = false := by
  obtain ⟨C, h1, -⟩ := h
  exact frozen_of_row _ _ _ _ _ h1
theorem CBlk.froz {w : World} {g i : Nat} {c : Array Value} {t : TypeId} (h : CBlk w g c t) : w.frozen? ⟨g, i, none⟩ = false := frozen_of_row _ _ _ _ _ h

/-- Quote's boxes. -/
structure QB (w X : World) (c : Cm) (u : ByteArray) : Prop where
  bc : CBlk X w.heap.size c.cs 30
  br : CBlk X (w.heap.size + 1) zcs 30
  bb : CBlk X (w.heap.size + 1 + 1) #[.int .i64 2, .int .i64 0, .string u] 23
  ok : c.ok X
  bw : Below w.heap.size w X
  sz : w.heap.size + 3 ≤ X.heap.size
theorem QB.later {w X X' : World} {c : Cm} {u : ByteArray} (h : QB w X c u) (hb : Below X.heap.size X X') : QB w X' c u :=
  ⟨h.bc.later hb, h.br.later hb, h.bb.later hb, h.ok.later hb, below_step h.bw hb, Nat.le_trans h.sz hb.size⟩
theorem QB.start (w : World) (c : Cm) (u : ByteArray) (h : c.ok w) : QB w (((w.alloc (.cells c.cs 30)).alloc (.cells zcs 30)).alloc (.cells #[.int .i64 2, .int .i64 0, .string u] 23)) c u := by
  have b3 := below_step (below2 w (.cells c.cs 30) (.cells zcs 30)) (below1 _ (.cells #[.int .i64 2, .int .i64 0, .string u] 23))
  have x1 := (CBlk.new w c.cs 30).later (below2 (w.alloc (.cells c.cs 30)) (.cells zcs 30) (.cells #[.int .i64 2, .int .i64 0, .string u] 23))
  have x2 := (CBlk.new (w.alloc (.cells c.cs 30)) zcs 30).later (below1 _ (.cells #[.int .i64 2, .int .i64 0, .string u] 23))
  have x3 := CBlk.new ((w.alloc (.cells c.cs 30)).alloc (.cells zcs 30)) #[.int .i64 2, .int .i64 0, .string u] 23
  rw [show (w.alloc (.cells c.cs 30)).heap.size = w.heap.size + 1 by simp] at x2
  rw [show ((w.alloc (.cells c.cs 30)).alloc (.cells zcs 30)).heap.size = w.heap.size + 1 + 1 by simp] at x3
  exact ⟨x1, x2, x3, h.later b3, b3, by simp⟩
/-- .. and its loop. -/
structure QU (w X : World) (c : Cm) (u : ByteArray) (Bo M1 M2 M3 : Nat) (L : List (At × Value)) : Prop where
  br : CBlk X (w.heap.size + 1) zcs 30
  bb : CBlk X (w.heap.size + 1 + 1) #[.int .i64 2, .int .i64 0, .string u] 23
  bo : CBlk X Bo #[.int .i64 2, .int .i64 0, .string u, .string c.head.1.name, .slice (some ⟨M1, 0, none⟩) c.head.1.args.length c.head.1.args.length, .slice (some ⟨M2, 0, none⟩) c.body.length c.body.length, .slice (some ⟨M3, 0, none⟩) c.tests.length c.tests.length] 30
  a : ABlk X M2 c.body.length L
  t1 : Ts X (.slice (some ⟨M1, 0, none⟩) c.head.1.args.length c.head.1.args.length) c.head.1.args
  n1 : M1 ≠ M2
  ts : ∀ x ∈ L, TsN X M2 x.2 x.1.args ∧ ∀ b, x.2.ownBlock = some b → w.heap.size + 3 ≤ b
  e : EBlk X M3 c.tests.length c.tests
  bw : Below w.heap.size w X
  b1 : w.heap.size + 3 ≤ M1
  b2 : w.heap.size + 3 ≤ M2
  b3 : M2 < M3
  b4 : M3 < Bo
theorem QU.later {w X X' : World} {c : Cm} {u : ByteArray} {Bo M1 M2 M3 : Nat} {L : List (At × Value)} (h : QU w X c u Bo M1 M2 M3 L) (hb : Below X.heap.size X X') : QU w X' c u Bo M1 M2 M3 L :=
  ⟨h.br.later hb, h.bb.later hb, h.bo.later hb, h.a.later hb, h.t1.later hb, h.n1, fun x hx => ⟨(h.ts x hx).1.later hb, (h.ts x hx).2⟩, h.e.later hb, below_step h.bw hb, h.b1, h.b2, h.b3, h.b4⟩
theorem QU.by_ {w X : World} {c : Cm} {u : ByteArray} {Bo M1 M2 M3 j : Nat} {L : List (At × Value)} {x : At × Value} (h : QU w X c u Bo M1 M2 M3 L) (hx : L[j]? = some x) (hj : j < c.body.length) (t : Tm) :
    QU w (Aby X M2 j t) c u Bo M1 M2 M3 (L.set j (⟨t, x.1.name, x.1.args⟩, x.2)) := by
  have b2 := h.b2
  have b3 := h.b3
  have b4 := h.b4
  have n1 : w.heap.size + 1 ≠ M2 := by omega
  have n2 : w.heap.size + 1 + 1 ≠ M2 := by omega
  have n3 : Bo ≠ M2 := by omega
  have n4 : M3 ≠ M2 := by omega
  have nw : w.heap.size ≤ M2 := by omega
  have hm1 : (Value.slice (some ⟨M1, 0, none⟩) c.head.1.args.length c.head.1.args.length).ownBlock ≠ some M2 := fun e => h.n1 (Option.some.inj e)
  refine ⟨((h.br.off n1).off n1).off n1, ((h.bb.off n2).off n2).off n2, ((h.bo.off n3).off n3).off n3, h.a.by_ hx hj t, ((h.t1.off hm1).off hm1).off hm1, h.n1, fun y hy => ?_, ((h.e.other n4).other n4).other n4, ((h.bw.setCell nw _).setCell nw _).setCell nw _, h.b1, b2, b3, b4⟩
  rcases List.mem_or_eq_of_mem_set hy with hy | rfl
  · exact ⟨(((h.ts y hy).1.off).off).off, (h.ts y hy).2⟩
  · have hm := List.mem_of_getElem? hx
    exact ⟨(((h.ts x hm).1.off).off).off, (h.ts x hm).2⟩
end Go.Proofs.YtjnipcakjoiplaaGreatDoor
/-
  What Instance makes of a term.
-/
namespace Go.Proofs.YtjnipcakjoiplaaGreatDoor
open Go.RowKit
attribute [local go_sem ↓] Go.wp_at_zero Go.wp_at_succ

/-- The list of values in its box. -/
def VB (w : World) (P : Nat) (v : Value) (vs : List Tm) : Prop := CBlk w P #[v] 24 ∧ Ts w v vs
theorem VB.later {w w' : World} {P : Nat} {v : Value} {vs : List Tm} (h : VB w P v vs) (hb : Below w.heap.size w w') : VB w' P v vs := ⟨h.1.later hb, h.2.later hb⟩
def ins (vs : List Tm) (t : Tm) : Tm := if t.var = true then (vs[t.n.toNat]?).getD t else t
end Go.Proofs.YtjnipcakjoiplaaGreatDoor
/-
  safe, MadeConst; lists of terms appended; atomTerms.
-/
namespace Go.Proofs.YtjnipcakjoiplaaGreatDoor
open Go.RowKit
attribute [local go_sem ↓] Go.wp_at_zero Go.wp_at_succ

/-- A list of terms in memory that is nil, or has a place. -/
def TsP (w : World) (v : Value) (l : List Tm) : Prop := (v = .slice none 0 0 ∧ l = []) ∨ ∃ ad cap, v = .slice (some ad) l.length cap ∧ (l = [] ∨ ∃ b o, ad = ⟨b, o, none⟩ ∧ TRow w b o l)
theorem TsP.later {w w' : World} {v : Value} {l : List Tm} (h : TsP w v l) (hb : Below w.heap.size w w') : TsP w' v l := by
  rcases h with h | ⟨ad, cap, h1, h2⟩
  · exact Or.inl h
  · refine Or.inr ⟨ad, cap, h1, ?_⟩
    rcases h2 with h2 | ⟨b, o, h2, h3⟩
    · exact Or.inl h2
    · exact Or.inr ⟨b, o, h2, h3.later hb⟩
theorem TsP.ts {w : World} {v : Value} {l : List Tm} (h : TsP w v l) (hl : l.length < 1000000000000000000) : Ts w v l := by
  rcases h with ⟨rfl, rfl⟩ | ⟨ad, cap, rfl, h2⟩
  · exact ⟨none, 0, rfl, by simp, Or.inl rfl⟩
  · refine ⟨some ad, cap, rfl, hl, ?_⟩
    rcases h2 with h2 | ⟨b, o, rfl, h3⟩
    · exact Or.inl h2
    · exact Or.inr ⟨b, o, rfl, h3⟩
theorem OwnT.tsP {w : World} {base : Nat} {v : Value} {l : List Tm} (h : OwnT w base v l) : TsP w v l := by
  have hh := h
  rcases h.2 with ⟨rfl, hn⟩ | ⟨g, cap, cur, rfl, hb, hg, -⟩
  · exact Or.inl ⟨rfl, List.length_eq_zero_iff.1 hn⟩
  · refine Or.inr ⟨_, cap, rfl, Or.inr ⟨g, 0, rfl, (Array.getElem?_eq_some_iff.1 hg).1, fun i t ht => ?_⟩⟩
    simpa using ownT_cells hh i t ht
theorem tcs_app (l m : List Tm) : tcs (l ++ m) = tcs l ++ tcs m := by simp [tcs]
theorem ownT_nil (w : World) (base : Nat) : OwnT w base (.slice none 0 0) [] := World.ownsRow_nil _ _ _ _
theorem grown_below3 {w w' : World} {base : Nat} {v : Value} (hg : w.grownBy w' v.ownBlock) (h : ∀ k, v.ownBlock = some k → base ≤ k) (hb : base ≤ w.heap.size) : Below base w w' :=
  (Below.refl _ _).grown hg hb h
theorem app_terms {ops : Array Oper} {rest : List Oper} {o : Oper} {a : Act} {Q : Exit → Act → World → Prop} {w : World} (hgd : o.guard = none) (s x : Operand)
    (ho : o.op = .call { callee := .builtin .append, args := #[s, x], argTypes := #[24, 24] }) (base : Nat) (v : Value) (l : List Tm) (hs : a.eval s = v) (hown : OwnT w base v l)
    (y : Value) (m : List Tm) (hx : a.eval x = y) (hy : TsP w y m) (hlen : l.length + m.length ≤ 4000000000000) (hbase : base ≤ w.heap.size)
    (h : ∀ v' w', OwnT w' base v' (l ++ m) → Below base w w' → w.grownBy w' v.ownBlock → wpList Tryz.prog ops Q rest (a.put o.dst v') w') : wpList Tryz.prog ops Q (o :: rest) a w := by
  obtain ⟨i0, hi0, hz0, hz1, hz2⟩ := info_parts Tryz.infoTerm
  rcases hy with ⟨rfl, rfl⟩ | ⟨ad, cap, rfl, hm⟩
  · refine wpList_append_own_none hgd s x 24 ho base 23 i0 3 Tryz.underlying24 hi0 v l.length (tcs l) hs hown hx ?_
    refine h v w (by rw [List.append_nil]; exact hown) (Below.refl _ _) ?_
    exact World.grownBy.refl _ _
  · refine wpList_append_own _ hgd s x 24 ho base 23 i0 _ 3 32 Tryz.underlying24 hi0 hz0 hz1 hz2 rfl (by omega) v l.length (tcs l) hs hown ad m.length cap (tcs m) hx (tcs_len m) ?_ (fun u hu => tcs_mem hu) (by unfold maxLen; omega) (by omega) hbase ?_
    · rcases hm with rfl | ⟨b, o', rfl, hm⟩
      · intro j u hu; simp [tcs] at hu
      · exact trow_get hm
    · intro v' w' h1 h2 _
      refine h v' w' ?_ (grown_below3 h2 (fun k hk => (World.ownsRow.lt hown k hk).1) hbase) h2
      unfold OwnT
      rw [List.length_append, tcs_app]
      exact h1
theorem TsP.one {w : World} {b : Nat} {t : Tm} (h : CBlk w b #[.int .i64 t.k, .int .i64 t.n, .string t.s] 23) : TsP w (.slice (some ⟨b, 0, none⟩) 1 1) [t] := by
  refine Or.inr ⟨_, 1, rfl, Or.inr ⟨b, 0, rfl, h.lt, fun i u hu => ?_⟩⟩
  obtain ⟨c0, c1, c2⟩ := cthree h
  cases i with
  | zero => simp at hu; subst hu; exact ⟨c0, c1, c2⟩
  | succ i => simp at hu
theorem TsP.two {w : World} {b : Nat} {t u : Tm} (h : CBlk w b #[.int .i64 t.k, .int .i64 t.n, .string t.s, .int .i64 u.k, .int .i64 u.n, .string u.s] 23) : TsP w (.slice (some ⟨b, 0, none⟩) 2 2) [t, u] := by
  refine Or.inr ⟨_, 2, rfl, Or.inr ⟨b, 0, rfl, h.lt, fun i x hx => ?_⟩⟩
  match i, hx with
  | 0, hx => simp at hx; subst hx; exact ⟨cell_of_row _ _ _ _ _ _ h, cell_of_row _ _ _ _ _ _ h, cell_of_row _ _ _ _ _ _ h⟩
  | 1, hx => simp at hx; subst hx; exact ⟨cell_of_row _ _ _ _ _ _ h, cell_of_row _ _ _ _ _ _ h, cell_of_row _ _ _ _ _ _ h⟩
  | i + 2, hx => simp at hx
theorem OwnT.one {w : World} {b base : Nat} {t : Tm} (h : CBlk w b #[.int .i64 t.k, .int .i64 t.n, .string t.s] 23) (hb : base ≤ b) : OwnT w base (.slice (some ⟨b, 0, none⟩) 1 1) [t] := by
  refine ⟨by simp [tcs, Tm.cs], Or.inr ⟨_, 1, #[.int .i64 t.k, .int .i64 t.n, .string t.s], rfl, hb, h, Nat.le_refl _, by unfold maxLen; omega, by simp, by simp [tcs, Tm.cs]⟩⟩
set_option maxHeartbeats 2000000 in
theorem atomTerms_any (x : At) (v : Value) (w : World) (h : TsP w v x.args) (hl : x.args.length ≤ 3900000000000) :
    Calls Tryz.prog 39 #[x.v v] w fun e w' => ∃ v', e = .returned v' ∧ OwnT w' w.heap.size v' x.pl ∧ Below w.heap.size w w' := by
  have hb2 := below2 w (.cells (At.cs x v) 26) (.cells #[.int .i64 x.by_.k, .int .i64 x.by_.n, .string x.by_.s] 23)
  have g1 := CBlk.new (w.alloc (.cells (At.cs x v) 26)) #[.int .i64 x.by_.k, .int .i64 x.by_.n, .string x.by_.s] 23
  rw [show (w.alloc (.cells (At.cs x v) 26)).heap.size = w.heap.size + 1 by simp] at g1
  have H1 : Hid _ := OwnT.one g1 (show w.heap.size ≤ w.heap.size + 1 by omega)
  have H2 : Hid _ := h.later hb2
  have HB : Hid _ := hb2
  clear hb2 g1 h
  obtain ⟨⟨k, n, ss⟩, nm, l⟩ := x
  simp only [At.cs] at H1 H2 HB hl
  simp only [At.pl]
  go_enter Tryz.func39, Tryz.ntmps39
  go_wp2_with (at_builtin; refine app_terms rfl _ _ rfl w.heap.size (.slice (some ⟨w.heap.size + 1, 0, none⟩) 1 1) [⟨k, n, ss⟩] (by rfl) H1.out v l (by rfl) H2.out (by simp; omega) (by simp; omega) ?_; intro v' w1 hown hb hg)
  go_ret
  exact ⟨_, rfl, hown, HB.out.trans hb⟩
end Go.Proofs.YtjnipcakjoiplaaGreatDoor
/-
  Fact; ref's CheckAtom.
-/
namespace Go.Proofs.YtjnipcakjoiplaaGreatDoor
open Go.RowKit

set_option maxHeartbeats 2000000 in
theorem rchk_any (a : At) (x : Value) (w : World) (h : Ts w x a.args) :
    Calls Tryz.prog 36 #[a.v x] w fun e w' => e = .returned (.int .i64 a.err) ∧ Below w.heap.size w w' := by
  obtain ⟨⟨k, n, ss⟩, nm, l⟩ := a
  simp only at h
  obtain ⟨r, hr⟩ : ∃ r, At.err ⟨⟨k, n, ss⟩, nm, l⟩ = r := ⟨_, rfl⟩
  rw [hr]
  simp only [At.err] at hr
  have HX : Hid (Ts w x l) := h
  obtain ⟨ad, cap, rfl, hl, -⟩ := h
  cases hn : nameOk nm
  · have HR : Hid (21 = r) := by show _ = _; rw [← hr, if_pos hn]
    clear hr
    go_enter Tryz.func36, Tryz.ntmps36
    go_wp2_with (go_at_call 70; refine (rname_any nm _).mono ?_; rw [hn]; rintro e w1 ⟨rfl, hb1⟩)
    go_ret
    exact ⟨ret_i HR.out, below_step (below1 _ _) hb1⟩
  · rw [hn, if_neg (by simp)] at hr
    have HN : Hid (nameOk nm = true) := hn
    clear hn
    by_cases h8 : 8 < l.length
    · have HR : Hid (22 = r) := by show _ = _; rw [← hr, if_pos h8]
      have q8 : (8 : Int) < (l.length : Int) := by omega
      clear hr h8
      go_enter Tryz.func36, Tryz.ntmps36
      go_wp2_with (go_at_call 70; refine (rname_any nm _).mono ?_; rw [HN.out]; rintro e w1 ⟨rfl, hb1⟩; obtain ⟨p0, p1, p2, p3, p4⟩ := five ((Blk.new w #[.int .i64 k, .int .i64 n, .string ss, .string nm, .slice ad l.length cap] 26).later hb1))
      go_ret
      exact ⟨ret_i HR.out, below_step (below1 _ _) hb1⟩
    · rw [if_neg h8] at hr
      have q8 : ¬ (8 : Int) < (l.length : Int) := by omega
      have HR : Hid ((if qualOk ⟨k, n, ss⟩ = false then 23 else if l.all Tm.cov then 0 else 24) = r) := hr
      clear hr h8
      go_enter Tryz.func36, Tryz.ntmps36
      go_upto_region 5 with (go_at_call 70; refine (rname_any nm _).mono ?_; rw [HN.out]; rintro e W ⟨rfl, hb1⟩; have B1 := (Blk.new w #[.int .i64 k, .int .i64 n, .string ss, .string nm, .slice ad l.length cap] 26).later hb1; obtain ⟨p0, p1, p2, p3, p4⟩ := five B1; have HB : Hid (Blk _ _ _ _) := B1; clear B1)
      have hW : Hid (Below w.heap.size w W) := below_step (below1 _ _) hb1
      clear p0 p1 p2 p3 p4 hb1
      go_cut [27] from 12 to 27 (fun s27 wx => s27 = .bool (!qualOk ⟨k, n, ss⟩) ∧ Below W.heap.size W wx)
      case first =>
        obtain ⟨p0, p1, p2, p3, p4⟩ := five (Hid.out HB)
        have he := run_neq_tm ⟨k, n, ss⟩ zt
        obtain ⟨b1, h1⟩ : ∃ b, decide (Tm.mk k n ss = zt) = b := ⟨_, rfl⟩
        obtain ⟨b2, h2⟩ : ∃ b, Tm.prin ⟨k, n, ss⟩ = b := ⟨_, rfl⟩
        obtain ⟨b3, h3⟩ : ∃ b, Tm.var ⟨k, n, ss⟩ = b := ⟨_, rfl⟩
        have HQ : Hid (qualOk ⟨k, n, ss⟩ = (b1 || (b2 || b3))) := by show _ = _; unfold qualOk; rw [h1, h2, h3]
        have H2 : Hid (Tm.prin ⟨k, n, ss⟩ = b2) := h2
        have H3 : Hid (Tm.var ⟨k, n, ss⟩ = b3) := h3
        rw [h1] at he
        unfold zt at he
        clear h1 h2 h3 HR
        cases b1
        · cases b2
          · go_wp2_with (first
              | (go_at_call 71; refine (rprin_any ⟨k, n, ss⟩ _).mono ?_; rw [H2.out]; rintro e w2 ⟨rfl, hb2⟩; clear p0 p1 p2 p3 p4; obtain ⟨p0, p1, p2, p3, p4⟩ := five (Blk.later (Hid.out HB) hb2))
              | (go_at_call 72; refine (rvar_any ⟨k, n, ss⟩ _).mono ?_; rw [H3.out]; rintro e w3 ⟨rfl, hb3⟩))
            go_meet
            case rel => exact ⟨by rw [HQ.out]; rfl, below_step hb2 hb3⟩
          · go_wp2_with (go_at_call 71; refine (rprin_any ⟨k, n, ss⟩ _).mono ?_; rw [H2.out]; rintro e w2 ⟨rfl, hb2⟩)
            go_meet
            case rel => exact ⟨by rw [HQ.out]; rfl, hb2⟩
        · go_wp2_with fail
          go_meet
          case rel => exact ⟨by rw [HQ.out]; rfl, Below.refl _ _⟩
      case rest =>
        obtain ⟨rfl, hbc⟩ := hcut
        have hbw := below_step (Hid.out hW) hbc
        have B2 := Blk.later (Hid.out HB) hbc
        clear HB hW hbc
        cases hq : qualOk ⟨k, n, ss⟩
        · have HR2 : Hid (23 = r) := by show _ = _; rw [← HR.out, if_pos hq]
          clear HR
          go_wp2
          go_ret
          exact ⟨ret_i HR2.out, hbw⟩
        · have HR2 : Hid ((if l.all Tm.cov then 0 else 24) = r) := by show _ = _; rw [← HR.out, hq]; rfl
          clear HR hq
          go_wp2
          go_loopg [3] l.length (fun g i wr => ∃ j : Nat, j + g = l.length ∧ i = .int .i64 j ∧ (∀ i t, i < j → l[i]? = some t → t.cov = true) ∧ Below w.heap.size w wr ∧ Blk wr w.heap.size #[.int .i64 k, .int .i64 n, .string ss, .string nm, .slice ad l.length cap] 26)
          case atStart => exact ⟨0, by omega, rfl, fun i t hi => by omega, hbw, B2⟩
          case round =>
            obtain ⟨j, hj, rfl, hall, hbr, hB⟩ := hrel
            have HA : Hid (∀ i t, i < j → l[i]? = some t → t.cov = true) := hall
            have HB : Hid (Blk wr _ _ _) := hB
            obtain ⟨p0, p1, p2, p3, p4⟩ := five hB
            have zw := Blk.lt hB
            clear hall hbw B2 hB
            cases gk with
            | succ g =>
              have hlt : j < l.length := by omega
              obtain ⟨t, ht⟩ : ∃ t, l[j]? = some t := ⟨_, List.getElem?_eq_getElem hlt⟩
              obtain ⟨ad', cap', hx, -, hxx⟩ := HX.out.later hbr
              simp only [Value.slice.injEq] at hx
              obtain ⟨rfl, -, rfl⟩ := hx
              rcases hxx with hxx | ⟨b, o, rfl, hbs, hxx⟩
              · subst hxx; simp at hlt
              · obtain ⟨c0, c1, c2⟩ := hxx j _ ht
                have HT : Hid (l[j]? = some t) := ht
                obtain ⟨tk, tn, ts⟩ := t
                simp only at c0 c1 c2
                clear hxx ht
                have i1 : (0 : Int) ≤ (j : Int) := by omega
                have i2 : (j : Int) < (l.length : Int) := by omega
                cases hc : Tm.con ⟨tk, tn, ts⟩
                · have HC : Hid (Tm.con ⟨tk, tn, ts⟩ = false) := hc
                  clear hc
                  cases hv : Tm.var ⟨tk, tn, ts⟩
                  · have HV : Hid (Tm.var ⟨tk, tn, ts⟩ = false) := hv
                    have HR3 : Hid (24 = r) := by show _ = _; rw [← HR2.out, all_no HT.out (by unfold Tm.cov; rw [HC.out, hv]; rfl)]; rfl
                    clear hv
                    go_wp2_with (first
                      | (go_at_call 73; refine (rcon_any ⟨tk, tn, ts⟩ _).mono ?_; rw [HC.out]; rintro e w3 ⟨rfl, hb3⟩; have d0 := cell_step hb3 hbs c0; have d1 := cell_step hb3 hbs c1; have d2 := cell_step hb3 hbs c2; have d4 := cell_step hb3 zw p4; clear p0 p1 p2 p3 p4 c0 c1 c2)
                      | (go_at_call 72; refine (rvar_any ⟨tk, tn, ts⟩ _).mono ?_; rw [HV.out]; rintro e w4 ⟨rfl, hb4⟩))
                    go_ret
                    exact ⟨ret_i HR3.out, below_step (below_step hbr hb3) hb4⟩
                  · have HV : Hid (Tm.var ⟨tk, tn, ts⟩ = true) := hv
                    clear hv
                    go_wp2_with (first
                      | (go_at_call 73; refine (rcon_any ⟨tk, tn, ts⟩ _).mono ?_; rw [HC.out]; rintro e w3 ⟨rfl, hb3⟩; have d0 := cell_step hb3 hbs c0; have d1 := cell_step hb3 hbs c1; have d2 := cell_step hb3 hbs c2; have d4 := cell_step hb3 zw p4; clear p0 p1 p2 p3 p4 c0 c1 c2)
                      | (go_at_call 72; refine (rvar_any ⟨tk, tn, ts⟩ _).mono ?_; rw [HV.out]; rintro e w4 ⟨rfl, hb4⟩))
                    go_roundg g
                    case measure => omega
                    case rel =>
                      refine ⟨j + 1, by omega, by go_num, fun i t hi ht => ?_, below_step (below_step hbr hb3) hb4, Blk.later (Blk.later (Hid.out HB) hb3) hb4⟩
                      rcases Nat.lt_or_ge i j with h | h
                      · exact HA.out i t h ht
                      · obtain rfl : i = j := by omega
                        rw [HT.out] at ht; cases ht; unfold Tm.cov; rw [HV.out, Bool.or_true]
                · have HC : Hid (Tm.con ⟨tk, tn, ts⟩ = true) := hc
                  clear hc
                  go_wp2_with (go_at_call 73; refine (rcon_any ⟨tk, tn, ts⟩ _).mono ?_; rw [HC.out]; rintro e w3 ⟨rfl, hb3⟩)
                  go_roundg g
                  case measure => omega
                  case rel =>
                    refine ⟨j + 1, by omega, by go_num, fun i t hi ht => ?_, below_step hbr hb3, Blk.later (Hid.out HB) hb3⟩
                    rcases Nat.lt_or_ge i j with h | h
                    · exact HA.out i t h ht
                    · obtain rfl : i = j := by omega
                      rw [HT.out] at ht; cases ht; unfold Tm.cov; rw [HC.out, Bool.true_or]
            | zero =>
              obtain rfl : j = l.length := by omega
              have HR3 : Hid (0 = r) := by show _ = _; rw [← HR2.out, all_yes fun i t ht => HA.out i t (List.getElem?_eq_some_iff.1 ht).1 ht]; rfl
              have hz : ¬ ((l.length : Int) < (l.length : Int)) := by omega
              go_wp2
              go_ret
              exact ⟨ret_i HR3.out, hbr⟩
end Go.Proofs.YtjnipcakjoiplaaGreatDoor
