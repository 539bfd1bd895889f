import Derived.Test.YtdfgijdededolabGreatDoorCN7
import Derived.Test.YtdfgijdededolabGreatDoorCN10
import Derived.Test.YtdfgijdededolabGreatDoorRQ1
import Derived.Test.YtdfgijdededolabGreatDoorCN16
/-
  ref's Consts.
-/
namespace Go.Proofs.YtdfgijdededolabGreatDoor
open Go.RowKit

theorem cns_len (l : List Tm) : (cns l).length ≤ l.length := List.length_filter_le ..
theorem ownT_cap9 {w : World} {base : Nat} {v : Value} {l : List Tm} (h : OwnT w base v l) : ∀ a n cap, v = .slice a n cap → n ≤ cap := fun a n cap e => by
  subst e
  rcases h.2 with ⟨h, _⟩ | ⟨g', c, cur, hv, _, _, hn, _⟩
  · simp only [Value.slice.injEq] at h; omega
  · simp only [Value.slice.injEq] at hv; omega
theorem tapp_one {ops : Array Oper} {rest : List Oper} {o : Oper} {a : Act} {Q : Exit → Act → World → Prop} {w : World} (hgd : o.guard = none) (s x : Operand)
    (ho : o.op = .call { callee := .builtin .append, args := #[s, x], argTypes := #[24, 24] }) (base : Nat) (v : Value) (l : List Tm) (hs : a.eval s = v) (hown : OwnT w base v l)
    (b : Nat) (y : Tm) (hx : a.eval x = .slice (some ⟨b, 0, none⟩) 1 1) (hblk : CBlk w b #[.int .i64 y.k, .int .i64 y.n, .string y.s] 35) (hlen : l.length ≤ 3900000000000) (hbase : base ≤ w.heap.size)
    (h : ∀ v' w', OwnT w' base v' (l ++ [y]) → Below base w w' → w.grownBy w' v.ownBlock → (∀ k, v'.ownBlock = some k → v.ownBlock = some k ∨ w.heap.size ≤ k) → wpList Tryz.prog ops Q rest (a.put o.dst v') w') : wpList Tryz.prog ops Q (o :: rest) a w := by
  obtain ⟨i0, hi0, hz0, hz1, hz2⟩ := info_parts Tryz.infoTerm
  refine wpList_append_lies _ hgd s x 24 ho base 35 i0 _ 3 32 Tryz.underlying24 hi0 hz0 hz1 hz2 rfl (by omega) v l.length (tcs l) hs hown ⟨b, 0, none⟩ 1 1 (tcs [y]) hx (tcs_len [y]) (trow_get (row_one hblk)) (fun u hu => tcs_mem hu) (by omega) (by unfold maxLen; omega) (by omega) hbase _ rfl ?_
  intro g cap w' h1 h2 h3 h4
  refine h _ w' ?_ (grown_below3 h2 (fun k hk => (World.ownsRow.lt hown k hk).1) hbase) h2 (fun k hk => by cases hk; exact h3.imp id (fun e => Nat.le_of_eq e.symm))
  unfold OwnT
  rw [List.length_append, tcs_app]
  exact h1
/-- A list that stays wherever the blocks but v's own stay. -/
def TS9 (X : World) (v y : Value) (l : List Tm) : Prop := ∀ Y : World, X.grownBy Y v.ownBlock → TsP Y y l
theorem TS9.ts {X : World} {v y : Value} {l : List Tm} (h : TS9 X v y l) : TsP X y l := h X (World.grownBy.refl _ _)
theorem TS9.later {X X' : World} {v y : Value} {l : List Tm} (h : TS9 X v y l) (hb : Below X.heap.size X X') : TS9 X' v y l := fun Y hY => h Y ((grown_of hb _).trans hY)
theorem TS9.add {X X' : World} {v v' y : Value} {l : List Tm} (h : TS9 X v y l) (hg : X.grownBy X' v.ownBlock) (ha : ∀ k, v'.ownBlock = some k → v.ownBlock = some k ∨ X.heap.size ≤ k) : TS9 X' v' y l := fun Y hY => h Y (hg.andThen hY fun k hk => (ha k hk).symm)
theorem TS9.start {X0 X : World} {B : Nat} {v y : Value} {l m : List Tm} (h : OwnT X X0.heap.size y l) (hv : OwnT X0 B v m) : TS9 X v y l := fun Y hY => by
  refine OwnT.tsP (base := X0.heap.size) (World.ownsRow.kept h hY ?_)
  cases hk : y.ownBlock with
  | none => exact Or.inl rfl
  | some k =>
    refine Or.inr (fun e => ?_)
    have h1 := hv.lt k e.symm
    have h2 := h.lt k hk
    omega
set_option maxRecDepth 20000 in
set_option maxHeartbeats 4000000 in
theorem rconsts_any (l : List Cm) (v : Value) (w : World) (h : CsP w v l) (hp : ∀ c ∈ l, OKP w c) (hz : ∀ t ∈ l.flatMap Cm.terms, t.s.size ≤ maxLen) (hl : (l.flatMap Cm.terms).length ≤ 3000000000000) (hll : l.length ≤ 1000000000000) :
    Calls Tryz.prog 11 #[v] w (RTS w (cns (l.flatMap Cm.terms))) := by
  have HP : Hid (CsP w v l) := h
  have HO : Hid (∀ c ∈ l, OKP w c) := hp
  have HZ : Hid (∀ t ∈ cns (l.flatMap Cm.terms), t.s.size ≤ maxLen) := fun t ht => hz t (List.mem_filter.1 ht).1
  have HL : Hid ((l.flatMap Cm.terms).length ≤ 3000000000000) := hl
  obtain ⟨va, vc, rfl⟩ := h.form
  clear h hp hz hl
  go_enter Tryz.func11, Tryz.ntmps11
  go_wp2
  go_loopg [3, 4] l.length (fun g u i wr => ∃ q : Nat, q + g = l.length ∧ i = .int .i64 (q : Int) ∧ OwnT wr w.heap.size u (cns ((l.take q).flatMap Cm.terms)) ∧ Below w.heap.size w wr)
  case atStart => exact ⟨0, by omega, rfl, ownT_nil _ _, Below.refl _ _⟩
  case round =>
    obtain ⟨q, hg, rfl, hot, hb⟩ := hrel
    have HOT : Hid (OwnT wr w.heap.size u3 (cns ((l.take q).flatMap Cm.terms))) := hot
    have HB : Hid (Below w.heap.size w wr) := hb
    clear hot hb
    have iq : (0 : Int) ≤ (q : Int) := by omega
    by_cases hql : q < l.length
    · have k1 : (q : Int) < (l.length : Int) := by omega
      obtain ⟨G, rfl⟩ : ∃ G, gk = G + 1 := ⟨gk - 1, by omega⟩
      obtain ⟨c, hc⟩ : ∃ z, l[q]? = some z := ⟨_, List.getElem?_eq_getElem hql⟩
      have HTL : Hid (((l.take q).flatMap Cm.terms).length + c.terms.length ≤ 3000000000000) := Nat.le_trans (take_len hc) HL.out
      have hcm := List.mem_of_getElem? hc
      have HTE : Hid (Calls Tryz.prog 38 #[c.v] wr fun e w' => ∃ v', e = .returned v' ∧ OwnT w' wr.heap.size v' c.terms ∧ Below wr.heap.size wr w') := by
        have ho := (HO.out c hcm).later HB.out
        exact terms3_any c wr ho.ok ho.hh ho.hp (by have := HTL.out; omega)
      have HTT : Hid ((l.take (q + 1)).flatMap Cm.terms = (l.take q).flatMap Cm.terms ++ c.terms) := take_terms hc
      obtain ⟨sb, so, rfl, hrw⟩ := (HP.out.later HB.out).get hc
      have hzx := hrw.1
      have hsv := hrw.seven hc
      have hsh := (HP.out.ok c hcm).shape
      obtain ⟨TT, hTT⟩ : ∃ T, c.terms = T := ⟨_, rfl⟩
      rw [hTT] at HTE HTT HTL
      clear hc hcm hrw hTT
      obtain ⟨⟨⟨⟨k, m, s⟩, nm, ls⟩, hx⟩, body, bv, tests, tv⟩ := c
      simp only at hsv hsh
      obtain ⟨⟨a, hn, cap, e1⟩, ⟨a', cap', e2⟩, ⟨a'', cap'', e3⟩, -, -⟩ := hsh
      obtain ⟨bl, h5⟩ : ∃ n, body.length = n := ⟨_, rfl⟩
      obtain ⟨tl, h8⟩ : ∃ n, tests.length = n := ⟨_, rfl⟩
      rw [h5] at e2
      rw [h8] at e3
      subst e1 e2 e3
      clear h5 h8
      obtain ⟨q0, q1, q2, q3, q4, q5, q6⟩ := hsv
      go_wp2_with (go_at_call 38; refine HTE.out.mono ?_; rintro e w1 ⟨y, rfl, hy, hb1⟩; have HY : Hid (TS9 w1 u3 y TT) := TS9.start hy HOT.out; have HB1 : Hid (Below w.heap.size w w1) := below_step HB.out hb1; have HO1 : Hid (OwnT w1 w.heap.size u3 (cns ((l.take q).flatMap Cm.terms))) := HOT.out.later hb1; obtain ⟨ya, yc, rfl⟩ := hy.tsP.form7; clear HTE hy hb1 q0 q1 q2 q3 q4 q5 q6)
      have HQ : Hid (q < l.length ∧ q + (G + 1) = l.length) := ⟨hql, hg⟩
      have HO2 : Hid (OwnT w1 w.heap.size u3 (cns ((l.take q).flatMap Cm.terms) ++ cns (TT.take 0))) := by show OwnT _ _ _ _; rw [List.take_zero, show cns [] = [] from rfl, List.append_nil]; exact HO1.out
      clear HOT HB HO1 k1 hql hg
      go_loopg [3, 6] TT.length (fun g u i wr => ∃ j : Nat, j + g = TT.length ∧ i = .int .i64 (j : Int) ∧ OwnT wr w.heap.size u (cns ((l.take q).flatMap Cm.terms) ++ cns (TT.take j)) ∧ TS9 wr u (.slice ya TT.length yc) TT ∧ Below w.heap.size w wr)
      case atStart => exact ⟨0, by omega, rfl, HO2.out, HY.out, HB1.out⟩
      case round =>
        obtain ⟨j, hg, rfl, hot, hty, hb⟩ := hrel
        have HY : Hid (TS9 wr u3 (.slice ya TT.length yc) TT) := hty
        have HOT : Hid (OwnT wr w.heap.size u3 (cns ((l.take q).flatMap Cm.terms) ++ cns (TT.take j))) := hot
        have HB : Hid (Below w.heap.size w wr) := hb
        clear hot hb hty
        have ij : (0 : Int) ≤ (j : Int) := by omega
        have hjb : TT.length ≤ 3000000000000 := by have := HTL.out; omega
        by_cases hjl : j < TT.length
        · have k2 : (j : Int) < (TT.length : Int) := by omega
          obtain ⟨t, ht⟩ : ∃ z, TT[j]? = some z := ⟨_, List.getElem?_eq_getElem hjl⟩
          obtain ⟨tb, tq, rfl, hrw⟩ := HY.out.ts.get ht
          obtain ⟨c0, c1, c2⟩ := hrw.2 _ _ ht
          have hz := hrw.1
          have HCO : Hid (Calls Tryz.prog 39 #[t.v] wr fun e w' => e = .returned (.bool t.con) ∧ Below wr.heap.size wr w') := rcon_any t wr
          have HRW : Hid (TRow wr tb tq TT ∧ TT[j]? = some t) := ⟨hrw, ht⟩
          have HLN : Hid ((cns ((l.take q).flatMap Cm.terms) ++ cns (TT.take j)).length + 1 ≤ 3900000000000) := by
            have h1 := cns_len ((l.take q).flatMap Cm.terms)
            have h2 := cns_len (TT.take j)
            have h3 := HTL.out
            rw [List.length_take] at h2
            show _ ≤ _
            rw [List.length_append]; omega
          have htk : TT.take (j + 1) = TT.take j ++ [t] := by rw [List.take_add_one, ht]; rfl
          cases hcon : t.con with
          | true =>
            have HNX : Hid (cns ((l.take q).flatMap Cm.terms) ++ cns (TT.take (j + 1)) = (cns ((l.take q).flatMap Cm.terms) ++ cns (TT.take j)) ++ [t]) := by show _ = _; rw [htk, cns_yes hcon, List.append_assoc]
            rw [hcon] at HCO
            clear hrw ht htk hcon
            obtain ⟨tk, tn, ts⟩ := t
            simp only at c0 c1 c2
            go_wp2_with (first
              | (go_at_call 39; refine HCO.out.mono ?_; rintro e w2 ⟨rfl, hb2⟩; obtain ⟨c0, c1, c2⟩ := (HRW.out.1.later hb2).2 _ _ HRW.out.2; have hz2 := (HRW.out.1.later hb2).1; have HB2 : Hid (Below w.heap.size w w2) := below_step HB.out hb2; have HO3 : Hid (OwnT w2 w.heap.size u3 (cns ((l.take q).flatMap Cm.terms) ++ cns (TT.take j))) := HOT.out.later hb2; have HY2 : Hid (TS9 w2 u3 (.slice (some ⟨tb, tq, none⟩) TT.length yc) TT) := HY.out.later hb2; clear hb2 HCO; simp only at c0 c1 c2)
              | (at_builtin; refine tapp_one rfl _ _ rfl w.heap.size u3 _ (by rfl) (HO3.out.later (below1 _ _)) w2.heap.size ⟨tk, tn, ts⟩ (by rfl) (CBlk.new _ _ _) (by have := HLN.out; omega) (by have h2 := HB2.out.size; simp; omega) ?_; intro v4 w4 hown hb4 hg4 ha4; have HO4 : Hid (OwnT w4 w.heap.size v4 (cns ((l.take q).flatMap Cm.terms) ++ cns (TT.take (j + 1)))) := (by rw [HNX.out]; exact hown); have HB4 : Hid (Below w.heap.size w w4) := (below_step HB2.out (below1 _ _)).trans hb4; have HY4 : Hid (TS9 w4 v4 (.slice (some ⟨tb, tq, none⟩) TT.length yc) TT) := (HY2.out.later (below1 _ _)).add hg4 ha4; clear hown hb4 hg4 ha4))
            go_roundg (gk - 1)
            case measure => omega
            case rel => exact ⟨j + 1, by omega, by go_num, HO4.out, HY4.out, HB4.out⟩
          | false =>
            have HNX : Hid (cns ((l.take q).flatMap Cm.terms) ++ cns (TT.take (j + 1)) = cns ((l.take q).flatMap Cm.terms) ++ cns (TT.take j)) := by show _ = _; rw [htk, cns_no hcon]
            rw [hcon] at HCO
            clear hrw ht htk hcon
            obtain ⟨tk, tn, ts⟩ := t
            simp only at c0 c1 c2
            go_wp2_with (go_at_call 39; refine HCO.out.mono ?_; rintro e w2 ⟨rfl, hb2⟩; have HB2 : Hid (Below w.heap.size w w2) := below_step HB.out hb2; have HO3 : Hid (OwnT w2 w.heap.size u3 (cns ((l.take q).flatMap Cm.terms) ++ cns (TT.take (j + 1)))) := (by rw [HNX.out]; exact HOT.out.later hb2); have HY2 : Hid (TS9 w2 u3 (.slice (some ⟨tb, tq, none⟩) TT.length yc) TT) := HY.out.later hb2; clear hb2 HCO)
            go_roundg (gk - 1)
            case measure => omega
            case rel => exact ⟨j + 1, by omega, by go_num, HO3.out, HY2.out, HB2.out⟩
        · have k2 : ¬ (j : Int) < (TT.length : Int) := by omega
          obtain rfl : j = TT.length := by omega
          have HO5 : Hid (OwnT wr w.heap.size u3 (cns ((l.take (q + 1)).flatMap Cm.terms))) := by
            have := HOT.out
            rw [List.take_length, ← cns_app, ← HTT.out] at this
            exact this
          obtain ⟨hq1, hq2⟩ := HQ.out
          go_wp2
          go_roundg G
          case measure => omega
          case rel => exact ⟨q + 1, by have := HQ.out; omega, by go_num, HO5.out, HB.out⟩
    · have k1 : ¬ (q : Int) < (l.length : Int) := by omega
      obtain rfl : q = l.length := by omega
      rw [List.take_length] at HOT
      have HSR : Hid (Calls Tryz.prog 40 #[u3] wr (RTS wr (cns (l.flatMap Cm.terms)))) := rsorted_any _ _ u3 wr (Nat.le_refl _) HOT.out.tsP (ownT_cap9 HOT.out) HZ.out (Nat.le_trans (cns_len _) HL.out)
      go_wp2_with (go_at_call 40; refine HSR.out.mono ?_; rintro e w2 ⟨v2, o2, rfl, h1, h2, h3, h4⟩; have HF : Hid (RTS w (cns (l.flatMap Cm.terms)) (.returned v2) w2) := rts_mk (h1.mono HB.out.size) h2 h3 (below_step HB.out h4); clear h1 h2 h3 h4)
      go_ret
      exact HF.out
end Go.Proofs.YtdfgijdededolabGreatDoor
/-
  Bound, and ref's Bound.
-/
namespace Go.Proofs.YtdfgijdededolabGreatDoor
open Go.RowKit
attribute [local go_sem ↓] Go.wp_at_zero Go.wp_at_succ

/-- The greatest arity. -/
def mxa (P : List Pd) : Nat := P.foldl (fun a p => max a p.ar.toNat) 0
theorem mxa_snoc (P : List Pd) (p : Pd) : mxa (P ++ [p]) = max (mxa P) p.ar.toNat := by simp [mxa]
theorem mxa_take {P : List Pd} {j : Nat} {p : Pd} {n : Nat} (h : P[j]? = some p) (hn : p.ar = (n : Int)) : mxa (P.take (j + 1)) = max (mxa (P.take j)) n := by
  rw [List.take_add_one, h, Option.toList, mxa_snoc, hn]; simp
def BPost (w : World) (L : List Pd) (C : List Tm) (e : Ending) (w' : World) : Prop := ∃ P K, e = .returned (.int .i64 (bnd P.length K.length (mxa P) : Nat)) ∧ RiseOf cmpP P L ∧ RiseOf Tm.cmp K C ∧ Below w.heap.size w w'
theorem bpost_mk {w w' : World} {L P : List Pd} {C K : List Tm} {R : Nat} (hR : bnd P.length K.length (mxa P) = R) (h2 : RiseOf cmpP P L) (h3 : RiseOf Tm.cmp K C) (h4 : Below w.heap.size w w') : BPost w L C (.returned (.int .i64 (R : Int))) w' := ⟨P, K, by rw [hR], h2, h3, h4⟩
set_option maxRecDepth 20000 in
set_option maxHeartbeats 4000000 in
theorem bound9_any (l : List Cm) (v : Value) (w : World) (h : CsP w v l) (hk : ∀ t ∈ cns (l.flatMap Cm.terms), KeyT t) (hl : (l.flatMap Cm.terms).length ≤ 3000000000000) (hkp : ∀ t ∈ l.flatMap Cm.pds, KeyP t) (hlp : (l.flatMap Cm.pds).length ≤ 3000000000000) (hll : l.length ≤ 1000000000000) (har : ∀ p ∈ l.flatMap Cm.pds, ∃ n : Nat, p.ar = (n : Int) ∧ n ≤ 3000000000000) :
    Calls Tryz.prog 9 #[v] w (BPost w (l.flatMap Cm.pds) (cns (l.flatMap Cm.terms))) := by
  have HPR : Hid (∀ Y : World, Below w.heap.size w Y → Calls Tryz.prog 8 #[v] Y fun e w' => ∃ v' K, e = .returned v' ∧ OwnP w' Y.heap.size v' K ∧ RiseOf cmpP K (l.flatMap Cm.pds) ∧ K.length ≤ (l.flatMap Cm.pds).length ∧ Below Y.heap.size Y w') := fun Y hY => preds9_any l v Y (h.later hY) hkp hlp hll
  have HCO : Hid (∀ Y : World, Below w.heap.size w Y → Calls Tryz.prog 7 #[v] Y fun e w' => ∃ v' K, e = .returned v' ∧ OwnT w' Y.heap.size v' K ∧ RiseOf Tm.cmp K (cns (l.flatMap Cm.terms)) ∧ K.length ≤ (cns (l.flatMap Cm.terms)).length ∧ Below Y.heap.size Y w') := fun Y hY => consts9_any l v Y (h.later hY) hk hl hll
  have HCL : Hid ((cns (l.flatMap Cm.terms)).length ≤ 3000000000000) := Nat.le_trans (cns_len _) hl
  have HPL : Hid ((l.flatMap Cm.pds).length ≤ 3000000000000) := hlp
  have HAR : Hid (∀ p ∈ l.flatMap Cm.pds, ∃ n : Nat, p.ar = (n : Int) ∧ n ≤ 3000000000000) := har
  obtain ⟨L, hL⟩ : ∃ L, l.flatMap Cm.pds = L := ⟨_, rfl⟩
  obtain ⟨C, hC⟩ : ∃ C, cns (l.flatMap Cm.terms) = C := ⟨_, rfl⟩
  obtain ⟨va, vc, rfl⟩ := h.form
  rw [hL] at HPR HPL HAR
  rw [hC] at HCO HCL
  rw [hL, hC]
  clear h hk hl hkp hlp hll har hL hC
  go_enter Tryz.func9, Tryz.ntmps9
  go_wp2_with (go_at_call 8; refine (HPR.out _ (Below.refl _ _)).mono ?_; rintro e w1 ⟨v1, P, rfl, ho1, hr1, hl1, hb1⟩; have HO1 : Hid (PsP w1 v1 P) := ho1.tsP; obtain ⟨pa, pc, rfl⟩ := ho1.tsP.form; have HR1 : Hid (RiseOf cmpP P L) := hr1; have HL1 : Hid (P.length ≤ 3000000000000) := Nat.le_trans hl1 HPL.out; have HB1 : Hid (Below w.heap.size w w1) := hb1; clear ho1 hr1 hl1 hb1)
  have hpl : P.length ≤ 3000000000000 := HL1.out
  have HAP : Hid (∀ p ∈ P, ∃ n : Nat, p.ar = (n : Int) ∧ n ≤ 3000000000000) := fun p hp => HAR.out p ((HR1.out.mem p).1 hp)
  go_loopg [4, 11] P.length (fun g a i wr => ∃ (j A : Nat), j + g = P.length ∧ i = .int .i64 (j : Int) ∧ a = .int .i64 (A : Int) ∧ A = mxa (P.take j) ∧ A ≤ 3000000000000 ∧ Below w1.heap.size w1 wr)
  case atStart => exact ⟨0, 0, by omega, rfl, rfl, rfl, by omega, Below.refl _ _⟩
  case round =>
    obtain ⟨j, A, hg, rfl, rfl, hA, hAb, hb⟩ := hrel
    have HA : Hid (A = mxa (P.take j)) := hA
    have HB : Hid (Below w1.heap.size w1 wr) := hb
    clear hA hb
    have ij : (0 : Int) ≤ (j : Int) := by omega
    by_cases hjl : j < P.length
    · have k1 : (j : Int) < (P.length : Int) := by omega
      obtain ⟨p, hp⟩ : ∃ z, P[j]? = some z := ⟨_, List.getElem?_eq_getElem hjl⟩
      obtain ⟨n, hn, hnb⟩ := HAP.out p (List.mem_of_getElem? hp)
      have HN : Hid (max A n = mxa (P.take (j + 1))) := by show _ = _; rw [mxa_take hp hn, ← HA.out]
      obtain ⟨b, o, rfl, hrw⟩ := (HO1.out.later HB.out).get hp
      obtain ⟨c0, c1⟩ := hrw.2 _ _ hp
      have hz := hrw.1
      clear hp hrw
      obtain ⟨ps, pn⟩ := p
      simp only at hn c0 c1
      subst hn
      obtain ⟨A2, hA2⟩ : ∃ A2, max A n = A2 := ⟨_, rfl⟩
      have hmi : max (A : Int) (n : Int) = (A2 : Int) := by omega
      have hA2b : A2 ≤ 3000000000000 := by omega
      rw [hA2] at HN
      clear hA2
      go_wp2
      go_roundg (gk - 1)
      case measure => omega
      case rel => exact ⟨j + 1, A2, by omega, by go_num, by go_num, HN.out, hA2b, below_step HB.out (below1 _ _)⟩
    · have k1 : ¬ (j : Int) < (P.length : Int) := by omega
      obtain rfl : j = P.length := by omega
      have HA9 : Hid (A = mxa P) := by have := HA.out; rw [List.take_length] at this; exact this
      go_wp2_with (first
        | (go_at_call 7; refine (HCO.out _ (below_step HB1.out HB.out)).mono ?_; rintro e w2 ⟨v2, K, rfl, ho2, hr2, hl2, hb2⟩; obtain ⟨ka, kc, rfl⟩ := ho2.tsP.form7; have HR2 : Hid (RiseOf Tm.cmp K C) := hr2; have hkl : K.length ≤ 3000000000000 := Nat.le_trans hl2 HCL.out; have HB2 : Hid (Below w.heap.size w w2) := below_step (below_step HB1.out HB.out) hb2; clear ho2 hr2 hl2 hb2)
        | (go_at_call 37; refine (boundOf_any P.length K.length A w2 hpl hkl hAb).mono ?_; rintro e w3 ⟨rfl, hb3⟩; have HB3 : Hid (Below w.heap.size w w3) := below_step HB2.out hb3; clear hb3))
      go_ret
      exact bpost_mk (by rw [← HA9.out]) HR1.out HR2.out HB3.out
end Go.Proofs.YtdfgijdededolabGreatDoor
