import Derived.Test.YtdfgijdededolabGreatDoorOQ1
import Derived.Test.YtdfgijdededolabGreatDoorCN14
import Derived.Test.YtdfgijdededolabGreatDoorCN11
/-
  What the reference's Check answers is what Check answers (plain); lists of atoms, of terms appended.
-/
namespace Go.Proofs.YtdfgijdededolabGreatDoor
open Go.RowKit

theorem err_vals (a : At) : a.err = 0 ∨ a.err = 21 ∨ a.err = 22 ∨ a.err = 23 ∨ a.err = 24 := by
  unfold At.err; split
  · exact Or.inr (Or.inl rfl)
  · split
    · exact Or.inr (Or.inr (Or.inl rfl))
    · split
      · exact Or.inr (Or.inr (Or.inr (Or.inl rfl)))
      · split
        · exact Or.inl rfl
        · exact Or.inr (Or.inr (Or.inr (Or.inr rfl)))
theorem aErr_vals : ∀ l : List (At × Value), aErr l = 0 ∨ aErr l = 21 ∨ aErr l = 22 ∨ aErr l = 23 ∨ aErr l = 24
  | [] => Or.inl rfl
  | x :: l => by
    unfold aErr
    split
    · exact aErr_vals l
    · exact err_vals x.1
theorem chk_1 {c : Cm} (h : long c = true) : c.chk = 31 := by simp [Cm.chk, Cm.rs, chkL, h]
theorem chk_2 {c : Cm} (h : long c = false) (h2 : aErr c.atoms ≠ 0) : c.chk = aErr c.atoms := by
  rcases aErr_vals c.atoms with e | e | e | e | e
  · exact absurd e h2
  all_goals simp [Cm.chk, Cm.rs, chkL, h, e]
theorem chk_3 {c : Cm} (h : long c = false) (h2 : aErr c.atoms = 0) (h3 : badT c = true) : c.chk = 32 := by simp [Cm.chk, Cm.rs, chkL, h, h2, h3]
theorem chk_4 {c : Cm} (h : long c = false) (h2 : aErr c.atoms = 0) (h3 : badT c = false) (h4 : c.head.1.by_.var = true) : c.chk = 33 := by simp [Cm.chk, Cm.rs, chkL, h, h2, h3, h4]
theorem chk_5 {c : Cm} (h : long c = false) (h2 : aErr c.atoms = 0) (h3 : badT c = false) (h4 : c.head.1.by_.var = false) (h5 : unb c = true) : c.chk = 34 := by simp [Cm.chk, Cm.rs, chkL, h, h2, h3, h4, h5]
theorem chk_6 {c : Cm} (h : long c = false) (h2 : aErr c.atoms = 0) (h3 : badT c = false) (h4 : c.head.1.by_.var = false) (h5 : unb c = false) (h6 : mis 0 c.vars = true) : c.chk = 35 := by simp [Cm.chk, Cm.rs, chkL, h, h2, h3, h4, h5, h6]
theorem chk_7 {c : Cm} (h : long c = false) (h2 : aErr c.atoms = 0) (h3 : badT c = false) (h4 : c.head.1.by_.var = false) (h5 : unb c = false) (h6 : mis 0 c.vars = false) : c.chk = 0 := by simp [Cm.chk, Cm.rs, chkL, h, h2, h3, h4, h5, h6]
theorem aErr_all : ∀ {l : List (At × Value)}, aErr l = 0 → ∀ x ∈ l, x.1.err = 0
  | [], _, x, hx => by cases hx
  | y :: l, h, x, hx => by
    unfold aErr at h
    by_cases e : y.1.err = 0
    · rw [if_pos e] at h
      rcases List.mem_cons.1 hx with rfl | hx
      · exact e
      · exact aErr_all h x hx
    · rw [if_neg e] at h; exact absurd h e
theorem aErr_drop {l : List (At × Value)} {j : Nat} {x : At × Value} (h : l[j]? = some x) (he : x.1.err = 0) : aErr (l.drop j) = aErr (l.drop (j + 1)) := by
  obtain ⟨hj, rfl⟩ := List.getElem?_eq_some_iff.1 h
  rw [List.drop_eq_getElem_cons hj, aErr, if_pos he]
theorem aErr_hit2 {l : List (At × Value)} {j : Nat} {x : At × Value} (h : l[j]? = some x) (he : x.1.err ≠ 0) : aErr (l.drop j) = x.1.err := by
  obtain ⟨hj, rfl⟩ := List.getElem?_eq_some_iff.1 h
  rw [List.drop_eq_getElem_cons hj, aErr, if_neg he]
theorem any_drop {l : List Te} {j : Nat} {x : Te} (h : l[j]? = some x) (he : x.ok = true) : (l.drop j).any (fun t => !t.ok) = (l.drop (j + 1)).any (fun t => !t.ok) := by
  obtain ⟨hj, rfl⟩ := List.getElem?_eq_some_iff.1 h
  rw [List.drop_eq_getElem_cons hj, List.any_cons, he]; rfl
theorem any_hit {l : List Te} {j : Nat} {x : Te} (h : l[j]? = some x) (he : x.ok = false) : l.any (fun t => !t.ok) = true := by
  rw [List.any_eq_true]; exact ⟨x, List.mem_of_getElem? h, by rw [he]; rfl⟩
theorem head_kind {a : At} (h : a.err = 0) : (a.by_.var = true ↔ a.by_.k = 3) := by
  have hq := (err_zero' h).2.2.1
  constructor
  · intro hv; simp only [Tm.var, decide_eq_true_eq] at hv; exact hv.1
  · intro hk
    cases hv : a.by_.var
    · exact absurd hk (qual_k hq hv)
    · rfl
theorem var_in {t : Tm} (hv : t.var = true) (L : List Tm) : t.n ∈ vrs L ↔ t ∈ L := by
  constructor
  · intro h
    obtain ⟨u, hu, e⟩ := List.mem_map.1 h
    obtain ⟨hu, hvu⟩ := List.mem_filter.1 hu
    rw [var_eqQ hv, ← e, ← var_eqQ hvu]; exact hu
  · intro h; exact List.mem_map.2 ⟨t, List.mem_filter.2 ⟨h, hv⟩, rfl⟩
theorem unb_ref {c : Cm} : unb c = true ↔ ∃ t ∈ disT (c.head.1.pl ++ tls c.tests), ¬ t ∈ flt c.body := by
  have e3 : c.key.2.1.flatMap At.pl = flt c.body := by simp [flt, Cm.key, fsts, List.flatMap_map]
  have e4 : c.key.1.pl ++ tls c.key.2.2 = c.head.1.pl ++ tls c.tests := rfl
  rw [unb_key, e3, e4, List.any_eq_true]
  constructor
  · rintro ⟨v, hv, hn⟩
    obtain ⟨t, ht, rfl⟩ := List.mem_map.1 hv
    obtain ⟨ht, hvt⟩ := List.mem_filter.1 ht
    refine ⟨t, disT_mem.2 ⟨ht, hvt⟩, fun hm => ?_⟩
    rw [decide_eq_true ((var_in hvt _).2 hm)] at hn; simp at hn
  · rintro ⟨t, ht, hn⟩
    obtain ⟨ht, hvt⟩ := disT_mem.1 ht
    refine ⟨t.n, List.mem_map.2 ⟨t, List.mem_filter.2 ⟨ht, hvt⟩, rfl⟩, ?_⟩
    rw [decide_eq_false fun hm => hn ((var_in hvt _).1 hm)]; rfl
theorem mis_ref {L : List Tm} : mis 0 (vrs L) = false ↔ ∀ (i : Nat) (t : Tm), (disT L)[i]? = some t → t.n = i := by
  constructor
  · intro hm i t ht
    obtain ⟨m, -, h2, -⟩ := mis_ints (vrs L) 0 (fun v hv => by
      obtain ⟨u, hu, rfl⟩ := List.mem_map.1 hv
      exact var_nn (List.mem_filter.1 hu).2) hm
    have hn : (disT L).map (·.n) = ints m := (disT_n L).trans h2
    have h3 := congrArg (fun l => l[i]?) hn
    simp only [List.getElem?_map, ht, Option.map_some] at h3
    have hlt : i < m := by
      have := (List.getElem?_eq_some_iff.1 ht).1
      have h4 := congrArg List.length hn
      rw [List.length_map, ints_len] at h4; omega
    simp [ints, hlt] at h3
    exact h3
  · intro h
    have e : vrs L = (L.filter Tm.var).map fun t => ((ix ((L.filter Tm.var).foldl dstepT []) t : Nat) : Int) := by
      unfold vrs
      refine List.map_congr_left fun t ht => ?_
      have hm : t ∈ disT L := disT_mem.2 (List.mem_filter.1 ht)
      have := h _ t (ix_get hm)
      rw [this]; rfl
    rw [e]
    exact mis_idx _ []
/-- A list of atoms appended to one that was just made. -/
def AsP (w : World) (v : Value) (l : List (At × Value)) : Prop := (v = .slice none 0 0 ∧ l = []) ∨ ∃ ad cap, v = .slice (some ad) l.length cap ∧ (l = [] ∨ ∃ b o, ad = ⟨b, o, none⟩ ∧ ARow w b o l)
theorem AsP.later {w w' : World} {v : Value} {l : List (At × Value)} (h : AsP w v l) (hb : Below w.heap.size w w') : AsP w' v l := by
  rcases h with h | ⟨ad, cap, h1, h2⟩
  · exact Or.inl h
  · refine Or.inr ⟨ad, cap, h1, ?_⟩
    rcases h2 with h2 | ⟨b, o, h2, h3⟩
    · exact Or.inl h2
    · exact Or.inr ⟨b, o, h2, h3.later hb⟩
theorem arow_get {w : World} {b o : Nat} {l : List (At × Value)} (h : ARow w b o l) : ∀ j u, (acs l)[j]? = some u → w.cell? ((⟨b, o, none⟩ : Addr).add j) = some u := fun j u hu => by
  have hj := (List.getElem?_eq_some_iff.1 hu).1
  rw [acs_len] at hj
  have h1 : j / 5 < l.length := by omega
  obtain ⟨d, hd⟩ : ∃ d, l[j / 5]? = some d := ⟨_, List.getElem?_eq_getElem h1⟩
  have hg := acs_get l (j / 5) d hd (j % 5) (by omega)
  have e : j / 5 * 5 + j % 5 = j := by omega
  rw [e, hu] at hg
  have hc := h.2 _ d hd
  rw [Go.WideShapes.add_plain]
  have ea : o + j = o + j / 5 * 5 + j % 5 := by omega
  rw [ea]
  have h4 : j % 5 = 0 ∨ j % 5 = 1 ∨ j % 5 = 2 ∨ j % 5 = 3 ∨ j % 5 = 4 := by omega
  rcases h4 with e | e | e | e | e <;> rw [e] at hg ⊢ <;> simp [acell] at hg <;> subst hg
  · exact hc.1
  · exact hc.2.1
  · exact hc.2.2.1
  · exact hc.2.2.2.1
  · exact hc.2.2.2.2
theorem ownA_one {w : World} {b base : Nat} {y : At × Value} (h : CBlk w b (acell y).toArray 37) (hb : base ≤ b) : OwnA w base (.slice (some ⟨b, 0, none⟩) 1 1) [y] := by
  refine ⟨by simp [acs, acell], Or.inr ⟨_, 1, (acell y).toArray, rfl, hb, h, Nat.le_refl _, by unfold maxLen; omega, by simp [acell], by simp [acs, acell]⟩⟩
theorem aapp_list {ops : Array Oper} {rest : List Oper} {o : Oper} {a : Act} {Q : Exit → Act → World → Prop} {w : World} (hgd : o.guard = none) (s x : Operand)
    (ho : o.op = .call { callee := .builtin .append, args := #[s, x], argTypes := #[38, 38] }) (base : Nat) (v : Value) (l : List (At × Value)) (hs : a.eval s = v) (hown : OwnA w base v l)
    (y : Value) (m : List (At × Value)) (hx : a.eval x = y) (hy : AsP w y m) (h1c : ∀ z ∈ m, ∀ u ∈ acell z, u.oneCell' = true) (hlen : l.length + m.length ≤ 1800000000000) (hbase : base ≤ w.heap.size)
    (h : ∀ v' w', OwnA w' base v' (l ++ m) → Below base w w' → wpList Tryz.prog ops Q rest (a.put o.dst v') w') : wpList Tryz.prog ops Q (o :: rest) a w := by
  obtain ⟨i0, hi0, hz0, hz1, hz2⟩ := info_parts Tryz.infoAtom
  rcases hy with ⟨rfl, rfl⟩ | ⟨ad, cap, rfl, hm⟩
  · refine wpList_append_own_none hgd s x 38 ho base 37 i0 5 Tryz.underlying38 hi0 v l.length (acs l) hs hown hx ?_
    exact h v w (by rw [List.append_nil]; exact hown) (Below.refl _ _)
  · refine wpList_append_own _ hgd s x 38 ho base 37 i0 _ 5 72 Tryz.underlying38 hi0 hz0 hz1 hz2 rfl (by omega) v l.length (acs l) hs hown ad m.length cap (acs m) hx (acs_len m) ?_ (fun u hu => by obtain ⟨z, hz, hu⟩ := List.mem_flatMap.1 hu; exact h1c z hz u hu) (by unfold maxLen; omega) (by omega) hbase ?_
    · rcases hm with rfl | ⟨b, o', rfl, hm⟩
      · intro j u hu; simp [acs] at hu
      · exact arow_get hm
    · intro v' w' h1 h2 _
      refine h v' w' ?_ (grown_below3 h2 (fun k hk => (World.ownsRow.lt hown k hk).1) hbase)
      unfold OwnA
      rw [List.length_append, acs_app]
      exact h1
/-- One atom of a list, one test of a list. -/
theorem As.get_ {w : World} {a : Option Addr} {n cap j : Nat} {l : List (At × Value)} (h : As w (.slice a n cap) l) (hj : j < n) :
    ∃ (b o : Nat) (t : At × Value), a = some ⟨b, o, none⟩ ∧ l[j]? = some t ∧ b < w.heap.size ∧ (w.cell? ⟨b, o + j * 5, none⟩ = some (.int .i64 t.1.by_.k) ∧ w.cell? ⟨b, o + j * 5 + 1, none⟩ = some (.int .i64 t.1.by_.n) ∧ w.cell? ⟨b, o + j * 5 + 2, none⟩ = some (.string t.1.by_.s) ∧ w.cell? ⟨b, o + j * 5 + 3, none⟩ = some (.string t.1.name) ∧ w.cell? ⟨b, o + j * 5 + 4, none⟩ = some t.2) ∧ Ts w t.2 t.1.args := by
  obtain ⟨a', cap', e, hl, hm, ht⟩ := h
  simp only [Value.slice.injEq] at e
  obtain ⟨rfl, rfl, rfl⟩ := e
  obtain ⟨t, htj⟩ : ∃ t, l[j]? = some t := ⟨_, List.getElem?_eq_getElem hj⟩
  rcases hm with rfl | ⟨b, o, rfl, hr⟩
  · simp at hj
  · exact ⟨b, o, t, rfl, htj, hr.1, hr.2 j t htj, ht t (List.mem_of_getElem? htj)⟩
theorem Es.get_ {w : World} {a : Option Addr} {n cap j : Nat} {l : List Te} (h : Es w (.slice a n cap) l) (hj : j < n) :
    ∃ (b o : Nat) (t : Te), a = some ⟨b, o, none⟩ ∧ l[j]? = some t ∧ b < w.heap.size ∧ w.cell? ⟨b, o + j * 7, none⟩ = some (.int .i64 t.op) ∧ w.cell? ⟨b, o + j * 7 + 1, none⟩ = some (.int .i64 t.l.k) ∧ w.cell? ⟨b, o + j * 7 + 2, none⟩ = some (.int .i64 t.l.n) ∧ w.cell? ⟨b, o + j * 7 + 3, none⟩ = some (.string t.l.s) ∧ w.cell? ⟨b, o + j * 7 + 4, none⟩ = some (.int .i64 t.r.k) ∧ w.cell? ⟨b, o + j * 7 + 5, none⟩ = some (.int .i64 t.r.n) ∧ w.cell? ⟨b, o + j * 7 + 6, none⟩ = some (.string t.r.s) := by
  obtain ⟨a', cap', e, hl, hm⟩ := h
  simp only [Value.slice.injEq] at e
  obtain ⟨rfl, rfl, rfl⟩ := e
  obtain ⟨t, htj⟩ : ∃ t, l[j]? = some t := ⟨_, List.getElem?_eq_getElem hj⟩
  rcases hm with rfl | ⟨b, o, rfl, hr⟩
  · simp at hj
  · exact ⟨b, o, t, rfl, htj, hr.1, hr.2 j t htj⟩
/-- A list of terms appended, where the order is drawn. -/
theorem stepT_list {ops : Array Oper} {o : Oper} {a : Act} {K : Act → World → Prop} {Q : Exit → Act → World → Prop} {E : Prop} {w : World} (hgd : o.guard = none) (s x : Operand)
    (ho : o.op = .call { callee := .builtin .append, args := #[s, x], argTypes := #[24, 24] }) (base : Nat) (v : Value) (l : List Tm) (hs : a.eval s = v) (hown : OwnT w base v l)
    (y : Value) (m : List Tm) (hx : a.eval x = y) (hy : TsP w y m) (hlen : l.length + m.length ≤ 4000000000000) (hbase : base ≤ w.heap.size)
    (h : ∀ v' w', OwnT w' base v' (l ++ m) → Below base w w' → K (a.put o.dst v') w') : if Region.wanted o (yielded ops a.tmps) = true then Oper.wp Tryz.prog o a w K Q else E := by
  have hw : Region.wanted o (yielded ops a.tmps) = true := by simp [Region.wanted, hgd]
  rw [if_pos hw]
  obtain ⟨i0, hi0, hz0, hz1, hz2⟩ := info_parts Tryz.infoTerm
  rcases hy with ⟨rfl, rfl⟩ | ⟨ad, cap, rfl, hm⟩
  · have hrun := run_append_owned_none (P := Tryz.prog) (w := w) base 24 o.type 35 i0 3 Tryz.underlying24 hi0 v l.length (tcs l) hown
    unfold Oper.wp
    simp [execOp, ho, resolve, invoke, builtin, hs, hx, hrun, Result.andThen]
    exact h v w (by rw [List.append_nil]; exact hown) (Below.refl _ _)
  · refine wp_append_own w s x 24 ho base 35 i0 _ 3 32 Tryz.underlying24 hi0 hz0 hz1 hz2 rfl (by omega) v l.length (tcs l) hs hown ad m.length cap (tcs m) hx (tcs_len m) ?_ (fun u hu => tcs_mem hu) (by unfold maxLen; omega) (by omega) hbase ?_
    · rcases hm with rfl | ⟨b, o', rfl, hm⟩
      · intro j u hu; simp [tcs] at hu
      · exact trow_get hm
    · intro v' w' h1 h2 _
      refine h v' w' ?_ (grown_below3 h2 (fun k hk => (World.ownsRow.lt hown k hk).1) hbase)
      unfold OwnT
      rw [List.length_append, tcs_app]
      exact h1
end Go.Proofs.YtdfgijdededolabGreatDoor
/-
  ref's Preds. (Written by CN15.py.)
-/
namespace Go.Proofs.YtdfgijdededolabGreatDoor
open Go.RowKit

theorem insert_any (l : List Pd) (v : Value) (p : Pd) (w : World) (B : Nat) (h : OwnP w B v l) (hr : l.Pairwise (ltG cmpP)) (hl : l.length ≤ 3000000000000) (hB : B ≤ w.heap.size) : Calls Tryz.prog 41 #[v, p.v] w (INS w B l p) := by
  rcases ownP_form h with ⟨rfl, rfl⟩ | ⟨g, cap, rfl, hc⟩
  · exact insert_nil p w B hB
  · exact insert_some l g cap p w B h hr hc hl hB
theorem RiseOf.congr {α : Type} {f : α → α → Int} {K l m : List α} (h : RiseOf f K l) (hm : ∀ x, x ∈ l ↔ x ∈ m) : RiseOf f K m := ⟨h.rise, fun x => by rw [h.mem, hm]⟩
theorem RiseOf.snoc {α : Type} {f : α → α → Int} {K K1 l : List α} {p : α} (h : RiseOf f K l) (h1 : RiseOf f K1 (K ++ [p])) : RiseOf f K1 (l ++ [p]) := h1.congr fun x => by rw [List.mem_append, List.mem_append, h.mem]
theorem cm_pds (h : At × Value) (b : List (At × Value)) (v : Value) (t : List Te) (u : Value) : Cm.pds ⟨h, b, v, t, u⟩ = pdA h :: pds b := rfl
def PPost (w : World) (L : List Pd) (e : Ending) (w' : World) : Prop := ∃ v' K, e = .returned v' ∧ OwnP w' w.heap.size v' K ∧ RiseOf cmpP K L ∧ K.length ≤ L.length ∧ Below w.heap.size w w'
theorem ppost_mk {w w' : World} {L K : List Pd} {v' : Value} (h1 : OwnP w' w.heap.size v' K) (h2 : RiseOf cmpP K L) (h3 : K.length ≤ L.length) (h4 : Below w.heap.size w w') : PPost w L (.returned v') w' := ⟨v', K, rfl, h1, h2, h3, h4⟩
set_option maxRecDepth 20000 in
set_option maxHeartbeats 8000000 in
theorem rpreds_any (l : List Cm) (v : Value) (w : World) (h : CsP w v l) (hl : (l.flatMap Cm.pds).length ≤ 3000000000000) (hll : l.length ≤ 1000000000000) :
    Calls Tryz.prog 13 #[v] w (PPost w (l.flatMap Cm.pds)) := by
  have HP : Hid (CsP w v l) := h
  have HL : Hid ((l.flatMap Cm.pds).length ≤ 3000000000000) := hl
  obtain ⟨va, vc, rfl⟩ := h.form
  clear h hl
  go_enter Tryz.func13, Tryz.ntmps13
  go_wp2
  go_loopg [3, 4] l.length (fun g u i wr => ∃ (q : Nat) (K : List Pd), q + g = l.length ∧ i = .int .i64 (q : Int) ∧ OwnP wr w.heap.size u K ∧ RiseOf cmpP K ((l.take q).flatMap Cm.pds) ∧ K.length ≤ ((l.take q).flatMap Cm.pds).length ∧ Below w.heap.size w wr)
  case atStart => exact ⟨0, [], by omega, rfl, ownP_nil _ _, RiseOf.nil, by simp, Below.refl _ _⟩
  case round =>
    obtain ⟨q, K0, hg, rfl, hot, hrs, hkl, hb⟩ := hrel
    have HOT : Hid (OwnP wr w.heap.size u3 K0) := hot
    have HRS : Hid (RiseOf cmpP K0 ((l.take q).flatMap Cm.pds)) := hrs
    have HKL : Hid (K0.length ≤ ((l.take q).flatMap Cm.pds).length) := hkl
    have HB : Hid (Below w.heap.size w wr) := hb
    clear hot hrs hkl hb
    have iq : (0 : Int) ≤ (q : Int) := by omega
    by_cases hql : q < l.length
    · have k1 : (q : Int) < (l.length : Int) := by omega
      obtain ⟨G, rfl⟩ : ∃ G, gk = G + 1 := ⟨gk - 1, by omega⟩
      obtain ⟨c, hc⟩ : ∃ z, l[q]? = some z := ⟨_, List.getElem?_eq_getElem hql⟩
      have HTL : Hid (((l.take q).flatMap Cm.pds).length + c.atoms.length ≤ 3000000000000) := Nat.le_trans (takeP_len hc) HL.out
      have HTT : Hid ((l.take (q + 1)).flatMap Cm.pds = (l.take q).flatMap Cm.pds ++ c.pds) := take_pds hc
      have hcm := List.mem_of_getElem? hc
      obtain ⟨sb, so, rfl, hrw⟩ := (HP.out.later HB.out).get hc
      have HSV0 : ∀ Y : World, Below w.heap.size w Y → (Y.cell? ⟨sb, so + q * 7 + 3, none⟩ = some (.string c.head.1.name) ∧ Y.cell? ⟨sb, so + q * 7 + 4, none⟩ = some c.head.2 ∧ Y.cell? ⟨sb, so + q * 7 + 5, none⟩ = some c.bv) := fun Y hY => by
        obtain ⟨b', o', e, hrw⟩ := (HP.out.later hY).get hc
        cases e
        obtain ⟨-, -, -, h3, h4, h5, -⟩ := hrw.seven hc
        exact ⟨h3, h4, h5⟩
      have HSZ : Hid (∀ Y : World, Below w.heap.size w Y → sb < Y.heap.size) := fun Y hY => by
        obtain ⟨b', o', e, hrw⟩ := (HP.out.later hY).get hc
        cases e
        exact hrw.1
      have HCK : Hid (∀ Y : World, Below w.heap.size w Y → c.ok Y) := fun Y hY => (HP.out.ok c hcm).later hY
      obtain ⟨⟨a, cap, hde, hdl, -⟩, ⟨a', cap', e2, -⟩, ⟨a'', cap'', e3, -⟩⟩ := HP.out.ok c hcm
      have hhl : c.head.1.args.length < 1000000000000000000 := hdl
      clear hc hcm hrw
      obtain ⟨⟨⟨⟨k, m, s⟩, nm, ls⟩, hx⟩, body, bv, tests, tv⟩ := c
      simp only at HSV0 hde e2 e3 hhl
      subst hde e2 e3
      obtain ⟨hn, hhn⟩ : ∃ n, ls.length = n := ⟨_, rfl⟩
      have HCP : Hid (Cm.pds ⟨(⟨⟨k, m, s⟩, nm, ls⟩, .slice a ls.length cap), body, .slice a' body.length cap', tests, .slice a'' tests.length cap''⟩ = ⟨nm, (hn : Int)⟩ :: pds body) := by
        show pdA _ :: pds body = _
        simp [pdA, hhn]
      have HSV : Hid (∀ Y : World, Below w.heap.size w Y → (Y.cell? ⟨sb, so + q * 7 + 3, none⟩ = some (.string nm) ∧ Y.cell? ⟨sb, so + q * 7 + 4, none⟩ = some (.slice a hn cap) ∧ Y.cell? ⟨sb, so + q * 7 + 5, none⟩ = some (.slice a' body.length cap'))) := by rw [← hhn]; exact HSV0
      have HI1 : Hid (∀ Y : World, Below wr.heap.size wr Y → Calls Tryz.prog 41 #[u3, .agg #[.string nm, .int .i64 (hn : Int)]] Y (INS Y w.heap.size K0 ⟨nm, (hn : Int)⟩)) := fun Y hY => insert_any K0 u3 ⟨nm, (hn : Int)⟩ Y w.heap.size (HOT.out.later hY) HRS.out.rise (by have h1 := HKL.out; have h2 := HTL.out; omega) (Nat.le_trans HB.out.size hY.size)
      have HTL2 : Hid (((l.take q).flatMap Cm.pds).length + (body.length + 1) ≤ 3000000000000) := HTL.out
      have HBD : Hid (∀ Y : World, Below w.heap.size w Y → As Y (.slice a' body.length cap') body) := fun Y hY => (HCK.out Y hY).b
      rw [HCP.out] at HTT
      clear HSV0 HCK HCP HTL hhl
      go_upto_region 5 with fail
      refine wp_region_held_drew (S := fun w' => Below wr.heap.size wr w') (by kernel_rfl) (Below.refl _ _).drew (fun hH => ?_)
      revert hH
      generalize wr.drew = V
      intro hH
      refine wpAnyH_take (i := 0) (oi := ⟨_, _, _, _, _, _⟩) (v := u3) rfl (by kernel_rfl) (by kernel_rfl) (by kernel_rfl) (fun _ _ _ h => h) (Or.inl ⟨by rfl, fun w' _ => by go_simp⟩) hH ?_
      simp only [Act.put, List.setIfInBounds_toArray, List.set_cons_zero, List.set_cons_succ]
      refine wpAnyH_take (i := 1) (oi := ⟨_, _, _, _, _, _⟩) (v := .slice (some ⟨sb, so, none⟩) l.length vc) rfl (by kernel_rfl) (by kernel_rfl) (by kernel_rfl) (fun _ _ _ h => h) (Or.inl ⟨by rfl, fun w' _ => by go_simp⟩) hH ?_
      simp only [Act.put, List.setIfInBounds_toArray, List.set_cons_zero, List.set_cons_succ]
      refine wpAnyH_take (i := 2) (oi := ⟨_, _, _, _, _, _⟩) (v := .int .i64 (q : Int)) rfl (by kernel_rfl) (by kernel_rfl) (by kernel_rfl) (fun _ _ _ h => h) (Or.inl ⟨by rfl, fun w' _ => by go_simp⟩) hH ?_
      simp only [Act.put, List.setIfInBounds_toArray, List.set_cons_zero, List.set_cons_succ]
      refine wpAnyH_take (i := 3) (oi := ⟨_, _, _, _, _, _⟩) (v := .pointer (some ⟨sb, so + q * 7, none⟩)) rfl (by kernel_rfl) (by kernel_rfl) (by kernel_rfl) (fun _ _ _ h => h) (Or.inl ⟨by rfl, fun w' _ => by go_simp⟩) hH ?_
      simp only [Act.put, List.setIfInBounds_toArray, List.set_cons_zero, List.set_cons_succ]
      refine wpAnyH_take (i := 4) (oi := ⟨_, _, _, _, _, _⟩) (v := .pointer (some ⟨sb, so + q * 7, none⟩)) rfl (by kernel_rfl) (by kernel_rfl) (by kernel_rfl) (fun _ _ _ h => h) (Or.inl ⟨by rfl, fun w' _ => by go_simp⟩) hH ?_
      simp only [Act.put, List.setIfInBounds_toArray, List.set_cons_zero, List.set_cons_succ]
      refine wpAnyH_take (i := 5) (oi := ⟨_, _, _, _, _, _⟩) (v := .pointer (some ⟨sb, so + q * 7 + 3, none⟩)) rfl (by kernel_rfl) (by kernel_rfl) (by kernel_rfl) (fun _ _ _ h => h) (Or.inl ⟨by rfl, fun w' _ => by go_simp⟩) hH ?_
      simp only [Act.put, List.setIfInBounds_toArray, List.set_cons_zero, List.set_cons_succ]
      refine wpAnyH_take (i := 6) (oi := ⟨_, _, _, _, _, _⟩) (v := .string nm) rfl (by kernel_rfl) (by kernel_rfl) (by kernel_rfl) (fun _ _ _ h => h) (Or.inl ⟨by rfl, fun w' h => by obtain ⟨y3, y4, y5⟩ := Hid.out HSV w' (below_step (Hid.out HB) h); have z := Hid.out HSZ w' (below_step (Hid.out HB) h); clear h; go_simp⟩) hH ?_
      simp only [Act.put, List.setIfInBounds_toArray, List.set_cons_zero, List.set_cons_succ]
      refine wpAnyH_take (i := 7) (oi := ⟨_, _, _, _, _, _⟩) (v := .slice (some ⟨sb, so, none⟩) l.length vc) rfl (by kernel_rfl) (by kernel_rfl) (by kernel_rfl) (fun _ _ _ h => h) (Or.inl ⟨by rfl, fun w' _ => by go_simp⟩) hH ?_
      simp only [Act.put, List.setIfInBounds_toArray, List.set_cons_zero, List.set_cons_succ]
      refine wpAnyH_take (i := 8) (oi := ⟨_, _, _, _, _, _⟩) (v := .int .i64 (q : Int)) rfl (by kernel_rfl) (by kernel_rfl) (by kernel_rfl) (fun _ _ _ h => h) (Or.inl ⟨by rfl, fun w' _ => by go_simp⟩) hH ?_
      simp only [Act.put, List.setIfInBounds_toArray, List.set_cons_zero, List.set_cons_succ]
      refine wpAnyH_take (i := 9) (oi := ⟨_, _, _, _, _, _⟩) (v := .pointer (some ⟨sb, so + q * 7, none⟩)) rfl (by kernel_rfl) (by kernel_rfl) (by kernel_rfl) (fun _ _ _ h => h) (Or.inl ⟨by rfl, fun w' _ => by go_simp⟩) hH ?_
      simp only [Act.put, List.setIfInBounds_toArray, List.set_cons_zero, List.set_cons_succ]
      refine wpAnyH_take (i := 10) (oi := ⟨_, _, _, _, _, _⟩) (v := .pointer (some ⟨sb, so + q * 7, none⟩)) rfl (by kernel_rfl) (by kernel_rfl) (by kernel_rfl) (fun _ _ _ h => h) (Or.inl ⟨by rfl, fun w' _ => by go_simp⟩) hH ?_
      simp only [Act.put, List.setIfInBounds_toArray, List.set_cons_zero, List.set_cons_succ]
      refine wpAnyH_take (i := 11) (oi := ⟨_, _, _, _, _, _⟩) (v := .pointer (some ⟨sb, so + q * 7 + 4, none⟩)) rfl (by kernel_rfl) (by kernel_rfl) (by kernel_rfl) (fun _ _ _ h => h) (Or.inl ⟨by rfl, fun w' _ => by go_simp⟩) hH ?_
      simp only [Act.put, List.setIfInBounds_toArray, List.set_cons_zero, List.set_cons_succ]
      refine wpAnyH_take (i := 12) (oi := ⟨_, _, _, _, _, _⟩) (v := .slice a hn cap) rfl (by kernel_rfl) (by kernel_rfl) (by kernel_rfl) (fun _ _ _ h => h) (Or.inl ⟨by rfl, fun w' h => by obtain ⟨y3, y4, y5⟩ := Hid.out HSV w' (below_step (Hid.out HB) h); have z := Hid.out HSZ w' (below_step (Hid.out HB) h); clear h; go_simp⟩) hH ?_
      simp only [Act.put, List.setIfInBounds_toArray, List.set_cons_zero, List.set_cons_succ]
      refine wpAnyH_take (i := 13) (oi := ⟨_, _, _, _, _, _⟩) (v := .int .i64 (hn : Int)) rfl (by kernel_rfl) (by kernel_rfl) (by kernel_rfl) (fun _ _ _ h => h) (Or.inl ⟨by rfl, fun w' _ => by go_simp⟩) hH ?_
      simp only [Act.put, List.setIfInBounds_toArray, List.set_cons_zero, List.set_cons_succ]
      refine wpAnyH_take (i := 14) (oi := ⟨_, _, _, _, _, _⟩) (v := .agg #[.string nm, .int .i64 (hn : Int)]) rfl (by kernel_rfl) (by kernel_rfl) (by kernel_rfl) (fun _ _ _ h => h) (Or.inl ⟨by rfl, fun w' _ => by go_simp⟩) hH ?_
      simp only [Act.put, List.setIfInBounds_toArray, List.set_cons_zero, List.set_cons_succ]
      refine wpAnyH_ready (rs := [15]) (by kernel_rfl) (by simp) ?_
      refine (AllReadyH.cons (o := ⟨_, _, _, _, _, _⟩) rfl (fun K hK => ?_) AllReadyH.nil)
      go_simp
      refine (HI1.out _ hH).mono ?_
      rintro e V1 ⟨v1, K1, rfl, ho1, hr1, hl1, hb1⟩
      have HO1 : Hid (OwnP V1 w.heap.size v1 K1) := ho1
      have HR1 : Hid (RiseOf cmpP K1 (K0 ++ [⟨nm, (hn : Int)⟩])) := hr1
      have HL1 : Hid (K1.length ≤ K0.length + 1) := hl1
      clear ho1 hr1 hl1
      refine hK.out _ _ (below_step hH hb1) (fun hH => ?_)
      clear hK K hb1
      refine wpAnyH_take (i := 16) (oi := ⟨_, _, _, _, _, _⟩) (v := v1) rfl (by kernel_rfl) (by kernel_rfl) (by kernel_rfl) (fun _ _ _ h => h) (Or.inl ⟨by rfl, fun w' _ => by go_simp⟩) hH ?_
      simp only [Act.put, List.setIfInBounds_toArray, List.set_cons_zero, List.set_cons_succ]
      refine wpAnyH_done (by kernel_rfl) ?_ _
      have HB1 : Hid (Below w.heap.size w V1) := below_step HB.out hH
      clear hH
      have HR2 : Hid (RiseOf cmpP K1 ((l.take q).flatMap Cm.pds ++ ⟨nm, (hn : Int)⟩ :: pds (body.take 0))) := by
        have := HRS.out.snoc HR1.out
        rw [List.take_zero]; exact this
      have HL2 : Hid (K1.length ≤ ((l.take q).flatMap Cm.pds).length + 1 + 0) := by have h1 := HKL.out; have h2 := HL1.out; show _ ≤ _; omega
      have HQ : Hid (q < l.length ∧ q + (G + 1) = l.length) := ⟨hql, hg⟩
      have hbb : body.length ≤ 3000000000000 := by have := HTL2.out; omega
      clear HI1 HR1 HL1 HOT HRS HKL HB k1 hql hg hdl hhn
      go_wp2
      go_loopg [3, 5] body.length (fun g u i wr => ∃ (j : Nat) (K : List Pd), j + g = body.length ∧ i = .int .i64 (j : Int) ∧ OwnP wr w.heap.size u K ∧ RiseOf cmpP K ((l.take q).flatMap Cm.pds ++ ⟨nm, (hn : Int)⟩ :: pds (body.take j)) ∧ K.length ≤ ((l.take q).flatMap Cm.pds).length + 1 + j ∧ Below w.heap.size w wr)
      case atStart => exact ⟨0, K1, by omega, rfl, HO1.out, HR2.out, HL2.out, HB1.out⟩
      case round =>
        obtain ⟨j, K2, hg, rfl, hot, hrs, hkl, hb⟩ := hrel
        have HOT : Hid (OwnP wr w.heap.size u3 K2) := hot
        have HRS : Hid (RiseOf cmpP K2 ((l.take q).flatMap Cm.pds ++ ⟨nm, (hn : Int)⟩ :: pds (body.take j))) := hrs
        have HKL : Hid (K2.length ≤ ((l.take q).flatMap Cm.pds).length + 1 + j) := hkl
        have HB : Hid (Below w.heap.size w wr) := hb
        obtain ⟨y3, y4, y5⟩ := HSV.out wr hb
        have z := HSZ.out wr hb
        obtain ⟨hq1, hq2⟩ := HQ.out
        have k1 : (q : Int) < (l.length : Int) := by omega
        clear hot hrs hkl
        have ij : (0 : Int) ≤ (j : Int) := by omega
        by_cases hjl : j < body.length
        · have k2 : (j : Int) < (body.length : Int) := by omega
          obtain ⟨bb, bo, x, rfl, hxj, hbz, hxc, hxt⟩ := (HBD.out wr hb).get_ hjl
          have htk : pds (body.take (j + 1)) = pds (body.take j) ++ [pdA x] := by rw [List.take_add_one, hxj]; exact pds_snoc _ _
          obtain ⟨⟨⟨xk, xm, xs⟩, xn, xl⟩, xv⟩ := x
          simp only at hxt hxc
          obtain ⟨xa, xc, rfl, -⟩ := hxt
          obtain ⟨xh, hxh⟩ : ∃ n, xl.length = n := ⟨_, rfl⟩
          rw [pdA, hxh] at htk
          rw [hxh] at hxc
          obtain ⟨c0, c1, c2, c3, c4⟩ := hxc
          have HN : Hid (∀ K3 : List Pd, RiseOf cmpP K3 (K2 ++ [⟨xn, (xh : Int)⟩]) → RiseOf cmpP K3 ((l.take q).flatMap Cm.pds ++ ⟨nm, (hn : Int)⟩ :: pds (body.take (j + 1)))) := fun K3 h3 => by
            have := HRS.out.snoc h3
            rw [htk]; simpa using this
          have HI2 : Hid (∀ Y : World, Below wr.heap.size wr Y → Calls Tryz.prog 41 #[u3, .agg #[.string xn, .int .i64 (xh : Int)]] Y (INS Y w.heap.size K2 ⟨xn, (xh : Int)⟩)) := fun Y hY => insert_any K2 u3 ⟨xn, (xh : Int)⟩ Y w.heap.size (HOT.out.later hY) HRS.out.rise (by have h1 := HKL.out; have h2 := HTL2.out; omega) (Nat.le_trans HB.out.size hY.size)
          clear htk hxj hb hxh
          go_wp2_with (go_at_call 41; refine (HI2.out _ (below1 _ _)).mono ?_; rintro e w2 ⟨v2, K3, rfl, ho2, hr2, hl2, hb2⟩; have HO2 : Hid (OwnP w2 w.heap.size v2 K3) := ho2; have HR3 : Hid (RiseOf cmpP K3 ((l.take q).flatMap Cm.pds ++ ⟨nm, (hn : Int)⟩ :: pds (body.take (j + 1)))) := HN.out K3 hr2; have HL3 : Hid (K3.length ≤ ((l.take q).flatMap Cm.pds).length + 1 + (j + 1)) := (by have h1 := HKL.out; show K3.length ≤ _; omega); have HB2 : Hid (Below w.heap.size w w2) := below_step (below_step HB.out (below1 _ _)) hb2; clear ho2 hr2 hl2 hb2 HI2)
          go_roundg (gk - 1)
          case measure => omega
          case rel => exact ⟨j + 1, K3, by omega, by go_num, HO2.out, HR3.out, HL3.out, HB2.out⟩
        · have k2 : ¬ (j : Int) < (body.length : Int) := by omega
          obtain rfl : j = body.length := by omega
          have HR5 : Hid (RiseOf cmpP K2 ((l.take (q + 1)).flatMap Cm.pds)) := by have h1 := HRS.out; rw [List.take_length] at h1; rw [HTT.out]; exact h1
          have HL5 : Hid (K2.length ≤ ((l.take (q + 1)).flatMap Cm.pds).length) := by
            have h1 := HKL.out
            rw [HTT.out]
            show _ ≤ _
            simp only [List.length_append, List.length_cons, pds, List.length_map]
            omega
          clear hb
          go_wp2
          go_roundg G
          case measure => omega
          case rel => exact ⟨q + 1, K2, by omega, by go_num, HOT.out, HR5.out, HL5.out, HB.out⟩
    · have k1 : ¬ (q : Int) < (l.length : Int) := by omega
      obtain rfl : q = l.length := by omega
      have HR9 : Hid (RiseOf cmpP K0 (l.flatMap Cm.pds)) := by have h1 := HRS.out; rw [List.take_length] at h1; exact h1
      have HK9 : Hid (K0.length ≤ (l.flatMap Cm.pds).length) := by have h1 := HKL.out; rw [List.take_length] at h1; exact h1
      go_wp2
      go_ret
      exact ppost_mk HOT.out HR9.out HK9.out HB.out
end Go.Proofs.YtdfgijdededolabGreatDoor
/-
  The rounds' bound: boundOf, times.
-/
namespace Go.Proofs.YtdfgijdededolabGreatDoor
open Go.RowKit
attribute [local go_sem ↓] Go.wp_at_zero Go.wp_at_succ

def bnd (p c k : Nat) : Nat := min (p * (c + 1) ^ (k + 1) + 1) 4611686018427387904
theorem pow_up (p f : Nat) (hf : 1 ≤ f) {i j : Nat} (h : i ≤ j) : p * f ^ i ≤ p * f ^ j := Nat.mul_le_mul_left _ (Nat.pow_le_pow_right hf h)
theorem bnd_big {p c k j : Nat} (h : 4611686018427387904 ≤ p * (c + 1) ^ j) (hj : j ≤ k + 1) : bnd p c k = 4611686018427387904 := by
  have := pow_up p (c + 1) (by omega) hj
  unfold bnd; omega
theorem min_castG (N R M : Nat) (h : min (N + 1) M = R) : min ((N : Int) + 1) (M : Int) = (R : Int) := by omega
theorem min_cast (N R : Nat) (h : min (N + 1) 4611686018427387904 = R) : min ((N : Int) + 1) 4611686018427387904 = (R : Int) := min_castG N R 4611686018427387904 h
set_option maxRecDepth 20000 in
set_option maxHeartbeats 2000000 in
theorem boundOf_any (p c k : Nat) (w : World) (hp : p ≤ 3000000000000) (hc : c ≤ 3000000000000) (hk : k ≤ 3000000000000) :
    Calls Tryz.prog 37 #[.int .i64 (p : Int), .int .i64 (c : Int), .int .i64 (k : Int)] w fun e w' => e = .returned (.int .i64 (bnd p c k : Int)) ∧ Below w.heap.size w w' := by
  obtain ⟨R, hR⟩ : ∃ R, bnd p c k = R := ⟨_, rfl⟩
  rw [hR]
  have HBG : Hid (∀ j, 4611686018427387904 ≤ p * (c + 1) ^ j → j ≤ k + 1 → 4611686018427387904 = R) := fun j h1 h2 => by rw [← hR]; exact (bnd_big h1 h2).symm
  have HEN : Hid (∀ N, N = p * (c + 1) ^ (k + 1) → min (N + 1) 4611686018427387904 = R) := fun N h => by rw [← hR, h]; rfl
  clear hR
  obtain ⟨f, hf⟩ : ∃ f, c + 1 = f := ⟨_, rfl⟩
  rw [hf] at HBG HEN
  have hfi : (c : Int) + 1 = (f : Int) := by omega
  have hf0 : ¬ (f : Int) = 0 := by omega
  obtain ⟨Q, hQ⟩ : ∃ Q, 4611686018427387904 / f = Q := ⟨_, rfl⟩
  have hq : (4611686018427387904 : Int).tdiv (f : Int) = (Q : Int) := by rw [Int.tdiv_eq_ediv_of_nonneg (by omega), ← hQ]; rfl
  have hf1 : 1 ≤ f := by omega
  have HQ : Hid (∀ N : Nat, Q < N → 4611686018427387904 < N * f) := fun N h => by
    have h1 : 4611686018427387904 / f < N := by omega
    exact (Nat.div_lt_iff_lt_mul (by omega)).1 h1
  have HQ2 : Hid (∀ N : Nat, N ≤ Q → N * f ≤ 4611686018427387904) := fun N h => by
    have h1 : N ≤ 4611686018427387904 / f := by omega
    exact (Nat.le_div_iff_mul_le (by omega)).1 h1
  have hqb : Q ≤ 4611686018427387904 := by rw [← hQ]; exact Nat.div_le_self _ _
  clear hQ
  go_enter Tryz.func37, Tryz.ntmps37
  go_wp2
  go_loopg [7, 14] (k + 1) (fun g n i wr => ∃ (j N : Nat), j + g = k + 1 ∧ i = .int .i64 (j : Int) ∧ n = .int .i64 (N : Int) ∧ N = p * f ^ j ∧ N ≤ 4611686018427387904 ∧ Below w.heap.size w wr)
  case atStart => exact ⟨0, p, by omega, rfl, rfl, by simp, by omega, Below.refl _ _⟩
  case round =>
    obtain ⟨j, N, hg, rfl, rfl, hN, hm, hb⟩ := hrel
    have HN : Hid (N = p * f ^ j) := hN
    clear hN
    by_cases hjl : j < k + 1
    · have k1 : (j : Int) < (k : Int) + 1 := by omega
      by_cases hqn : Q < N
      · have k2 : (Q : Int) < (N : Int) := by omega
        have HE : Hid (4611686018427387904 = R) := by
          refine HBG.out (j + 1) ?_ (by omega)
          rw [Nat.pow_succ, ← Nat.mul_assoc, ← HN.out]
          exact Nat.le_of_lt (HQ.out N hqn)
        go_wp2
        go_ret
        exact ⟨ret_i (by have := HE.out; omega), hb⟩
      · have k2 : ¬ (Q : Int) < (N : Int) := by omega
        obtain ⟨N2, hN2⟩ : ∃ N2, N * f = N2 := ⟨_, rfl⟩
        have hmi : (N : Int) * (f : Int) = (N2 : Int) := by rw [← hN2]; exact (Int.natCast_mul N f).symm
        have hm2 : N2 ≤ 4611686018427387904 := by rw [← hN2]; exact HQ2.out N (by omega)
        have HN2 : Hid (N2 = p * f ^ (j + 1)) := by show _ = _; rw [Nat.pow_succ, ← Nat.mul_assoc, ← HN.out, hN2]
        clear hN2
        go_wp2
        go_roundg (gk - 1)
        case measure => omega
        case rel => exact ⟨j + 1, N2, by omega, by go_num, by go_num, HN2.out, hm2, hb⟩
    · have k1 : ¬ (j : Int) < (k : Int) + 1 := by omega
      obtain rfl : j = k + 1 := by omega
      have HE : Hid (min (N + 1) 4611686018427387904 = R) := HEN.out N HN.out
      go_wp2
      go_ret
      exact ⟨ret_i (min_cast N R HE.out), hb⟩
set_option maxHeartbeats 1000000 in
theorem times_any (a b : Nat) (w : World) (ha : a ≤ 4611686018427387904) :
    Calls Tryz.prog 42 #[.int .i64 (a : Int), .int .i64 (b : Int)] w fun e w' => e = .returned (.int .i64 (min (a * b) 4611686018427387904 : Nat)) ∧ w' = w := by
  obtain ⟨R, hR⟩ : ∃ R, min (a * b) 4611686018427387904 = R := ⟨_, rfl⟩
  rw [hR]
  by_cases h0 : a = 0
  · have HR : Hid ((0 : Nat) = R) := by show _ = _; rw [← hR, h0]; simp
    subst h0
    have hmi : ((0 : Nat) : Int) * (b : Int) = 0 := by simp
    clear hR
    go_enter Tryz.func42, Tryz.ntmps42
    go_wp2
    go_ret
    exact ⟨ret_i (by have := HR.out; omega), rfl⟩
  · have hi0 : ¬ (a : Int) = 0 := by omega
    have n1 : ((a : Int) == 0) = false := beq_eq_false_iff_ne.2 hi0
    have n2 : ((a : Int) != 0) = true := by rw [bne, n1]; rfl
    obtain ⟨Q, hQ⟩ : ∃ Q, 4611686018427387904 / a = Q := ⟨_, rfl⟩
    have hq : (4611686018427387904 : Int).tdiv (a : Int) = (Q : Int) := by rw [Int.tdiv_eq_ediv_of_nonneg (by omega), ← hQ]; rfl
    have hqb : Q ≤ 4611686018427387904 := by rw [← hQ]; exact Nat.div_le_self _ _
    by_cases hqn : Q < b
    · have k2 : (Q : Int) < (b : Int) := by omega
      have HR : Hid (4611686018427387904 = R) := by
        have h1 : 4611686018427387904 / a < b := by omega
        have h2 := (Nat.div_lt_iff_lt_mul (by omega)).1 h1
        rw [Nat.mul_comm] at h2
        show _ = _
        rw [← hR]; omega
      clear hR hQ
      go_enter Tryz.func42, Tryz.ntmps42
      go_wp2
      go_ret
      exact ⟨ret_i (by have := HR.out; omega), rfl⟩
    · have k2 : ¬ (Q : Int) < (b : Int) := by omega
      have hle : a * b ≤ 4611686018427387904 := by
        have h1 : b ≤ 4611686018427387904 / a := by omega
        have h2 := (Nat.le_div_iff_mul_le (by omega)).1 h1
        rw [Nat.mul_comm]; exact h2
      have HR : Hid (a * b = R) := by show _ = _; rw [← hR]; omega
      obtain ⟨N, hN⟩ : ∃ N, a * b = N := ⟨_, rfl⟩
      have hmi : (a : Int) * (b : Int) = (N : Int) := by rw [← hN]; exact (Int.natCast_mul a b).symm
      rw [hN] at hle HR
      clear hR hQ hN
      go_enter Tryz.func42, Tryz.ntmps42
      go_wp2
      go_ret
      exact ⟨ret_i (by have := HR.out; omega), rfl⟩
end Go.Proofs.YtdfgijdededolabGreatDoor
