import Derived.Test.YtelcoihmiglceaaLD2
import Derived.Test.YtelcoihmiglceaaLE2
import Derived.Test.YtelcoihmiglceaaCL27
/-
  Clauses lent, and looked at. (Written by LD3.py.)
-/
namespace Go.Proofs.Ytelcoihmiglceaa
open Go.RowKit
attribute [local go_sem ↓] Go.wp_at_zero Go.wp_at_succ

def EsP (w : World) (v : Value) (l : List Te) : Prop := (v = .slice none 0 0 ∧ l = []) ∨ ∃ ad cap, v = .slice (some ad) l.length cap ∧ (l = [] ∨ ∃ b o, ad = ⟨b, o, none⟩ ∧ ERow w b o l)
theorem EsP.later {w w' : World} {v : Value} {l : List Te} (h : EsP w v l) (hb : Below w.heap.size w w') : EsP w' v l := by
  rcases h with h | ⟨ad, cap, h1, h2⟩
  · exact Or.inl h
  · refine Or.inr ⟨ad, cap, h1, ?_⟩
    rcases h2 with h2 | ⟨b, o, h2, h3⟩
    · exact Or.inl h2
    · exact Or.inr ⟨b, o, h2, h3.later hb⟩
theorem EsP.form {w : World} {v : Value} {l : List Te} (h : EsP w v l) : ∃ a cap, v = .slice a l.length cap := by
  rcases h with ⟨rfl, rfl⟩ | ⟨ad, cap, rfl, _⟩
  · exact ⟨none, 0, rfl⟩
  · exact ⟨some ad, cap, rfl⟩
/-- A list of tests lent. -/
def LentE (X : World) (B : Nat) (v : Value) (l : List Te) : Prop := ∃ g cap, v = .slice (some ⟨g, 0, none⟩) l.length cap ∧ OwnE X B (.slice (some ⟨g, 0, none⟩) (l.length + 1) cap) (l ++ [bE])
theorem LentE.later {X X' : World} {B : Nat} {v : Value} {l : List Te} (h : LentE X B v l) (hb : Below X.heap.size X X') : LentE X' B v l := by
  obtain ⟨g, cap, e, ho⟩ := h
  exact ⟨g, cap, e, ho.later hb⟩
theorem LentE.row {X : World} {B g cap n : Nat} {l : List Te} {d : Te} (ho : OwnE X B (.slice (some ⟨g, 0, none⟩) n cap) (l ++ [d])) : ERow X g 0 l := by
  refine ⟨(ho.lt g rfl).2, fun i x hx => ?_⟩
  have hi := (List.getElem?_eq_some_iff.1 hx).1
  have hx' : (l ++ [d])[i]? = some x := by rw [List.getElem?_append_left hi]; exact hx
  rw [Nat.zero_add]
  exact ⟨ho.cells i x hx' 0 (by omega), ho.cells i x hx' 1 (by omega), ho.cells i x hx' 2 (by omega), ho.cells i x hx' 3 (by omega), ho.cells i x hx' 4 (by omega), ho.cells i x hx' 5 (by omega), ho.cells i x hx' 6 (by omega)⟩
theorem LentE.es {X : World} {B : Nat} {v : Value} {l : List Te} (h : LentE X B v l) (hl : l.length < 1000000000000000000) : Es X v l := by
  obtain ⟨g, cap, rfl, ho⟩ := h
  exact ⟨_, cap, rfl, hl, Or.inr ⟨g, 0, rfl, LentE.row ho⟩⟩
/-- A clause lent. -/
structure Lent (B : Nat) (X : World) (d : Cm) : Prop where
  h : LentT X B d.head.2 d.head.1.args
  b : LentA X B d.bv d.body
  t : LentE X B d.tv d.tests
theorem Lent.later {B : Nat} {X X' : World} {d : Cm} (h : Lent B X d) (hb : Below X.heap.size X X') : Lent B X' d := ⟨h.h.later hb, h.b.later hb, h.t.later hb⟩
theorem Lent.ok {B : Nat} {X : World} {d : Cm} (h : Lent B X d) (h1 : d.head.1.args.length < 1000000000000000000) (h2 : d.body.length < 1000000000000000000) (h3 : ∀ y ∈ d.body, y.1.args.length < 1000000000000000000) (h4 : d.tests.length < 1000000000000000000) : d.ok X :=
  ⟨h.h.ts h1, h.b.as h2 h3, h.t.es h4⟩
/-- Two worlds alike between two blocks but for one. -/
structure Ag (B G : Nat) (X0 X : World) : Prop where
  s : X0.heap.size ≤ X.heap.size
  e : ∀ k, B ≤ k → k < X0.heap.size → k ≠ G → X.heap[k]? = X0.heap[k]?
theorem Ag.refl (B G : Nat) (X : World) : Ag B G X X := ⟨Nat.le_refl _, fun _ _ _ _ => rfl⟩
theorem Ag.below {B G : Nat} {X0 X X' : World} (h : Ag B G X0 X) (hb : Below X0.heap.size X X') : Ag B G X0 X' := ⟨Nat.le_trans h.s hb.size, fun k h1 h2 h3 => (hb.block k h2).trans (h.e k h1 h2 h3)⟩
theorem Ag.set {B G i : Nat} {X0 X : World} {v : Value} (h : Ag B G X0 X) : Ag B G X0 (X.setCell ⟨G, i, none⟩ v) := ⟨by simpa [World.setCell] using h.s, fun k h1 h2 h3 => (heap_setCell_other _ _ _ _ (show k ≠ G from h3)).trans (h.e k h1 h2 h3)⟩
theorem Ag.low {B G D i : Nat} {X0 X : World} {v : Value} (h : Ag B G X0 X) (hD : D < B) : Ag B G X0 (X.setCell ⟨D, i, none⟩ v) := ⟨by simpa [World.setCell] using h.s, fun k h1 h2 h3 => (heap_setCell_other _ _ _ _ (show k ≠ D by omega)).trans (h.e k h1 h2 h3)⟩
end Go.Proofs.Ytelcoihmiglceaa
/-
  What Check answers to clauses broken in one way. (Plain.)
-/
namespace Go.Proofs.Ytelcoihmiglceaa
open Go.RowKit

/-- What Check answers, one by one. -/
theorem key_len (c : Cm) : c.body.length = c.key.2.1.length ∧ c.tests.length = c.key.2.2.length := by simp [Cm.key, fsts]
theorem unb_key {c : Cm} : unb c = (vrs (c.key.1.pl ++ tls c.key.2.2)).any fun v => !decide (v ∈ vrs (c.key.2.1.flatMap At.pl)) := by
  have e1 : c.restC.vars = vrs c.restC.terms := rfl
  have e2 : c.bodyC.vars = vrs c.bodyC.terms := rfl
  have e3 : flt c.body = c.key.2.1.flatMap At.pl := by simp [flt, Cm.key, fsts, List.flatMap_map]
  unfold unb
  rw [e1, e2, restC_terms, bodyC_terms, e3]
  have e4 : vrs (⟨0, 0, ⟨#[]⟩⟩ :: c.key.2.1.flatMap At.pl) = vrs (c.key.2.1.flatMap At.pl) := by unfold vrs; rw [List.filter_cons_of_neg (by rw [zt_var]; simp)]
  rw [e4]; rfl
theorem mis_key {c : Cm} : mis 0 c.vars = mis 0 (vrs (Ck.terms c.key)) := by
  have : c.vars = vrs c.terms := rfl
  rw [this, key_terms]
end Go.Proofs.Ytelcoihmiglceaa
/-
  What Made makes of a valid clause is that clause; quotes and what has one quote. (Plain.)
-/
namespace Go.Proofs.Ytelcoihmiglceaa
open Go.RowKit

/-- A valid clause stays as Made makes it. -/
theorem con_k {t : Tm} (h : t.con = true) : t.k ≠ 3 := by
  simp only [Tm.con, decide_eq_true_eq] at h
  rcases h with ⟨h, -⟩ | ⟨h, -⟩ <;> omega
theorem fixT_id {t : Tm} (h : t.cov = true) : fixT t = t := by
  unfold fixT
  cases hv : t.var
  · rw [if_neg (by simp)]
    have hc : t.con = true := by simp only [Tm.cov, hv, Bool.or_false] at h; exact h
    unfold mkC; rw [if_pos hc]
  · rw [if_pos rfl]
theorem mkA_id {a : At} (h : a.err = 0) : mkA a = a := by
  obtain ⟨h1, h2, h3, h4⟩ := err_zero' h
  unfold mkA
  rw [if_pos h3, if_pos h1, List.take_of_length_le h2]
  have : a.args.map fixT = a.args := by
    conv => rhs; rw [← List.map_id a.args]
    exact List.map_congr_left fun t ht => fixT_id (h4 t ht)
  rw [this]
theorem sf_id {b : List Tm} {t : Tm} (h : t.cov = true) (hs : t.var = true → t ∈ b) : sf b t = t := by
  unfold sf
  by_cases hm : t ∈ b
  · rw [if_pos hm]
  · rw [if_neg hm]
    cases hv : t.var
    · have hc : t.con = true := by simp only [Tm.cov, hv, Bool.or_false] at h; exact h
      unfold grd; rw [if_neg (con_k hc)]
    · exact absurd (hs hv) hm
theorem opF_id {o : Int} (h1 : 1 ≤ o) (h2 : o ≤ 4) : opF o = o := by unfold opF; rw [if_neg (by omega)]
theorem mkE_id {b : List Tm} {t : Te} (h : t.ok = true) (hs : ∀ u, u = t.l ∨ u = t.r → u.var = true → u ∈ b) : mkE b t = t := by
  simp only [Te.ok, Bool.and_eq_true, decide_eq_true_eq] at h
  obtain ⟨⟨h1, h2⟩, h3, h4⟩ := h
  unfold mkE
  rw [opF_id h1 h2, fixT_id h3, fixT_id h4, sf_id h3 (hs _ (Or.inl rfl)), sf_id h4 (hs _ (Or.inr rfl))]
theorem qual_k {t : Tm} (h : qualOk t = true) (hv : t.var = false) : t.k ≠ 3 := by
  simp only [qualOk, hv, Bool.or_false, Bool.or_eq_true, decide_eq_true_eq, Tm.prin] at h
  rcases h with h | h
  · rw [h]; simp [zt]
  · omega
theorem made0_id {x : Ck} (h : Val0 x) : made0 x = x := by
  obtain ⟨hd, b, ts⟩ := x
  have hb : (b.take 8).map mkA = b := by
    rw [List.take_of_length_le h.bl]
    conv => rhs; rw [← List.map_id b]
    exact List.map_congr_left fun a ha => mkA_id (h.e a (by simp [ha]))
  have hh : mkA hd = hd := mkA_id (h.e hd (by simp))
  have hq := (err_zero' (h.e hd (by simp))).2.2.1
  have hk : hd.by_.k ≠ 3 := qual_k hq h.h
  have hc := (err_zero' (h.e hd (by simp))).2.2.2
  have ha : hd.args.map (sf (b.flatMap At.pl)) = hd.args := by
    conv => rhs; rw [← List.map_id hd.args]
    exact List.map_congr_left fun t ht => sf_id (hc t ht) fun hv => h.s t (List.mem_append_left _ (List.mem_cons_of_mem _ ht)) hv
  have ht : (ts.take 8).map (mkE (b.flatMap At.pl)) = ts := by
    rw [List.take_of_length_le h.tl]
    conv => rhs; rw [← List.map_id ts]
    exact List.map_congr_left fun t htm => mkE_id (h.t t htm) fun u hu hv => h.s u (List.mem_append_right _ (List.mem_flatMap.2 ⟨t, htm, by simpa using hu⟩)) hv
  unfold made0
  simp only
  rw [hb, hh, if_neg hk, ha, ht]
theorem var_eqQ {t : Tm} (h : t.var = true) : t = ⟨3, t.n, ⟨#[]⟩⟩ := by
  simp only [Tm.var, decide_eq_true_eq] at h
  obtain ⟨k, n, s⟩ := t
  simp only at h
  obtain ⟨rfl, -, rfl⟩ := h
  rfl
theorem fold_n : ∀ (l acc : List Tm), (∀ t ∈ l, t.var = true) → (∀ t ∈ acc, t.var = true) → (l.foldl dstepT acc).map (·.n) = (l.map (·.n)).foldl dstep (acc.map (·.n))
  | [], acc, _, _ => rfl
  | t :: l, acc, h1, h2 => by
    rw [List.foldl_cons, List.map_cons, List.foldl_cons]
    have ht := h1 t (by simp)
    have hm : t.n ∈ acc.map (·.n) ↔ t ∈ acc := ⟨fun hm => by
      obtain ⟨u, hu, e⟩ := List.mem_map.1 hm
      rw [var_eqQ ht, ← e, ← var_eqQ (h2 u hu)]; exact hu, fun hm => List.mem_map.2 ⟨t, hm, rfl⟩⟩
    have e : (dstepT acc t).map (·.n) = dstep (acc.map (·.n)) t.n := by
      unfold dstepT dstep
      by_cases hc : t ∈ acc
      · rw [if_pos hc, if_pos (hm.2 hc)]
      · rw [if_neg hc, if_neg (fun x => hc (hm.1 x))]; simp
    rw [← e]
    refine fold_n l _ (fun u hu => h1 u (by simp [hu])) fun u hu => ?_
    rcases dstepT_mem.1 hu with hu | rfl
    · exact h2 u hu
    · exact ht
theorem disT_n (l : List Tm) : (disT l).map (·.n) = dis (vrs l) := by
  unfold disT dis vrs
  exact fold_n _ [] (fun t ht => (List.mem_filter.1 ht).2) (by simp)
theorem ix_nQ {vs : List Tm} {m : Nat} (h : vs.map (·.n) = ints m) {t : Tm} (ht : t ∈ vs) : (ix vs t : Int) = t.n := by
  have hg := ix_get ht
  have h2 := congrArg (fun l => l[ix vs t]?) h
  simp only [List.getElem?_map, hg, Option.map_some] at h2
  have hlt : ix vs t < m := by
    have h3 := ix_lt ht
    have := congrArg List.length h
    rw [List.length_map, ints_len] at this; omega
  simp [ints, hlt] at h2
  exact h2.symm
theorem norm_id {x : Ck} (hm : mis 0 (vrs (Ck.terms x)) = false) : normC x = x := by
  obtain ⟨m, hd, -⟩ := num_vars hm
  have hn := (disT_n (Ck.terms x)).trans hd
  refine (mapC_congr (g := fun t => t) fun t ht => ?_).trans (mapC_id x)
  unfold nmT
  by_cases hm : t ∈ disT (Ck.terms x)
  · rw [if_pos hm, ix_nQ hn hm]
    exact (var_eqQ (disT_mem.1 hm).2).symm
  · rw [if_neg hm]
theorem made_id {x : Ck} (h : Val0 x) (hm : mis 0 (vrs (Ck.terms x)) = false) : madeK x = x := by
  unfold madeK; rw [made0_id h, norm_id hm]
end Go.Proofs.Ytelcoihmiglceaa
/-
  What the reference's Check answers is what Check answers (plain); lists of atoms, of terms appended.
-/
namespace Go.Proofs.Ytelcoihmiglceaa
open Go.RowKit

theorem err_vals (a : At) : a.err = 0 ∨ a.err = 21 ∨ a.err = 22 ∨ a.err = 23 ∨ a.err = 24 := by
  unfold At.err; split
  · exact Or.inr (Or.inl rfl)
  · split
    · exact Or.inr (Or.inr (Or.inl rfl))
    · split
      · exact Or.inr (Or.inr (Or.inr (Or.inl rfl)))
      · split
        · exact Or.inl rfl
        · exact Or.inr (Or.inr (Or.inr (Or.inr rfl)))
theorem aErr_vals : ∀ l : List (At × Value), aErr l = 0 ∨ aErr l = 21 ∨ aErr l = 22 ∨ aErr l = 23 ∨ aErr l = 24
  | [] => Or.inl rfl
  | x :: l => by
    unfold aErr
    split
    · exact aErr_vals l
    · exact err_vals x.1
theorem chk_1 {c : Cm} (h : long c = true) : c.chk = 31 := by simp [Cm.chk, Cm.rs, chkL, h]
theorem chk_2 {c : Cm} (h : long c = false) (h2 : aErr c.atoms ≠ 0) : c.chk = aErr c.atoms := by
  rcases aErr_vals c.atoms with e | e | e | e | e
  · exact absurd e h2
  all_goals simp [Cm.chk, Cm.rs, chkL, h, e]
theorem chk_3 {c : Cm} (h : long c = false) (h2 : aErr c.atoms = 0) (h3 : badT c = true) : c.chk = 32 := by simp [Cm.chk, Cm.rs, chkL, h, h2, h3]
theorem chk_4 {c : Cm} (h : long c = false) (h2 : aErr c.atoms = 0) (h3 : badT c = false) (h4 : c.head.1.by_.var = true) : c.chk = 33 := by simp [Cm.chk, Cm.rs, chkL, h, h2, h3, h4]
theorem chk_5 {c : Cm} (h : long c = false) (h2 : aErr c.atoms = 0) (h3 : badT c = false) (h4 : c.head.1.by_.var = false) (h5 : unb c = true) : c.chk = 34 := by simp [Cm.chk, Cm.rs, chkL, h, h2, h3, h4, h5]
theorem chk_6 {c : Cm} (h : long c = false) (h2 : aErr c.atoms = 0) (h3 : badT c = false) (h4 : c.head.1.by_.var = false) (h5 : unb c = false) (h6 : mis 0 c.vars = true) : c.chk = 35 := by simp [Cm.chk, Cm.rs, chkL, h, h2, h3, h4, h5, h6]
theorem aErr_all : ∀ {l : List (At × Value)}, aErr l = 0 → ∀ x ∈ l, x.1.err = 0
  | [], _, x, hx => by cases hx
  | y :: l, h, x, hx => by
    unfold aErr at h
    by_cases e : y.1.err = 0
    · rw [if_pos e] at h
      rcases List.mem_cons.1 hx with rfl | hx
      · exact e
      · exact aErr_all h x hx
    · rw [if_neg e] at h; exact absurd h e
/-- A list of atoms appended to one that was just made. -/
def AsP (w : World) (v : Value) (l : List (At × Value)) : Prop := (v = .slice none 0 0 ∧ l = []) ∨ ∃ ad cap, v = .slice (some ad) l.length cap ∧ (l = [] ∨ ∃ b o, ad = ⟨b, o, none⟩ ∧ ARow w b o l)
theorem AsP.later {w w' : World} {v : Value} {l : List (At × Value)} (h : AsP w v l) (hb : Below w.heap.size w w') : AsP w' v l := by
  rcases h with h | ⟨ad, cap, h1, h2⟩
  · exact Or.inl h
  · refine Or.inr ⟨ad, cap, h1, ?_⟩
    rcases h2 with h2 | ⟨b, o, h2, h3⟩
    · exact Or.inl h2
    · exact Or.inr ⟨b, o, h2, h3.later hb⟩
end Go.Proofs.Ytelcoihmiglceaa
