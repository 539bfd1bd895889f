/-
  CodecRefuses: what the law makes of a derivation, in memory and plain.
-/
import Derived.Test.YtelcoihmiglceaaCP7
import Derived.Test.YtelcoihmiglceaaRC1
import Derived.Laws.OwnMore
namespace Go.Proofs.Ytelcoihmiglceaa
open Go.RowKit

theorem fErr_all {l : List Cm} (h : ∀ c ∈ l, c.chk = 0) : fErr l = 0 := by
  induction l with
  | nil => rfl
  | cons a l ih => unfold fErr; rw [if_pos (h a (by simp))]; exact ih fun c hc => h c (by simp [hc])
theorem fErr_app {l : List Cm} {c : Cm} (h : ∀ c ∈ l, c.chk = 0) : fErr (l ++ [c]) = c.chk := by
  induction l with
  | nil => simp only [List.nil_append, fErr]; split <;> simp_all
  | cons a l ih => rw [List.cons_append]; unfold fErr; rw [if_pos (h a (by simp))]; exact ih fun c hc => h c (by simp [hc])
theorem scs_set : ∀ {l : List St} {k i : Nat} {s s' : St} {v : Value}, l[k]? = some s → i < 3 → s'.csl = s.csl.set i v → (scs l).set (k * 3 + i) v = scs (l.set k s')
  | [], k, i, s, s', v, h, _, _ => by simp at h
  | a :: l, 0, i, s, s', v, h, hi, e => by
    simp at h; subst h
    have hl : a.csl.length = 3 := rfl
    simp only [scs, List.flatMap_cons, List.set_cons_zero, Nat.zero_mul, Nat.zero_add]
    rw [List.set_append_left _ _ (by omega), e]
  | a :: l, k + 1, i, s, s', v, h, hi, e => by
    rw [List.getElem?_cons_succ] at h
    have hl : a.csl.length = 3 := rfl
    have := scs_set h hi e
    simp only [scs, List.flatMap_cons, List.set_cons_succ] at this ⊢
    rw [List.set_append_right _ _ (by omega), hl, show (k + 1) * 3 + i - 3 = k * 3 + i by omega, this]
theorem ccs_set : ∀ {l : List Cm} {k i : Nat} {s s' : Cm} {v : Value}, l[k]? = some s → i < 7 → s'.csl = s.csl.set i v → (ccs l).set (k * 7 + i) v = ccs (l.set k s')
  | [], k, i, s, s', v, h, _, _ => by simp at h
  | a :: l, 0, i, s, s', v, h, hi, e => by
    simp at h; subst h
    have hl : a.csl.length = 7 := rfl
    simp only [ccs, List.flatMap_cons, List.set_cons_zero, Nat.zero_mul, Nat.zero_add]
    rw [List.set_append_left _ _ (by omega), e]
  | a :: l, k + 1, i, s, s', v, h, hi, e => by
    rw [List.getElem?_cons_succ] at h
    have hl : a.csl.length = 7 := rfl
    have := ccs_set h hi e
    simp only [ccs, List.flatMap_cons, List.set_cons_succ] at this ⊢
    rw [List.set_append_right _ _ (by omega), hl, show (k + 1) * 7 + i - 7 = k * 7 + i by omega, this]
/-- One cell of a list of steps is written. -/
theorem OwnS.put {w : World} {B g cap n k i : Nat} {l : List St} {s s' : St} {v : Value} (h : OwnS w B (.slice (some ⟨g, 0, none⟩) n cap) l) (hk : l[k]? = some s) (hi : i < 3) (e : s'.csl = s.csl.set i v) : OwnS (w.setCell ⟨g, k * 3 + i, none⟩ v) B (.slice (some ⟨g, 0, none⟩) n cap) (l.set k s') ∧ Kt 41 w (w.setCell ⟨g, k * 3 + i, none⟩ v) := by
  have hn : n = l.length := by obtain ⟨a, c, e⟩ := h.form; simp only [Value.slice.injEq] at e; exact e.2.1
  subst hn
  have h1 := (World.ownsRow.stored h (k * 3 + i) v).1
  obtain ⟨-, cur, hg⟩ := row_block h (k := g) rfl
  refine ⟨?_, Kt.set hg⟩
  unfold OwnS
  rw [List.length_set, ← scs_set hk hi e]
  exact h1
theorem OwnC.put {w : World} {B g cap n k i : Nat} {l : List Cm} {s s' : Cm} {v : Value} (h : OwnC w B (.slice (some ⟨g, 0, none⟩) n cap) l) (hk : l[k]? = some s) (hi : i < 7) (e : s'.csl = s.csl.set i v) : OwnC (w.setCell ⟨g, k * 7 + i, none⟩ v) B (.slice (some ⟨g, 0, none⟩) n cap) (l.set k s') ∧ Kt 38 w (w.setCell ⟨g, k * 7 + i, none⟩ v) := by
  have hn : n = l.length := by obtain ⟨a, c, e⟩ := h.form; simp only [Value.slice.injEq] at e; exact e.2.1
  subst hn
  have h1 := (World.ownsRow.stored h (k * 7 + i) v).1
  obtain ⟨-, cur, hg⟩ := row_block h (k := g) rfl
  refine ⟨?_, Kt.set hg⟩
  unfold OwnC
  rw [List.length_set, ← ccs_set hk hi e]
  exact h1
/-- The cells of one step of an owned list, and that they can be written. -/
theorem OwnS.at_ {w : World} {B g cap n k : Nat} {l : List St} {s : St} (h : OwnS w B (.slice (some ⟨g, 0, none⟩) n cap) l) (hk : l[k]? = some s) : g < w.heap.size ∧ w.cell? ⟨g, k * 3, none⟩ = some (.int .i64 s.rule) ∧ w.cell? ⟨g, k * 3 + 1, none⟩ = some s.vv ∧ w.cell? ⟨g, k * 3 + 2, none⟩ = some s.uv ∧ ∀ i, w.frozen? ⟨g, i, none⟩ = false := by
  obtain ⟨b, o, e, hr⟩ := h.adr hk
  simp only [Option.some.injEq, Addr.mk.injEq, and_true] at e
  obtain ⟨rfl, rfl⟩ := e
  obtain ⟨c0, c1, c2⟩ := hr.three hk
  simp only [Nat.zero_add] at c0 c1 c2
  obtain ⟨-, cur, hg⟩ := row_block h (k := g) rfl
  exact ⟨hr.1, c0, c1, c2, fun i => frozen_of_row _ _ _ _ _ hg⟩
theorem OwnC.at_ {w : World} {B g cap n k : Nat} {l : List Cm} {s : Cm} (h : OwnC w B (.slice (some ⟨g, 0, none⟩) n cap) l) (hk : l[k]? = some s) : g < w.heap.size ∧ (w.cell? ⟨g, k * 7, none⟩ = some (.int .i64 s.head.1.by_.k) ∧ w.cell? ⟨g, k * 7 + 1, none⟩ = some (.int .i64 s.head.1.by_.n) ∧ w.cell? ⟨g, k * 7 + 2, none⟩ = some (.string s.head.1.by_.s)) ∧ ∀ i, w.frozen? ⟨g, i, none⟩ = false := by
  obtain ⟨b, o, e, hr⟩ := h.adr hk
  simp only [Option.some.injEq, Addr.mk.injEq, and_true] at e
  obtain ⟨rfl, rfl⟩ := e
  obtain ⟨c0, c1, c2, -⟩ := hr.seven hk
  simp only [Nat.zero_add] at c0 c1 c2
  obtain ⟨-, cur, hg⟩ := row_block h (k := g) rfl
  exact ⟨hr.1, ⟨c0, c1, c2⟩, fun i => frozen_of_row _ _ _ _ _ hg⟩
/-- The rule that the law puts behind the others; with a variable ahead of its head. -/
def cP : Cm := ⟨(⟨zt, nmP, []⟩, .slice none 0 0), [], .slice none 0 0, [], .slice none 0 0⟩
def cV : Cm := ⟨(⟨⟨3, 0, ⟨#[]⟩⟩, nmP, []⟩, .slice none 0 0), [], .slice none 0 0, [], .slice none 0 0⟩
theorem cP_chk : cP.chk = 0 := by
  refine chk_zero ?_ ?_ ?_ ?_ ?_ ?_ ?_
  · intro a ha
    simp [cP, Cm.key, fsts] at ha
    subst ha
    decide
  · intro a ha; simp [cP, Cm.key] at ha
  · simp [cP, Cm.key, fsts]
  · simp [cP, Cm.key]
  · decide
  · intro t ht hv
    simp [cP, Cm.key, tls, At.pl] at ht
    subst ht
    cases hv
  · decide
theorem cV_chk : cV.chk = 33 := by
  have a1 : long cV = false := by decide
  have a2 : aErr cV.atoms = 0 := by decide
  have a3 : badT cV = false := by decide
  exact chk_4 a1 a2 a3 (by decide)
theorem cP_wf : cP.wf := ⟨fun t ht hv => (by simp [Cm.terms, Cm.atoms, cP, At.pl] at ht; subst ht; cases hv), by simp [Cm.terms, Cm.atoms, cP, At.pl]⟩
theorem cV_wf : cV.wf := ⟨fun t ht _ => (by simp [Cm.terms, Cm.atoms, cV, At.pl] at ht; subst ht; exact wf_small (by decide) (by decide)), by simp [Cm.terms, Cm.atoms, cV, At.pl]⟩
theorem cP_mcl (B : Nat) (X : World) : MCl B X cP := ⟨ownT_nil _ _, OwnA.nil _ _, fun y hy => by simp [cP] at hy, OwnE.nil _ _, fun k hk => by simp [cP, Value.ownBlock] at hk⟩
theorem cV_mcl (B : Nat) (X : World) : MCl B X cV := ⟨ownT_nil _ _, OwnA.nil _ _, fun y hy => by simp [cV] at hy, OwnE.nil _ _, fun k hk => by simp [cV, Value.ownBlock] at hk⟩
theorem cP_ks : KS cP.key := ⟨by simp [cP, Cm.key], by simp [cP, Cm.key, fsts], by simp [cP, Cm.key], fun a ha => by simp [cP, Cm.key, fsts] at ha⟩
theorem cV_ks : KS cV.key := ⟨by simp [cV, Cm.key], by simp [cV, Cm.key, fsts], by simp [cV, Cm.key], fun a ha => by simp [cV, Cm.key, fsts] at ha⟩
theorem made_wf {c : Cm} {x : Ck} (h : c.key = madeK x) : c.wf := by
  have hv := made_val nmP_ok x
  have hm : mis 0 (vrs (Ck.terms (madeK x))) = false := norm_mis _
  obtain ⟨m, hd, hvn⟩ := num_vars hm
  have h72 := num_le hv hd
  exact wf_of (fun t ht hvt => by rw [h] at ht; have := hvn t ht hvt; omega) (by rw [h]; exact Nat.le_trans hv.ks.len (by omega))
/-- A list of one term, of one number, laid by the call. -/
theorem ownT_lit1 {w : World} {B g : Nat} {t : Tm} (h : CBlk w g #[.int .i64 t.k, .int .i64 t.n, .string t.s] 31) (hb : B ≤ g) : OwnT w B (.slice (some ⟨g, 0, none⟩) 1 1) [t] :=
  ⟨rfl, Or.inr ⟨g, 1, _, rfl, hb, h, Nat.le_refl _, by unfold maxLen; omega, rfl, rfl⟩⟩
theorem ownN_lit1 {w : World} {B g : Nat} {n : Int} (h : CBlk w g #[.int .i64 n] 3) (hb : B ≤ g) : OwnN w B (.slice (some ⟨g, 0, none⟩) 1 1) [n] :=
  ⟨rfl, Or.inr ⟨g, 1, _, rfl, hb, h, Nat.le_refl _, by unfold maxLen; omega, rfl, rfl⟩⟩
end Go.Proofs.Ytelcoihmiglceaa
