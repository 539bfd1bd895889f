/-
  ref's Unify against what Unify answers, as plain lists.
-/
import Derived.Test.YtlojgaigbdnjjabDoorP8
import Derived.Test.YtlojgaigbdnjjabDoorG1
namespace Go.Proofs.YtlojgaigbdnjjabDoor
open Go.RowKit

theorem lf_min : ∀ (l : List Tm) (d : Tm), (∀ u ∈ l, (l.foldl lf d).n ≤ u.n) ∧ (l.foldl lf d).n ≤ d.n ∧ (l.foldl lf d = d ∨ l.foldl lf d ∈ l) := by
  intro l
  induction l with
  | nil => intro d; exact ⟨fun u hu => (by cases hu), Int.le_refl _, Or.inl rfl⟩
  | cons a l ih =>
    intro d
    obtain ⟨h1, h2, h3⟩ := ih (lf d a)
    have h4 : (lf d a).n ≤ d.n ∧ (lf d a).n ≤ a.n ∧ (lf d a = d ∨ lf d a = a) := by
      unfold lf
      split
      · exact ⟨by omega, Int.le_refl _, Or.inr rfl⟩
      · exact ⟨Int.le_refl _, by omega, Or.inl rfl⟩
    rw [List.foldl_cons]
    refine ⟨fun u hu => ?_, by omega, ?_⟩
    · rcases List.mem_cons.1 hu with rfl | hu
      · omega
      · exact h1 u hu
    · rcases h3 with h3 | h3
      · rw [h3]
        rcases h4.2.2 with h | h
        · exact Or.inl h
        · rw [h]; exact Or.inr List.mem_cons_self
      · exact Or.inr (List.mem_cons_of_mem _ h3)
theorem mem_fx {l : List Tm} {u : Tm} : u ∈ fx l ↔ u ∈ l ∧ u.var = false := by
  unfold fx; rw [List.mem_filter]; simp
theorem var_same {t u : Tm} (ht : t.var = true) (hu : u.var = true) (h : t.n = u.n) : t = u := by
  rw [var_eta ht, var_eta hu, h]
/-- A class without a fixed term: its least variable. -/
theorem stn_nil {l : List Tm} {t : Tm} (h0 : l[0]? = some t) (hf : fx l = []) : stn l t ∈ l ∧ (∀ u ∈ l, (stn l t).n ≤ u.n) ∧ ∀ u ∈ l, u.var = true := by
  have ht : t ∈ l := List.mem_of_getElem? h0
  have e : stn l t = l.foldl lf t := by unfold stn; rw [hf]
  obtain ⟨h1, h2, h3⟩ := lf_min l t
  rw [e]
  refine ⟨?_, h1, fun u hu => ?_⟩
  · rcases h3 with h3 | h3
    · rw [h3]; exact ht
    · exact h3
  · cases hv : u.var with
    | true => rfl
    | false =>
      have := mem_fx.2 ⟨hu, hv⟩
      rw [hf] at this; cases this
theorem stn_cons {l f : List Tm} {t c : Tm} (hf : fx l = c :: f) : stn l t = c ∧ c ∈ l ∧ c.var = false := by
  have e : stn l t = c := by unfold stn; rw [hf]
  have := mem_fx.1 (show c ∈ fx l by rw [hf]; exact List.mem_cons_self)
  exact ⟨e, this⟩
theorem fx_one {l f : List Tm} {c u : Tm} (hf : fx l = c :: f) (hl : (fx l).length ≤ 1) (hu : u ∈ l) (hv : u.var = false) : u = c := by
  have h1 := mem_fx.2 ⟨hu, hv⟩
  rw [hf] at h1 hl
  have : f = [] := List.eq_nil_of_length_eq_zero (by rw [List.length_cons] at hl; omega)
  rw [this] at h1
  exact List.mem_singleton.1 h1
/-- Two classes with one term in common have the same terms. -/
theorem Full.same {x y : List Tm} {p q : Tm} {l m : List Tm} (h : Full x y p l) (h' : Full x y q m) (hq : q ∈ l) : ∀ u ∈ m, u ∈ l := by
  intro u hu
  have hz : ¬ (Tm.mk 1 0 ⟨#[]⟩) = zt := by decide
  have := h'.cls.con (fun v => if v ∈ l then zt else ⟨1, 0, ⟨#[]⟩⟩) (fun r hr => by
    obtain ⟨i, hi, e⟩ := List.mem_iff_getElem.1 hr
    have e2 : (x.zip y)[i]? = some r := by rw [List.getElem?_eq_getElem hi, e]
    obtain ⟨r1, r2⟩ := r
    obtain ⟨ha, hb⟩ := List.getElem?_zip_eq_some.1 e2
    have := h.shut ha hb
    simp only
    by_cases c : r1 ∈ l
    · rw [if_pos c, if_pos (this.1 c)]
    · rw [if_neg c, if_neg fun d => c (this.2 d)]) u hu
  simp only [if_pos hq] at this
  by_cases c : u ∈ l
  · exact c
  · rw [if_neg c] at this; exact (hz this).elim
theorem Full.self {x y : List Tm} {p : Tm} {l : List Tm} (h : Full x y p l) : p ∈ l := List.mem_of_getElem? h.cls.head
theorem same_stn {x y : List Tm} {p q : Tm} {l m : List Tm} (h : Full x y p l) (h' : Full x y q m) (hq : q ∈ l) (hl : (fx l).length ≤ 1) : stn l p = stn m q := by
  have h1 := h.same h' hq
  have hp : p ∈ m := by
    have hz : ¬ (Tm.mk 1 0 ⟨#[]⟩) = zt := by decide
    have := h.cls.con (fun v => if v ∈ m then zt else ⟨1, 0, ⟨#[]⟩⟩) (fun r hr => by
      obtain ⟨i, hi, e⟩ := List.mem_iff_getElem.1 hr
      have e2 : (x.zip y)[i]? = some r := by rw [List.getElem?_eq_getElem hi, e]
      obtain ⟨r1, r2⟩ := r
      obtain ⟨ha, hb⟩ := List.getElem?_zip_eq_some.1 e2
      have := h'.shut ha hb
      simp only
      by_cases c : r1 ∈ m
      · rw [if_pos c, if_pos (this.1 c)]
      · rw [if_neg c, if_neg fun d => c (this.2 d)]) q hq
    simp only [if_pos h'.self] at this
    by_cases c : p ∈ m
    · exact c
    · rw [if_neg c] at this; exact (hz this.symm).elim
  have h2 := h'.same h hp
  cases e : fx l with
  | nil =>
    cases e' : fx m with
    | nil =>
      obtain ⟨a1, a2, a3⟩ := stn_nil h.cls.head e
      obtain ⟨b1, b2, b3⟩ := stn_nil h'.cls.head e'
      have := a2 _ (h1 _ b1)
      have := b2 _ (h2 _ a1)
      exact var_same (a3 _ a1) (b3 _ b1) (by omega)
    | cons c f =>
      obtain ⟨-, c1, c2⟩ := stn_cons (t := q) e'
      have := mem_fx.2 ⟨h1 c c1, c2⟩
      rw [e] at this; cases this
  | cons c f =>
    obtain ⟨e1, c1, c2⟩ := stn_cons (t := p) e
    cases e' : fx m with
    | nil =>
      have := mem_fx.2 ⟨h2 c c1, c2⟩
      rw [e'] at this; cases this
    | cons c' f' =>
      obtain ⟨e2, d1, d2⟩ := stn_cons (t := q) e'
      rw [e1, e2]
      exact (fx_one e hl (h1 c' d1) d2).symm
/-- ref's test of a place. -/
def okc (a b : At) (t : Tm) (l : List Tm) : Prop := (fx l).length ≤ 1 ∧ ((t = a.by_ ∨ t = b.by_) → t.var = true → ∀ c, fx l = [c] → c.prin = true)
theorem Uni.least {a b : At} {L : List Bd} (h : Uni a b L) (t : Tm) (hv : (become L t).var = true) : (become L t).n ≤ t.n := by
  obtain ⟨T, rt, hl, hp⟩ := h.cls
  obtain ⟨h1, h2⟩ := says_class hl hp
  by_cases hc : ∀ i : Nat, ¬ T[i]? = some t
  · rw [h2 t hc]; exact Int.le_refl _
  · have : ∃ i : Nat, T[i]? = some t := Classical.byContradiction fun hn => hc fun i hi => hn ⟨i, hi⟩
    obtain ⟨i, hi⟩ := this
    exact ((hl.canon i t _ hi (h1 i t hi)).2 hv).2
theorem Uni.pair {a b : At} {L : List Bd} (h : Uni a b L) : ∀ p ∈ a.pl.zip b.pl, become L p.1 = become L p.2 := by
  obtain ⟨T, rt, hl, hp⟩ := h.cls
  exact class_one hl hp
theorem Uni.makes {a b : At} {L : List Bd} (h : Uni a b L) : Makes (become L) (a.pl.zip b.pl) := ⟨fix_become L, h.pair⟩
theorem Uni.via {a b : At} {L : List Bd} (h : Uni a b L) {f : Tm → Tm} (hf : Makes f (a.pl.zip b.pl)) (t : Tm) : f (become L t) = f t := by
  obtain ⟨T, rt, hl, hp⟩ := h.cls
  exact class_through hl hp f hf t
theorem zip_at {x y : List Tm} {r : Tm × Tm} (h : r ∈ x.zip y) : ∃ k : Nat, x[k]? = some r.1 ∧ y[k]? = some r.2 := by
  obtain ⟨i, hi, e⟩ := List.mem_iff_getElem.1 h
  have e2 : (x.zip y)[i]? = some (r.1, r.2) := by rw [List.getElem?_eq_getElem hi, e]
  exact ⟨i, List.getElem?_zip_eq_some.1 e2⟩
theorem Full.glue {x y : List Tm} {t v : Tm} {l : List Tm} {g : Tm → Tm} (h : Full x y t l) (hg : Makes g (x.zip y)) (ha : ∀ u ∈ l, u.var = true) : Makes (fun u => if u ∈ l then v else g u) (x.zip y) := by
  refine ⟨fun u hu => ?_, fun r hr => ?_⟩
  · simp only
    rw [if_neg fun hm => by rw [ha u hm] at hu; cases hu]
    exact hg.1 u hu
  · obtain ⟨k, h1, h2⟩ := zip_at hr
    have := h.shut h1 h2
    simp only
    by_cases c : r.1 ∈ l
    · rw [if_pos c, if_pos (this.1 c)]
    · rw [if_neg c, if_neg fun d => c (this.2 d)]
      exact hg.2 r hr
/-- Where there is a unifier, each class stands for what it says. -/
theorem Uni.stands {a b : At} {L : List Bd} (h : Uni a b L) {t : Tm} {l : List Tm} (hf : Full a.pl b.pl t l) : stn l t = become L t := by
  have hc := hf.cls.con (become L) h.pair
  cases e : fx l with
  | cons c f =>
    obtain ⟨e1, c1, c2⟩ := stn_cons (t := t) e
    rw [e1, ← hc c c1, become_not L c c2]
  | nil =>
    obtain ⟨a1, a2, a3⟩ := stn_nil hf.cls.head e
    have hv := hc _ a1
    have hg := h.via (hf.glue (v := stn l t) h.makes a3) (stn l t)
    simp only [if_pos a1] at hg
    by_cases c : become L (stn l t) ∈ l
    · have h1 := h.least (stn l t) (a3 _ c)
      have h2 := a2 _ c
      rw [← hv]
      exact var_same (a3 _ a1) (a3 _ c) (by omega)
    · rw [if_neg c, h.twice] at hg
      rw [← hv, hg]
theorem Uni.fxs {a b : At} {L : List Bd} (h : Uni a b L) {t : Tm} {l : List Tm} (hf : Full a.pl b.pl t l) : (fx l).length ≤ 1 := by
  have hc := hf.cls.con (become L) h.pair
  cases e : fx l with
  | nil => simp
  | cons c f =>
    cases f with
    | nil => simp
    | cons d f =>
      exfalso
      have hn : (fx l).Nodup := List.Pairwise.filter _ hf.cls.nd
      rw [e, List.nodup_cons] at hn
      obtain ⟨c1, c2⟩ := mem_fx.1 (show c ∈ fx l by rw [e]; exact List.mem_cons_self)
      obtain ⟨d1, d2⟩ := mem_fx.1 (show d ∈ fx l by rw [e]; exact List.mem_cons_of_mem _ List.mem_cons_self)
      have h1 := hc c c1
      have h2 := hc d d1
      rw [become_not L c c2] at h1
      rw [become_not L d d2] at h2
      exact hn.1 (by rw [h1, ← h2]; exact List.mem_cons_self)
/-- Where there is a unifier, every place passes ref's test. -/
theorem Uni.okc {a b : At} {L : List Bd} (h : Uni a b L) {t : Tm} {l : List Tm} (hf : Full a.pl b.pl t l) : okc a b t l := by
  refine ⟨h.fxs hf, fun hby hv c hc => ?_⟩
  have hs := h.stands hf
  obtain ⟨e1, -, c2⟩ := stn_cons (t := t) hc
  have hfit : FitsB (become L) t = true := by
    rcases hby with rfl | rfl
    · exact h.fa
    · exact h.fb
  unfold FitsB at hfit
  rw [hv, ← hs, e1, c2] at hfit
  simpa using hfit
/-- Where every place passes, there is a unifier. -/
theorem okc_unifier {a b : At} (hsh : shB a b = true) (H : ∀ t ∈ a.pl ++ b.pl, ∃ l, Full a.pl b.pl t l ∧ Go.Proofs.YtlojgaigbdnjjabDoor.okc a b t l) : ∃ f, Fix f ∧ a.mk' f = b.mk' f ∧ FitsB f a.by_ = true ∧ FitsB f b.by_ = true := by
  have hch : ∃ cl : Tm → List Tm, ∀ t ∈ a.pl ++ b.pl, Full a.pl b.pl t (cl t) ∧ Go.Proofs.YtlojgaigbdnjjabDoor.okc a b t (cl t) :=
    ⟨fun t => if h : t ∈ a.pl ++ b.pl then Classical.choose (H t h) else [], fun t ht => by simp only [dif_pos ht]; exact Classical.choose_spec (H t ht)⟩
  obtain ⟨cl, hcl⟩ := hch
  have hfx : Fix (fun t => if t ∈ a.pl ++ b.pl then stn (cl t) t else t) := fun t ht => by
    simp only
    split
    · rename_i hm
      obtain ⟨h1, h2⟩ := hcl t hm
      cases e : fx (cl t) with
      | nil => have := mem_fx.2 ⟨h1.self, ht⟩; rw [e] at this; cases this
      | cons c f => rw [(stn_cons (t := t) e).1]; exact (fx_one e h2.1 h1.self ht).symm
    · rfl
  have hfit : ∀ t, t = a.by_ ∨ t = b.by_ → FitsB (fun t => if t ∈ a.pl ++ b.pl then stn (cl t) t else t) t = true := fun t hby => by
    have hm : t ∈ a.pl ++ b.pl := by
      rcases hby with rfl | rfl
      · exact List.mem_append_left _ (by simp [At.pl])
      · exact List.mem_append_right _ (by simp [At.pl])
    obtain ⟨h1, h2⟩ := hcl t hm
    unfold FitsB
    cases hv : t.var with
    | false => rfl
    | true =>
      simp only [if_pos hm]
      cases e : fx (cl t) with
      | nil =>
        obtain ⟨a1, -, a3⟩ := stn_nil h1.cls.head e
        rw [a3 _ a1]; simp
      | cons c f =>
        have hf : f = [] := by have := h2.1; rw [e, List.length_cons] at this; exact List.eq_nil_of_length_eq_zero (by omega)
        rw [(stn_cons (t := t) e).1, h2.2 hby hv c (by rw [e, hf])]; rfl
  refine ⟨_, hfx, (mk_eq hsh hfx).2 ⟨hfx, fun r hr => ?_⟩, hfit _ (Or.inl rfl), hfit _ (Or.inr rfl)⟩
  obtain ⟨k, h1, h2⟩ := zip_at hr
  have m1 : r.1 ∈ a.pl ++ b.pl := List.mem_append_left _ (List.mem_of_getElem? h1)
  have m2 : r.2 ∈ a.pl ++ b.pl := List.mem_append_right _ (List.mem_of_getElem? h2)
  simp only [if_pos m1, if_pos m2]
  exact same_stn (hcl _ m1).1 (hcl _ m2).1 (((hcl _ m1).1.shut h1 h2).1 (hcl _ m1).1.self) (hcl _ m1).2.1
def bd1 (t : Tm) (l : List Tm) : List Bd := if t.var = true ∧ ¬ stn l t = t then [⟨t.n, stn l t⟩] else []
def bds (z : List (Tm × List Tm)) : List Bd := z.flatMap fun p => bd1 p.1 p.2
theorem mem_bds {z : List (Tm × List Tm)} {d : Bd} : d ∈ bds z ↔ ∃ p ∈ z, p.1.var = true ∧ ¬ stn p.2 p.1 = p.1 ∧ d = ⟨p.1.n, stn p.2 p.1⟩ := by
  unfold bds
  rw [List.mem_flatMap]
  constructor
  · rintro ⟨p, hp, hd⟩
    unfold bd1 at hd
    split at hd
    · rename_i h; exact ⟨p, hp, h.1, h.2, List.mem_singleton.1 hd⟩
    · cases hd
  · rintro ⟨p, hp, h1, h2, rfl⟩
    exact ⟨p, hp, by unfold bd1; rw [if_pos ⟨h1, h2⟩]; exact List.mem_singleton.2 rfl⟩
theorem mem_look' {l : List Bd} {d : Bd} (h : d ∈ l) : ∃ q, look l d.x = some q := by
  cases e : look l d.x with
  | some q => exact ⟨q, rfl⟩
  | none => exact (look_none_mem e d h rfl).elim
/-- ref's binds say what the unifier says. -/
theorem bds_look {a b : At} {L : List Bd} (h : Uni a b L) {C : List (List Tm)} (hl : C.length = (a.pl ++ b.pl).length) (hC : ∀ p ∈ (a.pl ++ b.pl).zip C, Full a.pl b.pl p.1 p.2) (x : Int) : look (bds ((a.pl ++ b.pl).zip C)) x = look L x := by
  obtain ⟨T, rt, hlj, hpp⟩ := h.cls
  have one : ∀ q, look (bds ((a.pl ++ b.pl).zip C)) x = some q → look L x = some q := fun q hq => by
    obtain ⟨p, hp, h1, h2, h3⟩ := mem_bds.1 (mem_look hq)
    have hs := h.stands (hC p hp)
    have e1 : x = p.1.n := congrArg Bd.x h3
    have e2 : q = stn p.2 p.1 := congrArg Bd.to h3
    have h0 : 0 ≤ p.1.n := by have := h1; simp only [Tm.var, decide_eq_true_eq] at this; exact this.2.1
    rw [e1, e2]
    exact (look_of hlj hpp p.1.n _).2 ⟨h0, by rw [← var_eta h1]; exact hs.symm, by rw [← var_eta h1]; exact h2⟩
  cases e : look (bds ((a.pl ++ b.pl).zip C)) x with
  | some q => exact (one q e).symm
  | none =>
    cases e' : look L x with
    | none => rfl
    | some q =>
      exfalso
      obtain ⟨h0, hb, hq⟩ := (look_of hlj hpp x q).1 e'
      have ht : (Tm.mk 3 x ⟨#[]⟩).var = true := by simp [Tm.var, h0]
      have hm : Tm.mk 3 x ⟨#[]⟩ ∈ a.pl ++ b.pl := Classical.byContradiction fun hn => by
        have hg : Makes (fun u => if u ∈ a.pl ++ b.pl then become L u else u) (a.pl.zip b.pl) := by
          refine ⟨fun u hu => ?_, fun r hr => ?_⟩
          · simp only
            split
            · exact become_not L u hu
            · rfl
          · obtain ⟨k, h1, h2⟩ := zip_at hr
            simp only [if_pos (List.mem_append_left b.pl (List.mem_of_getElem? h1)), if_pos (List.mem_append_right a.pl (List.mem_of_getElem? h2))]
            exact h.pair r hr
        have := h.via hg ⟨3, x, ⟨#[]⟩⟩
        simp only [if_neg hn, hb] at this
        split at this
        · rw [← hb, h.twice, hb] at this; exact hq this
        · exact hq this
      obtain ⟨i, hi, ei⟩ := List.mem_iff_getElem.1 hm
      have hci : i < C.length := by omega
      have hz : (Tm.mk 3 x ⟨#[]⟩, C[i]) ∈ (a.pl ++ b.pl).zip C := by
        refine List.mem_of_getElem? (i := i) ?_
        rw [List.getElem?_zip_eq_some]
        exact ⟨by rw [List.getElem?_eq_getElem hi, ei], List.getElem?_eq_getElem hci⟩
      have hs := h.stands (hC _ hz)
      simp only at hs
      obtain ⟨q', hq'⟩ := mem_look' (mem_bds.2 ⟨_, hz, ht, by simp only; rw [hs, hb]; exact hq, rfl⟩)
      simp only at hq'
      rw [e] at hq'
      cases hq'
end Go.Proofs.YtlojgaigbdnjjabDoor
