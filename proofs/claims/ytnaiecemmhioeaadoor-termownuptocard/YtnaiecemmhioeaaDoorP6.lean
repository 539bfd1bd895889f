/-
  What Unify answers, as plain data.
-/
import Derived.Test.YtnaiecemmhioeaaDoorU6
namespace Go.Proofs.YtnaiecemmhioeaaDoor
open Go.RowKit

/-- Rising, each number once. -/
def upl (l : List Bd) : Prop := l.Pairwise fun a b => a.x < b.x
theorem upl_of {l : List Bd} (h : nd l) (hs : srt l) : upl l := by
  unfold nd at h; unfold srt at hs; unfold upl
  exact (h.and hs).imp fun ⟨h1, h2⟩ => by omega
theorem look_upl_none {l : List Bd} {x : Int} (h : ∀ d ∈ l, x < d.x) : look l x = none := by
  induction l with
  | nil => rfl
  | cons d l ih =>
    rw [look, if_neg (by have := h d List.mem_cons_self; omega)]
    exact ih fun e he => h e (List.mem_cons_of_mem _ he)
theorem upl_eq : ∀ (l l' : List Bd), upl l → upl l' → (∀ x, look l x = look l' x) → l = l' := by
  intro l
  induction l with
  | nil =>
    intro l' _ _ h
    cases l' with
    | nil => rfl
    | cons d l' => have := h d.x; rw [look, look, if_pos rfl] at this; cases this
  | cons d l ih =>
    intro l' hu hu' h
    cases l' with
    | nil => have := h d.x; rw [look, look, if_pos rfl] at this; cases this
    | cons d' l' =>
      have h1 := List.pairwise_cons.1 hu
      have h2 := List.pairwise_cons.1 hu'
      have hx : d.x = d'.x := by
        rcases Int.lt_trichotomy d.x d'.x with hlt | heq | hgt
        · exfalso
          have := h d.x
          rw [look, if_pos rfl, look_upl_none (fun e he => by
            rcases List.mem_cons.1 he with rfl | he
            · exact hlt
            · exact Int.lt_trans hlt (h2.1 e he))] at this
          cases this
        · exact heq
        · exfalso
          have := h d'.x
          rw [look_upl_none (l := d :: l) (fun e he => by
            rcases List.mem_cons.1 he with rfl | he
            · exact hgt
            · exact Int.lt_trans hgt (h1.1 e he)), look, if_pos rfl] at this
          cases this
      have ht : d.to = d'.to := by
        have := h d.x
        rw [look, look, if_pos rfl, if_pos hx.symm] at this
        exact Option.some.inj this
      have hd : d = d' := by cases d; cases d'; simp only at hx ht; rw [hx, ht]
      subst hd
      congr 1
      refine ih l' h1.2 h2.2 fun x => ?_
      by_cases hxx : d.x = x
      · subst hxx
        rw [look_upl_none h1.1, look_upl_none h2.1]
      · have := h x
        rw [look, look, if_neg hxx, if_neg hxx] at this
        exact this
theorem up_eq' (l l' : List Bd) (h : nd l) (hs : srt l) (h' : nd l') (hs' : srt l') (he : ∀ x, look l x = look l' x) : l = l' := upl_eq l l' (upl_of h hs) (upl_of h' hs') he
/-- f changes variables alone. -/
def Fix (f : Tm → Tm) : Prop := ∀ t : Tm, t.var = false → f t = t
theorem fix_become (s : List Bd) : Fix (become s) := fun t ht => become_not s t ht
def At.mk' (f : Tm → Tm) (a : At) : At := ⟨f a.by_, a.name, a.args.map f⟩
def FitsB (f : Tm → Tm) (t : Tm) : Bool := !t.var || ((f t).prin || (f t).var)
theorem map_zip_eq {f : Tm → Tm} : ∀ (p q : List Tm), p.length = q.length → (p.map f = q.map f ↔ ∀ y ∈ p.zip q, f y.1 = f y.2) := by
  intro p
  induction p with
  | nil => intro q h; cases q with
    | nil => simp
    | cons _ _ => cases h
  | cons t p ih =>
    intro q h
    cases q with
    | nil => cases h
    | cons u q =>
      rw [List.map_cons, List.map_cons, List.zip_cons_cons, List.cons.injEq, ih q (by simpa using h)]
      constructor
      · rintro ⟨h1, h2⟩ y hy
        rcases List.mem_cons.1 hy with rfl | hy
        · exact h1
        · exact h2 y hy
      · intro hh
        exact ⟨hh (t, u) List.mem_cons_self, fun y hy => hh y (List.mem_cons_of_mem _ hy)⟩
theorem sh_true {a b : At} (h : shB a b = true) : a.name = b.name ∧ a.pl.length = b.pl.length := by
  simp only [shB, Bool.and_eq_true, beq_iff_eq] at h
  exact ⟨toList_inj h.1, by simp [At.pl, h.2]⟩
theorem mk_eq {a b : At} {f : Tm → Tm} (h : shB a b = true) (hf : Fix f) : a.mk' f = b.mk' f ↔ Makes f (a.pl.zip b.pl) := by
  obtain ⟨hn, hl⟩ := sh_true h
  have e : a.mk' f = b.mk' f ↔ a.pl.map f = b.pl.map f := by
    unfold At.mk' At.pl
    rw [At.mk.injEq, List.map_cons, List.map_cons, List.cons.injEq]
    exact ⟨fun h => ⟨h.1, h.2.2⟩, fun h => ⟨h.1, hn, h.2⟩⟩
  rw [e, map_zip_eq _ _ hl]
  exact ⟨fun hh => ⟨hf, hh⟩, fun hh => hh.2⟩
theorem mk_shape {a b : At} {f : Tm → Tm} (h : a.mk' f = b.mk' f) : shB a b = true := by
  unfold At.mk' at h
  rw [At.mk.injEq] at h
  have hl : a.args.length = b.args.length := by have := congrArg List.length h.2.2; simpa using this
  simp [shB, h.2.1, hl]
/-- The yes. -/
structure Uni (a b : At) (out : List Bd) : Prop where
  sh : shB a b = true
  srt : srt out
  nd : nd out
  cls : ∃ (T : List Tm) (rt : Nat → Nat), LJ (a.pl.zip b.pl) T rt ∧ out.Perm (bnd T rt T.length)
  fa : FitsB (become out) a.by_ = true
  fb : FitsB (become out) b.by_ = true
  len : out.length ≤ 1000000000000
theorem Uni.one {a b : At} {out : List Bd} (h : Uni a b out) : a.mk' (become out) = b.mk' (become out) := by
  obtain ⟨T, rt, hl, hp⟩ := h.cls
  exact (mk_eq h.sh (fix_become out)).2 ⟨fix_become out, class_one hl hp⟩
theorem say_fits {r : List (Tm × Tm)} {T : List Tm} {rt : Nat → Nat} {t : Tm} {out : List Bd} (h : LJ r T rt) (hp : out.Perm (bnd T rt T.length)) (hs : Say T rt t true) : FitsB (become out) t = true := by
  rcases hs with ⟨hv, -⟩ | ⟨hv, i, x, hi, hx, hb⟩
  · unfold FitsB; rw [hv]; rfl
  · have := (says_class h hp).1 i t hi
    rw [hx] at this
    obtain rfl := Option.some.inj this
    unfold FitsB
    rw [Bool.or_comm] at hb
    rw [← hb, Bool.or_true]
theorem say_no {r : List (Tm × Tm)} {T : List Tm} {rt : Nat → Nat} {t : Tm} {f : Tm → Tm} (h : LJ r T rt) (hs : Say T rt t false) (hf : Makes f r) : FitsB f t = false := by
  rcases hs with ⟨-, hb⟩ | ⟨hv, i, x, hi, hx, hb⟩
  · cases hb
  · have hxv : x.var = false ∧ x.prin = false := by
      have := hb.symm
      simpa using this
    have e : f t = x := by rw [h.comp f hf i t x hi hx, hf.1 x hxv.1]
    unfold FitsB
    rw [hv, e, hxv.1, hxv.2]; rfl
theorem upost_facts {w w' : World} {a b : At} {e : Ending} (h : UPost w a b e w') : Below w.heap.size w w' ∧ ∃ (m : Value) (is : Bool), e = .returned (.tuple #[m, .bool is]) ∧
    ((is = false ∧ m = .slice none 0 0 ∧ ∀ f, Fix f → a.mk' f = b.mk' f → FitsB f a.by_ = true → FitsB f b.by_ = true → False) ∨ (is = true ∧ ∃ out, Own w' w.heap.size m out ∧ Uni a b out)) := by
  obtain ⟨hb, h⟩ := h
  refine ⟨hb, ?_⟩
  rcases h with ⟨h1, rfl⟩ | ⟨h1, j, t, u, T, T', rt, rt', hz, hl, hk, rfl⟩ | ⟨h1, T, rt, hl, hs, rfl⟩ | ⟨h1, T, rt, v', out, hl, sa, sb, rfl, ho, hp, hs, hlen⟩
  · exact ⟨_, _, rfl, Or.inl ⟨rfl, rfl, fun f hf he _ _ => by rw [mk_shape he] at h1; cases h1⟩⟩
  · refine ⟨_, _, rfl, Or.inl ⟨rfl, rfl, fun f hf he _ _ => ?_⟩⟩
    have hm := (mk_eq h1 hf).1 he
    exact lk_false hl hk f ⟨hf, fun y hy => hm.2 y (List.mem_of_mem_take hy)⟩ (hm.2 (t, u) (List.mem_of_getElem? hz))
  · refine ⟨_, _, rfl, Or.inl ⟨rfl, rfl, fun f hf he ha hb => ?_⟩⟩
    have hm := (mk_eq h1 hf).1 he
    rcases hs with hs | hs
    · rw [say_no hl hs hm] at ha; cases ha
    · rw [say_no hl hs hm] at hb; cases hb
  · have hnd := bnd_nd (rt := rt) hl.nd T.length
    refine ⟨_, _, rfl, Or.inr ⟨rfl, out, ho, ⟨h1, hs, nd_perm hnd hp, ⟨T, rt, hl, hp⟩, say_fits hl hp sa, say_fits hl hp sb, ?_⟩⟩⟩
    rw [hp.length_eq]
    have := bnd_len T rt T.length
    omega
theorem look_of {T : List Tm} {rt : Nat → Nat} {r : List (Tm × Tm)} {out : List Bd} (h : LJ r T rt) (hp : out.Perm (bnd T rt T.length)) (x : Int) (q : Tm) : look out x = some q ↔ (0 ≤ x ∧ become out ⟨3, x, ⟨#[]⟩⟩ = q ∧ ¬ q = ⟨3, x, ⟨#[]⟩⟩) := by
  have hnd := nd_perm (bnd_nd (rt := rt) h.nd T.length) hp
  have hbe : 0 ≤ x → become out ⟨3, x, ⟨#[]⟩⟩ = (look out x).getD ⟨3, x, ⟨#[]⟩⟩ := fun hx => by
    unfold become
    rw [if_pos (by simp [Tm.var, hx])]
  constructor
  · intro hq
    obtain ⟨i, t, y, -, h1, h2, h3, h4, h5⟩ := bnd_mem.1 (hp.mem_iff.1 (mem_look hq))
    have e1 : x = t.n := congrArg Bd.x h5
    have e2 : q = y := congrArg Bd.to h5
    have h0 : 0 ≤ x := by
      rw [e1]; simp only [Tm.var, decide_eq_true_eq] at h3; exact h3.2.1
    refine ⟨h0, by rw [hbe h0, hq]; rfl, ?_⟩
    rw [e2, e1, ← var_eta h3]; exact h4
  · rintro ⟨h0, h1, h2⟩
    rw [hbe h0] at h1
    cases e : look out x with
    | none => rw [e] at h1; exact absurd h1.symm h2
    | some z => rw [e] at h1; rw [← h1]; rfl
end Go.Proofs.YtnaiecemmhioeaaDoor
