import Derived.Test.YtdfgijdededolabGreatDoorCL7
import Derived.Test.YtdfgijdededolabGreatDoorR1
import Derived.DeepKeys4
import Derived.Test.YtdfgijdededolabGreatDoorA1
/-
  Terms and predicates as keys of maps.
-/
namespace Go.Proofs.YtdfgijdededolabGreatDoor
open Go.RowKit

/-- A predicate. -/
structure Pd where
  nm : ByteArray
  ar : Int
theorem Pd.ext' {p q : Pd} (h1 : p.nm = q.nm) (h2 : p.ar = q.ar) : p = q := by cases p; cases q; cases h1; cases h2; rfl
abbrev Pd.v (p : Pd) : Value := .agg #[.string p.nm, .int .i64 p.ar]
def cmpP (p q : Pd) : Int := if M.sgL p.nm.toList q.nm.toList ≠ 0 then M.sgL p.nm.toList q.nm.toList else M.sgI p.ar q.ar
structure KeyT (t : Tm) : Prop where
  k : (Lit.int .i64 t.k).wf = true
  n : (Lit.int .i64 t.n).wf = true
  s : t.s.size ≤ maxLen
structure KeyP (p : Pd) : Prop where
  n : p.nm.size ≤ maxLen
  a : (Lit.int .i64 p.ar).wf = true
def kT (t : Tm) : Lit := .string (keyBytes [.int .i64 t.k, .int .i64 t.n, .string t.s.data.toList])
def kP (p : Pd) : Lit := .string (keyBytes [.string p.nm.data.toList, .int .i64 p.ar])
theorem Tryz.rowTerm : (35 : TypeId) < Tryz.prog.types.size := of_decide_eq_true (by kernel_rfl)
theorem Tryz.wideTerm : (match Tryz.prog.underlying 35 with | some (.array _ _) | some (.struct _) => true | _ => false) = true := by kernel_rfl
theorem Tryz.keyTypeTerm : Tryz.prog.keyType 35 = true := by kernel_rfl
set_option maxRecDepth 100000 in
theorem Tryz.lawTerm : Maps.Keyed Tryz.prog 35 := Maps.Keyed.of_law (deep_law_laid Tryz.laidOut (m := 2) (by omega) Tryz.rowTerm (by kernel_rfl) Tryz.wideTerm)
theorem Tryz.rowPred : (61 : TypeId) < Tryz.prog.types.size := of_decide_eq_true (by kernel_rfl)
theorem Tryz.widePred : (match Tryz.prog.underlying 61 with | some (.array _ _) | some (.struct _) => true | _ => false) = true := by kernel_rfl
theorem Tryz.keyTypePred : Tryz.prog.keyType 61 = true := by kernel_rfl
set_option maxRecDepth 100000 in
theorem Tryz.lawPred : Maps.Keyed Tryz.prog 61 := Maps.Keyed.of_law (deep_law_laid Tryz.laidOut (m := 2) (by omega) Tryz.rowPred (by kernel_rfl) Tryz.widePred)
theorem Tryz.cellsOfTerm : Tryz.prog.cellsOf 35 = 3 := by kernel_rfl
theorem Tryz.cellsOfPred : Tryz.prog.cellsOf 61 = 2 := by kernel_rfl
theorem Tryz.cellsOfInt : Tryz.prog.cellsOf 3 = 1 := by kernel_rfl
theorem Tryz.cellsOfString : Tryz.prog.cellsOf 9 = 1 := by kernel_rfl
theorem lits_int {d : Nat} (c : Value) : Tryz.prog.keyLits (d + 1) 3 [c] = match c with | .int .i64 n => if (Lit.int .i64 n).wf = true then some [Lit.int .i64 n] else none | _ => none := by
  unfold Program.keyLits
  rw [Tryz.underlying3]
  cases c with
  | int q n => 
    by_cases h : q = .i64
    · subst h; simp
    · cases q <;> first | (exact absurd rfl h) | simp
  | _ => rfl
theorem lits_string {d : Nat} (c : Value) : Tryz.prog.keyLits (d + 1) 9 [c] = match c with | .string s => if s.size ≤ maxLen then some [Lit.string s.data.toList] else none | _ => none := by
  unfold Program.keyLits
  rw [Tryz.underlying9]
  cases c <;> rfl
theorem pos_succ {n k : Nat} (h : k < n) : ∃ d, n = d + 1 := ⟨n - 1, by omega⟩
theorem types_pos : ∃ d, Tryz.prog.types.size = d + 1 := pos_succ Tryz.rowTerm
theorem lits_term (c0 c1 c2 : Value) (d : Nat) : Tryz.prog.keyLits (d + 1 + 1) 35 [c0, c1, c2] = (Tryz.prog.keyLits (d + 1) 3 [c0]).bind fun x => (Tryz.prog.keyLits (d + 1) 3 [c1]).bind fun y => (Tryz.prog.keyLits (d + 1) 9 [c2]).bind fun z => some (x ++ (y ++ z)) := by
  have hc := Tryz.cellsOfTerm
  have hi := Tryz.cellsOfInt
  have hs := Tryz.cellsOfString
  conv => lhs; unfold Program.keyLits
  rw [Tryz.underlying35]
  generalize Tryz.prog.keyLits (d + 1) = F at *
  simp [hc, hi, hs, List.mapM_cons, List.mapM_nil]
  cases F 3 [c0] <;> cases F 3 [c1] <;> cases F 9 [c2] <;> simp
theorem lits_pred (c0 c1 : Value) (d : Nat) : Tryz.prog.keyLits (d + 1 + 1) 61 [c0, c1] = (Tryz.prog.keyLits (d + 1) 9 [c0]).bind fun x => (Tryz.prog.keyLits (d + 1) 3 [c1]).bind fun y => some (x ++ y) := by
  have hc := Tryz.cellsOfPred
  have hi := Tryz.cellsOfInt
  have hs := Tryz.cellsOfString
  conv => lhs; unfold Program.keyLits
  rw [Tryz.underlying61]
  generalize Tryz.prog.keyLits (d + 1) = F at *
  simp [hc, hi, hs, List.mapM_cons, List.mapM_nil]
  cases F 9 [c0] <;> cases F 3 [c1] <;> simp
theorem keyOf_term_eq (v : Value) : keyOf Tryz.prog 35 v = if v.formed Tryz.prog 35 = true then (Tryz.prog.keyLits (Tryz.prog.types.size + 1) 35 v.cells.toList).map (fun ls => Lit.string (keyBytes ls)) else none := by
  unfold keyOf
  rw [Tryz.underlying35, Tryz.keyTypeTerm]
  simp only [Bool.true_and]
theorem keyOf_pred_eq (v : Value) : keyOf Tryz.prog 61 v = if v.formed Tryz.prog 61 = true then (Tryz.prog.keyLits (Tryz.prog.types.size + 1) 61 v.cells.toList).map (fun ls => Lit.string (keyBytes ls)) else none := by
  unfold keyOf
  rw [Tryz.underlying61, Tryz.keyTypePred]
  simp only [Bool.true_and]
set_option maxRecDepth 100000 in
theorem formed_term (v : Value) : v.formed Tryz.prog 35 = true ↔ ∃ c0 c1 c2, v = .agg #[c0, c1, c2] := by
  constructor
  · intro h
    cases v with
    | agg cs =>
      have hs : cs.size = 3 := by simpa [Value.formed, Tryz.underlying35, Tryz.cellsOfTerm] using h
      obtain ⟨l⟩ := cs
      match l, hs with
      | [a, b, c], _ => exact ⟨a, b, c, rfl⟩
    | _ => simp [Value.formed, Tryz.underlying35] at h
  · rintro ⟨c0, c1, c2, rfl⟩
    simp [Value.formed, Tryz.underlying35, Tryz.cellsOfTerm]
set_option maxRecDepth 100000 in
theorem formed_pred (v : Value) : v.formed Tryz.prog 61 = true ↔ ∃ c0 c1, v = .agg #[c0, c1] := by
  constructor
  · intro h
    cases v with
    | agg cs =>
      have hs : cs.size = 2 := by simpa [Value.formed, Tryz.underlying61, Tryz.cellsOfPred] using h
      obtain ⟨l⟩ := cs
      match l, hs with
      | [a, b], _ => exact ⟨a, b, rfl⟩
    | _ => simp [Value.formed, Tryz.underlying61] at h
  · rintro ⟨c0, c1, rfl⟩
    simp [Value.formed, Tryz.underlying61, Tryz.cellsOfPred]
theorem keyOf_tm {t : Tm} (h : KeyT t) : keyOf Tryz.prog 35 t.v = some (kT t) := by
  obtain ⟨d, hd⟩ := types_pos
  rw [keyOf_term_eq, if_pos ((formed_term _).2 ⟨_, _, _, rfl⟩), hd]
  show Option.map _ (Tryz.prog.keyLits (d + 1 + 1) 35 [_, _, _]) = _
  rw [lits_term, lits_int, lits_int, lits_string]
  simp [h.k, h.n, h.s, kT]
theorem keyOf_pd {p : Pd} (h : KeyP p) : keyOf Tryz.prog 61 p.v = some (kP p) := by
  obtain ⟨d, hd⟩ := types_pos
  rw [keyOf_pred_eq, if_pos ((formed_pred _).2 ⟨_, _, rfl⟩), hd]
  show Option.map _ (Tryz.prog.keyLits (d + 1 + 1) 61 [_, _]) = _
  rw [lits_pred, lits_int, lits_string]
  simp [h.n, h.a, kP]
theorem keyOf_tm_inv {v : Value} {kl : Lit} (h : keyOf Tryz.prog 35 v = some kl) : ∃ t : Tm, v = t.v ∧ kl = kT t ∧ KeyT t := by
  obtain ⟨d, hd⟩ := types_pos
  rw [keyOf_term_eq] at h
  by_cases hf : v.formed Tryz.prog 35 = true
  · rw [if_pos hf, hd] at h
    obtain ⟨c0, c1, c2, rfl⟩ := (formed_term _).1 hf
    replace h : Option.map (fun ls => Lit.string (keyBytes ls)) (Tryz.prog.keyLits (d + 1 + 1) 35 [c0, c1, c2]) = some kl := h
    rw [lits_term, lits_int, lits_int, lits_string] at h
    cases c0 with
    | int q0 n0 => 
      cases c1 with
      | int q1 n1 =>
        cases c2 with
        | string s =>
          cases q0 <;> try (simp at h; done)
          cases q1 <;> try (simp at h; done)
          by_cases h0 : (Lit.int .i64 n0).wf = true
          · by_cases h1 : (Lit.int .i64 n1).wf = true
            · by_cases h2 : s.size ≤ maxLen
              · simp only [h0, h1, h2, if_true, Option.bind_some, Option.map_some, Option.some.injEq] at h
                exact ⟨⟨n0, n1, s⟩, rfl, h.symm, ⟨h0, h1, h2⟩⟩
              · simp [h0, h1, h2] at h
            · simp [h0, h1] at h
          · simp [h0] at h
        | _ => simp at h
      | _ => simp at h
    | _ => simp at h
  · rw [if_neg hf] at h; cases h
theorem keyOf_pd_inv {v : Value} {kl : Lit} (h : keyOf Tryz.prog 61 v = some kl) : ∃ p : Pd, v = p.v ∧ kl = kP p ∧ KeyP p := by
  obtain ⟨d, hd⟩ := types_pos
  rw [keyOf_pred_eq] at h
  by_cases hf : v.formed Tryz.prog 61 = true
  · rw [if_pos hf, hd] at h
    obtain ⟨c0, c1, rfl⟩ := (formed_pred _).1 hf
    replace h : Option.map (fun ls => Lit.string (keyBytes ls)) (Tryz.prog.keyLits (d + 1 + 1) 61 [c0, c1]) = some kl := h
    rw [lits_pred, lits_int, lits_string] at h
    cases c0 with
    | string s =>
      cases c1 with
      | int q1 n1 =>
        cases q1 <;> try (simp at h; done)
        by_cases h0 : s.size ≤ maxLen
        · by_cases h1 : (Lit.int .i64 n1).wf = true
          · simp only [h0, h1, if_true, Option.bind_some, Option.map_some, Option.some.injEq] at h
            exact ⟨⟨s, n1⟩, rfl, h.symm, ⟨h0, h1⟩⟩
          · simp [h0, h1] at h
        · simp [h0] at h
      | _ => simp at h
    | _ => simp at h
  · rw [if_neg hf] at h; cases h
theorem kT_inj {t u : Tm} (ht : KeyT t) (hu : KeyT u) (h : kT t = kT u) : t = u := by
  have := Tryz.lawTerm.inj (keyOf_tm ht) (h ▸ keyOf_tm hu)
  cases t; cases u
  simpa [Tm.v] using this
theorem kP_inj {t u : Pd} (ht : KeyP t) (hu : KeyP u) (h : kP t = kP u) : t = u := by
  have := Tryz.lawPred.inj (keyOf_pd ht) (h ▸ keyOf_pd hu)
  cases t; cases u
  simpa [Pd.v] using this
theorem ord_pd : Ord3 cmpP := by
  have h := Ord3.lex (γ := Pd) ord_sgL ord_sgI (fun p => p.nm.toList) (fun p => p.ar) (fun x y h h' => Pd.ext' (ByteArray.ext (Array.toList_inj.1 (by simpa [ByteArray.toList_eq] using h))) h')
  exact h
end Go.Proofs.YtdfgijdededolabGreatDoor
/-
  Clauses in their order, as plain mathematics. (Written by CL22.py.)
-/
namespace Go.Proofs.YtdfgijdededolabGreatDoor

def cmpN {α : Type} (f : α → α → Int) : List α → List α → Int
  | x :: p, y :: q => if f x y ≠ 0 then f x y else cmpN f p q
  | _, _ => 0
theorem cmpN_ord {α : Type} {f : α → α → Int} (hf : Ord3 f) : ∀ n : Nat, (∀ a b : List α, a.length = n → b.length = n → (cmpN f a b = -1 ∨ cmpN f a b = 0 ∨ cmpN f a b = 1) ∧ cmpN f b a = - cmpN f a b ∧ (cmpN f a b = 0 → a = b)) ∧
    (∀ a b c : List α, a.length = n → b.length = n → c.length = n → cmpN f a b ≤ 0 → cmpN f b c ≤ 0 → cmpN f a c ≤ 0 ∧ (cmpN f a b < 0 ∨ cmpN f b c < 0 → cmpN f a c < 0))
  | 0 => by
    refine ⟨fun a b ha hb => ?_, fun a b c ha hb hc => ?_⟩
    · rw [List.length_eq_zero_iff] at ha hb; subst ha hb; simp [cmpN]
    · rw [List.length_eq_zero_iff] at ha hb hc; subst ha hb hc; simp [cmpN]
  | n + 1 => by
    have ih := cmpN_ord hf n
    refine ⟨fun a b ha hb => ?_, fun a b c ha hb hc => ?_⟩
    · match a, b, ha, hb with
      | x :: a, y :: b, ha, hb =>
        have i := ih.1 a b (by simpa using ha) (by simpa using hb)
        have hn := hf.neg x y
        by_cases h : f x y = 0
        · have e := hf.zero x y h
          simp only [cmpN]
          rw [if_neg (by omega), if_neg (by omega)]
          exact ⟨i.1, i.2.1, fun h' => by rw [e, i.2.2 h']⟩
        · simp only [cmpN]
          rw [if_pos h, if_pos (by omega)]
          exact ⟨hf.rng x y, hn, fun h' => absurd h' h⟩
    · match a, b, c, ha, hb, hc with
      | x :: a, y :: b, z :: c, ha, hb, hc =>
        have i := ih.2 a b c (by simpa using ha) (by simpa using hb) (by simpa using hc)
        have t := hf.tr x y z
        simp only [cmpN]
        by_cases h1 : f x y = 0
        · have e1 := hf.zero _ _ h1
          rw [e1] at h1 ⊢
          by_cases h2 : f y z = 0
          · simp only [h1, h2, ne_eq, not_true_eq_false, if_false]; exact i
          · simp only [h1, h2, ne_eq, not_true_eq_false, not_false_eq_true, if_false, if_true]; intro _ h; exact ⟨h, fun _ => by omega⟩
        · by_cases h2 : f y z = 0
          · have e2 := hf.zero _ _ h2
            rw [← e2] at h2 ⊢
            simp only [h1, h2, ne_eq, not_true_eq_false, not_false_eq_true, if_false, if_true]
            intro h _; exact ⟨h, fun _ => by omega⟩
          · simp only [h1, h2, ne_eq, not_false_eq_true, if_true]
            intro h h'
            have := (t h h').2 (Or.inl (by omega))
            rw [if_pos (by omega)]
            exact ⟨by omega, fun _ => this⟩
def cmpNL {α : Type} (f : α → α → Int) (a b : List α) : Int := if M.sgI a.length b.length ≠ 0 then M.sgI a.length b.length else cmpN f a b
theorem cmpNL_ne {α : Type} (f : α → α → Int) (a b : List α) (h : a.length ≠ b.length) : cmpNL f a b = M.sgI a.length b.length := by
  unfold cmpNL; rw [if_pos (by rw [ne_eq, zI]; omega)]
theorem cmpNL_eq {α : Type} (f : α → α → Int) (a b : List α) (h : a.length = b.length) : cmpNL f a b = cmpN f a b := by
  unfold cmpNL; rw [if_neg (by rw [ne_eq, zI]; omega)]
theorem ord_nl {α : Type} {f : α → α → Int} (hf : Ord3 f) : Ord3 (cmpNL f) where
  rng a b := by
    by_cases h : a.length = b.length
    · rw [cmpNL_eq f a b h]; exact ((cmpN_ord hf _).1 a b rfl h.symm).1
    · rw [cmpNL_ne f a b h]; exact ord_sgI.rng _ _
  neg a b := by
    by_cases h : a.length = b.length
    · rw [cmpNL_eq f a b h, cmpNL_eq f b a h.symm]; exact ((cmpN_ord hf _).1 a b rfl h.symm).2.1
    · rw [cmpNL_ne f a b h, cmpNL_ne f b a (Ne.symm h)]; exact ord_sgI.neg _ _
  zero a b := by
    by_cases h : a.length = b.length
    · rw [cmpNL_eq f a b h]; exact ((cmpN_ord hf _).1 a b rfl h.symm).2.2
    · rw [cmpNL_ne f a b h, zI]; omega
  refl a := by
    rw [cmpNL_eq f a a rfl]
    have h := ((cmpN_ord hf _).1 a a rfl rfl).2.1
    omega
  tr a b c := by
    have t := ord_sgI.tr a.length b.length c.length
    have z1 := zI a.length b.length
    have z2 := zI b.length c.length
    have z3 := zI a.length c.length
    by_cases h1 : a.length = b.length
    · by_cases h2 : b.length = c.length
      · rw [cmpNL_eq f a b h1, cmpNL_eq f b c h2, cmpNL_eq f a c (h1.trans h2)]
        exact (cmpN_ord hf _).2 a b c rfl h1.symm (h1.trans h2).symm
      · rw [cmpNL_eq f a b h1, cmpNL_ne f b c h2, cmpNL_ne f a c (by omega), h1]
        intro _ h; exact ⟨h, fun _ => by omega⟩
    · by_cases h2 : b.length = c.length
      · rw [cmpNL_ne f a b h1, cmpNL_eq f b c h2, cmpNL_ne f a c (by omega), ← h2]
        intro h _; exact ⟨h, fun _ => by omega⟩
      · rw [cmpNL_ne f a b h1, cmpNL_ne f b c h2]
        intro h h'
        have := (t h h').2 (Or.inl (by omega))
        rw [cmpNL_ne f a c (by omega)]
        exact ⟨by omega, fun _ => this⟩

theorem cmpG_N {α : Type} (f : α → α → Int) : ∀ p q : List α, cmpG f p q = cmpN f p q
  | [], _ => rfl
  | _ :: _, [] => rfl
  | x :: p, y :: q => by
    simp only [cmpG, cmpN]
    by_cases h : f x y = 0
    · rw [if_pos h, if_neg (by omega), cmpG_N f p q]
    · rw [if_neg h, if_pos h]
theorem cmpG_X : ∀ p q : List (At × Value), cmpG cmpX p q = cmpG At.cmp (fsts p) (fsts q)
  | [], _ => by simp [fsts, cmpG]
  | _ :: _, [] => by simp [fsts, cmpG]
  | x :: p, y :: q => by
    show (if x.1.cmp y.1 = 0 then cmpG cmpX p q else x.1.cmp y.1) = if x.1.cmp y.1 = 0 then cmpG At.cmp (fsts p) (fsts q) else x.1.cmp y.1
    rw [cmpG_X p q]
theorem cmpGL_N {α : Type} (f : α → α → Int) (p q : List α) : cmpGL f p q = cmpNL f p q := by
  unfold cmpGL
  by_cases h : p.length = q.length
  · rw [if_pos h, cmpNL_eq f _ _ h, cmpG_N]
  · rw [if_neg h, cmpNL_ne f _ _ h]
theorem cmpGL_X (p q : List (At × Value)) : cmpGL cmpX p q = cmpNL At.cmp (fsts p) (fsts q) := by
  rw [← cmpGL_N]
  unfold cmpGL
  rw [cmpG_X]
  simp [fsts]
theorem ord_te : Ord3 Te.cmp := by
  have h1 := Ord3.lex (γ := Tm × Tm) ord_tm ord_tm (fun x => x.1) (fun x => x.2) (fun x y h h' => Prod.ext h h')
  have h2 := Ord3.lex (γ := Te) ord_sgI h1 (fun x => x.op) (fun x => (x.l, x.r)) (fun x y h h' => by
    obtain ⟨o, l, r⟩ := x
    obtain ⟨o', l', r'⟩ := y
    simp only [Prod.mk.injEq] at h h'
    rw [h, h'.1, h'.2])
  exact h2
/-- What a clause is, wherever it lies. -/
def Cm.key (c : Cm) : At × List At × List Te := (c.head.1, fsts c.body, c.tests)
def cmpC (x y : At × List At × List Te) : Int := if x.1.cmp y.1 ≠ 0 then x.1.cmp y.1 else if cmpNL At.cmp x.2.1 y.2.1 ≠ 0 then cmpNL At.cmp x.2.1 y.2.1 else cmpNL Te.cmp x.2.2 y.2.2
theorem ord_c : Ord3 cmpC := by
  have h1 := Ord3.lex (γ := List At × List Te) (ord_nl ord_at) (ord_nl ord_te) (fun x => x.1) (fun x => x.2) (fun x y h h' => Prod.ext h h')
  exact Ord3.lex (γ := At × List At × List Te) ord_at h1 (fun x => x.1) (fun x => x.2) (fun x y h h' => Prod.ext h h')
theorem cmp_key (c d : Cm) : c.cmp d = cmpC c.key d.key := by
  unfold Cm.cmp cmpC Cm.key
  rw [cmpGL_X, cmpGL_N]
end Go.Proofs.YtdfgijdededolabGreatDoor
