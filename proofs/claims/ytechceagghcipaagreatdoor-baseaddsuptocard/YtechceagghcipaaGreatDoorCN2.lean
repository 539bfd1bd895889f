import Derived.Test.YtechceagghcipaaGreatDoorCL6
import Derived.Test.YtechceagghcipaaGreatDoorR1
import Derived.DeepKeys4
import Derived.Test.YtechceagghcipaaGreatDoorM2
namespace Go.Proofs.YtechceagghcipaaGreatDoor
open Go.RowKit

structure Pd where
 nm : ByteArray
 ar : Int
theorem Pd.ext' {p q : Pd} (h1 : p.nm = q.nm) (h2 : p.ar = q.ar) : p = q := by cases p; cases q; cases h1; cases h2; rfl
abbrev Pd.v (p : Pd) : Value := .agg #[.string p.nm, .int .i64 p.ar]
def cmpP (p q : Pd) : Int := if M.sgL p.nm.toList q.nm.toList ≠ 0 then M.sgL p.nm.toList q.nm.toList else M.sgI p.ar q.ar
structure KeyT (t : Tm) : Prop where
 k : (Lit.int .i64 t.k).wf = true
 n : (Lit.int .i64 t.n).wf = true
 s : t.s.size <= maxLen
structure KeyP (p : Pd) : Prop where
 n : p.nm.size <= maxLen
 a : (Lit.int .i64 p.ar).wf = true
def kT (t : Tm) : Lit := .string (keyBytes [.int .i64 t.k, .int .i64 t.n, .string t.s.data.toList])
def kP (p : Pd) : Lit := .string (keyBytes [.string p.nm.data.toList, .int .i64 p.ar])
theorem Tryz.rowTerm : (24 : TypeId) < Tryz.prog.types.size := of_decide_eq_true (by kernel_rfl)
theorem Tryz.wideTerm : (match Tryz.prog.underlying 24 with | some (.array _ _) | some (.struct _) => true | _ => false) = true := by kernel_rfl
theorem Tryz.keyTypeTerm : Tryz.prog.keyType 24 = true := by kernel_rfl
set_option maxRecDepth 100000 in
theorem Tryz.lawTerm : Maps.Keyed Tryz.prog 24 := Maps.Keyed.of_law (deep_law_laid Tryz.laidOut (m := 2) (by omega) Tryz.rowTerm (by kernel_rfl) Tryz.wideTerm)
theorem Tryz.rowPred : (60 : TypeId) < Tryz.prog.types.size := of_decide_eq_true (by kernel_rfl)
theorem Tryz.widePred : (match Tryz.prog.underlying 60 with | some (.array _ _) | some (.struct _) => true | _ => false) = true := by kernel_rfl
theorem Tryz.keyTypePred : Tryz.prog.keyType 60 = true := by kernel_rfl
set_option maxRecDepth 100000 in
theorem Tryz.lawPred : Maps.Keyed Tryz.prog 60 := Maps.Keyed.of_law (deep_law_laid Tryz.laidOut (m := 2) (by omega) Tryz.rowPred (by kernel_rfl) Tryz.widePred)
theorem Tryz.cellsOfTerm : Tryz.prog.cellsOf 24 = 3 := by kernel_rfl
theorem Tryz.cellsOfPred : Tryz.prog.cellsOf 60 = 2 := by kernel_rfl
theorem Tryz.cellsOfInt : Tryz.prog.cellsOf 3 = 1 := by kernel_rfl
theorem Tryz.cellsOfString : Tryz.prog.cellsOf 9 = 1 := by kernel_rfl
theorem lits_int {d : Nat} (c : Value) : Tryz.prog.keyLits (d + 1) 3 [c] = match c with | .int .i64 n => if (Lit.int .i64 n).wf = true then some [Lit.int .i64 n] else none | _ => none := by
 unfold Program.keyLits
 rw [Tryz.underlying3]
 cases c with
 | int q n => 
  by_cases h : q = .i64
  ·subst h; simp
  ·cases q <;> first | (exact absurd rfl h) | simp
 | _ => rfl
theorem lits_string {d : Nat} (c : Value) : Tryz.prog.keyLits (d + 1) 9 [c] = match c with | .string s => if s.size <= maxLen then some [Lit.string s.data.toList] else none | _ => none := by
 unfold Program.keyLits
 rw [Tryz.underlying9]
 cases c <;> rfl
theorem pos_succ {n k : Nat} (h : k < n) : ∃ d, n = d + 1 := ⟨n - 1, by omega⟩
theorem types_pos : ∃ d, Tryz.prog.types.size = d + 1 := pos_succ Tryz.rowTerm
theorem lits_term (c0 c1 c2 : Value) (d : Nat) : Tryz.prog.keyLits (d + 1 + 1) 24 [c0, c1, c2] = (Tryz.prog.keyLits (d + 1) 3 [c0]).bind fun x => (Tryz.prog.keyLits (d + 1) 3 [c1]).bind fun y => (Tryz.prog.keyLits (d + 1) 9 [c2]).bind fun z => some (x ++ (y ++ z)) := by
 have hc := Tryz.cellsOfTerm
 have hi := Tryz.cellsOfInt
 have hs := Tryz.cellsOfString
 conv => lhs; unfold Program.keyLits
 rw [Tryz.underlying24]
 generalize Tryz.prog.keyLits (d + 1) = F at *
 simp [hc, hi, hs, List.mapM_cons, List.mapM_nil]
 cases F 3 [c0] <;> cases F 3 [c1] <;> cases F 9 [c2] <;> simp
theorem lits_pred (c0 c1 : Value) (d : Nat) : Tryz.prog.keyLits (d + 1 + 1) 60 [c0, c1] = (Tryz.prog.keyLits (d + 1) 9 [c0]).bind fun x => (Tryz.prog.keyLits (d + 1) 3 [c1]).bind fun y => some (x ++ y) := by
 have hc := Tryz.cellsOfPred
 have hi := Tryz.cellsOfInt
 have hs := Tryz.cellsOfString
 conv => lhs; unfold Program.keyLits
 rw [Tryz.underlying60]
 generalize Tryz.prog.keyLits (d + 1) = F at *
 simp [hc, hi, hs, List.mapM_cons, List.mapM_nil]
 cases F 9 [c0] <;> cases F 3 [c1] <;> simp
theorem keyOf_term_eq (v : Value) : keyOf Tryz.prog 24 v = if v.formed Tryz.prog 24 = true then (Tryz.prog.keyLits (Tryz.prog.types.size + 1) 24 v.cells.toList).map (fun ls => Lit.string (keyBytes ls)) else none := by
 unfold keyOf
 rw [Tryz.underlying24, Tryz.keyTypeTerm]
 simp only [Bool.true_and]
theorem keyOf_pred_eq (v : Value) : keyOf Tryz.prog 60 v = if v.formed Tryz.prog 60 = true then (Tryz.prog.keyLits (Tryz.prog.types.size + 1) 60 v.cells.toList).map (fun ls => Lit.string (keyBytes ls)) else none := by
 unfold keyOf
 rw [Tryz.underlying60, Tryz.keyTypePred]
 simp only [Bool.true_and]
set_option maxRecDepth 100000 in
theorem formed_term (v : Value) : v.formed Tryz.prog 24 = true ↔ ∃ c0 c1 c2, v = .agg #[c0, c1, c2] := by
 constructor
 ·intro h
  cases v with
  | agg cs =>
   have hs : cs.size = 3 := by simpa [Value.formed, Tryz.underlying24, Tryz.cellsOfTerm] using h
   obtain ⟨l⟩ := cs
   match l, hs with
   | [a, b, c], _ => exact ⟨a, b, c, rfl⟩
  | _ => simp [Value.formed, Tryz.underlying24] at h
 ·rintro ⟨c0, c1, c2, rfl⟩
  simp [Value.formed, Tryz.underlying24, Tryz.cellsOfTerm]
set_option maxRecDepth 100000 in
theorem formed_pred (v : Value) : v.formed Tryz.prog 60 = true ↔ ∃ c0 c1, v = .agg #[c0, c1] := by
 constructor
 ·intro h
  cases v with
  | agg cs =>
   have hs : cs.size = 2 := by simpa [Value.formed, Tryz.underlying60, Tryz.cellsOfPred] using h
   obtain ⟨l⟩ := cs
   match l, hs with
   | [a, b], _ => exact ⟨a, b, rfl⟩
  | _ => simp [Value.formed, Tryz.underlying60] at h
 ·rintro ⟨c0, c1, rfl⟩
  simp [Value.formed, Tryz.underlying60, Tryz.cellsOfPred]
theorem keyOf_tm {t : Tm} (h : KeyT t) : keyOf Tryz.prog 24 t.v = some (kT t) := by
 obtain ⟨d, hd⟩ := types_pos
 rw [keyOf_term_eq, if_pos ((formed_term _).2 ⟨_, _, _, rfl⟩), hd]
 show Option.map _ (Tryz.prog.keyLits (d + 1 + 1) 24 [_, _, _]) = _
 rw [lits_term, lits_int, lits_int, lits_string]
 simp [h.k, h.n, h.s, kT]
theorem keyOf_pd {p : Pd} (h : KeyP p) : keyOf Tryz.prog 60 p.v = some (kP p) := by
 obtain ⟨d, hd⟩ := types_pos
 rw [keyOf_pred_eq, if_pos ((formed_pred _).2 ⟨_, _, rfl⟩), hd]
 show Option.map _ (Tryz.prog.keyLits (d + 1 + 1) 60 [_, _]) = _
 rw [lits_pred, lits_int, lits_string]
 simp [h.n, h.a, kP]
theorem keyOf_tm_inv {v : Value} {kl : Lit} (h : keyOf Tryz.prog 24 v = some kl) : ∃ t : Tm, v = t.v /\ kl = kT t /\ KeyT t := by
 obtain ⟨d, hd⟩ := types_pos
 rw [keyOf_term_eq] at h
 by_cases hf : v.formed Tryz.prog 24 = true
 ·rw [if_pos hf, hd] at h
  obtain ⟨c0, c1, c2, rfl⟩ := (formed_term _).1 hf
  replace h : Option.map (fun ls => Lit.string (keyBytes ls)) (Tryz.prog.keyLits (d + 1 + 1) 24 [c0, c1, c2]) = some kl := h
  rw [lits_term, lits_int, lits_int, lits_string] at h
  cases c0 with
  | int q0 n0 => 
   cases c1 with
   | int q1 n1 =>
    cases c2 with
    | string s =>
     cases q0 <;> try (simp at h; done)
     cases q1 <;> try (simp at h; done)
     by_cases h0 : (Lit.int .i64 n0).wf = true
     ·by_cases h1 : (Lit.int .i64 n1).wf = true
      ·by_cases h2 : s.size <= maxLen
       ·simp only [h0, h1, h2, if_true, Option.bind_some, Option.map_some, Option.some.injEq] at h
        exact ⟨⟨n0, n1, s⟩, rfl, h.symm, ⟨h0, h1, h2⟩⟩
       ·simp [h0, h1, h2] at h
      ·simp [h0, h1] at h
     ·simp [h0] at h
    | _ => simp at h
   | _ => simp at h
  | _ => simp at h
 ·rw [if_neg hf] at h; cases h
theorem keyOf_pd_inv {v : Value} {kl : Lit} (h : keyOf Tryz.prog 60 v = some kl) : ∃ p : Pd, v = p.v /\ kl = kP p /\ KeyP p := by
 obtain ⟨d, hd⟩ := types_pos
 rw [keyOf_pred_eq] at h
 by_cases hf : v.formed Tryz.prog 60 = true
 ·rw [if_pos hf, hd] at h
  obtain ⟨c0, c1, rfl⟩ := (formed_pred _).1 hf
  replace h : Option.map (fun ls => Lit.string (keyBytes ls)) (Tryz.prog.keyLits (d + 1 + 1) 60 [c0, c1]) = some kl := h
  rw [lits_pred, lits_int, lits_string] at h
  cases c0 with
  | string s =>
   cases c1 with
   | int q1 n1 =>
    cases q1 <;> try (simp at h; done)
    by_cases h0 : s.size <= maxLen
    ·by_cases h1 : (Lit.int .i64 n1).wf = true
     ·simp only [h0, h1, if_true, Option.bind_some, Option.map_some, Option.some.injEq] at h
      exact ⟨⟨s, n1⟩, rfl, h.symm, ⟨h0, h1⟩⟩
     ·simp [h0, h1] at h
    ·simp [h0] at h
   | _ => simp at h
  | _ => simp at h
 ·rw [if_neg hf] at h; cases h
theorem kT_inj {t u : Tm} (ht : KeyT t) (hu : KeyT u) (h : kT t = kT u) : t = u := by
 have := Tryz.lawTerm.inj (keyOf_tm ht) (h ▸ keyOf_tm hu)
 cases t; cases u
 simpa [Tm.v] using this
theorem kP_inj {t u : Pd} (ht : KeyP t) (hu : KeyP u) (h : kP t = kP u) : t = u := by
 have := Tryz.lawPred.inj (keyOf_pd ht) (h ▸ keyOf_pd hu)
 cases t; cases u
 simpa [Pd.v] using this
theorem ord_pd : Ord3 cmpP := by
 have h := Ord3.lex (γ := Pd) ord_sgL ord_sgI (fun p => p.nm.toList) (fun p => p.ar) (fun x y h h' => Pd.ext' (ByteArray.ext (Array.toList_inj.1 (by simpa [ByteArray.toList_eq] using h))) h')
 exact h
end Go.Proofs.YtechceagghcipaaGreatDoor
