/-
  The checker, plain: the fact of a step, or what is wrong with it; the facts of all steps.
-/
import Derived.Test.YtbhdalchnbfohaaRC1
import Derived.Test.YtbhdalchnbfohaaLE1
import Derived.Test.YtbhdalchnbfohaaCP1
namespace Go.Proofs.Ytbhdalchnbfohaa
open Go.RowKit

theorem aErr_fstH : ∀ {l l' : List (At × Value)}, fsts l = fsts l' → aErr l = aErr l'
  | [], [], _ => rfl
  | [], _ :: _, h => by simp [fsts] at h
  | _ :: _, [], h => by simp [fsts] at h
  | x :: l, y :: l', h => by
    simp only [fsts, List.map_cons, List.cons.injEq] at h
    have ih := aErr_fstH (l := l) (l' := l') h.2
    unfold aErr
    rw [h.1, ih]
theorem chk_kH {c d : Cm} (h : d.key = c.key) : d.chk = c.chk := by
  have k1 : d.head.1 = c.head.1 := congrArg (fun k : Ck => k.1) h
  have k2 : fsts d.body = fsts c.body := congrArg (fun k : Ck => k.2.1) h
  have k3 : d.tests = c.tests := congrArg (fun k : Ck => k.2.2) h
  have e1 : long d = long c := by unfold long; rw [(key_len d).1, (key_len d).2, (key_len c).1, (key_len c).2, h]
  have e2 : aErr d.atoms = aErr c.atoms := aErr_fstH (by unfold Cm.atoms; simp only [fsts, List.map_cons]; rw [k1]; congr 1)
  have e3 : badT d = badT c := by unfold badT; rw [k3]
  have e4 : unb d = unb c := by rw [unb_key, unb_key, h]
  have e5 : mis 0 d.vars = mis 0 c.vars := by rw [mis_key, mis_key, h]
  unfold Cm.chk Cm.rs
  rw [e1, e2, e3, e4, e5, k1]
/-- What Check says of a clause's data. -/
def chkH (x : Ck) : Int := Cm.chk ⟨(x.1, .slice none 0 0), x.2.1.map fun a => (a, .slice none 0 0), .slice none 0 0, x.2.2, .slice none 0 0⟩
theorem chk_keyH (c : Cm) : c.chk = chkH c.key := by
  unfold chkH
  refine chk_kH ?_
  simp [Cm.key, fsts]
theorem chk_ksH {c : Cm} (h : c.chk = 0) : KS c.key := by
  have h1 : long c = false := by
    cases e : long c
    · rfl
    · rw [chk_1 e] at h; cases h
  have h2 : aErr c.atoms = 0 := by
    by_cases e : aErr c.atoms = 0
    · exact e
    · rw [chk_2 h1 e] at h; exact absurd h e
  have hall := aErr_all h2
  have hl : c.body.length ≤ 8 ∧ c.tests.length ≤ 8 := by
    simp only [long, decide_eq_false_iff_not, Bool.or_eq_false_iff] at h1
    omega
  rw [(key_len c).1, (key_len c).2] at hl
  refine ⟨(err_zero' (hall c.head (by simp [Cm.atoms]))).2.1, hl.1, hl.2, fun a ha => ?_⟩
  obtain ⟨x, hx, rfl⟩ := List.mem_map.1 ha
  exact (err_zero' (hall x (by simp [Cm.atoms, hx]))).2.1
theorem cvars_any (c : Cm) (w : World) (h : c.ok w) (hw : ∀ v ∈ c.vars, (Lit.int .i64 v).wf = true) (hvl : c.vars.length < 4000000000000000000) :
    Calls Try.prog 22 #[c.v] w fun e w' => e = .returned (.int .i64 ((dis c.vars).length : Nat)) ∧ Below w.heap.size w w' := vars_any c w h hw hvl
theorem dis_lenH (l : List Tm) : (dis (vrs l)).length = (disT l).length := by rw [← disT_n, List.length_map]
/-- How many variables a clause has. -/
def nvH (c : Ck) : Nat := (disT (Ck.terms c)).length
/-- The i-th atom is the fact that the i-th number names. -/
def fitH (B : List At) (U : List Int) (F : List At) (i : Nat) : Bool := decide (B[i]? = (U[i]?).bind fun u => F[u.toNat]?)
def usH (U : List Int) (n : Nat) : Bool := U.all fun u => decide (0 ≤ u ∧ u < (n : Int))
/-- A step by a rule. -/
def ruleH (c : Ck) (V : List Tm) (U : List Int) (F : List At) : Except Int At :=
  if chkH c ≠ 0 then .error 122
  else if V.length ≠ nvH c then .error 123
  else if V.all Tm.con = false then .error 123
  else if U.length ≠ c.2.1.length then .error 124
  else if usH U F.length = false then .error 124
  else if (mapC (ins V) c).2.2.all Te.holds = false then .error 125
  else if (List.range (mapC (ins V) c).2.1.length).all (fitH (mapC (ins V) c).2.1 U F) = false then .error 126
  else .ok (mapC (ins V) c).1
def stepH (R : List Ck) (s : Sk) (F : List At) : Except Int At :=
  if 0 ≤ s.1 then match R[s.1.toNat]? with
    | none => .error 122
    | some c => ruleH c s.2.1 s.2.2 F
  else .error 122
theorem stepH_none {R : List Ck} {s : Sk} {F : List At} (h : ¬ (0 ≤ s.1 ∧ s.1 < (R.length : Int))) : stepH R s F = .error 122 := by
  unfold stepH
  by_cases h0 : 0 ≤ s.1
  · rw [if_pos h0, List.getElem?_eq_none (by omega)]
  · rw [if_neg h0]
theorem stepH_some {R : List Ck} {s : Sk} {F : List At} {c : Ck} (h0 : 0 ≤ s.1) (h : R[s.1.toNat]? = some c) : stepH R s F = ruleH c s.2.1 s.2.2 F := by
  unfold stepH
  rw [if_pos h0, h]
theorem ruleH_1 {c : Ck} {V : List Tm} {U : List Int} {F : List At} (h : chkH c ≠ 0) : ruleH c V U F = .error 122 := by unfold ruleH; rw [if_pos h]
theorem ruleH_2 {c : Ck} {V : List Tm} {U : List Int} {F : List At} (h : chkH c = 0) (h2 : V.length ≠ nvH c) : ruleH c V U F = .error 123 := by unfold ruleH; rw [if_neg (by rw [h]; simp), if_pos h2]
theorem ruleH_3 {c : Ck} {V : List Tm} {U : List Int} {F : List At} (h : chkH c = 0) (h2 : V.length = nvH c) (h3 : V.all Tm.con = false) : ruleH c V U F = .error 123 := by unfold ruleH; rw [if_neg (by rw [h]; simp), if_neg (by simp [h2]), if_pos h3]
theorem ruleH_4 {c : Ck} {V : List Tm} {U : List Int} {F : List At} (h : chkH c = 0) (h2 : V.length = nvH c) (h3 : V.all Tm.con = true) (h4 : U.length ≠ c.2.1.length) : ruleH c V U F = .error 124 := by unfold ruleH; rw [if_neg (by rw [h]; simp), if_neg (by simp [h2]), if_neg (by simp [h3]), if_pos h4]
theorem ruleH_5 {c : Ck} {V : List Tm} {U : List Int} {F : List At} (h : chkH c = 0) (h2 : V.length = nvH c) (h3 : V.all Tm.con = true) (h4 : U.length = c.2.1.length) (h5 : usH U F.length = false) : ruleH c V U F = .error 124 := by unfold ruleH; rw [if_neg (by rw [h]; simp), if_neg (by simp [h2]), if_neg (by simp [h3]), if_neg (by simp [h4]), if_pos h5]
theorem ruleH_6 {c : Ck} {V : List Tm} {U : List Int} {F : List At} (h : chkH c = 0) (h2 : V.length = nvH c) (h3 : V.all Tm.con = true) (h4 : U.length = c.2.1.length) (h5 : usH U F.length = true) (h6 : (mapC (ins V) c).2.2.all Te.holds = false) : ruleH c V U F = .error 125 := by unfold ruleH; rw [if_neg (by rw [h]; simp), if_neg (by simp [h2]), if_neg (by simp [h3]), if_neg (by simp [h4]), if_neg (by simp [h5]), if_pos h6]
theorem ruleH_7 {c : Ck} {V : List Tm} {U : List Int} {F : List At} (h : chkH c = 0) (h2 : V.length = nvH c) (h3 : V.all Tm.con = true) (h4 : U.length = c.2.1.length) (h5 : usH U F.length = true) (h6 : (mapC (ins V) c).2.2.all Te.holds = true) (h7 : (List.range (mapC (ins V) c).2.1.length).all (fitH (mapC (ins V) c).2.1 U F) = false) : ruleH c V U F = .error 126 := by unfold ruleH; rw [if_neg (by rw [h]; simp), if_neg (by simp [h2]), if_neg (by simp [h3]), if_neg (by simp [h4]), if_neg (by simp [h5]), if_neg (by simp [h6]), if_pos h7]
theorem ruleH_8 {c : Ck} {V : List Tm} {U : List Int} {F : List At} (h : chkH c = 0) (h2 : V.length = nvH c) (h3 : V.all Tm.con = true) (h4 : U.length = c.2.1.length) (h5 : usH U F.length = true) (h6 : (mapC (ins V) c).2.2.all Te.holds = true) (h7 : (List.range (mapC (ins V) c).2.1.length).all (fitH (mapC (ins V) c).2.1 U F) = true) : ruleH c V U F = .ok (mapC (ins V) c).1 := by unfold ruleH; rw [if_neg (by rw [h]; simp), if_neg (by simp [h2]), if_neg (by simp [h3]), if_neg (by simp [h4]), if_neg (by simp [h5]), if_neg (by simp [h6]), if_neg (by simp [h7])]
/-- All steps, one behind the other. -/
def allH (R : List Ck) : List Sk → List At → Except Int (List At)
  | [], F => .ok F
  | s :: S, F => match stepH R s F with
    | .error c => .error c
    | .ok a => allH R S (F ++ [a])
/-- What Conclude answers. -/
def conH (R : List Ck) (S : List Sk) : Except Int (List At) := if S.length = 0 ∨ 5000 < S.length then .error 121 else allH R S []
theorem allF {α : Type} {l : List α} {p : α → Bool} {j : Nat} {x : α} (h : l[j]? = some x) (hp : p x = false) : l.all p = false := by
  rw [List.all_eq_false]
  exact ⟨x, List.mem_of_getElem? h, by rw [hp]; simp⟩
theorem allT {α : Type} {l : List α} {p : α → Bool} (h : ∀ (j : Nat) (x : α), l[j]? = some x → p x = true) : l.all p = true := by
  rw [List.all_eq_true]
  intro x hx
  obtain ⟨j, hj⟩ := List.mem_iff_getElem?.1 hx
  exact h j x hj
end Go.Proofs.Ytbhdalchnbfohaa
