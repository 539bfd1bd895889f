import Derived.Test.YtdfdnjkeiddfjaaDoorK13
import Derived.Test.YtdfdnjkeiddfjaaDoorK17
import Derived.Lib.ItoaMem
import Derived.Test.YtdfdnjkeiddfjaaDoorSC3
import Derived.Test.YtdfdnjkeiddfjaaDoorK9
import Derived.BigQuiet
import Derived.Lib.AtoiAllCases
import Derived.Laws.AppendOwnNone
import Derived.Laws.AppendOwn
/-
  hearsaylaw04.TokensFront: the walk.
-/
namespace Go.Proofs.YtdfdnjkeiddfjaaDoor
open Go.RowKit

theorem cutL_all (s : ByteArray) : cutL (blK s) (s.size : Int) = ct (s.size + 1) (blK s) 0 [] := by
  unfold cutL; rw [bl_len, if_neg (by omega)]
theorem bl_append (s t : ByteArray) : blK (s ++ t) = blK s ++ blK t := by
  unfold blK
  rw [← List.map_append]
  have : (s ++ t).data = s.data ++ t.data := ByteArray.data_append
  rw [this, Array.toList_append]
theorem bl_extract (s : ByteArray) (p : Nat) : blK (s.extract 0 p) = (blK s).take p := by
  rw [extract_eq, List.drop_zero, Nat.sub_zero, bl_ofL (byt_take (bl_byt s) p)]
theorem run_eql_ft (e p e' p' : Int) (w : World) : (binOp .eql 27 (.agg #[.int .i64 e, .int .i64 p]) (.agg #[.int .i64 e', .int .i64 p'])).run Tryd.prog w = .ok (.bool (decide (e = e' ∧ p = p'))) w := by
  by_cases h1 : e = e'
  · by_cases h2 : p = p'
    · subst h1 h2; go_simp
    · subst h1; go_simp
  · go_simp
end Go.Proofs.YtdfdnjkeiddfjaaDoor
/-
  gap, bare; the places of tokens, plain.
-/
namespace Go.Proofs.YtdfdnjkeiddfjaaDoor
open Go.RowKit

/-- Blanks and remarks: whether one is inside of a remark at the end; none, if something else stands there. -/
def gpS : Bool → List Int → Option Bool
  | b, [] => some b
  | true, c :: r => gpS (!decide (c = 10)) r
  | false, c :: r => if c = 37 then gpS true r else if c = 32 ∨ c = 9 ∨ c = 10 ∨ c = 13 then gpS false r else none
def gpB (l : List Int) (e : Bool) : Bool := match gpS false l with
  | none => false
  | some b => !b || e
/-- Where tokens lie in a text, from a place on. -/
def Pl (l : List Int) : Nat → List Tk → Prop
  | off, [] => off ≤ l.length ∧ gpB (l.drop off) true = true
  | off, t :: T => ∃ a len : Nat, t.a = (a : Int) ∧ t.e = ((a + len : Nat) : Int) ∧ off ≤ a ∧ 1 ≤ len ∧ a + len ≤ l.length ∧ gpB ((l.drop off).take (a - off)) false = true ∧
      (∀ f, len < f → ct f ((l.drop a).take len) 0 [] = ([⟨t.k, t.x, t.n, 0, (len : Int)⟩], 0, 0)) ∧ Pl l (a + len) T
end Go.Proofs.YtdfdnjkeiddfjaaDoor
/-
  There and back: numbers, runs (plain).
-/
namespace Go.Proofs.YtdfdnjkeiddfjaaDoor

theorem rl_all : ∀ (l y : List Int), (∀ x ∈ l, rnb x = true) → rl (l ++ y) = l.length + rl y
  | [], y, _ => by simp
  | c :: l, y, h => by
    rw [List.cons_append, rl_cons, if_pos (h c (by simp)), rl_all l y (fun x hx => h x (by simp [hx]))]
    simp only [List.length_cons]; omega
end Go.Proofs.YtdfdnjkeiddfjaaDoor
/-
  There and back: every token that has a spelling (plain).
-/
namespace Go.Proofs.YtdfdnjkeiddfjaaDoor

theorem sgo_rng {k : Int} (h : ¬ sgo k = ⟨#[]⟩) : 5 ≤ k ∧ k ≤ 16 := by
  by_cases h0 : 0 ≤ k
  · by_cases h1 : k < 17
    · by_cases h2 : 5 ≤ k
      · omega
      · have : k = 0 ∨ k = 1 ∨ k = 2 ∨ k = 3 ∨ k = 4 := by omega
        rcases this with rfl | rfl | rfl | rfl | rfl <;> exact absurd rfl h
    · refine absurd ?_ h
      unfold sgo; rw [if_pos h0, List.getElem?_eq_none (by rw [signL_len]; omega)]; rfl
  · refine absurd ?_ h
    unfold sgo; rw [if_neg h0]
end Go.Proofs.YtdfdnjkeiddfjaaDoor
/-
  script (stage 25): the document's put (all parts but bytes).
-/
namespace Go.Proofs.YtdfdnjkeiddfjaaDoor
open Go.RowKit
attribute [local go_sem ↓] Go.wp_at_zero Go.wp_at_succ

/-- A step, but for its bytes. -/
structure SdO where
  k : Int
  who : ByteArray
  too : ByteArray
  tx : ByteArray
  n : Int
  m : Int
  q : Int
abbrev SdO.v (d : SdO) (a : Option Addr) (bn bc : Nat) : Value := .agg #[.int .i64 d.k, .string d.who, .string d.too, .string d.tx, .slice a bn bc, .int .i64 d.n, .int .i64 d.m, .int .i64 d.q]
def putS (p : Int) (d : SdO) (t : Tk) : SdO :=
  if p = 119 then { d with who := t.x } else if p = 111 then { d with too := t.x } else if p = 116 then { d with tx := t.x } else if p = 110 then { d with n := t.n } else if p = 109 then { d with m := t.n } else if p = 107 then { d with q := t.n } else d
end Go.Proofs.YtdfdnjkeiddfjaaDoor
/-
  script (stage 25): the document's shown (all parts but bytes).
-/
namespace Go.Proofs.YtdfdnjkeiddfjaaDoor
open Go.RowKit
attribute [local go_sem ↓] Go.wp_at_zero Go.wp_at_succ

/-- A number's digits. -/
def ibS (n : Int) : ByteArray := ⟨(Lib.itoa n).toArray⟩
end Go.Proofs.YtdfdnjkeiddfjaaDoor
