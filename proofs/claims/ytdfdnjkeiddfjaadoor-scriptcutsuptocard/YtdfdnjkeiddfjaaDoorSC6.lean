import Derived.Test.YtdfdnjkeiddfjaaDoorK16
import Derived.Test.YtdfdnjkeiddfjaaDoorK13
import Derived.Lib.ItoaMem
import Derived.Test.YtdfdnjkeiddfjaaDoorSC3
import Derived.Test.YtdfdnjkeiddfjaaDoorK9
import Derived.BigQuiet
import Derived.Lib.AtoiAllCases
import Derived.Laws.AppendOwnNone
import Derived.Laws.AppendOwn
/-
  Faults: their places, what stands ahead of them, and texts that go on.
-/
namespace Go.Proofs.YtdfdnjkeiddfjaaDoor

/-- What Cut's loop tells of its fault. -/
theorem ct_fault : ∀ (f : Nat) (l : List Int) (off : Nat) (acc : List Tk), l.length < f →
    ((ct f l off acc).2.1 = 0 ∧ (ct f l off acc).2.2 = 0) ∨
    (∃ p : Nat, ((ct f l off acc).2.2 = ((off + p : Nat) : Int)) ∧ p < l.length ∧
      ((ct f l off acc).2.1 = 42 ∨ (ct f l off acc).2.1 = 43 ∨ (ct f l off acc).2.1 = 44 ∨ (ct f l off acc).2.1 = 45) ∧
      (∀ (f' : Nat) (acc' : List Tk), l.length < f' → (ct f' (l.take p) off acc').2.1 = if (ct f l off acc).2.1 = 44 then 43 else 0) ∧
      (∀ (f' : Nat) (acc' : List Tk) (m : List Int), (l ++ 32 :: m).length < f' → (ct f l off acc).2.1 = 42 ∨ (ct f l off acc).2.1 = 45 → (ct f' (l ++ 32 :: m) off acc').2 = (ct f l off acc).2))
  | 0, _, _, _, h => by omega
  | f + 1, [], off, acc, _ => Or.inl ⟨rfl, rfl⟩
  | f + 1, c :: r, off, acc, h => by
    simp only [List.length_cons] at h
    rw [ct_cons]
    by_cases q1 : c = 32 ∨ c = 9 ∨ c = 10 ∨ c = 13
    · rw [if_pos q1]
      rcases ct_fault f r (off + 1) acc (by omega) with h0 | ⟨p, h1, h2, h3, h4, h5⟩
      · exact Or.inl h0
      · refine Or.inr ⟨p + 1, by rw [h1]; omega, by simp; omega, h3, fun f' acc' hf => ?_, fun f' acc' m hf he => ?_⟩
        · simp only [List.length_cons] at hf
          obtain ⟨f', rfl⟩ : ∃ g, f' = g + 1 := ⟨f' - 1, by omega⟩
          rw [List.take_succ_cons, ct_cons, if_pos q1]
          exact h4 f' acc' (by omega)
        · simp only [List.cons_append, List.length_cons] at hf
          obtain ⟨f', rfl⟩ : ∃ g, f' = g + 1 := ⟨f' - 1, by omega⟩
          rw [List.cons_append, ct_cons, if_pos q1]
          exact h5 f' acc' m (by omega) he
    · rw [if_neg q1]
      by_cases q2 : c = 37
      · rw [if_pos q2]
        have hle := le_le (c :: r)
        have hle1 : le_ (c :: r) = le_ r + 1 := by rw [le_cons, if_neg (by omega)]
        obtain ⟨e, he'⟩ : ∃ e, le_ (c :: r) = e := ⟨_, rfl⟩
        rw [he'] at hle hle1 ⊢
        simp only [List.length_cons] at hle
        have hdl : ((c :: r).drop e).length = r.length + 1 - e := by simp
        rcases ct_fault f ((c :: r).drop e) (off + e) acc (by omega) with h0 | ⟨p, h1, h2, h3, h4, h5⟩
        · exact Or.inl h0
        · rw [hdl] at h2 h4
          refine Or.inr ⟨e + p, by rw [h1]; omega, by simp; omega, h3, fun f' acc' hf => ?_, fun f' acc' m hf he => ?_⟩
          · simp only [List.length_cons] at hf
            obtain ⟨f', rfl⟩ : ∃ g, f' = g + 1 := ⟨f' - 1, by omega⟩
            obtain ⟨n, hn⟩ : ∃ n, e + p = n + 1 := ⟨e + p - 1, by omega⟩
            have el : le_ (c :: r.take n) = e := by
              have := le_take (c :: r) (n + 1)
              rw [List.take_succ_cons, he'] at this
              rw [this]; omega
            rw [hn, List.take_succ_cons, ct_cons, if_neg q1, if_pos q2, el]
            have ed : (c :: r.take n).drop e = ((c :: r).drop e).take p := by
              rw [← List.take_succ_cons, List.drop_take]; congr 1; omega
            rw [ed]
            exact h4 f' acc' (by omega)
          · simp only [List.cons_append, List.length_cons, List.length_append] at hf
            obtain ⟨f', rfl⟩ : ∃ g, f' = g + 1 := ⟨f' - 1, by omega⟩
            have el : le_ ((c :: r) ++ 32 :: m) = e := by
              rw [le_app _ _ (by rw [he']; simp only [List.length_cons]; omega), he']
            rw [List.cons_append, ct_cons, if_neg q1, if_pos q2, ← List.cons_append, el, drop_app_le _ _ _ (by simp only [List.length_cons]; omega)]
            exact h5 f' acc' m (by simp only [List.length_append, List.length_drop, List.length_cons]; omega) he
      · rw [if_neg q2]
        cases et : tok (c :: r) with
        | bad e o =>
          have htb := tok_bad et
          refine Or.inr ⟨o, rfl, ?_, ?_, fun f' acc' hf => ?_, fun f' acc' m hf he => ?_⟩
          · simp only [List.length_cons]; omega
          · show e = 42 ∨ e = 43 ∨ e = 44 ∨ e = 45; omega
          · simp only [List.length_cons] at hf
            obtain ⟨f', rfl⟩ : ∃ g, f' = g + 1 := ⟨f' - 1, by omega⟩
            show _ = if e = 44 then (43 : Int) else 0
            rcases htb with ⟨rfl, he⟩ | ⟨rfl, h1, h2, h3⟩
            · rw [if_neg (by omega), List.take_zero]; rfl
            · obtain ⟨n, rfl⟩ : ∃ n, o = n + 1 := ⟨o - 1, by omega⟩
              rw [if_pos rfl, List.take_succ_cons, ct_cons, if_neg q1, if_neg q2]
              rw [Nat.add_sub_cancel] at h3
              rw [h3]
          · simp only [List.cons_append, List.length_cons] at hf
            obtain ⟨f', rfl⟩ : ∃ g, f' = g + 1 := ⟨f' - 1, by omega⟩
            have he2 : e = 42 ∨ e = 45 := he
            rw [List.cons_append, ct_cons, if_neg q1, if_neg q2, tok_app (fun e' o' h' => by rw [et] at h'; cases h'; exact he2), et]
        | ok k x n len =>
          have htl := (tok_len c r).1 k x n len et
          have hdl : ((c :: r).drop len).length = r.length + 1 - len := by simp
          rcases ct_fault f ((c :: r).drop len) (off + len) (acc ++ [⟨k, ofL x, n, off, (off + len : Nat)⟩]) (by omega) with h0 | ⟨p, h1, h2, h3, h4, h5⟩
          · exact Or.inl h0
          · rw [hdl] at h2 h4
            refine Or.inr ⟨len + p, by show (ct f _ _ _).2.2 = _; rw [h1]; omega, by simp; omega, h3, fun f' acc' hf => ?_, fun f' acc' m hf he => ?_⟩
            · simp only [List.length_cons] at hf
              obtain ⟨f', rfl⟩ : ∃ g, f' = g + 1 := ⟨f' - 1, by omega⟩
              obtain ⟨z, hz⟩ : ∃ z, len + p = z + 1 := ⟨len + p - 1, by omega⟩
              rw [hz, List.take_succ_cons, ct_cons, if_neg q1, if_neg q2, tok_take et z (by omega)]
              have ed : (c :: r.take z).drop len = ((c :: r).drop len).take p := by
                rw [← List.take_succ_cons, List.drop_take]; congr 1; omega
              show (ct f' ((c :: r.take z).drop len) _ _).2.1 = _
              rw [ed]
              exact h4 f' _ (by omega)
            · simp only [List.cons_append, List.length_cons, List.length_append] at hf
              obtain ⟨f', rfl⟩ : ∃ g, f' = g + 1 := ⟨f' - 1, by omega⟩
              rw [List.cons_append, ct_cons, if_neg q1, if_neg q2, tok_app (fun e' o' h' => by rw [et] at h'; cases h'), et]
              show (ct f' ((c :: (r ++ 32 :: m)).drop len) _ _).2 = _
              rw [← List.cons_append, drop_app_le _ _ _ (by simp only [List.length_cons]; omega)]
              exact h5 f' _ m (by simp only [List.length_append, List.length_drop, List.length_cons]; omega) he
end Go.Proofs.YtdfdnjkeiddfjaaDoor
/-
  hearsaylaw04.TokensFront: the walk.
-/
namespace Go.Proofs.YtdfdnjkeiddfjaaDoor
open Go.RowKit

theorem cutL_all (s : ByteArray) : cutL (blK s) (s.size : Int) = ct (s.size + 1) (blK s) 0 [] := by
  unfold cutL; rw [bl_len, if_neg (by omega)]
theorem run_eql_ft (e p e' p' : Int) (w : World) : (binOp .eql 27 (.agg #[.int .i64 e, .int .i64 p]) (.agg #[.int .i64 e', .int .i64 p'])).run Tryd.prog w = .ok (.bool (decide (e = e' ∧ p = p'))) w := by
  by_cases h1 : e = e'
  · by_cases h2 : p = p'
    · subst h1 h2; go_simp
    · subst h1; go_simp
  · go_simp
end Go.Proofs.YtdfdnjkeiddfjaaDoor
/-
  There and back: numbers, runs (plain).
-/
namespace Go.Proofs.YtdfdnjkeiddfjaaDoor

theorem rl_all : ∀ (l y : List Int), (∀ x ∈ l, rnb x = true) → rl (l ++ y) = l.length + rl y
  | [], y, _ => by simp
  | c :: l, y, h => by
    rw [List.cons_append, rl_cons, if_pos (h c (by simp)), rl_all l y (fun x hx => h x (by simp [hx]))]
    simp only [List.length_cons]; omega
end Go.Proofs.YtdfdnjkeiddfjaaDoor
/-
  There and back: every token that has a spelling (plain).
-/
namespace Go.Proofs.YtdfdnjkeiddfjaaDoor

theorem sgo_rng {k : Int} (h : ¬ sgo k = ⟨#[]⟩) : 5 ≤ k ∧ k ≤ 16 := by
  by_cases h0 : 0 ≤ k
  · by_cases h1 : k < 17
    · by_cases h2 : 5 ≤ k
      · omega
      · have : k = 0 ∨ k = 1 ∨ k = 2 ∨ k = 3 ∨ k = 4 := by omega
        rcases this with rfl | rfl | rfl | rfl | rfl <;> exact absurd rfl h
    · refine absurd ?_ h
      unfold sgo; rw [if_pos h0, List.getElem?_eq_none (by rw [signL_len]; omega)]; rfl
  · refine absurd ?_ h
    unfold sgo; rw [if_neg h0]
end Go.Proofs.YtdfdnjkeiddfjaaDoor
/-
  script (stage 25): the document's put (all parts but bytes).
-/
namespace Go.Proofs.YtdfdnjkeiddfjaaDoor
open Go.RowKit
attribute [local go_sem ↓] Go.wp_at_zero Go.wp_at_succ

/-- A step, but for its bytes. -/
structure SdO where
  k : Int
  who : ByteArray
  too : ByteArray
  tx : ByteArray
  n : Int
  m : Int
  q : Int
abbrev SdO.v (d : SdO) (a : Option Addr) (bn bc : Nat) : Value := .agg #[.int .i64 d.k, .string d.who, .string d.too, .string d.tx, .slice a bn bc, .int .i64 d.n, .int .i64 d.m, .int .i64 d.q]
def putS (p : Int) (d : SdO) (t : Tk) : SdO :=
  if p = 119 then { d with who := t.x } else if p = 111 then { d with too := t.x } else if p = 116 then { d with tx := t.x } else if p = 110 then { d with n := t.n } else if p = 109 then { d with m := t.n } else if p = 107 then { d with q := t.n } else d
end Go.Proofs.YtdfdnjkeiddfjaaDoor
/-
  script (stage 25): the document's shown (all parts but bytes).
-/
namespace Go.Proofs.YtdfdnjkeiddfjaaDoor
open Go.RowKit
attribute [local go_sem ↓] Go.wp_at_zero Go.wp_at_succ

/-- A number's digits. -/
def ibS (n : Int) : ByteArray := ⟨(Lib.itoa n).toArray⟩
end Go.Proofs.YtdfdnjkeiddfjaaDoor
