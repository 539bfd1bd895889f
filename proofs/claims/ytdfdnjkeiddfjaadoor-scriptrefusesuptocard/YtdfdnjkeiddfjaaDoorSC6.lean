import Derived.Test.YtdfdnjkeiddfjaaDoorK30
import Derived.Test.YtdfdnjkeiddfjaaDoorSM1
import Derived.Test.YtdfdnjkeiddfjaaDoorK9
import Derived.BigQuiet
import Derived.Lib.AtoiAllCases
import Derived.Laws.AppendOwnNone
import Derived.Laws.AppendOwn
/-
  There and back: the joined text is cut into its tokens (plain).
-/
namespace Go.Proofs.YtdfdnjkeiddfjaaDoor

/-- How a spelling begins. -/
theorem spl_head {t : Tk} {s : ByteArray} (hs : spl t = some s) : ∃ c r, blK s = c :: r ∧ ¬ (c = 32 ∨ c = 9 ∨ c = 10 ∨ c = 13) ∧ ¬ c = 37 ∧ (rnb c = true → t.k = 1 ∨ t.k = 2 ∨ t.k = 5 ∨ (t.k = 4 ∧ 0 ≤ t.n)) ∧ (c = 61 → t.k = 13) := by
  obtain ⟨k, x, n, a, e⟩ := t
  unfold spl at hs
  simp only at hs ⊢
  by_cases q1 : k = 1
  · rw [if_pos q1] at hs
    by_cases q : wrd x = true ∧ n = 0
    · rw [if_pos q] at hs
      cases hs
      obtain ⟨c, r, e1, h1, -, -⟩ := wrd_run q.1
      simp only [sml, Bool.and_eq_true, decide_eq_true_eq] at h1
      exact ⟨c, r, e1, by omega, by omega, fun _ => Or.inl q1, fun h => by omega⟩
    · rw [if_neg q] at hs; cases hs
  · rw [if_neg q1] at hs
    by_cases q2 : k = 2
    · rw [if_pos q2] at hs
      by_cases q : vrb x = true ∧ n = 0
      · rw [if_pos q] at hs
        cases hs
        obtain ⟨c, r, e1, h1, -⟩ := vrb_run q.1
        simp only [grt, Bool.or_eq_true, Bool.and_eq_true, decide_eq_true_eq] at h1
        exact ⟨c, r, e1, by omega, by omega, fun _ => Or.inr (Or.inl q2), fun h => by omega⟩
      · rw [if_neg q] at hs; cases hs
    · rw [if_neg q2] at hs
      by_cases q3 : k = 3
      · rw [if_pos q3] at hs
        by_cases q : n = 0
        · rw [if_pos q] at hs
          cases hs
          exact ⟨34, _, bl_qtB x, by decide, by decide, fun h => absurd h (by decide), fun h => absurd h (by decide)⟩
        · rw [if_neg q] at hs; cases hs
      · rw [if_neg q3] at hs
        by_cases q4 : k = 4
        · rw [if_pos q4] at hs
          by_cases q : x = ⟨#[]⟩
          · rw [if_pos q] at hs
            cases hs
            by_cases hn : n < 0
            · obtain ⟨u, rfl⟩ : ∃ u : Nat, n = -(u : Int) := ⟨n.natAbs, by omega⟩
              exact ⟨45, _, bl_itB_neg u (by omega), by decide, by decide, fun h => absurd h (by decide), fun h => absurd h (by decide)⟩
            · obtain ⟨u, rfl⟩ : ∃ u : Nat, n = (u : Int) := ⟨n.toNat, by omega⟩
              have e := bl_itB_pos u
              have hall := dec_rnb u
              rw [← e] at hall
              have hne : ¬ blK (itB (u : Int)) = [] := by rw [e]; simpa using (dec_dig u).2
              cases ec : blK (itB (u : Int)) with
              | nil => exact absurd ec hne
              | cons c r =>
                have hc := (hall c (by rw [ec]; simp)).2
                simp only [dig, Bool.and_eq_true, decide_eq_true_eq] at hc
                exact ⟨c, r, rfl, by omega, by omega, fun _ => Or.inr (Or.inr (Or.inr ⟨q4, by omega⟩)), fun h => by omega⟩
          · rw [if_neg q] at hs; cases hs
        · rw [if_neg q4] at hs
          by_cases q : ¬ sgo k = ⟨#[]⟩ ∧ x = ⟨#[]⟩ ∧ n = 0
          · rw [if_pos q] at hs
            cases hs
            have hr := sgo_rng q.1
            have hk : k = 5 ∨ k = 6 ∨ k = 7 ∨ k = 8 ∨ k = 9 ∨ k = 10 ∨ k = 11 ∨ k = 12 ∨ k = 13 ∨ k = 14 ∨ k = 15 ∨ k = 16 := by omega
            clear q hr q1 q2 q3 q4
            rcases hk with rfl | rfl | rfl | rfl | rfl | rfl | rfl | rfl | rfl | rfl | rfl | rfl
            · exact ⟨115, [97, 121, 115], rfl, by decide, by decide, fun _ => Or.inr (Or.inr (Or.inl rfl)), fun h => absurd h (by decide)⟩
            · exact ⟨40, [], rfl, by decide, by decide, fun h => absurd h (by decide), fun h => absurd h (by decide)⟩
            · exact ⟨41, [], rfl, by decide, by decide, fun h => absurd h (by decide), fun h => absurd h (by decide)⟩
            · exact ⟨44, [], rfl, by decide, by decide, fun h => absurd h (by decide), fun h => absurd h (by decide)⟩
            · exact ⟨59, [], rfl, by decide, by decide, fun h => absurd h (by decide), fun h => absurd h (by decide)⟩
            · exact ⟨46, [], rfl, by decide, by decide, fun h => absurd h (by decide), fun h => absurd h (by decide)⟩
            · exact ⟨58, [45], rfl, by decide, by decide, fun h => absurd h (by decide), fun h => absurd h (by decide)⟩
            · exact ⟨63, [], rfl, by decide, by decide, fun h => absurd h (by decide), fun h => absurd h (by decide)⟩
            · exact ⟨61, [], rfl, by decide, by decide, fun h => absurd h (by decide), fun _ => rfl⟩
            · exact ⟨33, [61], rfl, by decide, by decide, fun h => absurd h (by decide), fun h => absurd h (by decide)⟩
            · exact ⟨60, [], rfl, by decide, by decide, fun h => absurd h (by decide), fun h => absurd h (by decide)⟩
            · exact ⟨60, [61], rfl, by decide, by decide, fun h => absurd h (by decide), fun h => absurd h (by decide)⟩
          · rw [if_neg q] at hs; cases hs
end Go.Proofs.YtdfdnjkeiddfjaaDoor
/-
  script (stage 25): the document's put (all parts but bytes).
-/
namespace Go.Proofs.YtdfdnjkeiddfjaaDoor
open Go.RowKit
attribute [local go_sem ↓] Go.wp_at_zero Go.wp_at_succ

/-- A step, but for its bytes. -/
structure SdO where
  k : Int
  who : ByteArray
  too : ByteArray
  tx : ByteArray
  n : Int
  m : Int
  q : Int
abbrev SdO.v (d : SdO) (a : Option Addr) (bn bc : Nat) : Value := .agg #[.int .i64 d.k, .string d.who, .string d.too, .string d.tx, .slice a bn bc, .int .i64 d.n, .int .i64 d.m, .int .i64 d.q]
def putS (p : Int) (d : SdO) (t : Tk) : SdO :=
  if p = 119 then { d with who := t.x } else if p = 111 then { d with too := t.x } else if p = 116 then { d with tx := t.x } else if p = 110 then { d with n := t.n } else if p = 109 then { d with m := t.n } else if p = 107 then { d with q := t.n } else d
theorem ret_dS {fn : Func} {i : Nat} (hf : fn.results = #[.cell i 24]) (tmps : Array Value) (w : World) (g : Nat) (c : Array Value)
    (h4 : tmps[i]?.getD undef = .pointer (some ⟨g, 0, none⟩)) (h : BlkK w g c 24) (hc : ∃ a0 a1 a2 a3 a4 a5 a6 a7, c = #[a0, a1, a2, a3, a4, a5, a6, a7]) : (results fn tmps).run Tryd.prog w = .ok (.agg c) w := by
  obtain ⟨a0, a1, a2, a3, a4, a5, a6, a7, rfl⟩ := hc
  have e : ∀ (j : Nat) v, #[a0, a1, a2, a3, a4, a5, a6, a7][j]? = some v → w.cell? ⟨g, j, none⟩ = some v := fun j v hv => by
    unfold World.cell?
    simp only
    rw [h]
    exact hv
  have c0 := e 0 a0 rfl
  have c1 := e 1 a1 rfl
  have c2 := e 2 a2 rfl
  have c3 := e 3 a3 rfl
  have c4 := e 4 a4 rfl
  have c5 := e 5 a5 rfl
  have c6 := e 6 a6 rfl
  have c7 := e 7 a7 rfl
  simp [results, hf, h4, go_sem, c0, c1, c2, c3, c4, c5, c6, c7]
end Go.Proofs.YtdfdnjkeiddfjaaDoor
/-
  script (stage 25): the document's shown (all parts but bytes).
-/
namespace Go.Proofs.YtdfdnjkeiddfjaaDoor
open Go.RowKit
attribute [local go_sem ↓] Go.wp_at_zero Go.wp_at_succ

/-- A number's digits. -/
def ibS (n : Int) : ByteArray := ⟨(Lib.itoa n).toArray⟩
end Go.Proofs.YtdfdnjkeiddfjaaDoor
