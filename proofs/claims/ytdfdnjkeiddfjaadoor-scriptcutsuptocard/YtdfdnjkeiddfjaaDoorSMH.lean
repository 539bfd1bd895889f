import Derived.Test.YtdfdnjkeiddfjaaDoorSM0
import Derived.Test.YtdfdnjkeiddfjaaDoorSC6
import Derived.Lib.ItoaLen
import Derived.Test.YtdfdnjkeiddfjaaDoorSC3
import Derived.Test.YtdfdnjkeiddfjaaDoorK9
import Derived.BigQuiet
import Derived.Lib.AtoiAllCases
import Derived.Test.YtdfdnjkeiddfjaaDoorK13
import Derived.Laws.AppendOwnNone
import Derived.Laws.AppendOwn
/-
  script (stage 25): PLAIN: what is read of any line.
-/
namespace Go.Proofs.YtdfdnjkeiddfjaaDoor
open Go.RowKit

/-- How long a token's spelling is. -/
def spn (t : Tk) : Nat := ((spl t).getD ⟨#[]⟩).size
theorem ct_spn : ∀ (f : Nat) (l : List Int) (off : Nat) (acc : List Tk), byt l → ((ct f l off acc).1.map spn).sum ≤ (acc.map spn).sum + 4 * l.length
  | 0, l, off, acc, _ => Nat.le_add_right _ _
  | f + 1, [], off, acc, _ => Nat.le_add_right _ _
  | f + 1, c :: r, off, acc, hb => by
    rw [ct_cons]
    have hbr : byt r := fun x hx => hb x (by simp [hx])
    simp only [List.length_cons]
    by_cases q1 : c = 32 ∨ c = 9 ∨ c = 10 ∨ c = 13
    · rw [if_pos q1]
      have := ct_spn f r (off + 1) acc hbr
      omega
    · rw [if_neg q1]
      by_cases q2 : c = 37
      · rw [if_pos q2]
        have := ct_spn f ((c :: r).drop (le_ (c :: r))) (off + le_ (c :: r)) acc (fun x hx => hb x (List.mem_of_mem_drop hx))
        rw [List.length_drop, List.length_cons] at this
        omega
      · rw [if_neg q2]
        cases et : tok (c :: r) with
        | bad e o => show (0 : Nat) ≤ _; omega
        | ok k x n len =>
          simp only
          obtain ⟨s, hs, hsz, -, -, -⟩ := tok_has et hb (off : Int) ((off + len : Nat) : Int)
          have hln := (tok_len c r).1 k x n len et
          have := ct_spn f ((c :: r).drop len) (off + len) (acc ++ [⟨k, ofL x, n, off, (off + len : Nat)⟩]) (fun x hx => hb x (List.mem_of_mem_drop hx))
          rw [List.length_drop, List.length_cons] at this
          have e1 : spn ⟨k, ofL x, n, off, (off + len : Nat)⟩ = s.size := by unfold spn; rw [hs]; rfl
          simp only [List.map_append, List.map_cons, List.map_nil, List.sum_append, List.sum_cons, List.sum_nil, e1] at this
          omega
theorem ct_plS : ∀ (f : Nat) (l : List Int) (off : Nat) (acc : List Tk) (M : Nat), off + l.length ≤ M → (∀ t ∈ acc, 0 ≤ t.a ∧ t.a ≤ (M : Int)) → ∀ t ∈ (ct f l off acc).1, 0 ≤ t.a ∧ t.a ≤ (M : Int)
  | 0, _, _, acc, _, _, h => h
  | _ + 1, [], _, acc, _, _, h => h
  | f + 1, c :: r, off, acc, M, hM, h => by
    simp only [List.length_cons] at hM
    rw [ct_cons]
    by_cases q1 : c = 32 ∨ c = 9 ∨ c = 10 ∨ c = 13
    · rw [if_pos q1]
      exact ct_plS f r _ acc M (by omega) h
    · rw [if_neg q1]
      by_cases q2 : c = 37
      · rw [if_pos q2]
        have hle := le_le (c :: r)
        simp only [List.length_cons] at hle
        exact ct_plS f _ _ acc M (by rw [List.length_drop, List.length_cons]; omega) h
      · rw [if_neg q2]
        cases et : tok (c :: r) with
        | bad e o => intro t ht; cases ht
        | ok k x n len =>
          have htl := (tok_len c r).1 k x n len et
          refine ct_plS f _ _ _ M (by rw [List.length_drop, List.length_cons]; omega) fun t ht => ?_
          rcases List.mem_append.1 ht with ht | ht
          · exact h t ht
          · rw [List.mem_singleton.1 ht]
            exact ⟨by show (0 : Int) ≤ (off : Int); omega, by show (off : Int) ≤ (M : Int); omega⟩
/-- What is known of a line's tokens. -/
structure CutF (s : ByteArray) (T : List Tk) : Prop where
  sp : ∀ t ∈ T, (spl t).isSome = true ∧ t.x.size ≤ s.size ∧ -9223372036854775808 ≤ t.n ∧ t.n ≤ 9223372036854775807
  pl : ∀ t ∈ T, 0 ≤ t.a ∧ t.a ≤ (s.size : Int)
  sum : (T.map spn).sum ≤ 4 * s.size
theorem cut_all_ways (s : ByteArray) : (∃ e p, cutL (blK s) (s.size : Int) = ([], e, p) ∧ e ≠ 0 ∧ 0 ≤ p ∧ p ≤ (s.size : Int)) ∨ ∃ T, cutL (blK s) (s.size : Int) = (T, 0, 0) ∧ CutF s T := by
  rw [cutL_all]
  rcases ct_ends (s.size + 1) (blK s) 0 [] with ⟨e, p, h, he⟩ | ⟨T, h⟩
  · left
    refine ⟨e, p, h, he, ?_⟩
    rcases ct_fault (s.size + 1) (blK s) 0 [] (by rw [bl_len]; omega) with ⟨h1, -⟩ | ⟨q, h1, h2, -⟩
    · rw [h] at h1; exact absurd h1 he
    · rw [h] at h1
      rw [bl_len] at h2
      simp only at h1
      omega
  · right
    refine ⟨T, h, ?_⟩
    have h1 := ct_has (s.size + 1) (blK s) 0 [] s.size (bl_byt s) (by rw [bl_len]; exact Nat.le_refl _) (fun t ht => by cases ht)
    have h2 := ct_plS (s.size + 1) (blK s) 0 [] s.size (by rw [bl_len]; omega) (fun t ht => by cases ht)
    have h3 := ct_spn (s.size + 1) (blK s) 0 [] (bl_byt s)
    rw [h] at h1 h2 h3
    exact ⟨h1.1, h2, by simpa [bl_len] using h3⟩
theorem qtl_ge (s : ByteArray) : ∀ n, n + 1 ≤ (qtl s n).length
  | 0 => Nat.le_refl _
  | n + 1 => by
    have h1 := qtl_ge s n
    have h2 : qtl s (n + 1) = qtl s n ++ qb (atK_ s n) := qtl_succ s n
    rw [h2, List.length_append]
    have h3 : 1 ≤ (qb (atK_ s n)).length := by
      unfold qb
      repeat' split
      all_goals simp
    omega
theorem qt_ge (s : ByteArray) : s.size + 2 ≤ (qtB s).size := by
  have h1 := qtl_ge s s.size
  have e : (qtB s).size = (qtl s s.size).length + 1 := by show (i2b (qtl s s.size ++ [34])).toArray.size = _; simp [i2b]
  omega
theorem nm_le (s : ByteArray) : (nmS s).size ≤ (qtB s).size := by
  unfold nmS
  split
  · have := qt_ge s; omega
  · exact Nat.le_refl _
end Go.Proofs.YtdfdnjkeiddfjaaDoor
/-
  script (stage 25): PLAIN: a step with small fields has a line; blanks and a remark change nothing.
-/
namespace Go.Proofs.YtdfdnjkeiddfjaaDoor
open Go.RowKit

theorem ib_len {n : Int} (h : N64S n) : (ibS n).size ≤ 21 := by
  have := Lib.itoa_length_le n h.1 h.2
  show (Lib.itoa n).toArray.size ≤ 21
  simpa using this
end Go.Proofs.YtdfdnjkeiddfjaaDoor
/-
  script (stage 25): PLAIN: how long a printed line may be; its parts, one after the other.
-/
namespace Go.Proofs.YtdfdnjkeiddfjaaDoor
open Go.RowKit

theorem sh_big {d : SdO} {b : ByteArray} (h : OkS d b) (p : Int) : (shS d b p).size ≤ 8000002 := by
  have h1 := qt_size d.who
  have h2 := qt_size d.too
  have h3 := qt_size d.tx
  have h4 := qt_size b
  have n1 := nm_le d.who
  have n2 := nm_le d.too
  have i1 := ib_len h.n
  have i2 := ib_len h.m
  have i3 := ib_len h.q
  have o1 := h.who
  have o2 := h.too
  have o3 := h.tx
  have o4 := h.b
  unfold shS
  repeat' split
  all_goals omega
theorem jo_big {d : SdO} {b : ByteArray} (h : OkS d b) : ∀ (ps : List Int) (s : ByteArray), (joS d b ps s).size ≤ s.size + ps.length * 8000003
  | [], s => by simp [joS]
  | p :: ps, s => by
    have ih := jo_big h ps (s ++ (⟨#[32]⟩ : ByteArray) ++ shS d b p)
    have h1 := sh_big h p
    simp only [ByteArray.size_append] at ih
    have : (⟨#[32]⟩ : ByteArray).size = 1 := rfl
    rw [List.length_cons, Nat.add_mul]
    show (joS d b ps _).size ≤ _
    omega
end Go.Proofs.YtdfdnjkeiddfjaaDoor
