/-
  script (stage 25): PLAIN: a printed line is cut into its parts, and read as the step.
-/
import Derived.Test.YtdfdnjkeiddfjaaDoorSX2
namespace Go.Proofs.YtdfdnjkeiddfjaaDoor
open Go.RowKit

def nmT (s : ByteArray) : Tk := if wrd s = true then ⟨1, s, 0, 0, 0⟩ else ⟨3, s, 0, 0, 0⟩
/-- A part's token. -/
def tkS (d : SdO) (b : ByteArray) (p : Int) : Tk :=
  if p = 119 then nmT d.who else if p = 111 then nmT d.too else if p = 116 then ⟨3, d.tx, 0, 0, 0⟩ else if p = 98 then ⟨3, b, 0, 0, 0⟩ else if p = 110 then ⟨4, ⟨#[]⟩, d.n, 0, 0⟩ else if p = 109 then ⟨4, ⟨#[]⟩, d.m, 0, 0⟩ else ⟨4, ⟨#[]⟩, d.q, 0, 0⟩
def N64S (n : Int) : Prop := -9223372036854775808 ≤ n ∧ n ≤ 9223372036854775807
/-- A step that can be handed in. -/
structure OkS (d : SdO) (b : ByteArray) : Prop where
  who : d.who.size ≤ 2000000
  too : d.too.size ≤ 2000000
  tx : d.tx.size ≤ 2000000
  b : b.size ≤ 2000000
  k : N64S d.k
  n : N64S d.n
  m : N64S d.m
  q : N64S d.q
theorem z64S : -9223372036854775808 ≤ (0 : Int) ∧ (0 : Int) ≤ 9223372036854775807 := by decide
theorem nm_spl {s : ByteArray} (h : s.size ≤ 2000000) : spl (nmT s) = some (nmS s) ∧ okt (nmT s) := by
  unfold nmT nmS
  by_cases hw : wrd s = true
  · rw [if_pos hw, if_pos hw]
    refine ⟨?_, h, z64S.1, z64S.2⟩
    unfold spl
    rw [if_pos rfl, if_pos ⟨hw, rfl⟩]
  · rw [if_neg hw, if_neg hw]
    exact ⟨rfl, h, z64S.1, z64S.2⟩
theorem num_spl {n : Int} (h : N64S n) : spl ⟨4, ⟨#[]⟩, n, 0, 0⟩ = some (ibS n) ∧ okt ⟨4, ⟨#[]⟩, n, 0, 0⟩ := ⟨rfl, by show (0 : Nat) ≤ _; omega, h.1, h.2⟩
theorem tx_spl {s : ByteArray} (h : s.size ≤ 2000000) : spl ⟨3, s, 0, 0, 0⟩ = some (qtB s) ∧ okt ⟨3, s, 0, 0, 0⟩ := ⟨rfl, h, by show -9223372036854775808 ≤ (0 : Int); decide, by show (0 : Int) ≤ _; decide⟩
theorem tk_spl {d : SdO} {b : ByteArray} (h : OkS d b) (p : Int) : spl (tkS d b p) = some (shS d b p) ∧ okt (tkS d b p) := by
  unfold tkS shS
  split
  · exact nm_spl h.who
  · split
    · exact nm_spl h.too
    · split
      · exact tx_spl h.tx
      · split
        · exact tx_spl h.b
        · split
          · exact num_spl h.n
          · split
            · exact num_spl h.m
            · exact num_spl h.q
/-- The parts' tokens, at their places. -/
def plS (d : SdO) (b : ByteArray) : List Int → Nat → List Tk
  | [], _ => []
  | p :: ps, o => atP (tkS d b p) (shS d b p).size (o + 1) :: plS d b ps (o + 1 + (shS d b p).size)
theorem cz_part {d : SdO} {b s : ByteArray} {T : Nat → List Tk} (ho : OkS d b) (p : Int) (h : CzP true (blK s) T) : CzP true (blK (s ++ (⟨#[32]⟩ : ByteArray) ++ shS d b p)) (fun o => T o ++ [atP (tkS d b p) (shS d b p).size (o + s.size + 1)]) := by
  have h1 := h.app (CzP.gap 32 (Or.inl rfl)) (fun _ => ⟨32, [], rfl, rfl, by decide⟩)
  have h2 := (h1.app (CzP.tok (tk_spl ho p).1 (tk_spl ho p).2) (fun e => by cases e)).weak
  refine h2.eq ?_ fun o => ?_
  · rw [bl_append, bl_append]; rfl
  · simp only [List.append_nil, List.length_append, bl_len, List.length_singleton]
    rw [show o + (s.size + 1) = o + s.size + 1 by omega]
theorem jo_cz {d : SdO} {b : ByteArray} (ho : OkS d b) : ∀ (ps : List Int) (s : ByteArray) (T : Nat → List Tk), CzP true (blK s) T → CzP true (blK (joS d b ps s)) (fun o => T o ++ plS d b ps (o + s.size))
  | [], s, T, h => h.eq rfl fun o => by simp [plS]
  | p :: ps, s, T, h => by
    have ih := jo_cz ho ps _ _ (cz_part ho p h)
    refine ih.eq rfl fun o => ?_
    simp only [List.append_assoc, List.singleton_append]
    show T o ++ (_ :: _) = T o ++ (_ :: _)
    have hz : (s ++ (⟨#[32]⟩ : ByteArray) ++ shS d b p).size = s.size + 1 + (shS d b p).size := by simp only [ByteArray.size_append]; rfl
    rw [hz, show o + (s.size + 1 + (shS d b p).size) = o + s.size + 1 + (shS d b p).size by omega]
theorem jo_app (d : SdO) (b : ByteArray) : ∀ (ps qs : List Int) (s : ByteArray), joS d b (ps ++ qs) s = joS d b qs (joS d b ps s)
  | [], _, _ => rfl
  | _ :: ps, qs, _ => jo_app d b ps qs _
theorem jo_front (d : SdO) (b : ByteArray) : ∀ (ps : List Int) (s t : ByteArray), joS d b ps (s ++ t) = s ++ joS d b ps t
  | [], _, _ => rfl
  | p :: ps, s, t => by
    show joS d b ps _ = s ++ joS d b ps _
    rw [← jo_front d b ps, ByteArray.append_assoc, ByteArray.append_assoc, ByteArray.append_assoc]
theorem jo_size (d : SdO) (b : ByteArray) : ∀ (ps : List Int) (s : ByteArray), (joS d b ps s).size = s.size + (ps.map fun p => 1 + (shS d b p).size).sum
  | [], s => by simp [joS]
  | p :: ps, s => by
    show (joS d b ps _).size = _
    rw [jo_size d b ps]
    simp only [ByteArray.size_append, List.map_cons, List.sum_cons]
    have : (⟨#[32]⟩ : ByteArray).size = 1 := rfl
    omega
/-- A row's name is a word. -/
theorem rw_wrd {i : Nat} (h : i < 24) : wrd (rwS.getD i zrS).x = true := by
  have : ∀ i : Nat, i < 24 → wrd (rwS.getD i zrS).x = true := of_decide_eq_true (by kernel_rfl)
  exact this i h
theorem row_cz {x : ByteArray} (h : wrd x = true) (hz : x.size ≤ 2000000) : CzP true (blK x) (fun o => [atP ⟨1, x, 0, 0, 0⟩ x.size o]) := by
  have e : spl ⟨1, x, 0, 0, 0⟩ = some x := by unfold spl; rw [if_pos rfl, if_pos ⟨h, rfl⟩]
  exact (CzP.tok e ⟨hz, by show -9223372036854775808 ≤ (0 : Int); decide, by show (0 : Int) ≤ _; decide⟩).weak
theorem rw_own {i : Nat} (h : i < 24) : lsS (rwS.getD i zrS).x 24 = rwS.getD i zrS := by
  have h2 : ∀ i : Nat, i < 24 → ∀ j : Nat, j < 24 → (rwS.getD j zrS).x = (rwS.getD i zrS).x → j = i := of_decide_eq_true (by kernel_rfl)
  have h3 : ∀ n, n ≤ 24 → i < n → lsS (rwS.getD i zrS).x n = rwS.getD i zrS := by
    intro n
    induction n with
    | zero => intro _ h; omega
    | succ n ih =>
      intro hn hi
      unfold lsS
      split
      · rename_i e
        rw [h2 i h n (by omega) e]
      · rename_i e
        refine ih (by omega) ?_
        by_cases hh : i = n
        · subst hh; exact absurd rfl e
        · omega
  exact h3 24 (Nat.le_refl _) h
theorem mem_in {ps : ByteArray} {p : Int} : p ∈ blK ps ↔ inS ps p = true := by
  constructor
  · intro h
    obtain ⟨j, hj, e⟩ := List.mem_iff_getElem.1 h
    rw [bl_len] at hj
    refine inS_yes hj ?_
    have := bl_drop hj
    rw [List.drop_eq_getElem_cons (by rw [bl_len]; exact hj)] at this
    rw [← (List.cons.inj this).1, e]
  · intro h
    unfold inS at h
    rw [List.any_eq_true] at h
    obtain ⟨j, hj, e⟩ := h
    have hj' := List.mem_range.1 hj
    have := bl_drop hj'
    have e2 : atK_ ps j = p := by simpa using e
    rw [← e2]
    exact List.mem_of_mem_drop (i := j) (by rw [this]; exact List.mem_cons_self ..)
theorem nmT_k (s : ByteArray) : (nmT s).k = 1 ∨ (nmT s).k = 3 := by unfold nmT; split; exact Or.inl rfl; exact Or.inr rfl
theorem ft_tk (d : SdO) (b : ByteArray) (p : Int) : ftS p (tkS d b p).k = true := by
  unfold ftS tkS
  by_cases h1 : p = 119
  · rw [if_pos (Or.inl h1), if_pos h1]
    rcases nmT_k d.who with h | h <;> rw [h] <;> rfl
  · by_cases h2 : p = 111
    · rw [if_pos (Or.inr h2), if_neg h1, if_pos h2]
      rcases nmT_k d.too with h | h <;> rw [h] <;> rfl
    · rw [if_neg (by rintro (h | h); exact h1 h; exact h2 h), if_neg h1, if_neg h2]
      by_cases h3 : p = 116
      · rw [if_pos (Or.inl h3), if_pos h3]; rfl
      · by_cases h4 : p = 98
        · rw [if_pos (Or.inr h4), if_neg h3, if_pos h4]; rfl
        · rw [if_neg (by rintro (h | h); exact h3 h; exact h4 h), if_neg h3, if_neg h4]
          split
          · rfl
          · split <;> rfl
/-- The fields that the row has no part for are zero. -/
def ClS (ps : ByteArray) (d : SdO) (b : ByteArray) : Prop :=
  (d.who = ⟨#[]⟩ ∨ 119 ∈ blK ps) ∧ (d.too = ⟨#[]⟩ ∨ 111 ∈ blK ps) ∧ (d.tx = ⟨#[]⟩ ∨ 116 ∈ blK ps) ∧ (b = ⟨#[]⟩ ∨ 98 ∈ blK ps) ∧ (d.n = 0 ∨ 110 ∈ blK ps) ∧ (d.m = 0 ∨ 109 ∈ blK ps) ∧ (d.q = 0 ∨ 107 ∈ blK ps)
theorem bz_iff (b : ByteArray) : b.size = 0 ↔ b = ⟨#[]⟩ := by
  constructor
  · intro h
    refine Decidable.byContradiction fun hn => ?_
    have := size_posK hn
    omega
  · rintro rfl; rfl
theorem cl_iff (ps : ByteArray) (d : SdO) (b : ByteArray) : clS ps d b.size = true ↔ ClS ps d b := by
  unfold clS ClS okS
  simp only [Bool.and_eq_true, Bool.or_eq_true, decide_eq_true_eq, mem_in, bz_iff]
  constructor
  · rintro ⟨⟨⟨⟨a1, a2⟩, a3⟩, a4⟩, ⟨a5, a6⟩, a7⟩; exact ⟨a1, a2, a3, a4, a5, a6, a7⟩
  · rintro ⟨a1, a2, a3, a4, a5, a6, a7⟩; exact ⟨⟨⟨⟨a1, a2⟩, a3⟩, a4⟩, ⟨a5, a6⟩, a7⟩
theorem pr_of {d : SdO} {b : ByteArray} {i : Nat} (hi : i < 24) (hk : d.k = (i : Int) + 1) (hc : ClS (rwS.getD i zrS).p d b) : prS d b = if (joS d b (blK (rwS.getD i zrS).p) (rwS.getD i zrS).x).size ≤ 65536 then some (joS d b (blK (rwS.getD i zrS).p) (rwS.getD i zrS).x) else none := by
  unfold prS
  rw [hk, roK_at hi]
  simp only
  rw [if_pos ((cl_iff _ _ _).2 hc)]
/-- The tokens of a step's line. -/
def lnT (d : SdO) (b : ByteArray) (r : RwS) (o : Nat) : List Tk := atP ⟨1, r.x, 0, 0, 0⟩ r.x.size o :: plS d b (blK r.p) (o + r.x.size)
theorem ln_cz {d : SdO} {b : ByteArray} (ho : OkS d b) {i : Nat} (hi : i < 24) : CzP true (blK (joS d b (blK (rwS.getD i zrS).p) (rwS.getD i zrS).x)) (lnT d b (rwS.getD i zrS)) :=
  (jo_cz ho _ _ _ (row_cz (rw_wrd hi) (by have := (rw_le i).1; omega))).eq rfl fun _ => rfl
theorem rd_of {s : ByteArray} {T : List Tk} (hs : s.size ≤ 65536) (h : cutL (blK s) (s.size : Int) = (T, 0, 0)) : rdS s = rlS s.size T := by
  unfold rdS
  rw [if_neg (by omega), h]
  rfl
end Go.Proofs.YtdfdnjkeiddfjaaDoor
