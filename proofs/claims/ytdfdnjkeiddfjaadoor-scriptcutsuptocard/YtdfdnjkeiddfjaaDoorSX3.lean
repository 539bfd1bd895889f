/-
  script (stage 25): PLAIN: a printed line is cut into its parts, and read as the step.
-/
import Derived.Test.YtdfdnjkeiddfjaaDoorSX2
namespace Go.Proofs.YtdfdnjkeiddfjaaDoor
open Go.RowKit

def nmT (s : ByteArray) : Tk := if wrd s = true then ⟨1, s, 0, 0, 0⟩ else ⟨3, s, 0, 0, 0⟩
/-- A part's token. -/
def tkS (d : SdO) (b : ByteArray) (p : Int) : Tk :=
  if p = 119 then nmT d.who else if p = 111 then nmT d.too else if p = 116 then ⟨3, d.tx, 0, 0, 0⟩ else if p = 98 then ⟨3, b, 0, 0, 0⟩ else if p = 110 then ⟨4, ⟨#[]⟩, d.n, 0, 0⟩ else if p = 109 then ⟨4, ⟨#[]⟩, d.m, 0, 0⟩ else ⟨4, ⟨#[]⟩, d.q, 0, 0⟩
def N64S (n : Int) : Prop := -9223372036854775808 ≤ n ∧ n ≤ 9223372036854775807
/-- A step that can be handed in. -/
structure OkS (d : SdO) (b : ByteArray) : Prop where
  who : d.who.size ≤ 2000000
  too : d.too.size ≤ 2000000
  tx : d.tx.size ≤ 2000000
  b : b.size ≤ 2000000
  k : N64S d.k
  n : N64S d.n
  m : N64S d.m
  q : N64S d.q
theorem z64S : -9223372036854775808 ≤ (0 : Int) ∧ (0 : Int) ≤ 9223372036854775807 := by decide
theorem nm_spl {s : ByteArray} (h : s.size ≤ 2000000) : spl (nmT s) = some (nmS s) ∧ okt (nmT s) := by
  unfold nmT nmS
  by_cases hw : wrd s = true
  · rw [if_pos hw, if_pos hw]
    refine ⟨?_, h, z64S.1, z64S.2⟩
    unfold spl
    rw [if_pos rfl, if_pos ⟨hw, rfl⟩]
  · rw [if_neg hw, if_neg hw]
    exact ⟨rfl, h, z64S.1, z64S.2⟩
theorem num_spl {n : Int} (h : N64S n) : spl ⟨4, ⟨#[]⟩, n, 0, 0⟩ = some (ibS n) ∧ okt ⟨4, ⟨#[]⟩, n, 0, 0⟩ := ⟨rfl, by show (0 : Nat) ≤ _; omega, h.1, h.2⟩
theorem tx_spl {s : ByteArray} (h : s.size ≤ 2000000) : spl ⟨3, s, 0, 0, 0⟩ = some (qtB s) ∧ okt ⟨3, s, 0, 0, 0⟩ := ⟨rfl, h, by show -9223372036854775808 ≤ (0 : Int); decide, by show (0 : Int) ≤ _; decide⟩
theorem tk_spl {d : SdO} {b : ByteArray} (h : OkS d b) (p : Int) : spl (tkS d b p) = some (shS d b p) ∧ okt (tkS d b p) := by
  unfold tkS shS
  split
  · exact nm_spl h.who
  · split
    · exact nm_spl h.too
    · split
      · exact tx_spl h.tx
      · split
        · exact tx_spl h.b
        · split
          · exact num_spl h.n
          · split
            · exact num_spl h.m
            · exact num_spl h.q
/-- The parts' tokens, at their places. -/
def plS (d : SdO) (b : ByteArray) : List Int → Nat → List Tk
  | [], _ => []
  | p :: ps, o => atP (tkS d b p) (shS d b p).size (o + 1) :: plS d b ps (o + 1 + (shS d b p).size)
theorem bl_one (c : UInt8) : blK ⟨#[c]⟩ = [(c.toNat : Int)] := rfl
theorem cz_part {d : SdO} {b s : ByteArray} {T : Nat → List Tk} (ho : OkS d b) (p : Int) (h : CzP true (blK s) T) : CzP true (blK (s ++ (⟨#[32]⟩ : ByteArray) ++ shS d b p)) (fun o => T o ++ [atP (tkS d b p) (shS d b p).size (o + s.size + 1)]) := by
  have h1 := h.app (CzP.gap 32 (Or.inl rfl)) (fun _ => ⟨32, [], rfl, rfl, by decide⟩)
  have h2 := (h1.app (CzP.tok (tk_spl ho p).1 (tk_spl ho p).2) (fun e => by cases e)).weak
  refine h2.eq ?_ fun o => ?_
  · rw [bl_append, bl_append]; rfl
  · simp only [List.append_nil, List.length_append, bl_len, List.length_singleton]
    rw [show o + (s.size + 1) = o + s.size + 1 by omega]
theorem jo_cz {d : SdO} {b : ByteArray} (ho : OkS d b) : ∀ (ps : List Int) (s : ByteArray) (T : Nat → List Tk), CzP true (blK s) T → CzP true (blK (joS d b ps s)) (fun o => T o ++ plS d b ps (o + s.size))
  | [], s, T, h => h.eq rfl fun o => by simp [plS]
  | p :: ps, s, T, h => by
    have ih := jo_cz ho ps _ _ (cz_part ho p h)
    refine ih.eq rfl fun o => ?_
    simp only [List.append_assoc, List.singleton_append]
    show T o ++ (_ :: _) = T o ++ (_ :: _)
    have hz : (s ++ (⟨#[32]⟩ : ByteArray) ++ shS d b p).size = s.size + 1 + (shS d b p).size := by simp only [ByteArray.size_append]; rfl
    rw [hz, show o + (s.size + 1 + (shS d b p).size) = o + s.size + 1 + (shS d b p).size by omega]
theorem jo_app (d : SdO) (b : ByteArray) : ∀ (ps qs : List Int) (s : ByteArray), joS d b (ps ++ qs) s = joS d b qs (joS d b ps s)
  | [], _, _ => rfl
  | _ :: ps, qs, _ => jo_app d b ps qs _
theorem jo_front (d : SdO) (b : ByteArray) : ∀ (ps : List Int) (s t : ByteArray), joS d b ps (s ++ t) = s ++ joS d b ps t
  | [], _, _ => rfl
  | p :: ps, s, t => by
    show joS d b ps _ = s ++ joS d b ps _
    rw [← jo_front d b ps, ByteArray.append_assoc, ByteArray.append_assoc, ByteArray.append_assoc]
theorem jo_size (d : SdO) (b : ByteArray) : ∀ (ps : List Int) (s : ByteArray), (joS d b ps s).size = s.size + (ps.map fun p => 1 + (shS d b p).size).sum
  | [], s => by simp [joS]
  | p :: ps, s => by
    show (joS d b ps _).size = _
    rw [jo_size d b ps]
    simp only [ByteArray.size_append, List.map_cons, List.sum_cons]
    have : (⟨#[32]⟩ : ByteArray).size = 1 := rfl
    omega
/-- A row's name is a word. -/
theorem rw_wrd {i : Nat} (h : i < 24) : wrd (rwS.getD i zrS).x = true := by
  have : ∀ i : Nat, i < 24 → wrd (rwS.getD i zrS).x = true := of_decide_eq_true (by kernel_rfl)
  exact this i h
theorem row_cz {x : ByteArray} (h : wrd x = true) (hz : x.size ≤ 2000000) : CzP true (blK x) (fun o => [atP ⟨1, x, 0, 0, 0⟩ x.size o]) := by
  have e : spl ⟨1, x, 0, 0, 0⟩ = some x := by unfold spl; rw [if_pos rfl, if_pos ⟨h, rfl⟩]
  exact (CzP.tok e ⟨hz, by show -9223372036854775808 ≤ (0 : Int); decide, by show (0 : Int) ≤ _; decide⟩).weak
theorem rw_own {i : Nat} (h : i < 24) : lsS (rwS.getD i zrS).x 24 = rwS.getD i zrS := by
  have h2 : ∀ i : Nat, i < 24 → ∀ j : Nat, j < 24 → (rwS.getD j zrS).x = (rwS.getD i zrS).x → j = i := of_decide_eq_true (by kernel_rfl)
  have h3 : ∀ n, n ≤ 24 → i < n → lsS (rwS.getD i zrS).x n = rwS.getD i zrS := by
    intro n
    induction n with
    | zero => intro _ h; omega
    | succ n ih =>
      intro hn hi
      unfold lsS
      split
      · rename_i e
        rw [h2 i h n (by omega) e]
      · rename_i e
        refine ih (by omega) ?_
        by_cases hh : i = n
        · subst hh; exact absurd rfl e
        · omega
  exact h3 24 (Nat.le_refl _) h
theorem mem_in {ps : ByteArray} {p : Int} : p ∈ blK ps ↔ inS ps p = true := by
  constructor
  · intro h
    obtain ⟨j, hj, e⟩ := List.mem_iff_getElem.1 h
    rw [bl_len] at hj
    refine inS_yes hj ?_
    have := bl_drop hj
    rw [List.drop_eq_getElem_cons (by rw [bl_len]; exact hj)] at this
    rw [← (List.cons.inj this).1, e]
  · intro h
    unfold inS at h
    rw [List.any_eq_true] at h
    obtain ⟨j, hj, e⟩ := h
    have hj' := List.mem_range.1 hj
    have := bl_drop hj'
    have e2 : atK_ ps j = p := by simpa using e
    rw [← e2]
    exact List.mem_of_mem_drop (i := j) (by rw [this]; exact List.mem_cons_self ..)
/-- All the parts into a step. -/
def fpS (d : SdO) (b : ByteArray) (ps : List Int) (e : SdO) : SdO := ps.foldl (fun e p => putS p e (tkS d b p)) e
def fbS (d : SdO) (b : ByteArray) (ps : List Int) (c : ByteArray) : ByteArray := ps.foldl (fun c p => putB p c (tkS d b p)) c
theorem put_at (p : Int) (e : SdO) (t : Tk) (n o : Nat) : putS p e (atP t n o) = putS p e t := rfl
theorem putB_at (p : Int) (c : ByteArray) (t : Tk) (n o : Nat) : putB p c (atP t n o) = putB p c t := rfl
theorem nmT_k (s : ByteArray) : (nmT s).k = 1 ∨ (nmT s).k = 3 := by unfold nmT; split; exact Or.inl rfl; exact Or.inr rfl
theorem nmT_x (s : ByteArray) : (nmT s).x = s := by unfold nmT; split <;> rfl
theorem ft_tk (d : SdO) (b : ByteArray) (p : Int) : ftS p (tkS d b p).k = true := by
  unfold ftS tkS
  by_cases h1 : p = 119
  · rw [if_pos (Or.inl h1), if_pos h1]
    rcases nmT_k d.who with h | h <;> rw [h] <;> rfl
  · by_cases h2 : p = 111
    · rw [if_pos (Or.inr h2), if_neg h1, if_pos h2]
      rcases nmT_k d.too with h | h <;> rw [h] <;> rfl
    · rw [if_neg (by rintro (h | h); exact h1 h; exact h2 h), if_neg h1, if_neg h2]
      by_cases h3 : p = 116
      · rw [if_pos (Or.inl h3), if_pos h3]; rfl
      · by_cases h4 : p = 98
        · rw [if_pos (Or.inr h4), if_neg h3, if_pos h4]; rfl
        · rw [if_neg (by rintro (h | h); exact h3 h; exact h4 h), if_neg h3, if_neg h4]
          split
          · rfl
          · split <;> rfl
theorem go_pl (L : Int) (d : SdO) (b : ByteArray) : ∀ (ps : List Int) (o : Nat) (e : SdO) (c : ByteArray), goS L ps (plS d b ps o) e c = ⟨fpS d b ps e, fbS d b ps c, 0, 0⟩
  | [], _, _, _ => rfl
  | p :: ps, o, e, c => by
    show (if ftS p (tkS d b p).k = true then goS L ps (plS d b ps _) (putS p e (atP (tkS d b p) _ _)) (putB p c (atP (tkS d b p) _ _)) else _) = _
    rw [if_pos (ft_tk d b p), go_pl L d b ps, put_at, putB_at]
    rfl
theorem fp_who (d : SdO) (b : ByteArray) : ∀ (ps : List Int) (e : SdO), (fpS d b ps e).who = if 119 ∈ ps then d.who else e.who
  | [], e => by simp [fpS]
  | p :: ps, e => by
    show (fpS d b ps (putS p e (tkS d b p))).who = _
    rw [fp_who d b ps]
    by_cases h : p = 119
    · subst h
      rw [if_pos (List.mem_cons_self ..)]
      split
      · rfl
      · simp [putS, tkS, nmT_x]
    · have e2 : (putS p e (tkS d b p)).who = e.who := by
        unfold putS
        repeat' split
        all_goals first | rfl | (exfalso; exact h (by assumption))
      rw [e2]
      have e3 : 119 ∈ p :: ps ↔ 119 ∈ ps := by
        rw [List.mem_cons]
        exact ⟨fun x => x.elim (fun y => absurd y.symm h) id, Or.inr⟩
      simp only [e3]
theorem fp_too (d : SdO) (b : ByteArray) : ∀ (ps : List Int) (e : SdO), (fpS d b ps e).too = if 111 ∈ ps then d.too else e.too
  | [], e => by simp [fpS]
  | p :: ps, e => by
    show (fpS d b ps (putS p e (tkS d b p))).too = _
    rw [fp_too d b ps]
    by_cases h : p = 111
    · subst h
      rw [if_pos (List.mem_cons_self ..)]
      split
      · rfl
      · simp [putS, tkS, nmT_x]
    · have e2 : (putS p e (tkS d b p)).too = e.too := by
        unfold putS
        repeat' split
        all_goals first | rfl | (exfalso; exact h (by assumption))
      rw [e2]
      have e3 : 111 ∈ p :: ps ↔ 111 ∈ ps := by
        rw [List.mem_cons]
        exact ⟨fun x => x.elim (fun y => absurd y.symm h) id, Or.inr⟩
      simp only [e3]
theorem fp_tx (d : SdO) (b : ByteArray) : ∀ (ps : List Int) (e : SdO), (fpS d b ps e).tx = if 116 ∈ ps then d.tx else e.tx
  | [], e => by simp [fpS]
  | p :: ps, e => by
    show (fpS d b ps (putS p e (tkS d b p))).tx = _
    rw [fp_tx d b ps]
    by_cases h : p = 116
    · subst h
      rw [if_pos (List.mem_cons_self ..)]
      split
      · rfl
      · simp [putS, tkS]
    · have e2 : (putS p e (tkS d b p)).tx = e.tx := by
        unfold putS
        repeat' split
        all_goals first | rfl | (exfalso; exact h (by assumption))
      rw [e2]
      have e3 : 116 ∈ p :: ps ↔ 116 ∈ ps := by
        rw [List.mem_cons]
        exact ⟨fun x => x.elim (fun y => absurd y.symm h) id, Or.inr⟩
      simp only [e3]
theorem fp_n (d : SdO) (b : ByteArray) : ∀ (ps : List Int) (e : SdO), (fpS d b ps e).n = if 110 ∈ ps then d.n else e.n
  | [], e => by simp [fpS]
  | p :: ps, e => by
    show (fpS d b ps (putS p e (tkS d b p))).n = _
    rw [fp_n d b ps]
    by_cases h : p = 110
    · subst h
      rw [if_pos (List.mem_cons_self ..)]
      split
      · rfl
      · simp [putS, tkS]
    · have e2 : (putS p e (tkS d b p)).n = e.n := by
        unfold putS
        repeat' split
        all_goals first | rfl | (exfalso; exact h (by assumption))
      rw [e2]
      have e3 : 110 ∈ p :: ps ↔ 110 ∈ ps := by
        rw [List.mem_cons]
        exact ⟨fun x => x.elim (fun y => absurd y.symm h) id, Or.inr⟩
      simp only [e3]
theorem fp_m (d : SdO) (b : ByteArray) : ∀ (ps : List Int) (e : SdO), (fpS d b ps e).m = if 109 ∈ ps then d.m else e.m
  | [], e => by simp [fpS]
  | p :: ps, e => by
    show (fpS d b ps (putS p e (tkS d b p))).m = _
    rw [fp_m d b ps]
    by_cases h : p = 109
    · subst h
      rw [if_pos (List.mem_cons_self ..)]
      split
      · rfl
      · simp [putS, tkS]
    · have e2 : (putS p e (tkS d b p)).m = e.m := by
        unfold putS
        repeat' split
        all_goals first | rfl | (exfalso; exact h (by assumption))
      rw [e2]
      have e3 : 109 ∈ p :: ps ↔ 109 ∈ ps := by
        rw [List.mem_cons]
        exact ⟨fun x => x.elim (fun y => absurd y.symm h) id, Or.inr⟩
      simp only [e3]
theorem fp_q (d : SdO) (b : ByteArray) : ∀ (ps : List Int) (e : SdO), (fpS d b ps e).q = if 107 ∈ ps then d.q else e.q
  | [], e => by simp [fpS]
  | p :: ps, e => by
    show (fpS d b ps (putS p e (tkS d b p))).q = _
    rw [fp_q d b ps]
    by_cases h : p = 107
    · subst h
      rw [if_pos (List.mem_cons_self ..)]
      split
      · rfl
      · simp [putS, tkS]
    · have e2 : (putS p e (tkS d b p)).q = e.q := by
        unfold putS
        repeat' split
        all_goals first | rfl | (exfalso; exact h (by assumption))
      rw [e2]
      have e3 : 107 ∈ p :: ps ↔ 107 ∈ ps := by
        rw [List.mem_cons]
        exact ⟨fun x => x.elim (fun y => absurd y.symm h) id, Or.inr⟩
      simp only [e3]
theorem fp_k (d : SdO) (b : ByteArray) : ∀ (ps : List Int) (e : SdO), (fpS d b ps e).k = e.k
  | [], e => rfl
  | p :: ps, e => by
    show (fpS d b ps (putS p e (tkS d b p))).k = _
    rw [fp_k d b ps]
    unfold putS
    repeat' split
    all_goals rfl
theorem fb_b (d : SdO) (b : ByteArray) : ∀ (ps : List Int) (c : ByteArray), fbS d b ps c = if 98 ∈ ps then b else c
  | [], c => by simp [fbS]
  | p :: ps, c => by
    show fbS d b ps (putB p c (tkS d b p)) = _
    rw [fb_b d b ps]
    by_cases h : p = 98
    · subst h
      rw [if_pos (List.mem_cons_self ..)]
      split
      · rfl
      · rfl
    · have e2 : putB p c (tkS d b p) = c := if_neg h
      rw [e2]
      have e3 : 98 ∈ p :: ps ↔ 98 ∈ ps := by
        rw [List.mem_cons]
        exact ⟨fun x => x.elim (fun y => absurd y.symm h) id, Or.inr⟩
      simp only [e3]
/-- The fields that the row has no part for are zero. -/
def ClS (ps : ByteArray) (d : SdO) (b : ByteArray) : Prop :=
  (d.who = ⟨#[]⟩ ∨ 119 ∈ blK ps) ∧ (d.too = ⟨#[]⟩ ∨ 111 ∈ blK ps) ∧ (d.tx = ⟨#[]⟩ ∨ 116 ∈ blK ps) ∧ (b = ⟨#[]⟩ ∨ 98 ∈ blK ps) ∧ (d.n = 0 ∨ 110 ∈ blK ps) ∧ (d.m = 0 ∨ 109 ∈ blK ps) ∧ (d.q = 0 ∨ 107 ∈ blK ps)
theorem bz_iff (b : ByteArray) : b.size = 0 ↔ b = ⟨#[]⟩ := by
  constructor
  · intro h
    refine Decidable.byContradiction fun hn => ?_
    have := size_posK hn
    omega
  · rintro rfl; rfl
theorem cl_iff (ps : ByteArray) (d : SdO) (b : ByteArray) : clS ps d b.size = true ↔ ClS ps d b := by
  unfold clS ClS okS
  simp only [Bool.and_eq_true, Bool.or_eq_true, decide_eq_true_eq, mem_in, bz_iff]
  constructor
  · rintro ⟨⟨⟨⟨a1, a2⟩, a3⟩, a4⟩, ⟨a5, a6⟩, a7⟩; exact ⟨a1, a2, a3, a4, a5, a6, a7⟩
  · rintro ⟨a1, a2, a3, a4, a5, a6, a7⟩; exact ⟨⟨⟨⟨a1, a2⟩, a3⟩, a4⟩, ⟨a5, a6⟩, a7⟩
theorem fp_all {d : SdO} {b ps : ByteArray} {k : Int} (h : ClS ps d b) (hk : d.k = k) : fpS d b (blK ps) { zdS with k := k } = d ∧ fbS d b (blK ps) ⟨#[]⟩ = b := by
  obtain ⟨a1, a2, a3, a4, a5, a6, a7⟩ := h
  constructor
  · obtain ⟨e, he⟩ : ∃ e, fpS d b (blK ps) { zdS with k := k } = e := ⟨_, rfl⟩
    have f0 := fp_k d b (blK ps) { zdS with k := k }
    have f1 := fp_who d b (blK ps) { zdS with k := k }
    have f2 := fp_too d b (blK ps) { zdS with k := k }
    have f3 := fp_tx d b (blK ps) { zdS with k := k }
    have f5 := fp_n d b (blK ps) { zdS with k := k }
    have f6 := fp_m d b (blK ps) { zdS with k := k }
    have f7 := fp_q d b (blK ps) { zdS with k := k }
    rw [he] at f0 f1 f2 f3 f5 f6 f7 ⊢
    obtain ⟨k1, w1, t1, x1, n1, m1, q1⟩ := d
    obtain ⟨k2, w2, t2, x2, n2, m2, q2⟩ := e
    simp only at f0 f1 f2 f3 f5 f6 f7 a1 a2 a3 a5 a6 a7 hk
    have g1 : w2 = w1 := by rw [f1]; split; rfl; exact (a1.resolve_right (by assumption)).symm
    have g2 : t2 = t1 := by rw [f2]; split; rfl; exact (a2.resolve_right (by assumption)).symm
    have g3 : x2 = x1 := by rw [f3]; split; rfl; exact (a3.resolve_right (by assumption)).symm
    have g5 : n2 = n1 := by rw [f5]; split; rfl; exact (a5.resolve_right (by assumption)).symm
    have g6 : m2 = m1 := by rw [f6]; split; rfl; exact (a6.resolve_right (by assumption)).symm
    have g7 : q2 = q1 := by rw [f7]; split; rfl; exact (a7.resolve_right (by assumption)).symm
    rw [f0, hk, g1, g2, g3, g5, g6, g7]
  · rw [fb_b]
    split
    · rfl
    · exact (a4.resolve_right (by assumption)).symm
/-- What is printed. -/
theorem pr_some {d : SdO} {b s : ByteArray} (h : prS d b = some s) : ∃ i : Nat, i < 24 ∧ d.k = (i : Int) + 1 ∧ ClS (rwS.getD i zrS).p d b ∧ s = joS d b (blK (rwS.getD i zrS).p) (rwS.getD i zrS).x ∧ s.size ≤ 65536 := by
  unfold prS at h
  rcases roK_any d.k with ⟨e, -⟩ | ⟨i, hi, hk, e⟩
  · rw [e] at h; cases h
  · rw [e] at h
    simp only at h
    split at h
    · rename_i hc
      split at h
      · rename_i hz
        cases h
        exact ⟨i, hi, hk, (cl_iff _ _ _).1 hc, rfl, hz⟩
      · cases h
    · cases h
theorem pr_of {d : SdO} {b : ByteArray} {i : Nat} (hi : i < 24) (hk : d.k = (i : Int) + 1) (hc : ClS (rwS.getD i zrS).p d b) : prS d b = if (joS d b (blK (rwS.getD i zrS).p) (rwS.getD i zrS).x).size ≤ 65536 then some (joS d b (blK (rwS.getD i zrS).p) (rwS.getD i zrS).x) else none := by
  unfold prS
  rw [hk, roK_at hi]
  simp only
  rw [if_pos ((cl_iff _ _ _).2 hc)]
/-- The tokens of a step's line. -/
def lnT (d : SdO) (b : ByteArray) (r : RwS) (o : Nat) : List Tk := atP ⟨1, r.x, 0, 0, 0⟩ r.x.size o :: plS d b (blK r.p) (o + r.x.size)
theorem ln_cz {d : SdO} {b : ByteArray} (ho : OkS d b) {i : Nat} (hi : i < 24) : CzP true (blK (joS d b (blK (rwS.getD i zrS).p) (rwS.getD i zrS).x)) (lnT d b (rwS.getD i zrS)) :=
  (jo_cz ho _ _ _ (row_cz (rw_wrd hi) (by have := (rw_le i).1; omega))).eq rfl fun _ => rfl
theorem rl_ln {d : SdO} {b : ByteArray} {i : Nat} (hi : i < 24) (hk : d.k = (i : Int) + 1) (hc : ClS (rwS.getD i zrS).p d b) (L : Int) (o : Nat) : rlS L (lnT d b (rwS.getD i zrS) o) = ⟨d, b, 0, 0⟩ := by
  have e : rwT (atP ⟨1, (rwS.getD i zrS).x, 0, 0, 0⟩ (rwS.getD i zrS).x.size o) = rwS.getD i zrS := (if_pos rfl).trans (rw_own hi)
  show (if (rwT (atP ⟨1, (rwS.getD i zrS).x, 0, 0, 0⟩ (rwS.getD i zrS).x.size o)).k = 0 then _ else goS L (blK (rwT (atP ⟨1, (rwS.getD i zrS).x, 0, 0, 0⟩ (rwS.getD i zrS).x.size o)).p) (plS d b (blK (rwS.getD i zrS).p) (o + (rwS.getD i zrS).x.size)) { zdS with k := (rwT (atP ⟨1, (rwS.getD i zrS).x, 0, 0, 0⟩ (rwS.getD i zrS).x.size o)).k } ⟨#[]⟩) = _
  rw [e, if_neg (by rw [rw_k hi]; omega), go_pl]
  obtain ⟨h1, h2⟩ := fp_all hc hk
  rw [rw_k hi, ← hk] at *
  rw [h1, h2]
theorem rd_of {s : ByteArray} {T : List Tk} (hs : s.size ≤ 65536) (h : cutL (blK s) (s.size : Int) = (T, 0, 0)) : rdS s = rlS s.size T := by
  unfold rdS
  rw [if_neg (by omega), h]
  rfl
/-- What is printed is read as it was. -/
theorem rd_pr {d : SdO} {b s : ByteArray} (ho : OkS d b) (h : prS d b = some s) : rdS s = ⟨d, b, 0, 0⟩ := by
  obtain ⟨i, hi, hk, hc, rfl, hz⟩ := pr_some h
  rw [rd_of hz ((ln_cz ho hi).cut (Int.le_refl _)), rl_ln hi hk hc]
end Go.Proofs.YtdfdnjkeiddfjaaDoor
