/-
  script (stage 25): PLAIN: what is read of any line.
-/
import Derived.Test.YtdfdnjkeiddfjaaDoorSX3
import Derived.Test.YtdfdnjkeiddfjaaDoorSX2
namespace Go.Proofs.YtdfdnjkeiddfjaaDoor
open Go.RowKit

/-- How long a token's spelling is. -/
def spn (t : Tk) : Nat := ((spl t).getD ⟨#[]⟩).size
theorem ct_spn : ∀ (f : Nat) (l : List Int) (off : Nat) (acc : List Tk), byt l → ((ct f l off acc).1.map spn).sum ≤ (acc.map spn).sum + 4 * l.length
  | 0, l, off, acc, _ => Nat.le_add_right _ _
  | f + 1, [], off, acc, _ => Nat.le_add_right _ _
  | f + 1, c :: r, off, acc, hb => by
    rw [ct_cons]
    have hbr : byt r := fun x hx => hb x (by simp [hx])
    simp only [List.length_cons]
    by_cases q1 : c = 32 ∨ c = 9 ∨ c = 10 ∨ c = 13
    · rw [if_pos q1]
      have := ct_spn f r (off + 1) acc hbr
      omega
    · rw [if_neg q1]
      by_cases q2 : c = 37
      · rw [if_pos q2]
        have := ct_spn f ((c :: r).drop (le_ (c :: r))) (off + le_ (c :: r)) acc (fun x hx => hb x (List.mem_of_mem_drop hx))
        rw [List.length_drop, List.length_cons] at this
        omega
      · rw [if_neg q2]
        cases et : tok (c :: r) with
        | bad e o => show (0 : Nat) ≤ _; omega
        | ok k x n len =>
          simp only
          obtain ⟨s, hs, hsz, -, -, -⟩ := tok_has et hb (off : Int) ((off + len : Nat) : Int)
          have hln := (tok_len c r).1 k x n len et
          have := ct_spn f ((c :: r).drop len) (off + len) (acc ++ [⟨k, ofL x, n, off, (off + len : Nat)⟩]) (fun x hx => hb x (List.mem_of_mem_drop hx))
          rw [List.length_drop, List.length_cons] at this
          have e1 : spn ⟨k, ofL x, n, off, (off + len : Nat)⟩ = s.size := by unfold spn; rw [hs]; rfl
          simp only [List.map_append, List.map_cons, List.map_nil, List.sum_append, List.sum_cons, List.sum_nil, e1] at this
          omega
theorem ct_plS : ∀ (f : Nat) (l : List Int) (off : Nat) (acc : List Tk) (M : Nat), off + l.length ≤ M → (∀ t ∈ acc, 0 ≤ t.a ∧ t.a ≤ (M : Int)) → ∀ t ∈ (ct f l off acc).1, 0 ≤ t.a ∧ t.a ≤ (M : Int)
  | 0, _, _, acc, _, _, h => h
  | _ + 1, [], _, acc, _, _, h => h
  | f + 1, c :: r, off, acc, M, hM, h => by
    simp only [List.length_cons] at hM
    rw [ct_cons]
    by_cases q1 : c = 32 ∨ c = 9 ∨ c = 10 ∨ c = 13
    · rw [if_pos q1]
      exact ct_plS f r _ acc M (by omega) h
    · rw [if_neg q1]
      by_cases q2 : c = 37
      · rw [if_pos q2]
        have hle := le_le (c :: r)
        simp only [List.length_cons] at hle
        exact ct_plS f _ _ acc M (by rw [List.length_drop, List.length_cons]; omega) h
      · rw [if_neg q2]
        cases et : tok (c :: r) with
        | bad e o => intro t ht; cases ht
        | ok k x n len =>
          have htl := (tok_len c r).1 k x n len et
          refine ct_plS f _ _ _ M (by rw [List.length_drop, List.length_cons]; omega) fun t ht => ?_
          rcases List.mem_append.1 ht with ht | ht
          · exact h t ht
          · rw [List.mem_singleton.1 ht]
            exact ⟨by show (0 : Int) ≤ (off : Int); omega, by show (off : Int) ≤ (M : Int); omega⟩
/-- What is known of a line's tokens. -/
structure CutF (s : ByteArray) (T : List Tk) : Prop where
  sp : ∀ t ∈ T, (spl t).isSome = true ∧ t.x.size ≤ s.size ∧ -9223372036854775808 ≤ t.n ∧ t.n ≤ 9223372036854775807
  pl : ∀ t ∈ T, 0 ≤ t.a ∧ t.a ≤ (s.size : Int)
  sum : (T.map spn).sum ≤ 4 * s.size
theorem cut_all_ways (s : ByteArray) : (∃ e p, cutL (blK s) (s.size : Int) = ([], e, p) ∧ e ≠ 0 ∧ 0 ≤ p ∧ p ≤ (s.size : Int)) ∨ ∃ T, cutL (blK s) (s.size : Int) = (T, 0, 0) ∧ CutF s T := by
  rw [cutL_all]
  rcases ct_ends (s.size + 1) (blK s) 0 [] with ⟨e, p, h, he⟩ | ⟨T, h⟩
  · left
    refine ⟨e, p, h, he, ?_⟩
    rcases ct_fault (s.size + 1) (blK s) 0 [] (by rw [bl_len]; omega) with ⟨h1, -⟩ | ⟨q, h1, h2, -⟩
    · rw [h] at h1; exact absurd h1 he
    · rw [h] at h1
      rw [bl_len] at h2
      simp only at h1
      omega
  · right
    refine ⟨T, h, ?_⟩
    have h1 := ct_has (s.size + 1) (blK s) 0 [] s.size (bl_byt s) (by rw [bl_len]; exact Nat.le_refl _) (fun t ht => by cases ht)
    have h2 := ct_plS (s.size + 1) (blK s) 0 [] s.size (by rw [bl_len]; omega) (fun t ht => by cases ht)
    have h3 := ct_spn (s.size + 1) (blK s) 0 [] (bl_byt s)
    rw [h] at h1 h2 h3
    exact ⟨h1.1, h2, by simpa [bl_len] using h3⟩
/-- A part's token, as it would be written. -/
def shT (p : Int) (t : Tk) : ByteArray := if p = 119 ∨ p = 111 then nmS t.x else if p = 116 ∨ p = 98 then qtB t.x else ibS t.n
theorem qtl_ge (s : ByteArray) : ∀ n, n + 1 ≤ (qtl s n).length
  | 0 => Nat.le_refl _
  | n + 1 => by
    have h1 := qtl_ge s n
    have h2 : qtl s (n + 1) = qtl s n ++ qb (atK_ s n) := qtl_succ s n
    rw [h2, List.length_append]
    have h3 : 1 ≤ (qb (atK_ s n)).length := by
      unfold qb
      repeat' split
      all_goals simp
    omega
theorem qt_ge (s : ByteArray) : s.size + 2 ≤ (qtB s).size := by
  have h1 := qtl_ge s s.size
  have e : (qtB s).size = (qtl s s.size).length + 1 := by show (i2b (qtl s s.size ++ [34])).toArray.size = _; simp [i2b]
  omega
theorem nm_le (s : ByteArray) : (nmS s).size ≤ (qtB s).size := by
  unfold nmS
  split
  · have := qt_ge s; omega
  · exact Nat.le_refl _
theorem sh_spn {p : Int} {t : Tk} (h : ftS p t.k = true) (hs : (spl t).isSome = true) : (shT p t).size ≤ spn t := by
  obtain ⟨k, x, n, a, e⟩ := t
  unfold ftS at h
  unfold shT spn
  simp only at h ⊢
  by_cases h1 : p = 119 ∨ p = 111
  · rw [if_pos h1] at h ⊢
    simp only [Bool.or_eq_true, decide_eq_true_eq] at h
    rcases h with rfl | rfl
    · unfold spl at hs ⊢
      rw [if_pos rfl] at hs ⊢
      by_cases hw : wrd x = true ∧ n = 0
      · rw [if_pos hw]
        unfold nmS
        rw [if_pos hw.1]
        exact Nat.le_refl _
      · rw [if_neg hw] at hs; cases hs
    · unfold spl at hs ⊢
      rw [if_neg (show ¬ (3 : Int) = 1 by decide), if_neg (show ¬ (3 : Int) = 2 by decide), if_pos rfl] at hs ⊢
      by_cases hn : n = 0
      · rw [if_pos hn]; exact nm_le x
      · rw [if_neg hn] at hs; cases hs
  · rw [if_neg h1] at h ⊢
    by_cases h2 : p = 116 ∨ p = 98
    · rw [if_pos h2] at h ⊢
      simp only [decide_eq_true_eq] at h
      subst h
      unfold spl at hs ⊢
      rw [if_neg (show ¬ (3 : Int) = 1 by decide), if_neg (show ¬ (3 : Int) = 2 by decide), if_pos rfl] at hs ⊢
      by_cases hn : n = 0
      · rw [if_pos hn]; exact Nat.le_refl _
      · rw [if_neg hn] at hs; cases hs
    · rw [if_neg h2] at h ⊢
      simp only [decide_eq_true_eq] at h
      subst h
      unfold spl at hs ⊢
      rw [if_neg (show ¬ (4 : Int) = 1 by decide), if_neg (show ¬ (4 : Int) = 2 by decide), if_neg (show ¬ (4 : Int) = 3 by decide), if_pos rfl] at hs ⊢
      by_cases hx : x = ⟨#[]⟩
      · rw [if_pos hx]; exact Nat.le_refl _
      · rw [if_neg hx] at hs; cases hs
/-- What the parts leave as it was. -/
structure KpP (ps : List Int) (d0 : SdO) (b0 : ByteArray) (d : SdO) (b : ByteArray) : Prop where
  k : d.k = d0.k
  who : 119 ∉ ps → d.who = d0.who
  too : 111 ∉ ps → d.too = d0.too
  tx : 116 ∉ ps → d.tx = d0.tx
  b : 98 ∉ ps → b = b0
  n : 110 ∉ ps → d.n = d0.n
  m : 109 ∉ ps → d.m = d0.m
  q : 107 ∉ ps → d.q = d0.q
theorem no253 {p : Int} {d : SdO} {b : ByteArray} (h : noS 253 p = ⟨d, b, 0, 0⟩) : False := by
  unfold noS at h
  injection h with h1 h2 h3 h4
  exact absurd h3 (by decide)
theorem go_kp (L : Int) : ∀ (ps : List Int) (T : List Tk) (d0 : SdO) (b0 : ByteArray) (d : SdO) (b : ByteArray), goS L ps T d0 b0 = ⟨d, b, 0, 0⟩ → T.length = ps.length ∧ KpP ps d0 b0 d b
  | [], [], d0, b0, d, b, h => by
    unfold goS at h
    injection h with h1 h2
    subst h1 h2
    exact ⟨rfl, rfl, fun _ => rfl, fun _ => rfl, fun _ => rfl, fun _ => rfl, fun _ => rfl, fun _ => rfl, fun _ => rfl⟩
  | [], t :: T, _, _, _, _, h => by unfold goS at h; exact (no253 h).elim
  | p :: ps, [], _, _, _, _, h => by unfold goS at h; exact (no253 h).elim
  | p :: ps, t :: T, d0, b0, d, b, h => by
    unfold goS at h
    split at h
    · obtain ⟨hl, hk⟩ := go_kp L ps T _ _ _ _ h
      refine ⟨by rw [List.length_cons, List.length_cons, hl], ?_, ?_, ?_, ?_, ?_, ?_, ?_, ?_⟩
      · rw [hk.k]
        unfold putS
        repeat' split
        all_goals rfl
      · intro hn
        rw [List.mem_cons, not_or] at hn
        rw [hk.who hn.2]
        unfold putS
        repeat' split
        all_goals first | rfl | (exfalso; exact hn.1 (Eq.symm (by assumption)))
      · intro hn
        rw [List.mem_cons, not_or] at hn
        rw [hk.too hn.2]
        unfold putS
        repeat' split
        all_goals first | rfl | (exfalso; exact hn.1 (Eq.symm (by assumption)))
      · intro hn
        rw [List.mem_cons, not_or] at hn
        rw [hk.tx hn.2]
        unfold putS
        repeat' split
        all_goals first | rfl | (exfalso; exact hn.1 (Eq.symm (by assumption)))
      · intro hn
        rw [List.mem_cons, not_or] at hn
        rw [hk.b hn.2]
        unfold putB
        repeat' split
        all_goals first | rfl | (exfalso; exact hn.1 (Eq.symm (by assumption)))
      · intro hn
        rw [List.mem_cons, not_or] at hn
        rw [hk.n hn.2]
        unfold putS
        repeat' split
        all_goals first | rfl | (exfalso; exact hn.1 (Eq.symm (by assumption)))
      · intro hn
        rw [List.mem_cons, not_or] at hn
        rw [hk.m hn.2]
        unfold putS
        repeat' split
        all_goals first | rfl | (exfalso; exact hn.1 (Eq.symm (by assumption)))
      · intro hn
        rw [List.mem_cons, not_or] at hn
        rw [hk.q hn.2]
        unfold putS
        repeat' split
        all_goals first | rfl | (exfalso; exact hn.1 (Eq.symm (by assumption)))
    · exact (no253 h).elim
theorem go_ok (L : Int) (M : Nat) (hM : M ≤ 2000000) : ∀ (ps : List Int) (T : List Tk) (d0 : SdO) (b0 : ByteArray) (d : SdO) (b : ByteArray), goS L ps T d0 b0 = ⟨d, b, 0, 0⟩ → OkS d0 b0 → (∀ t ∈ T, t.x.size ≤ M ∧ -9223372036854775808 ≤ t.n ∧ t.n ≤ 9223372036854775807) → OkS d b
  | [], [], d0, b0, d, b, h, ho, _ => by
    unfold goS at h
    injection h with h1 h2
    subst h1 h2
    exact ho
  | [], t :: T, _, _, _, _, h, _, _ => by unfold goS at h; exact (no253 h).elim
  | p :: ps, [], _, _, _, _, h, _, _ => by unfold goS at h; exact (no253 h).elim
  | p :: ps, t :: T, d0, b0, d, b, h, ho, ht => by
    unfold goS at h
    split at h
    · refine go_ok L M hM ps T _ _ _ _ h ?_ fun u hu => ht u (List.mem_cons_of_mem _ hu)
      obtain ⟨x1, x2, x3⟩ := ht t (List.mem_cons_self ..)
      obtain ⟨y1, y2, y3, y4, y5, y6, y7, y8⟩ := ho
      have x0 : t.x.size ≤ 2000000 := by omega
      unfold putS putB
      refine ⟨?_, ?_, ?_, ?_, ?_, ?_, ?_, ?_⟩
      all_goals
        repeat' split
      all_goals first | assumption | exact ⟨x2, x3⟩
    · exact (no253 h).elim
/-- The letters of parts. -/
def ltS (p : Int) : Prop := p = 119 ∨ p = 111 ∨ p = 116 ∨ p = 98 ∨ p = 110 ∨ p = 109 ∨ p = 107
theorem sh_own {ps : List Int} {d0 : SdO} {b0 : ByteArray} {d : SdO} {b : ByteArray} {p : Int} {t : Tk} (hp : ltS p) (hn : p ∉ ps) (hk : KpP ps (putS p d0 t) (putB p b0 t) d b) : shS d b p = shT p t := by
  rcases hp with rfl | rfl | rfl | rfl | rfl | rfl | rfl
  · have := hk.who hn; simp [shS, shT, this, putS]
  · have := hk.too hn; simp [shS, shT, this, putS]
  · have := hk.tx hn; simp [shS, shT, this, putS]
  · have := hk.b hn; simp [shS, shT, this, putB]
  · have := hk.n hn; simp [shS, shT, this, putS]
  · have := hk.m hn; simp [shS, shT, this, putS]
  · have := hk.q hn; simp [shS, shT, this, putS]
theorem go_sum (L : Int) : ∀ (ps : List Int) (T : List Tk) (d0 : SdO) (b0 : ByteArray) (d : SdO) (b : ByteArray), goS L ps T d0 b0 = ⟨d, b, 0, 0⟩ → ps.Nodup → (∀ p ∈ ps, ltS p) → (∀ t ∈ T, (spl t).isSome = true) → (ps.map fun p => 1 + (shS d b p).size).sum ≤ (T.map spn).sum + ps.length
  | [], [], d0, b0, d, b, h, _, _, _ => Nat.le_refl _
  | [], t :: T, _, _, _, _, h, _, _, _ => by unfold goS at h; exact (no253 h).elim
  | p :: ps, [], _, _, _, _, h, _, _, _ => by unfold goS at h; exact (no253 h).elim
  | p :: ps, t :: T, d0, b0, d, b, h, hd, hl, hs => by
    unfold goS at h
    split at h
    · rename_i hf
      have hk := (go_kp L ps T _ _ _ _ h).2
      rw [List.nodup_cons] at hd
      have ih := go_sum L ps T _ _ _ _ h hd.2 (fun q hq => hl q (List.mem_cons_of_mem _ hq)) fun u hu => hs u (List.mem_cons_of_mem _ hu)
      have e := sh_own (hl p (List.mem_cons_self ..)) hd.1 hk
      have h2 := sh_spn hf (hs t (List.mem_cons_self ..))
      simp only [List.map_cons, List.sum_cons, List.length_cons, e]
      omega
    · exact (no253 h).elim
theorem go_ways (L : Int) : ∀ (ps : List Int) (T : List Tk) (d0 : SdO) (b0 : ByteArray), (∃ d b, goS L ps T d0 b0 = ⟨d, b, 0, 0⟩) ∨ ∃ p, goS L ps T d0 b0 = noS 253 p ∧ (p = L ∨ ∃ t ∈ T, p = t.a)
  | [], [], d0, b0 => Or.inl ⟨d0, b0, rfl⟩
  | [], t :: T, _, _ => Or.inr ⟨t.a, rfl, Or.inr ⟨t, List.mem_cons_self .., rfl⟩⟩
  | p :: ps, [], _, _ => Or.inr ⟨L, rfl, Or.inl rfl⟩
  | p :: ps, t :: T, d0, b0 => by
    unfold goS
    split
    · rcases go_ways L ps T (putS p d0 t) (putB p b0 t) with h | ⟨q, h, hq⟩
      · exact Or.inl h
      · exact Or.inr ⟨q, h, hq.imp id fun ⟨u, hu, e⟩ => ⟨u, List.mem_cons_of_mem _ hu, e⟩⟩
    · exact Or.inr ⟨t.a, rfl, Or.inr ⟨t, List.mem_cons_self .., rfl⟩⟩
theorem rw_ps {i : Nat} (h : i < 24) : (blK (rwS.getD i zrS).p).Nodup ∧ (∀ p ∈ blK (rwS.getD i zrS).p, ltS p) ∧ (blK (rwS.getD i zrS).p).length ≤ 3 := by
  have h1 : ∀ i : Nat, i < 24 → (blK (rwS.getD i zrS).p).Nodup := of_decide_eq_true (by kernel_rfl)
  have h2 : ∀ i : Nat, i < 24 → ∀ p ∈ blK (rwS.getD i zrS).p, (p = 119 ∨ p = 111 ∨ p = 116 ∨ p = 98 ∨ p = 110 ∨ p = 109 ∨ p = 107) := of_decide_eq_true (by kernel_rfl)
  exact ⟨h1 i h, h2 i h, by rw [bl_len]; exact (rw_le i).2⟩
theorem ok_zero (k : Int) (hk : N64S k) : OkS { zdS with k := k } ⟨#[]⟩ := ⟨by show (0 : Nat) ≤ _; omega, by show (0 : Nat) ≤ _; omega, by show (0 : Nat) ≤ _; omega, by show (0 : Nat) ≤ _; omega, hk, z64S, z64S, z64S⟩
/-- What is read of any line. -/
theorem rd_ways (s : ByteArray) : (∃ e p, rdS s = noS e p ∧ e ≠ 0 ∧ 0 ≤ p ∧ p ≤ (s.size : Int)) ∨
    ∃ d b, ∃ i : Nat, i < 24 ∧ rdS s = ⟨d, b, 0, 0⟩ ∧ d.k = (i : Int) + 1 ∧ ClS (rwS.getD i zrS).p d b ∧ OkS d b ∧ prS d b = (if (joS d b (blK (rwS.getD i zrS).p) (rwS.getD i zrS).x).size ≤ 65536 then some (joS d b (blK (rwS.getD i zrS).p) (rwS.getD i zrS).x) else none) ∧ (joS d b (blK (rwS.getD i zrS).p) (rwS.getD i zrS).x).size ≤ 4 * s.size + 3 := by
  by_cases hz : 65536 < s.size
  · left
    exact ⟨251, 0, by unfold rdS; rw [if_pos hz], by decide, by omega, by omega⟩
  rcases cut_all_ways s with ⟨e, p, h, he, h0, h1⟩ | ⟨T, h, hc⟩
  · left
    refine ⟨e, p, ?_, he, h0, h1⟩
    unfold rdS
    rw [if_neg hz, h, if_neg he]
  · rw [rd_of (by omega) h]
    cases T with
    | nil => exact Or.inl ⟨252, s.size, rfl, by decide, by omega, by omega⟩
    | cons t T =>
      rcases rwT_any t with hr | ⟨i, hi, hr, hx, hk⟩
      · left
        refine ⟨252, t.a, ?_, by decide, (hc.pl t (List.mem_cons_self ..)).1, (hc.pl t (List.mem_cons_self ..)).2⟩
        show (if (rwT t).k = 0 then noS 252 t.a else _) = _
        rw [hr, if_pos (show zrS.k = 0 from rfl)]
      · have hkk := rw_k hi
        have e1 : rlS s.size (t :: T) = goS s.size (blK (rwS.getD i zrS).p) T { zdS with k := (i : Int) + 1 } ⟨#[]⟩ := by
          show (if (rwT t).k = 0 then noS 252 t.a else goS s.size (blK (rwT t).p) T { zdS with k := (rwT t).k } ⟨#[]⟩) = _
          rw [hr, hkk, if_neg (by omega)]
        rw [e1]
        rcases go_ways s.size (blK (rwS.getD i zrS).p) T { zdS with k := (i : Int) + 1 } ⟨#[]⟩ with ⟨d, b, hg⟩ | ⟨p, hg, hp⟩
        · right
          obtain ⟨hd, hl, h3⟩ := rw_ps hi
          obtain ⟨-, hkp⟩ := go_kp _ _ _ _ _ _ _ hg
          have hcl : ClS (rwS.getD i zrS).p d b :=
            ⟨Classical.or_iff_not_imp_right.2 hkp.who, Classical.or_iff_not_imp_right.2 hkp.too, Classical.or_iff_not_imp_right.2 hkp.tx, Classical.or_iff_not_imp_right.2 hkp.b, Classical.or_iff_not_imp_right.2 hkp.n, Classical.or_iff_not_imp_right.2 hkp.m, Classical.or_iff_not_imp_right.2 hkp.q⟩
          have hok : OkS d b := go_ok s.size 65536 (by omega) _ T _ _ _ _ hg (ok_zero _ ⟨by omega, by omega⟩) fun u hu => by
            obtain ⟨-, h5, h6⟩ := hc.sp u (List.mem_cons_of_mem _ hu)
            exact ⟨by omega, h6⟩
          have hsum := go_sum _ _ _ _ _ _ _ hg hd hl fun u hu => (hc.sp u (List.mem_cons_of_mem _ hu)).1
          refine ⟨d, b, i, hi, hg, hkp.k, hcl, hok, pr_of hi hkp.k hcl, ?_⟩
          rw [jo_size]
          have hs := hc.sum
          simp only [List.map_cons, List.sum_cons] at hs
          have e5 : spn t = (rwS.getD i zrS).x.size := by
            have h6 := (hc.sp t (List.mem_cons_self ..)).1
            unfold spn
            unfold spl at h6 ⊢
            rw [if_pos hk] at h6 ⊢
            by_cases hw : wrd t.x = true ∧ t.n = 0
            · rw [if_pos hw, hx]; rfl
            · rw [if_neg hw] at h6; cases h6
          omega
        · left
          refine ⟨253, p, hg, by decide, ?_⟩
          rcases hp with rfl | ⟨u, hu, rfl⟩
          · exact ⟨by omega, by omega⟩
          · exact hc.pl u (List.mem_cons_of_mem _ hu)
end Go.Proofs.YtdfdnjkeiddfjaaDoor
