/-
  ref's spelled, and its Spell (plain): a token has a spelling just if it is read back.
-/
import Derived.Test.YtekjicklbgpdcabDoorKR9
import Derived.Test.YtekjicklbgpdcabDoorK37
import Derived.Test.YtekjicklbgpdcabDoorK34
namespace Go.Proofs.YtekjicklbgpdcabDoor
open Go.RowKit

/-- The spelling that a token has, if it has one. -/
def spd (t : Tk) : ByteArray :=
  if t.k = 1 ∨ t.k = 2 then t.x else if t.k = 3 then qtB t.x else if t.k = 4 then itB t.n else if t.k = 5 then saysB else sgo t.k
theorem spd_of {t : Tk} {s : ByteArray} (h : spl t = some s) : spd t = s := by
  unfold spl at h
  unfold spd
  by_cases q1 : t.k = 1
  · rw [if_pos q1] at h
    rw [if_pos (Or.inl q1)]
    split at h
    · exact Option.some.inj h
    · cases h
  · rw [if_neg q1] at h
    by_cases q2 : t.k = 2
    · rw [if_pos q2] at h
      rw [if_pos (Or.inr q2)]
      split at h
      · exact Option.some.inj h
      · cases h
    · rw [if_neg q2] at h
      rw [if_neg (by omega)]
      by_cases q3 : t.k = 3
      · rw [if_pos q3] at h ⊢
        split at h
        · exact Option.some.inj h
        · cases h
      · rw [if_neg q3] at h ⊢
        by_cases q4 : t.k = 4
        · rw [if_pos q4] at h ⊢
          split at h
          · exact Option.some.inj h
          · cases h
        · rw [if_neg q4] at h ⊢
          split at h
          · have e := Option.some.inj h
            by_cases q5 : t.k = 5
            · rw [if_pos q5]
              rw [q5] at e
              rw [← e]; rfl
            · rw [if_neg q5]; exact e
          · cases h
/-- A spelling is read as its token alone. -/
theorem cut_spl {t : Tk} {s : ByteArray} (h : spl t = some s) (ho : okt t) : cutL (bl s) s.size = ([⟨t.k, t.x, t.n, 0, (s.size : Int)⟩], 0, 0) := by
  obtain ⟨c, y, ec, n1, n2, -, -⟩ := spl_head h
  obtain ⟨ht, hx⟩ := tok_spl (y := []) h ho ⟨fun _ => rfl, fun _ r hr => by cases hr⟩ (fun x hx => by cases hx)
  rw [List.append_nil] at ht
  have hsz : 0 < s.size := by rw [← bl_len, ec]; simp
  obtain ⟨f, hf⟩ : ∃ f, s.size = f + 1 := ⟨s.size - 1, by omega⟩
  rw [cutL_all]
  have hd : (bl s).drop s.size = [] := List.drop_eq_nil_of_le (by rw [bl_len]; exact Nat.le_refl _)
  rw [ec] at ht hd ⊢
  rw [ct_cons, if_neg n1, if_neg n2, ht]
  show ct s.size ((c :: y).drop s.size) (0 + s.size) ([] ++ [⟨t.k, ofL (tbs t), t.n, ((0 : Nat) : Int), ((0 + s.size : Nat) : Int)⟩]) = _
  rw [hd, ← hx, hf, ct_end]; simp
/-- What is read as one token alone is that token's spelling. -/
theorem spl_cut {t u : Tk} {s : ByteArray} (h : cutL (bl s) s.size = ([u], 0, 0)) (hu : u.bar = t.bar) (hsz : s.size ≤ 9000000) : (spl t).isSome = true := by
  rw [cutL_all] at h
  have hh := (ct_has (s.size + 1) (bl s) 0 [] 9000000 (bl_byt s) (by rw [bl_len]; exact hsz) (fun t ht => by simp at ht)).1 u (by rw [h]; simp)
  rw [← spl_bar t, ← hu, spl_bar u]
  exact hh.1
/-- The four ways in which the reading of what might be the spelling ends. -/
theorem spell_ways (t : Tk) (ho : okt t) (hsz : (spd t).size ≤ 9000000) :
    (∃ T e p, cutL (bl (spd t)) (spd t).size = (T, e, p) ∧ spl t = none ∧ (¬ e = 0 ∨ (e = 0 ∧ ¬ T.length = 1))) ∨
    (∃ u p, cutL (bl (spd t)) (spd t).size = ([u], 0, p) ∧ ¬ u.bar = t.bar ∧ spl t = none) ∨
    ∃ u p, cutL (bl (spd t)) (spd t).size = ([u], 0, p) ∧ u.bar = t.bar ∧ spl t = some (spd t) := by
  obtain ⟨⟨T, e, p⟩, hR⟩ : ∃ R, cutL (bl (spd t)) (spd t).size = R := ⟨_, rfl⟩
  cases hs : spl t with
  | some s =>
    have e1 := spd_of hs
    rw [e1] at hR ⊢
    have h1 := cut_spl hs ho
    exact Or.inr (Or.inr ⟨_, _, h1, rfl, rfl⟩)
  | none =>
    by_cases he : e = 0
    · by_cases hl : T.length = 1
      · obtain ⟨u, rfl⟩ : ∃ u, T = [u] := by
          match T, hl with
          | [u], _ => exact ⟨u, rfl⟩
        subst he
        refine Or.inr (Or.inl ⟨u, p, hR, fun hu => ?_, rfl⟩)
        have hp : p = 0 := by
          rw [cutL_all] at hR
          rcases ct_ends ((spd t).size + 1) (bl (spd t)) 0 [] with ⟨e', p', h1, h2⟩ | ⟨T', h1⟩
          · rw [h1] at hR; simp only [Prod.mk.injEq] at hR; exact absurd hR.2.1 h2
          · rw [h1] at hR; simp only [Prod.mk.injEq] at hR; exact hR.2.2.symm
        subst hp
        have := spl_cut hR hu hsz
        rw [hs] at this; cases this
      · exact Or.inl ⟨T, e, p, hR, rfl, Or.inr ⟨he, hl⟩⟩
    · exact Or.inl ⟨T, e, p, hR, rfl, Or.inl he⟩
theorem spd_size (t : Tk) (ho : okt t) : (spd t).size ≤ 8000002 := by
  unfold spd
  obtain ⟨h1, h2, h3⟩ := ho
  split
  · omega
  · split
    · have hq := qtl_len t.x t.x.size
      have e : (qtB t.x).size = (qtl t.x t.x.size).length + 1 := by show (i2b (qtl t.x t.x.size ++ [34])).toArray.size = _; simp [i2b]
      omega
    · split
      · have := itB_size t.n h2 h3; omega
      · split
        · decide
        · have := sgo_size t.k; omega
/-- The kinds and the signs, as they lie in ref's tables. -/
theorem qk_sgo (i : Nat) (k : Int) (t : ByteArray) (hk : qkL[i]? = some k) (ht : qsL[i]? = some t) : sgo k = t := by
  have hlt : i < 11 := (List.getElem?_eq_some_iff.1 hk).1
  have hc : i = 0 ∨ i = 1 ∨ i = 2 ∨ i = 3 ∨ i = 4 ∨ i = 5 ∨ i = 6 ∨ i = 7 ∨ i = 8 ∨ i = 9 ∨ i = 10 := by omega
  rcases hc with rfl | rfl | rfl | rfl | rfl | rfl | rfl | rfl | rfl | rfl | rfl <;>
  · have e1 := Option.some.inj hk
    have e2 := Option.some.inj ht
    rw [← e1, ← e2]; rfl
theorem qk_none (k : Int) (h5 : ¬ k = 5) (h : ∀ i k', i < 11 → qkL[i]? = some k' → ¬ k' = k) : sgo k = ⟨#[]⟩ := by
  by_cases q : 6 ≤ k ∧ k ≤ 16
  · exfalso
    have hc : k = 6 ∨ k = 7 ∨ k = 8 ∨ k = 9 ∨ k = 10 ∨ k = 11 ∨ k = 12 ∨ k = 13 ∨ k = 14 ∨ k = 15 ∨ k = 16 := by omega
    rcases hc with rfl | rfl | rfl | rfl | rfl | rfl | rfl | rfl | rfl | rfl | rfl
    · exact h 3 6 (by omega) rfl rfl
    · exact h 4 7 (by omega) rfl rfl
    · exact h 5 8 (by omega) rfl rfl
    · exact h 6 9 (by omega) rfl rfl
    · exact h 7 10 (by omega) rfl rfl
    · exact h 0 11 (by omega) rfl rfl
    · exact h 8 12 (by omega) rfl rfl
    · exact h 9 13 (by omega) rfl rfl
    · exact h 1 14 (by omega) rfl rfl
    · exact h 10 15 (by omega) rfl rfl
    · exact h 2 16 (by omega) rfl rfl
  · by_cases h0 : sgo k = ⟨#[]⟩
    · exact h0
    · have := sgo_rng h0; omega
theorem qbare_any (t : Tk) (w : World) : Calls Tryd.prog 31 #[t.v] w fun e w' => e = .returned (Tk.v ⟨t.k, t.x, t.n, 0, 0⟩) ∧ Below w.heap.size w w' := by
  obtain ⟨k, x, n, a, e⟩ := t
  go_enter Tryd.func31, Tryd.ntmps31
  go_wp2
  exact bodyPost_ret (v := Tk.v ⟨k, x, n, 0, 0⟩) (by simp [results, Tryd.results31, go_sem]) rfl ⟨rfl, below2 _ _ _⟩
set_option maxRecDepth 20000 in
set_option maxHeartbeats 2000000 in
theorem qspelled_any (t : Tk) (ho : okt t) (w : World) (hQ : QOk w) : Calls Tryd.prog 30 #[t.v] w fun e w' => e = .returned (.string (spd t)) ∧ Below w.heap.size w w' := by
  have cq := qquote_any t.x ho.1
  have cd := qdecimal_any t.n ho.2.1 ho.2.2
  have HQ : Hid (QOk w) := hQ
  have HS : Hid (spd t = if t.k = 1 ∨ t.k = 2 then t.x else if t.k = 3 then qtB t.x else if t.k = 4 then itB t.n else if t.k = 5 then saysB else sgo t.k) := rfl
  obtain ⟨R, hR⟩ : ∃ R, spd t = R := ⟨_, rfl⟩
  rw [hR] at HS ⊢
  obtain ⟨k, x, n, a, e⟩ := t
  simp only at cq cd HS
  clear hR ho hQ
  go_enter Tryd.func30, Tryd.ntmps30
  go_upto_region 1 with fail
  have hb1 := below1 w (.cells #[.int .i64 k, .string x, .int .i64 n, .int .i64 a, .int .i64 e] 37)
  have B1 := Blk.new w #[.int .i64 k, .string x, .int .i64 n, .int .i64 a, .int .i64 e] 37
  revert hb1 B1
  generalize w.alloc (.cells #[.int .i64 k, .string x, .int .i64 n, .int .i64 a, .int .i64 e] 37) = W
  intro hb1 B1
  have HB : Hid (Below w.heap.size w W) := hb1
  have BT : Hid (Blk W w.heap.size #[.int .i64 k, .string x, .int .i64 n, .int .i64 a, .int .i64 e] 37) := B1
  have HQW : Hid (QOk W) := HQ.out.later hb1
  obtain ⟨c0, c1, c2, c3, c4⟩ := five B1
  clear hb1 B1 HQ
  have hS := HS.out
  by_cases q1 : k = 1
  · rw [if_pos (Or.inl q1)] at hS
    subst hS
    subst q1
    go_wp2
    go_ret
    exact ⟨rfl, HB.out⟩
  by_cases q2 : k = 2
  · rw [if_pos (Or.inr q2)] at hS
    subst hS
    subst q2
    go_wp2
    go_ret
    exact ⟨rfl, HB.out⟩
  rw [if_neg (by omega)] at hS
  by_cases q3 : k = 3
  · rw [if_pos q3] at hS
    subst hS
    subst q3
    go_wp2_with (go_at_call 48; refine (cq _).mono ?_; rintro e w1 ⟨rfl, hb1⟩)
    go_ret
    exact ⟨rfl, below_step HB.out hb1⟩
  rw [if_neg q3] at hS
  by_cases q4 : k = 4
  · rw [if_pos q4] at hS
    subst hS
    subst q4
    go_wp2_with (go_at_call 49; refine (cd _).mono ?_; rintro e w1 ⟨rfl, hb1⟩)
    go_ret
    exact ⟨rfl, below_step HB.out hb1⟩
  rw [if_neg q4] at hS
  by_cases q5 : k = 5
  · rw [if_pos q5] at hS
    subst hS
    subst q5
    go_wp2
    go_ret
    exact ⟨rfl, HB.out⟩
  rw [if_neg q5] at hS
  have m1 : (k == 1) = false := beq_eq_false_iff_ne.2 q1
  have m2 : (k == 2) = false := beq_eq_false_iff_ne.2 q2
  have m3 : (k == 3) = false := beq_eq_false_iff_ne.2 q3
  have m4 : (k == 4) = false := beq_eq_false_iff_ne.2 q4
  have m5 : (k == 5) = false := beq_eq_false_iff_ne.2 q5
  have HSR : Hid (R = sgo k) := hS
  have H5 : Hid (¬ k = 5) := q5
  clear hS q1 q2 q3 q4 q5 cq cd
  go_upto_region 12 with fail
  clear c0 c1 c2 c3 c4
  go_loopg [3] 11 (fun g i wr => ∃ m : Nat, m + g = 11 ∧ i = .int .i64 (m : Int) ∧ (∀ i k', i < m → qkL[i]? = some k' → ¬ k' = k) ∧ Below W.heap.size W wr)
  case atStart => exact ⟨0, by omega, rfl, fun _ _ h => by omega, Below.refl _ _⟩
  case round =>
    obtain ⟨m, hmg, rfl, hno, hbr⟩ := hrel
    have HNO : Hid (∀ i k', i < m → qkL[i]? = some k' → ¬ k' = k) := hno
    have HBr : Hid (Below W.heap.size W wr) := hbr
    have hqr := HQW.out.later hbr
    obtain ⟨c0, c1, c2, c3, c4⟩ := five (BT.out.later hbr)
    clear hno
    cases gk with
    | succ g =>
      have hm1 : (m : Int) < 11 := by omega
      have hm0 : (0 : Int) ≤ (m : Int) := by omega
      have hmlt : m < qsL.length := by show m < 11; omega
      obtain ⟨t, ht⟩ : ∃ t, qsL[m]? = some t := ⟨_, List.getElem?_eq_getElem hmlt⟩
      obtain ⟨k', hk⟩ : ∃ k, qkL[m]? = some k := ⟨_, List.getElem?_eq_getElem (show m < qkL.length from hmlt)⟩
      have cs := hqr.s m t ht
      have ck := hqr.k m k' hk
      by_cases q : k' = k
      · have HT : Hid (sgo k = t) := by show _ = _; rw [← q]; exact qk_sgo m k' t hk ht
        subst q
        clear ht hk hbr
        go_upto_region 14 with fail
        go_quiet (fail)
        have hbx := below_drewN (Below.refl wr.heap.size wr) nq
        have cs2 := cell_step hbx (World.block_lt_of_cell? wr _ cs) cs
        clear c0 c1 c2 c3 c4 cs ck
        go_wp2
        go_ret
        exact ⟨by rw [HSR.out, HT.out]; rfl, below_step HB.out (below_step HBr.out hbx)⟩
      · have HN2 : Hid (∀ i k', i < m + 1 → qkL[i]? = some k' → ¬ k' = k) := fun i k2 hi hk2 => by
          rcases Nat.lt_or_ge i m with h2 | h2
          · exact HNO.out i k2 h2 hk2
          · obtain rfl : i = m := by omega
            rw [hk] at hk2; cases hk2; exact q
        have nk : (k' == k) = false := beq_eq_false_iff_ne.2 q
        clear ht hk hbr q cs
        go_upto_region 14 with fail
        go_quiet (fail)
        go_wp2
        go_roundg g
        case measure => omega
        case rel => exact ⟨m + 1, by omega, by go_num, HN2.out, below_drewN HBr.out _⟩
    | zero =>
      obtain rfl : m = 11 := by omega
      have HE : Hid (sgo k = ⟨#[]⟩) := qk_none k H5.out HNO.out
      clear hqr hbr
      go_wp2
      go_ret
      exact ⟨by rw [HSR.out, HE.out]; rfl, below_step HB.out HBr.out⟩
end Go.Proofs.YtekjicklbgpdcabDoor
