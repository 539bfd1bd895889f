import Derived.Test.YtdfdnjkeiddfjaaDoorKR9
import Derived.Test.YtdfdnjkeiddfjaaDoorK37
import Derived.Test.YtdfdnjkeiddfjaaDoorK40
/-
  ref's spelled, and its Spell (plain): a token has a spelling just if it is read back.
-/
namespace Go.Proofs.YtdfdnjkeiddfjaaDoor
open Go.RowKit

/-- The spelling that a token has, if it has one. -/
def spd (t : Tk) : ByteArray :=
  if t.k = 1 ∨ t.k = 2 then t.x else if t.k = 3 then qtB t.x else if t.k = 4 then itB t.n else if t.k = 5 then saysB else sgo t.k
theorem spd_of {t : Tk} {s : ByteArray} (h : spl t = some s) : spd t = s := by
  unfold spl at h
  unfold spd
  by_cases q1 : t.k = 1
  · rw [if_pos q1] at h
    rw [if_pos (Or.inl q1)]
    split at h
    · exact Option.some.inj h
    · cases h
  · rw [if_neg q1] at h
    by_cases q2 : t.k = 2
    · rw [if_pos q2] at h
      rw [if_pos (Or.inr q2)]
      split at h
      · exact Option.some.inj h
      · cases h
    · rw [if_neg q2] at h
      rw [if_neg (by omega)]
      by_cases q3 : t.k = 3
      · rw [if_pos q3] at h ⊢
        split at h
        · exact Option.some.inj h
        · cases h
      · rw [if_neg q3] at h ⊢
        by_cases q4 : t.k = 4
        · rw [if_pos q4] at h ⊢
          split at h
          · exact Option.some.inj h
          · cases h
        · rw [if_neg q4] at h ⊢
          split at h
          · have e := Option.some.inj h
            by_cases q5 : t.k = 5
            · rw [if_pos q5]
              rw [q5] at e
              rw [← e]; rfl
            · rw [if_neg q5]; exact e
          · cases h
/-- A spelling is read as its token alone. -/
theorem cut_spl {t : Tk} {s : ByteArray} (h : spl t = some s) (ho : okt t) : cutL (blK s) s.size = ([⟨t.k, t.x, t.n, 0, (s.size : Int)⟩], 0, 0) := by
  obtain ⟨c, y, ec, n1, n2, -, -⟩ := spl_head h
  obtain ⟨ht, hx⟩ := tok_spl (y := []) h ho ⟨fun _ => rfl, fun _ r hr => by cases hr⟩ (fun x hx => by cases hx)
  rw [List.append_nil] at ht
  have hsz : 0 < s.size := by rw [← bl_len, ec]; simp
  obtain ⟨f, hf⟩ : ∃ f, s.size = f + 1 := ⟨s.size - 1, by omega⟩
  rw [cutL_all]
  have hd : (blK s).drop s.size = [] := List.drop_eq_nil_of_le (by rw [bl_len]; exact Nat.le_refl _)
  rw [ec] at ht hd ⊢
  rw [ct_cons, if_neg n1, if_neg n2, ht]
  show ct s.size ((c :: y).drop s.size) (0 + s.size) ([] ++ [⟨t.k, ofL (tbs t), t.n, ((0 : Nat) : Int), ((0 + s.size : Nat) : Int)⟩]) = _
  rw [hd, ← hx, hf, ct_end]; simp
/-- What is read as one token alone is that token's spelling. -/
theorem spl_cut {t u : Tk} {s : ByteArray} (h : cutL (blK s) s.size = ([u], 0, 0)) (hu : u.bar = t.bar) (hsz : s.size ≤ 9000000) : (spl t).isSome = true := by
  rw [cutL_all] at h
  have hh := (ct_has (s.size + 1) (blK s) 0 [] 9000000 (bl_byt s) (by rw [bl_len]; exact hsz) (fun t ht => by simp at ht)).1 u (by rw [h]; simp)
  rw [← spl_bar t, ← hu, spl_bar u]
  exact hh.1
/-- The four ways in which the reading of what might be the spelling ends. -/
theorem spell_ways (t : Tk) (ho : okt t) (hsz : (spd t).size ≤ 9000000) :
    (∃ T e p, cutL (blK (spd t)) (spd t).size = (T, e, p) ∧ spl t = none ∧ (¬ e = 0 ∨ (e = 0 ∧ ¬ T.length = 1))) ∨
    (∃ u p, cutL (blK (spd t)) (spd t).size = ([u], 0, p) ∧ ¬ u.bar = t.bar ∧ spl t = none) ∨
    ∃ u p, cutL (blK (spd t)) (spd t).size = ([u], 0, p) ∧ u.bar = t.bar ∧ spl t = some (spd t) := by
  obtain ⟨⟨T, e, p⟩, hR⟩ : ∃ R, cutL (blK (spd t)) (spd t).size = R := ⟨_, rfl⟩
  cases hs : spl t with
  | some s =>
    have e1 := spd_of hs
    rw [e1] at hR ⊢
    have h1 := cut_spl hs ho
    exact Or.inr (Or.inr ⟨_, _, h1, rfl, rfl⟩)
  | none =>
    by_cases he : e = 0
    · by_cases hl : T.length = 1
      · obtain ⟨u, rfl⟩ : ∃ u, T = [u] := by
          match T, hl with
          | [u], _ => exact ⟨u, rfl⟩
        subst he
        refine Or.inr (Or.inl ⟨u, p, hR, fun hu => ?_, rfl⟩)
        have hp : p = 0 := by
          rw [cutL_all] at hR
          rcases ct_ends ((spd t).size + 1) (blK (spd t)) 0 [] with ⟨e', p', h1, h2⟩ | ⟨T', h1⟩
          · rw [h1] at hR; simp only [Prod.mk.injEq] at hR; exact absurd hR.2.1 h2
          · rw [h1] at hR; simp only [Prod.mk.injEq] at hR; exact hR.2.2.symm
        subst hp
        have := spl_cut hR hu hsz
        rw [hs] at this; cases this
      · exact Or.inl ⟨T, e, p, hR, rfl, Or.inr ⟨he, hl⟩⟩
    · exact Or.inl ⟨T, e, p, hR, rfl, Or.inl he⟩
theorem spd_size (t : Tk) (ho : okt t) : (spd t).size ≤ 8000002 := by
  unfold spd
  obtain ⟨h1, h2, h3⟩ := ho
  split
  · omega
  · split
    · have hq := qtl_len t.x t.x.size
      have e : (qtB t.x).size = (qtl t.x t.x.size).length + 1 := by show (i2b (qtl t.x t.x.size ++ [34])).toArray.size = _; simp [i2b]
      omega
    · split
      · have := itB_size t.n h2 h3; omega
      · split
        · decide
        · have := sgo_size t.k; omega
/-- The kinds and the signs, as they lie in ref's tables. -/
theorem qk_sgo (i : Nat) (k : Int) (t : ByteArray) (hk : qkL[i]? = some k) (ht : qsL[i]? = some t) : sgo k = t := by
  have hlt : i < 11 := (List.getElem?_eq_some_iff.1 hk).1
  have hc : i = 0 ∨ i = 1 ∨ i = 2 ∨ i = 3 ∨ i = 4 ∨ i = 5 ∨ i = 6 ∨ i = 7 ∨ i = 8 ∨ i = 9 ∨ i = 10 := by omega
  rcases hc with rfl | rfl | rfl | rfl | rfl | rfl | rfl | rfl | rfl | rfl | rfl <;>
  · have e1 := Option.some.inj hk
    have e2 := Option.some.inj ht
    rw [← e1, ← e2]; rfl
theorem qk_none (k : Int) (h5 : ¬ k = 5) (h : ∀ i k', i < 11 → qkL[i]? = some k' → ¬ k' = k) : sgo k = ⟨#[]⟩ := by
  by_cases q : 6 ≤ k ∧ k ≤ 16
  · exfalso
    have hc : k = 6 ∨ k = 7 ∨ k = 8 ∨ k = 9 ∨ k = 10 ∨ k = 11 ∨ k = 12 ∨ k = 13 ∨ k = 14 ∨ k = 15 ∨ k = 16 := by omega
    rcases hc with rfl | rfl | rfl | rfl | rfl | rfl | rfl | rfl | rfl | rfl | rfl
    · exact h 3 6 (by omega) rfl rfl
    · exact h 4 7 (by omega) rfl rfl
    · exact h 5 8 (by omega) rfl rfl
    · exact h 6 9 (by omega) rfl rfl
    · exact h 7 10 (by omega) rfl rfl
    · exact h 0 11 (by omega) rfl rfl
    · exact h 8 12 (by omega) rfl rfl
    · exact h 9 13 (by omega) rfl rfl
    · exact h 1 14 (by omega) rfl rfl
    · exact h 10 15 (by omega) rfl rfl
    · exact h 2 16 (by omega) rfl rfl
  · by_cases h0 : sgo k = ⟨#[]⟩
    · exact h0
    · have := sgo_rng h0; omega
end Go.Proofs.YtdfdnjkeiddfjaaDoor
/-
  Two spellings one behind the other: when they are read as their tokens (plain).
-/
namespace Go.Proofs.YtdfdnjkeiddfjaaDoor
open Go.RowKit

theorem spl_k1 {t : Tk} {s : ByteArray} (h : spl t = some s) (k : t.k = 1) : s = t.x ∧ wrd t.x = true := by
  unfold spl at h
  rw [if_pos k] at h
  split at h
  · rename_i q; exact ⟨(Option.some.inj h).symm, q.1⟩
  · cases h
theorem spl_k2 {t : Tk} {s : ByteArray} (h : spl t = some s) (k : t.k = 2) : s = t.x ∧ vrb t.x = true := by
  unfold spl at h
  rw [if_neg (by omega), if_pos k] at h
  split at h
  · rename_i q; exact ⟨(Option.some.inj h).symm, q.1⟩
  · cases h
theorem spl_k4 {t : Tk} {s : ByteArray} (h : spl t = some s) (k : t.k = 4) : s = itB t.n := by
  unfold spl at h
  rw [if_neg (by omega), if_neg (by omega), if_neg (by omega), if_pos k] at h
  split at h
  · exact (Option.some.inj h).symm
  · cases h
theorem spl_kS {t : Tk} {s : ByteArray} (h : spl t = some s) (k : 5 ≤ t.k) : s = sgo t.k := by
  unfold spl at h
  rw [if_neg (by omega), if_neg (by omega), if_neg (by omega), if_neg (by omega)] at h
  split at h
  · exact (Option.some.inj h).symm
  · cases h
theorem num_text {d : List Int} {v : Int} (h : num d = some v) (hb : byt d) : blK (itB v) = d := by
  unfold num at h
  cases ea : Lib.atoiAll (i2b d) with
  | «syntax» => rw [ea] at h; cases h
  | range => rw [ea] at h; cases h
  | ok u =>
    rw [ea] at h
    simp only at h
    by_cases q : Lib.itoa u = i2b d
    · rw [if_pos q] at h
      cases h
      have : itB v = ofL d := by unfold itB ofL; rw [q]
      rw [this, bl_ofL hb]
    · rw [if_neg q] at h; cases h
/-- How a spelling that goes on a run begins. -/
theorem run_head {p t : Tk} {s : ByteArray} (h : spl t = some s) (hg : grw p t = true) (h13 : ¬ t.k = 13) : 1 ≤ rl (blK s) ∧ enr p.k = true := by
  unfold grw at hg
  by_cases q4 : t.k = 4
  · rw [if_pos q4] at hg
    by_cases hn : t.n < 0
    · rw [if_pos hn] at hg; cases hg
    · rw [if_neg hn] at hg
      refine ⟨?_, hg⟩
      rw [spl_k4 h q4]
      obtain ⟨u, hu⟩ : ∃ u : Nat, t.n = (u : Int) := ⟨t.n.toNat, by omega⟩
      rw [hu, bl_pos]
      cases e : dcs u with
      | nil => exact absurd e (dcs_ne u)
      | cons c r =>
        have := (dec_rnb u c (by show c ∈ dcs u; rw [e]; simp)).1
        rw [rl_cons, if_pos this]; omega
  · rw [if_neg q4] at hg
    by_cases q : t.k = 1 ∨ t.k = 2 ∨ t.k = 5
    · rw [if_pos q] at hg
      refine ⟨?_, hg⟩
      rcases q with q | q | q
      · obtain ⟨rfl, hw⟩ := spl_k1 h q
        obtain ⟨c, r, e, -, hall, -⟩ := wrd_run hw
        have := hall c (by rw [e]; simp)
        rw [e, rl_cons, if_pos this]; omega
      · obtain ⟨rfl, hw⟩ := spl_k2 h q
        obtain ⟨c, r, e, -, hall⟩ := vrb_run hw
        have := hall c (by rw [e]; simp)
        rw [e, rl_cons, if_pos this]; omega
      · rw [spl_kS h (by omega), q]; decide
    · rw [if_neg q, if_neg h13] at hg; cases hg
/-- What is read where two spellings grow together isn't the first token. -/
theorem grown_tok {p t : Tk} {sp st : ByteArray} (hp : spl p = some sp) (ht : spl t = some st) (hg : grw p t = true) {k : Int} {x : List Int} {n : Int} {len : Nat}
    (h : tok (blK sp ++ blK st) = .ok k x n len) : ¬ (k = p.k ∧ ofL x = p.x ∧ n = p.n) := by
  rintro ⟨rfl, hx, rfl⟩
  by_cases h13 : t.k = 13
  · unfold grw at hg
    rw [if_neg (by omega), if_neg (by omega), if_pos h13, decide_eq_true_eq] at hg
    have e1 : sp = sgo 15 := by rw [spl_kS hp (by omega), hg]
    have e2 : st = sgo 13 := by rw [spl_kS ht (by omega), h13]
    rw [e1, e2] at h
    have h2 : tok (blK (sgo 15) ++ blK (sgo 13)) = .ok 16 [] 0 2 := by kernel_rfl
    rw [h2] at h
    simp only [TR.ok.injEq] at h
    omega
  · obtain ⟨hr, he⟩ := run_head ht hg h13
    have hby : byt (blK sp ++ blK st) := fun y hy => by
      rcases List.mem_append.1 hy with hy | hy
      · exact bl_byt _ y hy
      · exact bl_byt _ y hy
    have hk : p.k = 1 ∨ p.k = 2 ∨ p.k = 5 ∨ p.k = 4 := by simpa [enr] using he
    have hll : (blK sp ++ blK st).length = sp.size + st.size := by rw [List.length_append, bl_len, bl_len]
    have hst : rl (blK st) ≤ st.size := by rw [← bl_len]; exact rl_le _
    have txt : ∀ m, m ≤ sp.size + st.size → (ofL ((blK sp ++ blK st).take m)).size = m := fun m hm => by rw [ofL_size, List.length_take, hll]; omega
    rcases hk with hk | hk | hk | hk
    · obtain ⟨rfl, hw⟩ := spl_k1 hp hk
      obtain ⟨c, r, e, h1, hall, -⟩ := wrd_run hw
      have hrl : rl (blK p.x ++ blK st) = p.x.size + rl (blK st) := by rw [rl_all _ _ hall, bl_len]
      have htx := txt _ (show rl (blK p.x ++ blK st) ≤ _ by omega)
      rw [e, List.cons_append] at h hrl htx
      rw [tok_small h1] at h
      split at h
      · simp only [TR.ok.injEq] at h; omega
      · simp only [TR.ok.injEq] at h
        have := congrArg ByteArray.size hx
        rw [← h.2.1, htx] at this
        omega
    · obtain ⟨rfl, hw⟩ := spl_k2 hp hk
      obtain ⟨c, r, e, h1, hall⟩ := vrb_run hw
      have hs1 : sml c = false := by
        simp only [grt, Bool.or_eq_true, Bool.and_eq_true, decide_eq_true_eq] at h1
        simp only [sml, Bool.and_eq_false_iff, decide_eq_false_iff_not]; omega
      have hrl : rl (blK p.x ++ blK st) = p.x.size + rl (blK st) := by rw [rl_all _ _ hall, bl_len]
      have htx := txt _ (show rl (blK p.x ++ blK st) ≤ _ by omega)
      rw [e, List.cons_append] at h hrl htx
      rw [tok_great hs1 h1] at h
      simp only [TR.ok.injEq] at h
      have := congrArg ByteArray.size hx
      rw [← h.2.1, htx] at this
      omega
    · have e1 : sp = saysB := by rw [spl_kS hp (by omega), hk]; rfl
      subst e1
      have hall : ∀ z ∈ blK saysB, rnb z = true := by decide
      have hrl : rl (blK saysB ++ blK st) = 4 + rl (blK st) := by rw [rl_all _ _ hall]; rfl
      have hs4 : saysB.size = 4 := rfl
      have htx := txt _ (show rl (blK saysB ++ blK st) ≤ _ by omega)
      have e : blK saysB = 115 :: [97, 121, 115] := rfl
      rw [e, List.cons_append] at h hrl htx
      rw [tok_small (by decide)] at h
      split at h
      · rename_i q
        rw [q, hs4] at htx
        omega
      · simp only [TR.ok.injEq] at h; omega
    · have e1 := spl_k4 hp hk
      have numc : ∀ m, numt m (blK sp ++ blK st) = .ok p.k x p.n len → m ≤ sp.size + st.size → m = sp.size := fun m hm hle => by
        unfold numt at hm
        cases en : num ((blK sp ++ blK st).take m) with
        | none => rw [en] at hm; cases hm
        | some v =>
          rw [en] at hm
          simp only [TR.ok.injEq] at hm
          have h5 := num_text en (byt_take hby m)
          rw [hm.2.2.1, ← e1] at h5
          have h6 := congrArg List.length h5
          rw [bl_len, List.length_take, hll] at h6
          omega
      by_cases hn : p.n < 0
      · obtain ⟨u, hu⟩ : ∃ u : Nat, p.n = -(u : Int) := ⟨p.n.natAbs, by omega⟩
        have e2 : blK sp = 45 :: dcs u := by rw [e1, hu]; exact bl_neg u (by omega)
        have hall : ∀ z ∈ dcs u, rnb z = true := fun z hz => (dec_rnb u z hz).1
        have hrl : rl (dcs u ++ blK st) = (dcs u).length + rl (blK st) := rl_all _ _ hall
        have hsz : sp.size = (dcs u).length + 1 := by rw [← bl_len, e2]; rfl
        have h7 := h
        rw [e2, List.cons_append, tok_minus (by decide) (by decide) rfl, ← List.cons_append, ← e2] at h7
        have := numc _ h7 (by omega)
        omega
      · obtain ⟨u, hu⟩ : ∃ u : Nat, p.n = (u : Int) := ⟨p.n.toNat, by omega⟩
        have e2 : blK sp = dcs u := by rw [e1, hu]; exact bl_pos u
        have hall : ∀ z ∈ blK sp, rnb z = true := fun z hz => (dec_rnb u z (by rw [e2] at hz; exact hz)).1
        have hrl : rl (blK sp ++ blK st) = sp.size + rl (blK st) := by rw [rl_all _ _ hall, bl_len]
        cases ec : blK sp with
        | nil => rw [ec] at e2; exact dcs_ne u e2.symm
        | cons c r =>
          have hd := (dec_rnb u c (by show c ∈ dcs u; rw [← e2, ec]; simp)).2
          obtain ⟨d1, d2, d3⟩ := dig_not hd
          have h7 := h
          rw [ec, List.cons_append, tok_dig d1 d2 d3 hd, ← List.cons_append, ← ec] at h7
          have := numc _ h7 (by omega)
          omega
theorem ct_front : ∀ (f : Nat) (l : List Int) (off : Nat) (acc T : List Tk), ct f l off acc = (T, 0, 0) → ∃ T', T = acc ++ T'
  | 0, _, _, acc, T, h => by simp only [ct, Prod.mk.injEq] at h; exact ⟨[], by simp [h.1]⟩
  | _ + 1, [], _, acc, T, h => by simp only [ct, Prod.mk.injEq] at h; exact ⟨[], by simp [h.1]⟩
  | f + 1, c :: r, off, acc, T, h => by
    rw [ct_cons] at h
    by_cases q1 : c = 32 ∨ c = 9 ∨ c = 10 ∨ c = 13
    · rw [if_pos q1] at h; exact ct_front f _ _ _ _ h
    · rw [if_neg q1] at h
      by_cases q2 : c = 37
      · rw [if_pos q2] at h; exact ct_front f _ _ _ _ h
      · rw [if_neg q2] at h
        cases et : tok (c :: r) with
        | bad e o =>
          rw [et] at h
          simp only [Prod.mk.injEq] at h
          exact absurd h.2.1 ((tok_len c r).2 e o et)
        | ok k x n len =>
          rw [et] at h
          obtain ⟨T', hT⟩ := ct_front f _ _ _ _ h
          exact ⟨_, by rw [hT, List.append_assoc]⟩
/-- Whether two spellings are read as their tokens. -/
theorem two_ways {p t : Tk} {sp st : ByteArray} (hp : spl p = some sp) (ht : spl t = some st) (op : okt p) (ot : okt t) :
    (∃ T e q, cutL (blK (sp ++ st)) (sp ++ st).size = (T, e, q) ∧ grw p t = true ∧ (¬ e = 0 ∨ (e = 0 ∧ ¬ T.length = 2))) ∨
    (∃ u v q, cutL (blK (sp ++ st)) (sp ++ st).size = ([u, v], 0, q) ∧ grw p t = true ∧ ¬ u.bar = p.bar) ∨
    ∃ u v q, cutL (blK (sp ++ st)) (sp ++ st).size = ([u, v], 0, q) ∧ grw p t = false ∧ u.bar = p.bar ∧ v.bar = t.bar := by
  have hb := bl_append sp st
  cases hg : grw p t with
  | false =>
    have hz : jz none [p, t] = some (blK sp ++ blK st) := by
      rw [jz_cons, hp, jz_cons, ht]
      have : gp (some p) t = [] := by show (if grw p t = true then [32] else []) = _; rw [if_neg (by rw [hg]; simp)]
      rw [this]
      simp [jz, gp]
    obtain ⟨T, hT, hm⟩ := ct_jz [p, t] none _ ((sp ++ st).size + 1) 0 [] hz (fun u hu => by simp at hu; rcases hu with rfl | rfl; exact op; exact ot) (by rw [← hb, bl_len]; omega)
    have hl : T.length = 2 := by have := congrArg List.length hm; simpa using this
    match T, hl with
    | [u, v], _ =>
      simp only [List.map_cons, List.map_nil, List.cons.injEq, and_true] at hm
      refine Or.inr (Or.inr ⟨u, v, 0, ?_, rfl, hm.1, hm.2⟩)
      rw [cutL_all, hb, hT, List.nil_append]
  | true =>
    obtain ⟨⟨T, e, q⟩, hR⟩ : ∃ R, cutL (blK (sp ++ st)) (sp ++ st).size = R := ⟨_, rfl⟩
    by_cases he : e = 0
    · by_cases hl : T.length = 2
      · match T, hl with
        | [u, v], _ =>
          subst he
          refine Or.inr (Or.inl ⟨u, v, q, hR, rfl, fun hu => ?_⟩)
          have hq : q = 0 := by
            rw [cutL_all] at hR
            rcases ct_ends ((sp ++ st).size + 1) (blK (sp ++ st)) 0 [] with ⟨e', p', h1, h2⟩ | ⟨T', h1⟩
            · rw [h1] at hR; simp only [Prod.mk.injEq] at hR; exact absurd hR.2.1 h2
            · rw [h1] at hR; simp only [Prod.mk.injEq] at hR; exact hR.2.2.symm
          subst hq
          rw [cutL_all, hb] at hR
          obtain ⟨c, y, ec, n1, n2, -, -⟩ := spl_head hp
          have hgt := fun (k : Int) (x : List Int) (n : Int) (len : Nat) (h : tok (blK sp ++ blK st) = .ok k x n len) => grown_tok hp ht hg h
          rw [ec, List.cons_append] at hR hgt
          rw [ct_cons, if_neg n1, if_neg n2] at hR
          cases et : tok (c :: (y ++ blK st)) with
          | bad e o =>
            rw [et] at hR
            simp only [Prod.mk.injEq] at hR
            exact (tok_len c _).2 e o et hR.2.1
          | ok k x n len =>
            rw [et] at hR
            obtain ⟨T', hT⟩ := ct_front _ _ _ _ _ hR
            simp only [List.nil_append, List.cons_append, List.cons.injEq] at hT
            have h1 := hT.1
            subst h1
            simp only [Tk.bar, Tk.mk.injEq, and_true] at hu
            exact hgt _ _ _ _ et ⟨hu.1, hu.2.1, hu.2.2⟩
      · exact Or.inl ⟨T, e, q, hR, rfl, Or.inr ⟨he, hl⟩⟩
    · exact Or.inl ⟨T, e, q, hR, rfl, Or.inl he⟩
end Go.Proofs.YtdfdnjkeiddfjaaDoor
