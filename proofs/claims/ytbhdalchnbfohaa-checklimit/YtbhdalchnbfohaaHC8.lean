/-
  check.Check: whether each step's rule is one of the clauses; the whole.
-/
import Derived.Test.YtbhdalchnbfohaaHC7
namespace Go.Proofs.Ytbhdalchnbfohaa
open Go.RowKit
attribute [local go_sem ↓] Go.wp_at_zero Go.wp_at_succ

theorem Try.infoBoolH : (Try.prog.info? 4).map (fun i => (i.zero, i.size, i.bytes)) = some (some (.bool false), 1, 1) := by kernel_rfl
theorem mk_bools (n : Nat) (hn : n ≤ 1900000000000) (w : World) : (Instr.makeSlice 54 (.int .i64 (n : Int)) (.int .i64 (n : Int))).run Try.prog w = .ok (.slice (some ⟨w.heap.size, 0, none⟩) n n) (w.alloc (.cells (madeCells #[.bool false] (n * 1)) 4)) := by
  obtain ⟨i, hi, h0, h1, h2⟩ := info_parts Try.infoBoolH
  have h := run_make (P := Try.prog) w 54 4 i _ Try.underlying54 hi h0 .i64 .i64 n n (by omega) (Int.le_refl _) (by rw [h2]; omega) (by omega)
  rw [h1, Int.toNat_natCast] at h
  exact h
/-- A block of truth values. -/
def BBk (X : World) (G n : Nat) (fb : Nat → Bool) : Prop := ∃ C : Array Value, X.heap[G]? = some (.cells C 4 (0, 0)) ∧ C.size = n ∧ ∀ i, i < n → C[i]? = some (.bool (fb i))
theorem BBk.new (n : Nat) (w : World) : BBk (w.alloc (.cells (madeCells #[.bool false] (n * 1)) 4)) w.heap.size n (fun _ => false) := by
  refine ⟨_, heap_alloc_new _ _, by rw [size_madeCells]; omega, fun i hi => ?_⟩
  simp [madeCells, hi, Nat.mod_one]
theorem BBk.later {X X' : World} {G n : Nat} {fb : Nat → Bool} (h : BBk X G n fb) (hb : Below X.heap.size X X') : BBk X' G n fb := by
  obtain ⟨C, h1, h2⟩ := h
  exact ⟨C, (hb.block G (Array.getElem?_eq_some_iff.1 h1).1).trans h1, h2⟩
theorem BBk.cell {X : World} {G n i : Nat} {fb : Nat → Bool} (h : BBk X G n fb) (hi : i < n) : X.cell? ⟨G, i, none⟩ = some (.bool (fb i)) := by
  obtain ⟨C, h1, h2, h3⟩ := h
  rw [cell_of_row _ _ _ _ _ _ h1]
  exact h3 i hi
theorem BBk.froz {X : World} {G n i : Nat} {fb : Nat → Bool} (h : BBk X G n fb) : X.frozen? ⟨G, i, none⟩ = false := by
  obtain ⟨C, h1, h2⟩ := h
  exact frozen_of_row _ _ _ _ _ h1
theorem BBk.set {X : World} {G n i : Nat} {fb : Nat → Bool} (h : BBk X G n fb) (hi : i < n) : BBk (X.setCell ⟨G, i, none⟩ (.bool true)) G n (fun k => if k = i then true else fb k) := by
  obtain ⟨C, h1, h2, h3⟩ := h
  refine ⟨C.setIfInBounds i (.bool true), heap_setCell_same _ _ _ _ _ _ h1, by simp [h2], fun k hk => ?_⟩
  by_cases e : k = i
  · subst e; simp [h2, hk]
  · rw [Array.getElem?_setIfInBounds_ne (by omega)]; simp only [if_neg e]; exact h3 k hk
theorem BBk.lt {X : World} {G n : Nat} {fb : Nat → Bool} (h : BBk X G n fb) : G < X.heap.size := by obtain ⟨C, h1, -⟩ := h; exact (Array.getElem?_eq_some_iff.1 h1).1
/-- Each step's rule is one of the clauses. -/
def inH (CK RK : List Ck) (s : Sk) : Bool := match RK[s.1.toNat]? with
  | some c => decide (c ∈ CK)
  | none => false
def wiH (CK RK : List Ck) (S : List Sk) : Bool := S.all (inH CK RK)
set_option maxRecDepth 20000 in
set_option maxHeartbeats 1500000 in
theorem hwithin_any (l R : List Cm) (S : List St) (lv rv sv : Value) (w : World) (hl : CsP w lv l) (hR : CsP w rv R) (hS : SsP w sv S) (hp : ∀ s ∈ S, 0 ≤ s.rule ∧ s.rule < (R.length : Int)) (hn : l.length ≤ 1000000000000) (hn2 : R.length ≤ 1000000000000) (hn3 : S.length ≤ 1000000000000) :
    Calls Try.prog 10 #[lv, .agg #[rv, sv]] w fun e w' => e = .returned (.bool (wiH (l.map Cm.key) (R.map Cm.key) (S.map St.key))) ∧ Below w.heap.size w w' := by
  have HHC : Hid (∀ (X : World) (d : Cm), Below w.heap.size w X → d ∈ R → Calls Try.prog 16 #[lv, d.v] X fun e w' => e = .returned (.bool (decide (d.key ∈ l.map Cm.key))) ∧ Below X.heap.size X w') := fun X d hX hd => hasClause_any l lv d X (hl.later hX) ((hR.ok d hd).later hX) hn
  have HR : Hid (CsP w rv R) := hR
  have HS : Hid (SsP w sv S) := hS
  have HP : Hid (∀ s ∈ S, 0 ≤ s.rule ∧ s.rule < (R.length : Int)) := hp
  obtain ⟨la, lc, rfl⟩ := hl.form
  obtain ⟨ra, rc, rfl⟩ := hR.form
  obtain ⟨sa, sc, rfl⟩ := hS.form
  obtain ⟨r, hr⟩ : ∃ r, wiH (l.map Cm.key) (R.map Cm.key) (S.map St.key) = r := ⟨_, rfl⟩
  rw [hr]
  have HRR : Hid (wiH (l.map Cm.key) (R.map Cm.key) (S.map St.key) = r) := hr
  generalize l.map Cm.key = CK at HHC HRR
  generalize l.length = lln at HHC ⊢
  obtain ⟨rn, hrn⟩ : ∃ n, n = R.length := ⟨_, rfl⟩
  obtain ⟨sn, hsn⟩ : ∃ n, n = S.length := ⟨_, rfl⟩
  rw [← hrn] at HR HP hn2 ⊢
  rw [← hsn] at HS hn3 ⊢
  have HN : Hid (rn = R.length ∧ sn = S.length) := ⟨hrn, hsn⟩
  have hmk := mk_bools rn (by omega)
  have HP0 : Hid (CBlk (w.alloc (.cells #[.slice ra rn rc, .slice sa sn sc] 25)) w.heap.size #[.slice ra rn rc, .slice sa sn sc] 25) := CBlk.new _ _ _
  have HW0 : Hid (Below w.heap.size w (w.alloc (.cells #[.slice ra rn rc, .slice sa sn sc] 25))) := below1 _ _
  clear hl hR hS hp hr hrn hsn
  go_enter Try.func10, Try.ntmps10
  go_upto_region 1 with fail
  revert HP0 HW0
  generalize w.alloc (.cells #[.slice ra rn rc, .slice sa sn sc] 25) = W0
  intro HP0 HW0
  obtain ⟨p0, p1⟩ := ctwo HP0.out
  go_upto_region 2 with fail
  have HP1 : Hid (CBlk (W0.alloc (.cells (madeCells #[.bool false] (rn * 1)) 4)) w.heap.size #[.slice ra rn rc, .slice sa sn sc] 25) := HP0.out.later (below1 _ _)
  have HW1 : Hid (Below w.heap.size w (W0.alloc (.cells (madeCells #[.bool false] (rn * 1)) 4))) := below_step HW0.out (below1 _ _)
  have HB1 : Hid (BBk (W0.alloc (.cells (madeCells #[.bool false] (rn * 1)) 4)) W0.heap.size rn (fun _ => false)) := BBk.new _ _
  have hGW : w.heap.size < W0.heap.size := HP0.out.lt
  clear p0 p1 hmk HP0 HW0
  try rw [Nat.mul_one] at HP1 HW1 HB1
  revert HP1 HW1 HB1
  try rw [Nat.mul_one]
  generalize W0.alloc (.cells (madeCells #[.bool false] rn) 4) = W1
  generalize W0.heap.size = G at hGW ⊢
  intro HP1 HW1 HB1
  obtain ⟨p0, p1⟩ := ctwo HP1.out
  go_wp2_with fail
  clear p0 p1
  go_loopg [15] sn (fun g i wr => ∃ (j : Nat) (fb : Nat → Bool), j + g = sn ∧ i = .int .i64 (j : Int) ∧ (∀ k s, k < j → S[k]? = some s → inH CK (R.map Cm.key) s.key = true) ∧ (∀ (k : Nat) (c : Cm), R[k]? = some c → fb k = true → c.key ∈ CK) ∧ BBk wr G rn fb ∧ CBlk wr w.heap.size #[.slice ra rn rc, .slice sa sn sc] 25 ∧ Below w.heap.size w wr)
  case atStart => exact ⟨0, _, by omega, rfl, (fun k s hk => absurd hk (by omega)), (fun k c _ h => by cases h), HB1.out, HP1.out, HW1.out⟩
  case round =>
  obtain ⟨j, fb, hj, rfl, hco, hfb, hbb, hbp, hbw⟩ := hrel
  have HCO : Hid (∀ k s, k < j → S[k]? = some s → inH CK (R.map Cm.key) s.key = true) := hco
  have HFB : Hid (∀ (k : Nat) (c : Cm), R[k]? = some c → fb k = true → c.key ∈ CK) := hfb
  have HBB : Hid (BBk wr G rn fb) := hbb
  have HBP : Hid (CBlk wr w.heap.size #[.slice ra rn rc, .slice sa sn sc] 25) := hbp
  have HBW : Hid (Below w.heap.size w wr) := hbw
  clear hco hfb hbb hbp hbw HB1 HP1 HW1
  cases gk with
  | succ g =>
    have i1 : (j : Int) < (sn : Int) := by omega
    have i0 : (0 : Int) ≤ (j : Int) := by omega
    obtain ⟨t, ht⟩ : ∃ t, S[j]? = some t := ⟨_, List.getElem?_eq_getElem (by have := HN.out.2; omega)⟩
    obtain ⟨b, o, rfl, hbs, hrow, hok⟩ := (HS.out.later HBW.out).at_ ht
    obtain ⟨d0, d1, d2⟩ := hrow.three ht
    obtain ⟨ht0, ht1⟩ := HP.out t (List.mem_of_getElem? ht)
    obtain ⟨n, hn9⟩ := Int.eq_ofNat_of_zero_le ht0
    obtain ⟨c, hc⟩ : ∃ c, R[n]? = some c := ⟨_, List.getElem?_eq_getElem (by have := HN.out.1; omega)⟩
    have hcm := List.mem_of_getElem? hc
    obtain ⟨rb, ro, rfl, hrz, hrrow, hcok⟩ := HR.out.at_ hc
    have hsv := hrrow.seven hc
    have hcsh := hcok.shape
    have hin : inH CK (R.map Cm.key) t.key = decide (c.key ∈ CK) := by
      unfold inH
      rw [show (t.key).1.toNat = n by show t.rule.toNat = n; rw [hn9]; rfl, List.getElem?_map, hc]
      rfl
    have HNX : Hid (c.key ∈ CK → ∀ k s, k < j + 1 → S[k]? = some s → inH CK (R.map Cm.key) s.key = true) := fun h0 k s hk hs => by
      rcases Nat.lt_succ_iff_lt_or_eq.1 hk with hk | rfl
      · exact HCO.out k s hk hs
      · rw [ht] at hs; cases hs; rw [hin]; exact decide_eq_true h0
    have HNO : Hid (c.key ∉ CK → r = false) := fun h0 => by
      rw [← HRR.out]
      exact allF (j := j) (x := t.key) (by rw [List.getElem?_map, ht]; rfl) (by rw [hin]; exact decide_eq_false h0)
    have HYF : Hid (fb n = true → c.key ∈ CK) := HFB.out n c hc
    have HF2 : Hid (c.key ∈ CK → ∀ (k : Nat) (d : Cm), R[k]? = some d → (if k = n then true else fb k) = true → d.key ∈ CK) := fun h0 k d hd h1 => by
      by_cases e : k = n
      · subst e; rw [hc] at hd; cases hd; exact h0
      · rw [if_neg e] at h1; exact HFB.out k d hd h1
    have HC0 := fun (X : World) (hX : Below w.heap.size w X) => HHC.out X c hX hcm
    obtain ⟨q, hq⟩ : ∃ q, decide (c.key ∈ CK) = q := ⟨_, rfl⟩
    rw [hq] at HC0
    have HQ : Hid (decide (c.key ∈ CK) = q) := hq
    have n1 : (n : Int) < (rn : Int) := by omega
    have n0 : (0 : Int) ≤ (n : Int) := by omega
    have hnr : n < rn := by omega
    obtain ⟨⟨a1, cap1, x1⟩, ⟨a2, cap2, x2⟩, -, -⟩ := hok.shape
    clear ht hbs hrow hok hc hcm hrrow hcok hin hq ht0 ht1 HCO HFB
    obtain ⟨tr, tl, tv, tu, tw⟩ := t
    simp only at d0 d1 d2 x1 x2 hn9
    generalize tl.length = ln at x1
    generalize tu.length = lu at x2
    subst x1 x2 hn9
    obtain ⟨⟨⟨⟨zk, zm, zs⟩, zn, zl⟩, zx⟩, zb, zbv, zt, ztv⟩ := c
    simp only at hsv hcsh
    obtain ⟨⟨z1, z2, z3, e1⟩, ⟨z4, z6, e2⟩, ⟨z7, z9, e3⟩, -, -⟩ := hcsh
    generalize zb.length = z5 at e2
    generalize zt.length = z8 at e3
    subst e1 e2 e3
    have HC : Hid (∀ X : World, Below w.heap.size w X → Calls Try.prog 16 #[.slice la lln lc, .agg #[.int .i64 zk, .int .i64 zm, .string zs, .string zn, .slice z1 z2 z3, .slice z4 z5 z6, .slice z7 z8 z9]] X fun e w' => e = .returned (.bool q) ∧ Below X.heap.size X w') := HC0
    obtain ⟨h0, h1, h2, h3, h4, h5, h6⟩ := hsv
    have HRC := conj7 h0 h1 h2 h3 h4 h5 h6
    have HRZ : Hid (rb < w.heap.size) := hrz
    clear HC0 h0 h1 h2 h3 h4 h5 h6 hrz
    have HS2 : Hid (CBlk (wr.alloc (.cells #[.int .i64 (n : Int), .slice a1 ln cap1, .slice a2 lu cap2] 35)) wr.heap.size #[.int .i64 (n : Int), .slice a1 ln cap1, .slice a2 lu cap2] 35) := CBlk.new _ _ _
    have HB2 : Hid (BBk (wr.alloc (.cells #[.int .i64 (n : Int), .slice a1 ln cap1, .slice a2 lu cap2] 35)) G rn fb) := HBB.out.later (below1 _ _)
    have HP2 : Hid (CBlk (wr.alloc (.cells #[.int .i64 (n : Int), .slice a1 ln cap1, .slice a2 lu cap2] 35)) w.heap.size #[.slice (some ⟨rb, ro, none⟩) rn rc, .slice (some ⟨b, o, none⟩) sn sc] 25) := HBP.out.later (below1 _ _)
    have HW2 : Hid (Below w.heap.size w (wr.alloc (.cells #[.int .i64 (n : Int), .slice a1 ln cap1, .slice a2 lu cap2] 35))) := below_step HBW.out (below1 _ _)
    have hGX : G ≠ wr.heap.size := by have := HBB.out.lt; omega
    go_upto_region 5 with fail
    clear d0 d1 d2
    revert HS2 HB2 HP2 HW2
    generalize wr.alloc (.cells #[.int .i64 (n : Int), .slice a1 ln cap1, .slice a2 lu cap2] 35) = X2
    generalize wr.heap.size = GS at hGX ⊢
    intro HS2 HB2 HP2 HW2
    obtain ⟨s0, s1, s2⟩ := cthree HS2.out
    have f0 := HB2.out.cell hnr
    obtain ⟨p0, p1⟩ := ctwo HP2.out
    obtain ⟨z, g0, g1, g2, g3, g4, g5, g6⟩ : Below w.heap.size w X2 ∧ X2.cell? ⟨rb, ro + n * 7, none⟩ = some (.int .i64 zk) ∧ X2.cell? ⟨rb, ro + n * 7 + 1, none⟩ = some (.int .i64 zm) ∧ X2.cell? ⟨rb, ro + n * 7 + 2, none⟩ = some (.string zs) ∧ X2.cell? ⟨rb, ro + n * 7 + 3, none⟩ = some (.string zn) ∧ X2.cell? ⟨rb, ro + n * 7 + 4, none⟩ = some (.slice z1 z2 z3) ∧ X2.cell? ⟨rb, ro + n * 7 + 5, none⟩ = some (.slice z4 z5 z6) ∧ X2.cell? ⟨rb, ro + n * 7 + 6, none⟩ = some (.slice z7 z8 z9) := by
      obtain ⟨h0, h1, h2, h3, h4, h5, h6⟩ := Hid.out HRC
      have z := HRZ.out
      have hX := HW2.out
      exact ⟨hX, cell_step hX z h0, cell_step hX z h1, cell_step hX z h2, cell_step hX z h3, cell_step hX z h4, cell_step hX z h5, cell_step hX z h6⟩
    clear z
    obtain ⟨fv, hfv⟩ : ∃ v, fb n = v := ⟨_, rfl⟩
    rw [hfv] at f0
    have HFV : Hid (fb n = fv) := hfv
    clear hfv
    cases fv
    case true =>
      have hin := HYF.out HFV.out
      have HN2 : Hid (∀ k s, k < j + 1 → S[k]? = some s → inH CK (R.map Cm.key) s.key = true) := HNX.out hin
      have HF3 : Hid (∀ (k : Nat) (d : Cm), R[k]? = some d → (if k = n then true else fb k) = true → d.key ∈ CK) := HF2.out hin
      have fz : X2.frozen? ⟨G, n, none⟩ = false := HB2.out.froz
      clear hin
      go_wp2_with fail
      go_roundg g
      case measure => omega
      case rel => exact ⟨j + 1, _, by omega, by go_num, HN2.out, HF3.out, HB2.out.set hnr, blk_off HP2.out (by omega), HW2.out.setCell (show w.heap.size ≤ G by omega) _⟩
    case false =>
      cases q
      case false =>
        have HE : Hid (r = false) := HNO.out (of_decide_eq_false HQ.out)
        go_wp2_with (go_at_call 16; refine (HC.out _ HW2.out).mono ?_; rintro e w3 ⟨rfl, hb⟩; have HB3 : Hid (Below w.heap.size w w3) := below_step HW2.out hb; clear hb)
        go_ret
        exact ⟨ret_b HE.out.symm, HB3.out⟩
      case true =>
        have hin := of_decide_eq_true HQ.out
        have HN2 : Hid (∀ k s, k < j + 1 → S[k]? = some s → inH CK (R.map Cm.key) s.key = true) := HNX.out hin
        have HF3 : Hid (∀ (k : Nat) (d : Cm), R[k]? = some d → (if k = n then true else fb k) = true → d.key ∈ CK) := HF2.out hin
        clear hin
        go_wp2_with (go_at_call 16; refine (HC.out _ HW2.out).mono ?_; rintro e w3 ⟨rfl, hb⟩; have HB3 : Hid (BBk w3 G rn fb) := HB2.out.later hb; have HP3 : Hid (CBlk w3 w.heap.size #[.slice (some ⟨rb, ro, none⟩) rn rc, .slice (some ⟨b, o, none⟩) sn sc] 25) := HP2.out.later hb; have HW3 : Hid (Below w.heap.size w w3) := below_step HW2.out hb; have HS3 : Hid (CBlk w3 GS #[.int .i64 (n : Int), .slice a1 ln cap1, .slice a2 lu cap2] 35) := HS2.out.later hb; clear s0 s1 s2 f0 p0 p1 g0 g1 g2 g3 g4 g5 g6; obtain ⟨s0, s1, s2⟩ := cthree HS3.out; have f0 := HB3.out.cell hnr; have fz : w3.frozen? ⟨G, n, none⟩ = false := HB3.out.froz; clear hb)
        go_roundg g
        case measure => omega
        case rel => exact ⟨j + 1, _, by omega, by go_num, HN2.out, HF3.out, HB3.out.set hnr, blk_off HP3.out (by omega), HW3.out.setCell (show w.heap.size ≤ G by omega) _⟩
  | zero =>
    have k1 : ¬ ((j : Int) < (sn : Int)) := by omega
    have HE : Hid (r = true) := by
      show r = _
      rw [← HRR.out]
      exact allT fun k x hx => by
        rw [List.getElem?_map] at hx
        cases hs : S[k]? with
        | none => rw [hs] at hx; cases hx
        | some s =>
          rw [hs] at hx; cases hx
          exact HCO.out k s (by have := (List.getElem?_eq_some_iff.1 hs).1; have := HN.out.2; omega) hs
    go_wp2
    go_ret
    exact ⟨ret_b HE.out.symm, HBW.out⟩
theorem ruleH_neH {c : Ck} {V : List Tm} {U : List Int} {F : List At} {e : Int} (h : ruleH c V U F = .error e) : e ≠ 0 := by
  unfold ruleH at h
  repeat (split at h; (first | (cases h; decide) | skip))
  cases h
theorem stepH_neH {R : List Ck} {s : Sk} {F : List At} {e : Int} (h : stepH R s F = .error e) : e ≠ 0 := by
  unfold stepH at h
  split at h
  · split at h
    · cases h; decide
    · exact ruleH_neH h
  · cases h; decide
/-- Every step that follows names a rule that is there. -/
theorem stepH_place {R : List Ck} {s : Sk} {F : List At} {a : At} (h : stepH R s F = .ok a) : 0 ≤ s.1 ∧ s.1 < (R.length : Int) := by
  unfold stepH at h
  by_cases h0 : 0 ≤ s.1
  · rw [if_pos h0] at h
    cases hc : R[s.1.toNat]? with
    | none => rw [hc] at h; cases h
    | some c => have := (List.getElem?_eq_some_iff.1 hc).1; omega
  · rw [if_neg h0] at h; cases h
theorem allH_place {R : List Ck} : ∀ {S : List Sk} {F G : List At}, allH R S F = .ok G → (∀ s ∈ S, 0 ≤ s.1 ∧ s.1 < (R.length : Int)) ∧ G.length = F.length + S.length
  | [], F, G, h => by cases h; exact ⟨(fun s hs => by cases hs), by simp⟩
  | s :: S, F, G, h => by
    unfold allH at h
    cases hs : stepH R s F with
    | error c => rw [hs] at h; cases h
    | ok a =>
      rw [hs] at h
      obtain ⟨h1, h2⟩ := allH_place h
      refine ⟨fun t ht => ?_, by rw [h2]; simp; omega⟩
      rcases List.mem_cons.1 ht with rfl | ht
      · exact stepH_place hs
      · exact h1 t ht
theorem conH_place {R : List Ck} {S : List Sk} {G : List At} (h : conH R S = .ok G) : (∀ s ∈ S, 0 ≤ s.1 ∧ s.1 < (R.length : Int)) ∧ G.length = S.length ∧ 0 < S.length ∧ S.length ≤ 5000 := by
  unfold conH at h
  by_cases h0 : S.length = 0 ∨ 5000 < S.length
  · rw [if_pos h0] at h; cases h
  · rw [if_neg h0] at h
    obtain ⟨h1, h2⟩ := allH_place h
    exact ⟨h1, by simpa using h2, by omega, by omega⟩
/-- What Check answers. -/
def cheH (CK RK : List Ck) (S : List Sk) (f : At) : Int := match conH RK S with
  | .error c => c
  | .ok F => if wiH CK RK S = false then 127 else if F.getLast? = some f then 0 else 128
theorem allH_ne {R : List Ck} : ∀ {S : List Sk} {F : List At} {c : Int}, allH R S F = .error c → c ≠ 0
  | [], F, c, h => by cases h
  | s :: S, F, c, h => by
    unfold allH at h
    cases hs : stepH R s F with
    | error d => rw [hs] at h; cases h; exact stepH_neH hs
    | ok a => rw [hs] at h; exact allH_ne h
theorem conH_ne {R : List Ck} {S : List Sk} {c : Int} (h : conH R S = .error c) : c ≠ 0 := by
  unfold conH at h
  split at h
  · cases h; decide
  · exact allH_ne h
set_option maxRecDepth 20000 in
set_option maxHeartbeats 1500000 in
theorem check_whole (l R : List Cm) (S : List St) (f : At) (lv rv sv fv : Value) (w : World) (hl : CsP w lv l) (hR : CsP w rv R) (hS : SsP w sv S) (hf : Ts w fv f.args) (hwf : ∀ c ∈ R, c.wf) (hn : l.length ≤ 1000000000000) (hn2 : R.length ≤ 1000000000000) (hn3 : S.length ≤ 1000000000000) :
    Calls Try.prog 5 #[lv, .agg #[rv, sv], f.v fv] w fun e w' => e = .returned (.int .i64 (cheH (l.map Cm.key) (R.map Cm.key) (S.map St.key) f)) ∧ Below w.heap.size w w' := by
  have HC : Hid (∀ X : World, Below w.heap.size w X → Calls Try.prog 9 #[.agg #[rv, sv]] X (CPH X (conH (R.map Cm.key) (S.map St.key)))) := fun X hX => conclude_any R S rv sv X (hR.later hX) (hS.later hX) hwf
  have HWI : Hid ((∃ F, conH (R.map Cm.key) (S.map St.key) = .ok F) → ∀ X : World, Below w.heap.size w X → Calls Try.prog 10 #[lv, .agg #[rv, sv]] X fun e w' => e = .returned (.bool (wiH (l.map Cm.key) (R.map Cm.key) (S.map St.key))) ∧ Below X.heap.size X w') := fun ⟨F, h0⟩ X hX => hwithin_any l R S lv rv sv X (hl.later hX) (hR.later hX) (hS.later hX) (fun s hs => by
    have := (conH_place h0).1 s.key (List.mem_map.2 ⟨s, hs, rfl⟩)
    rw [List.length_map] at this
    exact this) hn hn2 hn3
  have HSA : Hid (∀ (X : World) (x : At × Value), Below w.heap.size w X → Ts X x.2 x.1.args → Calls Try.prog 11 #[x.1.v x.2, f.v fv] X fun e w' => e = .returned (.bool (decide (x.1 = f))) ∧ Below X.heap.size X w') := fun X x hX hx => hsame_any x.1 f x.2 fv X hx (hf.later hX)
  obtain ⟨r, hr⟩ : ∃ r, cheH (l.map Cm.key) (R.map Cm.key) (S.map St.key) f = r := ⟨_, rfl⟩
  rw [hr]
  have HR : Hid (cheH (l.map Cm.key) (R.map Cm.key) (S.map St.key) f = r) := hr
  obtain ⟨q, hq⟩ : ∃ q, conH (R.map Cm.key) (S.map St.key) = q := ⟨_, rfl⟩
  rw [hq] at HC HWI
  have HQ : Hid (conH (R.map Cm.key) (S.map St.key) = q) := hq
  obtain ⟨wi, hwi⟩ : ∃ b, wiH (l.map Cm.key) (R.map Cm.key) (S.map St.key) = b := ⟨_, rfl⟩
  rw [hwi] at HWI
  have HWW : Hid (wiH (l.map Cm.key) (R.map Cm.key) (S.map St.key) = wi) := hwi
  obtain ⟨la, lc, rfl⟩ := hl.form
  obtain ⟨ra, rc, rfl⟩ := hR.form
  obtain ⟨sa, sc, rfl⟩ := hS.form
  obtain ⟨f1, f3, rfl⟩ := hf.sl
  clear hl hR hS hf hwf hr hq hwi
  generalize l.length = lln at HWI ⊢
  generalize R.length = rn at HC HWI ⊢
  generalize S.length = sn at HC HWI ⊢
  obtain ⟨⟨fk, fm, fs⟩, fn, fl⟩ := f
  simp only at HSA ⊢
  generalize fl.length = f2 at HSA ⊢
  have HP0 : Hid (CBlk ((w.alloc (.cells #[.slice ra rn rc, .slice sa sn sc] 25)).alloc (.cells #[.int .i64 fk, .int .i64 fm, .string fs, .string fn, .slice f1 f2 f3] 30)) w.heap.size #[.slice ra rn rc, .slice sa sn sc] 25) := (CBlk.new _ _ _).later (below1 _ _)
  have HF0 : Hid (CBlk ((w.alloc (.cells #[.slice ra rn rc, .slice sa sn sc] 25)).alloc (.cells #[.int .i64 fk, .int .i64 fm, .string fs, .string fn, .slice f1 f2 f3] 30)) (w.heap.size + 1) #[.int .i64 fk, .int .i64 fm, .string fs, .string fn, .slice f1 f2 f3] 30) := by
    have := CBlk.new (w.alloc (.cells #[.slice ra rn rc, .slice sa sn sc] 25)) #[.int .i64 fk, .int .i64 fm, .string fs, .string fn, .slice f1 f2 f3] 30
    rwa [show (w.alloc (.cells #[.slice ra rn rc, .slice sa sn sc] 25)).heap.size = w.heap.size + 1 by simp] at this
  have HW0 : Hid (Below w.heap.size w ((w.alloc (.cells #[.slice ra rn rc, .slice sa sn sc] 25)).alloc (.cells #[.int .i64 fk, .int .i64 fm, .string fs, .string fn, .slice f1 f2 f3] 30))) := below2 _ _ _
  go_enter Try.func5, Try.ntmps5
  go_upto_region 1 with fail
  revert HP0 HF0 HW0
  generalize (w.alloc (.cells #[.slice ra rn rc, .slice sa sn sc] 25)).alloc (.cells #[.int .i64 fk, .int .i64 fm, .string fs, .string fn, .slice f1 f2 f3] 30) = W0
  intro HP0 HF0 HW0
  obtain ⟨p0, p1⟩ := ctwo HP0.out
  cases q with
  | error c =>
    have HE : Hid (r = c) := by show r = c; rw [← HR.out]; unfold cheH; rw [HQ.out]
    have hcz : c ≠ 0 := conH_ne HQ.out
    have hc1 : (c == 0) = false := by simpa using hcz
    have hc2 : (c != 0) = true := by simpa using hcz
    clear hcz HWI
    go_wp2_with (go_at_call 9; refine (HC.out _ HW0.out).mono ?_; rintro e w1 ⟨hb, he⟩; have he : e = .returned (.tuple #[.slice none 0 0, .int .i64 c]) := he; subst he; have HW1 : Hid (Below w.heap.size w w1) := below_step HW0.out hb; clear hb)
    go_ret
    exact ⟨ret_i HE.out.symm, HW1.out⟩
  | ok F =>
    have HWI2 : Hid (∀ X : World, Below w.heap.size w X → Calls Try.prog 10 #[.slice la lln lc, .agg #[.slice ra rn rc, .slice sa sn sc]] X fun e w' => e = .returned (.bool wi) ∧ Below X.heap.size X w') := HWI.out ⟨F, rfl⟩
    clear HWI
    go_upto_region 4 with (go_at_call 9; refine (HC.out _ HW0.out).mono ?_; rintro e w1 ⟨hb, v, FL, rfl, hFL, hFF⟩; obtain ⟨v1, v3, rfl⟩ := hFL.sl; obtain ⟨v2, hv2⟩ : ∃ k, k = FL.length := ⟨_, rfl⟩; rw [← hv2] at hFL ⊢; have HV2 : Hid (v2 = FL.length) := hv2; have HFL : Hid (As w1 (.slice v1 v2 v3) FL) := hFL; have HFF : Hid (fsts FL = F) := hFF; have HP1 : Hid (CBlk w1 w.heap.size #[.slice ra rn rc, .slice sa sn sc] 25) := HP0.out.later hb; have HF1 : Hid (CBlk w1 (w.heap.size + 1) #[.int .i64 fk, .int .i64 fm, .string fs, .string fn, .slice f1 f2 f3] 30) := HF0.out.later hb; have HW1 : Hid (Below w.heap.size w w1) := below_step HW0.out hb; clear hb hFL hFF hv2 p0 p1)
    clear HP0 HF0 HW0 HC
    obtain ⟨p0, p1⟩ := ctwo HP1.out
    cases wi
    case false =>
      have HE : Hid (r = 127) := by show r = _; rw [← HR.out]; unfold cheH; rw [HQ.out]; exact if_pos HWW.out
      go_wp2_with (go_at_call 10; refine (HWI2.out _ HW1.out).mono ?_; rintro e w2 ⟨rfl, hb⟩; have HW2 : Hid (Below w.heap.size w w2) := below_step HW1.out hb; clear hb)
      go_ret
      exact ⟨ret_i HE.out.symm, HW2.out⟩
    case true =>
      go_upto_region 6 with (go_at_call 10; refine (HWI2.out _ HW1.out).mono ?_; rintro e w2 ⟨rfl, hb⟩; have HFL2 : Hid (As w2 (.slice v1 v2 v3) FL) := HFL.out.later hb; have HF2 : Hid (CBlk w2 (w.heap.size + 1) #[.int .i64 fk, .int .i64 fm, .string fs, .string fn, .slice f1 f2 f3] 30) := HF1.out.later hb; have HW2 : Hid (Below w.heap.size w w2) := below_step HW1.out hb; clear hb p0 p1)
      clear HP1 HF1 HW1 HFL HWI2
      obtain ⟨h1, h2, h3, h4⟩ := conH_place HQ.out
      have hv0 : 0 < v2 ∧ v2 ≤ 5000 := by
        have := congrArg List.length HFF.out
        simp only [fsts, List.length_map] at this
        have := HV2.out
        omega
      obtain ⟨m, rfl⟩ : ∃ m, v2 = m + 1 := ⟨v2 - 1, by omega⟩
      have mbd : m ≤ 5000 := by omega
      have hw9 : wrap64 (((m + 1 : Nat) : Int) - 1) = (m : Int) := by rw [show ((m + 1 : Nat) : Int) - 1 = (m : Int) by omega]; unfold wrap64; omega
      have hw8 : wrap64 ((m : Int) + 1 - 1) = (m : Int) := by rw [show (m : Int) + 1 - 1 = (m : Int) by omega]; unfold wrap64; omega
      clear h1 h2 h3 h4 hv0
      obtain ⟨b1, o1, x, rfl, hx, hb1, ⟨e0, e1, e2, e3, e4⟩, hxt⟩ := HFL2.out.get_ (j := m) (by omega)
      have hlast : F.getLast? = some x.1 := by
        rw [← HFF.out, List.getLast?_eq_getElem?]
        simp only [fsts, List.length_map, List.getElem?_map]
        rw [← HV2.out, Nat.add_sub_cancel, hx]; rfl
      have HSA0 := fun (X : World) (hX : Below w2.heap.size w2 X) => HSA.out X x (below_step HW2.out hX) (hxt.later hX)
      obtain ⟨x1, x3, ex⟩ := hxt.sl
      obtain ⟨q, hq⟩ : ∃ q, decide (x.1 = (⟨⟨fk, fm, fs⟩, fn, fl⟩ : At)) = q := ⟨_, rfl⟩
      rw [hq] at HSA0
      have HE : Hid (r = if q = true then 0 else 128) := by
        show r = _
        rw [← HR.out]
        unfold cheH
        rw [HQ.out]
        simp only
        rw [if_neg (by rw [HWW.out]; simp), hlast, ← hq]
        by_cases e : x.1 = ⟨⟨fk, fm, fs⟩, fn, fl⟩
        · rw [if_pos (by rw [e]), if_pos (decide_eq_true e)]
        · rw [if_neg (fun h => e (Option.some.inj h)), if_neg (by simpa using e)]
      have hi2 : ((m + 1 : Nat) : Int) - 1 = (m : Int) := by omega
      have mb : (m : Int) < (m : Int) + 1 := by omega
      have m0 : (0 : Int) ≤ (m : Int) := by omega
      clear hx hxt hlast hq
      obtain ⟨⟨⟨xk, xm, xs⟩, xn, xl⟩, xv⟩ := x
      simp only at ex HSA0 e0 e1 e2 e3 e4
      generalize xl.length = x2 at ex
      subst ex
      have HSB : Hid (∀ X : World, Below w2.heap.size w2 X → Calls Try.prog 11 #[.agg #[.int .i64 xk, .int .i64 xm, .string xs, .string xn, .slice x1 x2 x3], .agg #[.int .i64 fk, .int .i64 fm, .string fs, .string fn, .slice f1 f2 f3]] X fun e w' => e = .returned (.bool q) ∧ Below X.heap.size X w') := HSA0
      have HF3 : Hid (CBlk (w2.alloc (.cells #[.int .i64 xk, .int .i64 xm, .string xs, .string xn, .slice x1 x2 x3] 30)) (w.heap.size + 1) #[.int .i64 fk, .int .i64 fm, .string fs, .string fn, .slice f1 f2 f3] 30) := HF2.out.later (below1 _ _)
      obtain ⟨c0, c1, c2, c3, c4⟩ := cfive HF3.out
      clear HSA0
      cases q
      · have HE2 : Hid (r = 128) := HE.out
        go_wp2_with (go_at_call 11; refine (HSB.out _ (below1 _ _)).mono ?_; rintro e w3 ⟨rfl, hb⟩; have HW3 : Hid (Below w.heap.size w w3) := below_step (below_step HW2.out (below1 _ _)) hb; clear hb)
        go_ret
        exact ⟨ret_i HE2.out.symm, HW3.out⟩
      · have HE2 : Hid (r = 0) := HE.out
        go_wp2_with (go_at_call 11; refine (HSB.out _ (below1 _ _)).mono ?_; rintro e w3 ⟨rfl, hb⟩; have HW3 : Hid (Below w.heap.size w w3) := below_step (below_step HW2.out (below1 _ _)) hb; clear hb)
        go_ret
        exact ⟨ret_i HE2.out.symm, HW3.out⟩
end Go.Proofs.Ytbhdalchnbfohaa
