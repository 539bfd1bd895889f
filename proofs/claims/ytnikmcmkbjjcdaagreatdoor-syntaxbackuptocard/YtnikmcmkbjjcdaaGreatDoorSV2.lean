import Derived.Test.YtnikmcmkbjjcdaaGreatDoorK37
import Derived.Test.YtnikmcmkbjjcdaaGreatDoorSJ4
import Derived.Test.YtnikmcmkbjjcdaaGreatDoorPR4
/-
  PLAIN: what is printed is cut into its tokens.
-/
namespace Go.Proofs.YtnikmcmkbjjcdaaGreatDoor
open Go.RowKit

/-- What goes on with no run and with no sign. -/
def St5 (y : List Int) : Prop := rl y = 0 ∧ ∀ r, ¬ y = 61 :: r
/-- Bytes that are cut into these tokens but for their places, whatever stands behind them; b: if it doesn't go on with the last one. -/
def Cz5 (b : Bool) (z : List Int) (l : List Tk) : Prop :=
  byt z ∧ ∀ y, byt y → (b = true → St5 y) → ∀ (f off : Nat) (acc : List Tk), (z ++ y).length < f → ∃ (g : Nat) (T : List Tk), y.length < g ∧ ct f (z ++ y) off acc = ct g y (off + z.length) (acc ++ T) ∧ T.map Tk.bar = l
theorem Cz5.app {b c : Bool} {z y : List Int} {l m : List Tk} (h : Cz5 b z l) (k : Cz5 c y m) (hs : b = true → ∃ x r, y = x :: r ∧ rnb x = false ∧ x ≠ 61) : Cz5 c (z ++ y) (l ++ m) := by
  refine ⟨fun x hx => (List.mem_append.1 hx).elim (h.1 x) (k.1 x), fun u hu hc f off acc hf => ?_⟩
  rw [List.append_assoc] at hf ⊢
  have hyu : byt (y ++ u) := fun x hx => (List.mem_append.1 hx).elim (k.1 x) (hu x)
  obtain ⟨g, T, hg, e, hT⟩ := h.2 (y ++ u) hyu (fun hb => by
    obtain ⟨x, r, rfl, h1, h2⟩ := hs hb
    exact ⟨by show rl (x :: (r ++ u)) = 0; rw [rl_cons, if_neg (by rw [h1]; simp)], fun q e => by simp at e; exact h2 e.1⟩) f off acc hf
  obtain ⟨g', T', hg', e', hT'⟩ := k.2 u hu hc g (off + z.length) (acc ++ T) hg
  refine ⟨g', T ++ T', hg', ?_, by rw [List.map_append, hT, hT']⟩
  rw [e, e', List.length_append, List.append_assoc, Nat.add_assoc]
theorem Cz5.weak {b : Bool} {z : List Int} {l : List Tk} (h : Cz5 b z l) : Cz5 true z l := ⟨h.1, fun y hy hs => h.2 y hy fun _ => hs rfl⟩
theorem Cz5.tok {t : Tk} {s : ByteArray} (hs : spl t = some s) (ho : okt t) (hb : t = t.bar) : Cz5 (enr t.k || decide (t.k = 15)) (blK s) [t] := by
  refine ⟨bl_byt s, fun y hy hst f off acc hf => ?_⟩
  have hst2 : stp t y := ⟨fun he => (hst (by rw [he]; rfl)).1, fun hk => (hst (by simp [hk])).2⟩
  obtain ⟨c, r, ec, n1, n2, -, -⟩ := spl_head hs
  obtain ⟨ht, hx⟩ := tok_spl hs ho hst2 hy
  have hd : (blK s ++ y).drop s.size = y := by rw [← bl_len]; exact List.drop_left
  have hl : (blK s).length = s.size := bl_len s
  rw [List.length_append, hl] at hf
  have hsz : 0 < s.size := by rw [← bl_len, ec]; simp
  obtain ⟨f, rfl⟩ : ∃ g, f = g + 1 := ⟨f - 1, by omega⟩
  refine ⟨f, [⟨t.k, t.x, t.n, off, (off + s.size : Nat)⟩], by omega, ?_, ?_⟩
  · rw [hl]
    rw [ec, List.cons_append] at ht hd ⊢
    rw [ct_cons, if_neg n1, if_neg n2, ht]
    show ct f ((c :: (r ++ y)).drop s.size) (off + s.size) (acc ++ [⟨t.k, ofL (tbs t), t.n, off, (off + s.size : Nat)⟩]) = _
    rw [hd, ← hx]
  · show [t.bar] = [t]
    rw [← hb]
theorem Cz5.gap (c : Int) (h : c = 32 ∨ c = 10) : Cz5 false [c] [] := by
  refine ⟨by intro x hx; simp at hx; omega, fun y hy _ f off acc hf => ?_⟩
  simp only [List.singleton_append, List.length_cons] at hf
  obtain ⟨f, rfl⟩ : ∃ g, f = g + 1 := ⟨f - 1, by omega⟩
  refine ⟨f, [], by omega, ?_, rfl⟩
  show ct (f + 1) (c :: y) off acc = _
  rw [ct_cons, if_pos (by omega)]
  simp
/-- A sign's token. -/
def tS (k : Int) : Tk := ⟨k, ⟨#[]⟩, 0, 0, 0⟩
theorem Cz5.sgn {k : Int} {s : ByteArray} (h : spl (tS k) = some s) : Cz5 (enr k || decide (k = 15)) (blK s) [tS k] :=
  Cz5.tok h ⟨by show (0 : Nat) ≤ _; omega, by show -9223372036854775808 ≤ (0 : Int); decide, by show (0 : Int) ≤ _; decide⟩ rfl
theorem sgn_8 : Cz5 false [44] [tS 8] := Cz5.sgn (k := 8) (s := ⟨#[44]⟩) (by kernel_rfl)
theorem sgn_6 : Cz5 false [40] [tS 6] := Cz5.sgn (k := 6) (s := ⟨#[40]⟩) (by kernel_rfl)
theorem sgn_7 : Cz5 false [41] [tS 7] := Cz5.sgn (k := 7) (s := ⟨#[41]⟩) (by kernel_rfl)
theorem sgn_10 : Cz5 false [46] [tS 10] := Cz5.sgn (k := 10) (s := ⟨#[46]⟩) (by kernel_rfl)
theorem sgn_11 : Cz5 false [58, 45] [tS 11] := Cz5.sgn (k := 11) (s := ⟨#[58, 45]⟩) (by kernel_rfl)
theorem sgn_12 : Cz5 false [63] [tS 12] := Cz5.sgn (k := 12) (s := ⟨#[63]⟩) (by kernel_rfl)
theorem sgn_5 : Cz5 true [115, 97, 121, 115] [tS 5] := Cz5.sgn (k := 5) (s := ⟨#[115, 97, 121, 115]⟩) (by kernel_rfl)
theorem sgn_op {o : Int} (h : 1 ≤ o ∧ o ≤ 4) : Cz5 true (blK (sg5 o)) [tS (12 + o)] := by
  have : o = 1 ∨ o = 2 ∨ o = 3 ∨ o = 4 := by omega
  rcases this with rfl | rfl | rfl | rfl
  · exact (Cz5.sgn (k := 13) (s := ⟨#[61]⟩) (by kernel_rfl)).weak
  · exact (Cz5.sgn (k := 14) (s := ⟨#[33, 61]⟩) (by kernel_rfl)).weak
  · exact (Cz5.sgn (k := 15) (s := ⟨#[60]⟩) (by kernel_rfl)).weak
  · exact (Cz5.sgn (k := 16) (s := ⟨#[60, 61]⟩) (by kernel_rfl)).weak
/-- A variable's name, as it is printed. -/
def vn5 (n : Int) : ByteArray := (⟨#[86]⟩ : ByteArray) ++ ib5 n
theorem bl_vn5 (n : Int) : blK (vn5 n) = 86 :: blK (itB n) := by unfold vn5; rw [bl_appJ5]; rfl
theorem vn5_vrb {n : Int} (h : 0 ≤ n) : vrb (vn5 n) = true := by
  obtain ⟨u, rfl⟩ : ∃ u : Nat, n = u := ⟨n.toNat, by omega⟩
  have e := bl_vn5 (u : Int)
  have h1 := ofL_bl (vn5 (u : Int))
  rw [e] at h1
  rw [← h1]
  refine vrb_of ?_ (by decide) ?_
  · rw [← e]; exact bl_byt _
  · intro x hx
    rcases List.mem_cons.1 hx with rfl | hx
    · decide
    · rw [bl_itB_pos] at hx; exact (dec_rnb u x hx).1
theorem vn5_inj {n m : Int} (hn : N64 n) (hm : N64 m) (h : vn5 n = vn5 m) : n = m := by
  have h1 := congrArg blK h
  rw [bl_vn5, bl_vn5] at h1
  have h2 := num_itB n hn.1 hn.2
  rw [(List.cons.inj h1).2, num_itB m hm.1 hm.2] at h2
  exact (Option.some.inj h2).symm
theorem vn5_us (n : Int) : vn5 n ≠ us5 := fun h => by
  have h1 := congrArg blK h
  rw [bl_vn5] at h1
  have h2 : blK us5 = [95] := rfl
  rw [h2] at h1
  exact absurd (List.cons.inj h1).1 (by decide)
/-- A term's token. -/
def tT (t : Tm) : Tk := if t.var = true then ⟨2, vn5 t.n, 0, 0, 0⟩ else if t.k = 1 then ⟨4, ⟨#[]⟩, t.n, 0, 0⟩ else if wrd t.s = true then ⟨1, t.s, 0, 0, 0⟩ else ⟨3, t.s, 0, 0, 0⟩
theorem z64 : -9223372036854775808 ≤ (0 : Int) ∧ (0 : Int) ≤ 9223372036854775807 := by decide
theorem tT_spl {t : Tm} (hc : t.cov = true) (hn : N64 t.n) : spl (tT t) = some (pt5 t) ∧ okt (tT t) ∧ tT t = (tT t).bar := by
  unfold tT pt5
  by_cases hv : t.var = true
  · rw [if_pos hv, if_pos hv]
    have h0 : 0 ≤ t.n := by simp only [Tm.var, decide_eq_true_eq] at hv; exact hv.2.1
    refine ⟨?_, ⟨?_, z64.1, z64.2⟩, rfl⟩
    · unfold spl
      rw [if_neg (show ¬ (2 : Int) = 1 by decide), if_pos rfl, if_pos ⟨vn5_vrb h0, rfl⟩]
      rfl
    · have h1 : (vn5 t.n).size = (blK (itB t.n)).length + 1 := by rw [← bl_len, bl_vn5]; rfl
      have h2 : (blK (itB t.n)).length = (ib5 t.n).size := bl_len _
      have h3 := ib5_len t.n hn
      show (vn5 t.n).size ≤ _
      omega
  · rw [if_neg hv, if_neg hv]
    have hcon : t.con = true := by
      unfold Tm.cov at hc
      cases h : t.con
      · rw [h] at hc; exact absurd hc (by simpa using hv)
      · rfl
    have hcf : ¬ t.con = false := by rw [hcon]; simp
    rw [if_neg hcf]
    simp only [Tm.con, decide_eq_true_eq] at hcon
    by_cases hk : t.k = 1
    · rw [if_pos hk, if_pos hk]
      exact ⟨rfl, ⟨by show (0 : Nat) ≤ _; omega, hn.1, hn.2⟩, rfl⟩
    · rw [if_neg hk, if_neg hk]
      have h64 : t.s.size ≤ 64 := by rcases hcon with h | h; exact absurd h.1 hk; exact h.2.2
      by_cases hw : wrd t.s = true
      · rw [if_pos hw, if_pos hw]
        refine ⟨?_, ⟨by show t.s.size ≤ _; omega, z64.1, z64.2⟩, rfl⟩
        unfold spl
        rw [if_pos rfl, if_pos ⟨hw, rfl⟩]
      · rw [if_neg hw, if_neg hw]
        exact ⟨rfl, ⟨by show t.s.size ≤ _; omega, z64.1, z64.2⟩, rfl⟩
theorem cz_term {t : Tm} (hc : t.cov = true) (hn : N64 t.n) : Cz5 true (blK (pt5 t)) [tT t] :=
  (Cz5.tok (tT_spl hc hn).1 (tT_spl hc hn).2.1 (tT_spl hc hn).2.2).weak
/-- A name is a word. -/
theorem name_wrd {s : ByteArray} (h : nameOk s = true) : wrd s = true ∧ s.size ≤ 64 := by
  unfold nameOk nameHead at h
  simp only [Bool.and_eq_true, decide_eq_true_eq] at h
  obtain ⟨⟨⟨h1, h2, h3⟩, h4⟩, h5⟩ := h
  have hp : 0 < s.size := size_posK h1
  have hch : ∀ i, i < s.size → ch s i = atK_ s i := fun i hi => by rw [ch_lt s i hi, atK_lt s i hi]
  have h6 : sml (atK_ s 0) = true := by
    rw [hch 0 hp] at h4
    simp only [small, decide_eq_true_eq] at h4
    simp only [sml, Bool.and_eq_true, decide_eq_true_eq]
    exact h4
  have h7 : ∀ d j, s.size - j = d → j ≤ s.size → rne s j = s.size := by
    intro d
    induction d with
    | zero => intro j hd hj; obtain rfl : j = s.size := by omega
              exact rne_end
    | succ d ih =>
      intro j hd hj
      have hlt : j < s.size := by omega
      have h8 := h5 j hlt
      rw [hch j hlt] at h8
      have h9 : rnb (atK_ s j) = true := by
        simp only [nb, decide_eq_true_eq] at h8
        simp only [rnb, sml, grt, dig, Bool.or_eq_true, Bool.and_eq_true, decide_eq_true_eq]
        omega
      rw [← rne_yes hlt h9]
      exact ih (j + 1) (by omega) (by omega)
  have h10 : ¬ s = saysB := fun e => h3 e
  refine ⟨?_, by omega⟩
  unfold wrd
  rw [h6, h7 _ 0 rfl (Nat.zero_le _)]
  simp [h1, h10]
def tN (x : ByteArray) : Tk := ⟨1, x, 0, 0, 0⟩
theorem cz_name {x : ByteArray} (h : nameOk x = true) : Cz5 true (blK x) [tN x] := by
  obtain ⟨h1, h2⟩ := name_wrd h
  refine (Cz5.tok (t := tN x) ?_ ⟨by show x.size ≤ _; omega, z64.1, z64.2⟩ rfl).weak
  exact (if_pos rfl).trans (if_pos ⟨h1, rfl⟩)
/-- Lists of tokens with commas between. -/
def jt5 : List (List Tk) → List Tk
  | [] => []
  | x :: r => x ++ r.flatMap fun y => tS 8 :: y
def jb5 : List (List Int) → List Int
  | [] => []
  | x :: r => x ++ r.flatMap fun y => [44, 32] ++ y
theorem cz_tail : ∀ (ps : List (List Int × List Tk)), (∀ p ∈ ps, Cz5 true p.1 p.2) → Cz5 true ((ps.map Prod.fst).flatMap fun y => [44, 32] ++ y) ((ps.map Prod.snd).flatMap fun y => tS 8 :: y)
  | [], _ => ⟨fun x hx => by simp at hx, fun y _ _ f off acc hf => ⟨f, [], hf, by simp, rfl⟩⟩
  | p :: ps, h => by
    have ih := cz_tail ps fun q hq => h q (List.mem_cons_of_mem _ hq)
    have h1 : Cz5 true ([44, 32] ++ p.1) (tS 8 :: p.2) := ((sgn_8.app (Cz5.gap 32 (Or.inl rfl)) fun h => by cases h).app (h p (List.mem_cons_self ..)) fun h => by cases h)
    rw [List.map_cons, List.map_cons, List.flatMap_cons, List.flatMap_cons]
    cases ps with
    | nil => simpa using h1
    | cons q r => exact h1.app ih fun _ => ⟨44, _, rfl, by decide, by decide⟩
theorem cz_join : ∀ {ps : List (List Int × List Tk)}, (∀ p ∈ ps, Cz5 true p.1 p.2) → Cz5 true (jb5 (ps.map Prod.fst)) (jt5 (ps.map Prod.snd))
  | [], _ => ⟨fun x hx => by simp [jb5] at hx, fun y _ _ f off acc hf => ⟨f, [], hf, by simp [jb5], rfl⟩⟩
  | p :: ps, h => by
    have ih := cz_tail ps fun q hq => h q (List.mem_cons_of_mem _ hq)
    have h1 := h p (List.mem_cons_self ..)
    show Cz5 true (p.1 ++ _) (p.2 ++ _)
    cases ps with
    | nil => simpa using h1
    | cons q r => exact h1.app ih fun _ => ⟨44, _, rfl, by decide, by decide⟩
theorem bl_jn5 (xs : List ByteArray) : blK (jn5 xs ⟨#[44, 32]⟩) = jb5 (xs.map blK) := by
  unfold jn5 blK
  show ((Lib.join (xs.map (·.data.toList)) [44, 32]).map fun b => (b.toNat : Int)) = _
  cases xs with
  | nil => rfl
  | cons x r =>
    rw [List.map_cons, Lib.join_cons, List.map_append]
    show _ = (x.data.toList.map fun b => (b.toNat : Int)) ++ _
    congr 1
    induction r with
    | nil => rfl
    | cons y r ih =>
      rw [List.map_cons, List.map_cons, List.flatMap_cons, ← ih]
      unfold Lib.joinTail
      rw [List.map_cons, List.flatten_cons, List.map_append, List.map_append]
      rfl
end Go.Proofs.YtnikmcmkbjjcdaaGreatDoor
/-
  PLAIN: the tokens of an atom, a test, a clause; how long their texts are.
-/
namespace Go.Proofs.YtnikmcmkbjjcdaaGreatDoor
open Go.RowKit

theorem chkL5_none : ∀ (l : List (Bool × Int)), (∀ x ∈ l, x.2 ≠ 0) → chkL l = 0 → ∀ x ∈ l, x.1 = false
  | [], _, _, x, hx => by cases hx
  | y :: l, h, e, x, hx => by
    unfold chkL at e
    split at e
    · exact absurd e (h y (List.mem_cons_self ..))
    · rename_i hy
      rcases List.mem_cons.1 hx with rfl | hx
      · simpa using hy
      · exact chkL5_none l (fun x hx => h x (List.mem_cons_of_mem _ hx)) e x hx
theorem err_val5 (a : At) : a.err = 0 ∨ a.err = 21 ∨ a.err = 22 ∨ a.err = 23 ∨ a.err = 24 := by
  unfold At.err; (repeat' split) <;> simp
theorem aErr5 : ∀ l : List (At × Value), (∀ x ∈ l, x.1.err = 0) ∨ aErr l = 21 ∨ aErr l = 22 ∨ aErr l = 23 ∨ aErr l = 24
  | [] => Or.inl fun x hx => by cases hx
  | x :: r => by
    unfold aErr
    split
    · rename_i e
      rcases aErr5 r with h | h
      · refine Or.inl fun y hy => ?_
        rcases List.mem_cons.1 hy with rfl | hy
        · exact e
        · exact h y hy
      · exact Or.inr h
    · rename_i e
      rcases err_val5 x.1 with h | h
      · exact absurd h e
      · exact Or.inr h
theorem var_same5 {s t : Tm} (hs : s.var = true) (ht : t.var = true) (h : s.n = t.n) : s = t := by
  simp only [Tm.var, decide_eq_true_eq] at hs ht
  obtain ⟨sk, sn, ss⟩ := s
  obtain ⟨tk, tn, ts⟩ := t
  simp only at hs ht h
  rw [h, hs.1, ht.1, hs.2.2, ht.2.2]
/-- What Check lets pass. -/
theorem chk_val5 {c : Cm} (h : c.chk = 0) : Val0 c.key ∧ mis 0 (vrs (Ck.terms c.key)) = false := by
  have key := chkL5_none c.rs (fun x hx => by
    simp only [Cm.rs, List.mem_cons, List.not_mem_nil, or_false] at hx
    rcases hx with rfl | rfl | rfl | rfl | rfl | rfl | rfl | rfl | rfl <;> simp) h
  have a21 := key (decide (aErr c.atoms = 21), 21) (by simp [Cm.rs])
  have a22 := key (decide (aErr c.atoms = 22), 22) (by simp [Cm.rs])
  have a23 := key (decide (aErr c.atoms = 23), 23) (by simp [Cm.rs])
  have a24 := key (decide (aErr c.atoms = 24), 24) (by simp [Cm.rs])
  have hb := key (badT c, 32) (by simp [Cm.rs])
  have hs := key (c.head.1.by_.var, 33) (by simp [Cm.rs])
  have hu := key (unb c, 34) (by simp [Cm.rs])
  have hm := key (mis 0 c.vars, 35) (by simp [Cm.rs])
  simp only [decide_eq_false_iff_not] at a21 a22 a23 a24 hb hs hu hm
  have he : ∀ x ∈ c.atoms, x.1.err = 0 := by
    rcases aErr5 c.atoms with h | h | h | h | h
    · exact h
    · exact absurd h a21
    · exact absurd h a22
    · exact absurd h a23
    · exact absurd h a24
  have hl := chk_long5 h
  refine ⟨⟨fun a ha => ?_, fun t ht => ?_, ?_, hl.2, hs, fun t ht hv => ?_⟩, ?_⟩
  · rcases List.mem_cons.1 ha with rfl | ha
    · exact he c.head (List.mem_cons_self ..)
    · obtain ⟨x, hx, rfl⟩ := List.mem_map.1 (show a ∈ c.body.map Prod.fst from ha)
      exact he x (List.mem_cons_of_mem _ hx)
  · have := List.any_eq_false.1 hb t ht
    simpa using this
  · simpa [Cm.key, fsts] using hl.1
  · rw [unb_key, List.any_eq_false] at hu
    have := hu t.n (List.mem_map.2 ⟨t, List.mem_filter.2 ⟨ht, hv⟩, rfl⟩)
    simp only [Bool.not_eq_true, Bool.not_eq_false', decide_eq_true_eq] at this
    obtain ⟨u, hu1, e⟩ := List.mem_map.1 this
    obtain ⟨hu1, hu2⟩ := List.mem_filter.1 hu1
    rw [← var_same5 hu2 hv e]
    exact hu1
  · rw [← mis_key]; exact hm
theorem ch_val5 {x : Ck} (h : ch5 x = 0) : Val0 x ∧ mis 0 (vrs (Ck.terms x)) = false := by
  have := chk_val5 (c := ⟨(x.1, .slice none 0 0), x.2.1.map fun a => (a, .slice none 0 0), .slice none 0 0, x.2.2, .slice none 0 0⟩) h
  have e : Cm.key ⟨(x.1, .slice none 0 0), x.2.1.map fun a => (a, .slice none 0 0), .slice none 0 0, x.2.2, .slice none 0 0⟩ = x := by simp [Cm.key, fsts, Function.comp_def]
  rw [e] at this
  exact this
theorem Cz5.eq {b : Bool} {z z' : List Int} {l l' : List Tk} (h : Cz5 b z l) (hz : z' = z) (hl : l' = l) : Cz5 b z' l' := by rw [hz, hl]; exact h
/-- Tokens of a qualifier, of arguments, of an atom, of a test, of a clause. -/
def tQ (t : Tm) : List Tk := if t.k = 0 then [] else [tT t, tS 5]
def tG (l : List Tm) : List Tk := if l = [] then [] else tS 6 :: (jt5 (l.map fun t => [tT t]) ++ [tS 7])
def tA (a : At) : List Tk := tQ a.by_ ++ (tN a.name :: tG a.args)
def tE (t : Te) : List Tk := [tT t.l, tS (12 + t.op), tT t.r]
def tLs (x : Ck) : List (List Tk) := x.2.1.map tA ++ x.2.2.map tE
def tB (x : Ck) : List Tk := if tLs x = [] then [] else tS 11 :: jt5 (tLs x)
def tC (x : Ck) : List Tk := tA x.1 ++ (tB x ++ [tS 10])
theorem qual_cov {t : Tm} (h : qualOk t = true) (hk : t.k ≠ 0) : t.cov = true := by
  unfold qualOk at h
  simp only [Bool.or_eq_true, decide_eq_true_eq] at h
  unfold Tm.cov
  rcases h with h | h | h
  · rw [h] at hk; exact absurd rfl hk
  · simp only [Tm.prin, decide_eq_true_eq] at h
    have : t.con = true := by simp only [Tm.con, decide_eq_true_eq]; exact Or.inr ⟨h.1, h.2.1, h.2.2.1⟩
    rw [this]; rfl
  · rw [h]; simp
theorem qual_zt0 {t : Tm} (h : qualOk t = true) (hk : t.k = 0) : t = zt := by
  unfold qualOk at h
  simp only [Bool.or_eq_true, decide_eq_true_eq] at h
  rcases h with h | h | h
  · exact h
  · simp only [Tm.prin, decide_eq_true_eq] at h; omega
  · simp only [Tm.var, decide_eq_true_eq] at h; omega
theorem cz_po {a : At} (h : a.err = 0) (hn : ∀ t ∈ a.pl, N64 t.n) : Cz5 true (blK (po5 a)) (tQ a.by_ ++ [tN a.name]) := by
  obtain ⟨h1, -, h3, -⟩ := err_zero' h
  have hnm := cz_name h1
  unfold po5 tQ
  by_cases hk : a.by_.k = 0
  · rw [if_pos hk, if_pos hk]; exact hnm
  · rw [if_neg hk, if_neg hk]
    have ht := cz_term (qual_cov h3 hk) (hn a.by_ (List.mem_cons_self ..))
    refine (ht.app ((Cz5.gap 32 (Or.inl rfl)).app (sgn_5.app ((Cz5.gap 32 (Or.inl rfl)).app hnm fun h => by cases h) fun _ => ⟨32, _, rfl, by decide, by decide⟩) fun h => by cases h) fun _ => ⟨32, _, rfl, by decide, by decide⟩).eq ?_ rfl
    rw [bl_appJ5, bl_appJ5]
    have e : blK ⟨#[32, 115, 97, 121, 115, 32]⟩ = [32] ++ ([115, 97, 121, 115] ++ [32]) := rfl
    rw [e]
    simp only [List.append_assoc]
theorem cz_atom {a : At} (h : a.err = 0) (hn : ∀ t ∈ a.pl, N64 t.n) : Cz5 true (blK (pa5 a)) (tA a) := by
  obtain ⟨-, -, -, h4⟩ := err_zero' h
  have hpo := cz_po h hn
  unfold pa5 tA tG
  rw [if_pos h]
  by_cases ha : a.args = []
  · rw [if_pos ha, if_pos ha]; exact hpo
  · rw [if_neg ha, if_neg ha]
    have hj := cz_join (ps := a.args.map fun t => (blK (pt5 t), [tT t])) (fun p hp => by
      obtain ⟨t, ht, rfl⟩ := List.mem_map.1 hp
      exact cz_term (h4 t ht) (hn t (List.mem_cons_of_mem _ ht)))
    refine ((hpo.app (sgn_6.app (hj.app sgn_7 fun _ => ⟨41, _, rfl, by decide, by decide⟩) fun h => by cases h) fun _ => ⟨40, _, rfl, by decide, by decide⟩).eq ?_ ?_).weak
    · rw [bl_appJ5, bl_appJ5, bl_appJ5, bl_jn5]
      have e1 : blK ⟨#[40]⟩ = [40] := rfl
      have e2 : blK ⟨#[41]⟩ = [41] := rfl
      rw [e1, e2]
      simp only [List.append_assoc, List.map_map, Function.comp_def]
    · simp only [List.append_assoc, List.map_map, Function.comp_def, List.cons_append, List.nil_append]
theorem cz_test {t : Te} (h : t.ok = true) (hl : N64 t.l.n) (hr : N64 t.r.n) : Cz5 true (blK (pe5 t)) (tE t) := by
  unfold Te.ok at h
  simp only [Bool.and_eq_true, decide_eq_true_eq] at h
  obtain ⟨h1, h2, h3⟩ := h
  have g := Cz5.gap 32 (Or.inl rfl)
  refine ((cz_term h2 hl).app (g.app ((sgn_op h1).app (g.app (cz_term h3 hr) fun h => by cases h) fun _ => ⟨32, _, rfl, by decide, by decide⟩) fun h => by cases h) fun _ => ⟨32, _, rfl, by decide, by decide⟩).eq ?_ rfl
  unfold pe5
  rw [bl_appJ5, bl_appJ5, bl_appJ5, bl_appJ5]
  have e : blK ⟨#[32]⟩ = [32] := rfl
  rw [e]
  simp only [List.append_assoc]
theorem pbs_nil (x : Ck) : pbs5 x = [] ↔ tLs x = [] := by simp [pbs5, tLs]
theorem Val0.atom {x : Ck} (h : Val0 x) : x.1.err = 0 ∧ ∀ a ∈ x.2.1, a.err = 0 := ⟨h.e _ (List.mem_cons_self ..), fun a ha => h.e a (List.mem_cons_of_mem _ ha)⟩
theorem terms_mem {x : Ck} {P : Tm → Prop} (h : ∀ t ∈ Ck.terms x, P t) : (∀ t ∈ x.1.pl, P t) ∧ (∀ a ∈ x.2.1, ∀ t ∈ a.pl, P t) ∧ ∀ e ∈ x.2.2, P e.l ∧ P e.r := by
  unfold Ck.terms at h
  refine ⟨fun t ht => h t (List.mem_append_left _ ht), fun a ha t ht => h t (List.mem_append_right _ (List.mem_append_left _ (List.mem_flatMap.2 ⟨a, ha, ht⟩))), fun e he => ?_⟩
  have : ∀ u, u ∈ [e.l, e.r] → P u := fun u hu => h u (List.mem_append_right _ (List.mem_append_right _ (List.mem_flatMap.2 ⟨e, he, hu⟩)))
  exact ⟨this _ (by simp), this _ (by simp)⟩
theorem cz_clause {x : Ck} (h : ch5 x = 0) (hn : ∀ t ∈ Ck.terms x, N64 t.n) : Cz5 true (blK (pc5 x)) (tC x) := by
  obtain ⟨hv, -⟩ := ch_val5 h
  obtain ⟨n1, n2, n3⟩ := terms_mem hn
  have hh := cz_atom hv.atom.1 n1
  unfold pc5 tC tB
  rw [if_pos h, bl_appJ5]
  have e46 : blK ⟨#[46]⟩ = [46] := rfl
  rw [e46]
  by_cases hp : pbs5 x = []
  · rw [if_pos hp, if_pos ((pbs_nil x).1 hp)]
    exact (hh.app sgn_10 fun _ => ⟨46, _, rfl, by decide, by decide⟩).weak
  · rw [if_neg hp, if_neg (fun e => hp ((pbs_nil x).2 e))]
    have hj := cz_join (ps := (x.2.1.map fun a => (blK (pa5 a), tA a)) ++ x.2.2.map fun e => (blK (pe5 e), tE e)) (fun p hp => by
      rcases List.mem_append.1 hp with hp | hp
      · obtain ⟨a, ha, rfl⟩ := List.mem_map.1 hp
        exact cz_atom (hv.atom.2 a ha) (n2 a ha)
      · obtain ⟨e, he, rfl⟩ := List.mem_map.1 hp
        exact cz_test (hv.t e he) (n3 e he).1 (n3 e he).2)
    have g := Cz5.gap 32 (Or.inl rfl)
    refine ((hh.app (g.app (sgn_11.app (g.app (hj.app sgn_10 fun _ => ⟨46, _, rfl, by decide, by decide⟩) fun h => by cases h) fun h => by cases h) fun h => by cases h) fun _ => ⟨32, _, rfl, by decide, by decide⟩).eq ?_ ?_).weak
    · rw [bl_appJ5, bl_appJ5, bl_jn5]
      have e : blK ⟨#[32, 58, 45, 32]⟩ = [32] ++ ([58, 45] ++ [32]) := rfl
      rw [e]
      unfold pbs5
      simp only [List.append_assoc, List.map_append, List.map_map, Function.comp_def]
    · unfold tLs
      simp only [List.map_append, List.map_map, Function.comp_def, List.cons_append, List.nil_append]
/-- The whole text's tokens. -/
theorem cut_cz {s : ByteArray} {l : List Tk} {most : Int} (h : Cz5 true (blK s) l) (hm : (s.size : Int) ≤ most) : ∃ T, cutL (blK s) most = (T, 0, 0) ∧ T.map Tk.bar = l := by
  obtain ⟨g, T, hg, e, hT⟩ := h.2 [] (fun x hx => by cases hx) (fun _ => ⟨rfl, fun r hr => by cases hr⟩) ((blK s).length + 1) 0 [] (by simp)
  refine ⟨T, ?_, hT⟩
  unfold cutL
  rw [if_neg (by rw [bl_len]; omega)]
  rw [List.append_nil] at e
  obtain ⟨g, rfl⟩ : ∃ k, g = k + 1 := ⟨g - 1, by simp at hg; omega⟩
  rw [e, ct_end, List.nil_append]
theorem pt5_258 {t : Tm} (hc : t.cov = true) (hn : N64 t.n) : (pt5 t).size ≤ 258 := by
  unfold pt5
  by_cases hv : t.var = true
  · rw [if_pos hv, ByteArray.size_append]
    have := ib5_len t.n hn
    have e : (⟨#[86]⟩ : ByteArray).size = 1 := rfl
    omega
  · rw [if_neg hv]
    have hcon : t.con = true := by
      unfold Tm.cov at hc
      cases h : t.con
      · rw [h] at hc; exact absurd hc (by simpa using hv)
      · rfl
    have hcf : ¬ t.con = false := by rw [hcon]; simp
    rw [if_neg hcf]
    simp only [Tm.con, decide_eq_true_eq] at hcon
    by_cases hk : t.k = 1
    · rw [if_pos hk]; have := ib5_len t.n hn; omega
    · rw [if_neg hk]
      have h64 : t.s.size ≤ 64 := by rcases hcon with h | h; exact absurd h.1 hk; exact h.2.2
      by_cases hw : wrd t.s = true
      · rw [if_pos hw]; omega
      · rw [if_neg hw]; have := qtB_len t.s; omega
theorem flat_len {α : Type} (f : α → List Int) (M : Nat) : ∀ l : List α, (∀ a ∈ l, (f a).length ≤ M) → (l.flatMap f).length ≤ M * l.length
  | [], _ => Nat.zero_le _
  | a :: l, h => by
    rw [List.flatMap_cons, List.length_append, List.length_cons, Nat.mul_succ]
    have h1 := h a (List.mem_cons_self ..)
    have h2 := flat_len f M l fun b hb => h b (List.mem_cons_of_mem _ hb)
    omega
theorem jb5_len (xs : List (List Int)) : (jb5 xs).length ≤ (xs.flatMap fun y => [44, 32] ++ y).length := by
  cases xs with
  | nil => exact Nat.le_refl _
  | cons x r =>
    show (x ++ _).length ≤ _
    rw [List.flatMap_cons, List.length_append, List.length_append, List.length_append]
    simp only [List.length_cons, List.length_nil]
    omega
theorem pa5_2410 {a : At} (h : a.err = 0) (hn : ∀ t ∈ a.pl, N64 t.n) : (pa5 a).size ≤ 2410 := by
  obtain ⟨h1, h2, h3, h4⟩ := err_zero' h
  have hs := (name_wrd h1).2
  have hpo : (po5 a).size ≤ 328 := by
    unfold po5
    by_cases hk : a.by_.k = 0
    · rw [if_pos hk]; omega
    · rw [if_neg hk, ByteArray.size_append, ByteArray.size_append]
      have := pt5_258 (qual_cov h3 hk) (hn _ (List.mem_cons_self ..))
      have e : (⟨#[32, 115, 97, 121, 115, 32]⟩ : ByteArray).size = 6 := rfl
      omega
  unfold pa5
  rw [if_pos h]
  by_cases ha : a.args = []
  · rw [if_pos ha]; omega
  · rw [if_neg ha, ByteArray.size_append, ByteArray.size_append, ByteArray.size_append]
    have e1 : (⟨#[40]⟩ : ByteArray).size = 1 := rfl
    have e2 : (⟨#[41]⟩ : ByteArray).size = 1 := rfl
    have l1 : (jn5 (a.args.map pt5) ⟨#[44, 32]⟩).size = (jb5 ((a.args.map pt5).map blK)).length := by rw [← bl_len, bl_jn5]
    have l2 := jb5_len ((a.args.map pt5).map blK)
    have l3 := flat_len (fun y : List Int => [44, 32] ++ y) 260 ((a.args.map pt5).map blK) (fun y hy => by
      obtain ⟨s, hs, rfl⟩ := List.mem_map.1 hy
      obtain ⟨t, ht, rfl⟩ := List.mem_map.1 hs
      have := pt5_258 (h4 t ht) (hn t (List.mem_cons_of_mem _ ht))
      rw [List.length_append, bl_len]
      simp only [List.length_cons, List.length_nil]
      omega)
    rw [List.length_map, List.length_map] at l3
    have l4 : 260 * a.args.length ≤ 260 * 8 := Nat.mul_le_mul_left _ h2
    omega
theorem pe5_520 {t : Te} (h : t.ok = true) (hl : N64 t.l.n) (hr : N64 t.r.n) : (pe5 t).size ≤ 520 := by
  unfold Te.ok at h
  simp only [Bool.and_eq_true, decide_eq_true_eq] at h
  obtain ⟨h1, h2, h3⟩ := h
  have l1 := pt5_258 h2 hl
  have l2 := pt5_258 h3 hr
  have l3 := sg5_len t.op
  unfold pe5
  have e : (⟨#[32]⟩ : ByteArray).size = 1 := rfl
  rw [ByteArray.size_append, ByteArray.size_append, ByteArray.size_append, ByteArray.size_append]
  omega
/-- A clause's text is short. -/
theorem pc5_len {x : Ck} (h : ch5 x = 0) (hn : ∀ t ∈ Ck.terms x, N64 t.n) : (pc5 x).size < 27000 := by
  obtain ⟨hv, -⟩ := ch_val5 h
  obtain ⟨n1, n2, n3⟩ := terms_mem hn
  have l0 := pa5_2410 hv.atom.1 n1
  unfold pc5
  rw [if_pos h, ByteArray.size_append]
  have e46 : (⟨#[46]⟩ : ByteArray).size = 1 := rfl
  by_cases hp : pbs5 x = []
  · rw [if_pos hp]; omega
  · rw [if_neg hp, ByteArray.size_append, ByteArray.size_append]
    have e : (⟨#[32, 58, 45, 32]⟩ : ByteArray).size = 4 := rfl
    have l1 : (jn5 (pbs5 x) ⟨#[44, 32]⟩).size = (jb5 ((pbs5 x).map blK)).length := by rw [← bl_len, bl_jn5]
    have l2 := jb5_len ((pbs5 x).map blK)
    have l3 := flat_len (fun y : List Int => [44, 32] ++ y) 2412 ((x.2.1.map pa5).map blK) (fun y hy => by
      obtain ⟨s, hs, rfl⟩ := List.mem_map.1 hy
      obtain ⟨a, ha, rfl⟩ := List.mem_map.1 hs
      have := pa5_2410 (hv.atom.2 a ha) (n2 a ha)
      rw [List.length_append, bl_len]
      simp only [List.length_cons, List.length_nil]
      omega)
    have l4 := flat_len (fun y : List Int => [44, 32] ++ y) 522 ((x.2.2.map pe5).map blK) (fun y hy => by
      obtain ⟨s, hs, rfl⟩ := List.mem_map.1 hy
      obtain ⟨a, ha, rfl⟩ := List.mem_map.1 hs
      have := pe5_520 (hv.t a ha) (n3 a ha).1 (n3 a ha).2
      rw [List.length_append, bl_len]
      simp only [List.length_cons, List.length_nil]
      omega)
    rw [List.length_map, List.length_map] at l3 l4
    have l5 : 2412 * x.2.1.length ≤ 2412 * 8 := Nat.mul_le_mul_left _ hv.bl
    have l6 : 522 * x.2.2.length ≤ 522 * 8 := Nat.mul_le_mul_left _ hv.tl
    unfold pbs5 at l1 l2 ⊢
    rw [List.map_append, List.flatMap_append, List.length_append] at l2
    rw [List.map_append] at l1
    omega
end Go.Proofs.YtnikmcmkbjjcdaaGreatDoor
