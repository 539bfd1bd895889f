/-
  ref's one.
-/
import Derived.Test.YtdfdnjkeiddfjabDoorKR3
import Derived.Test.YtdfdnjkeiddfjabDoorKR2
namespace Go.Proofs.YtdfdnjkeiddfjabDoor
open Go.RowKit

/-- ref's tables of signs and of their kinds. -/
def qsL : List ByteArray := [⟨#[58, 45]⟩, ⟨#[33, 61]⟩, ⟨#[60, 61]⟩, ⟨#[40]⟩, ⟨#[41]⟩, ⟨#[44]⟩, ⟨#[59]⟩, ⟨#[46]⟩, ⟨#[63]⟩, ⟨#[61]⟩, ⟨#[60]⟩]
def qkL : List Int := [11, 14, 16, 6, 7, 8, 9, 10, 12, 13, 15]
structure QOk (w : World) : Prop where
  s : ∀ (i : Nat) (t : ByteArray), qsL[i]? = some t → w.cell? ⟨1, i, none⟩ = some (.string t)
  k : ∀ (i : Nat) (k : Int), qkL[i]? = some k → w.cell? ⟨2, i, none⟩ = some (.int .i64 k)
theorem QOk.later {w w' : World} (h : QOk w) (hb : Below w.heap.size w w') : QOk w' := by
  have l0 := World.block_lt_of_cell? w _ (h.s 0 _ rfl)
  have l1 := World.block_lt_of_cell? w _ (h.k 0 _ rfl)
  exact ⟨fun i t ht => cell_stepK hb l0 (h.s i t ht), fun i k hk => cell_stepK hb l1 (h.k i k hk)⟩
theorem sk_one (a : Int) (ha : 0 ≤ a ∧ a ≤ 255) : sk (ofL [a]) = 0 ∨ a = 40 ∨ a = 41 ∨ a = 44 ∨ a = 59 ∨ a = 46 ∨ a = 63 ∨ a = 61 ∨ a = 60 := by
  by_cases h : ∀ t ∈ signL, ¬ t = ofL [a]
  · exact Or.inl (skG_none _ _ _ h)
  · right
    simp only [Classical.not_forall, Decidable.not_not] at h
    obtain ⟨t, ht, e⟩ := h
    have e2 : blK t = [a] := by rw [e, bl_ofL (by intro x hx; simp at hx; omega)]
    have hl : (blK t).length = 1 := by rw [e2]; rfl
    simp only [signL, List.mem_cons, List.not_mem_nil, or_false] at ht
    rcases ht with rfl | rfl | rfl | rfl | rfl | rfl | rfl | rfl | rfl | rfl | rfl | rfl | rfl | rfl | rfl | rfl | rfl
    all_goals first
      | (exact absurd hl (by decide))
      | (have e3 : ([40] : List Int) = [a] := e2; simp at e3; omega)
      | (have e3 : ([41] : List Int) = [a] := e2; simp at e3; omega)
      | (have e3 : ([44] : List Int) = [a] := e2; simp at e3; omega)
      | (have e3 : ([59] : List Int) = [a] := e2; simp at e3; omega)
      | (have e3 : ([46] : List Int) = [a] := e2; simp at e3; omega)
      | (have e3 : ([63] : List Int) = [a] := e2; simp at e3; omega)
      | (have e3 : ([61] : List Int) = [a] := e2; simp at e3; omega)
      | (have e3 : ([60] : List Int) = [a] := e2; simp at e3; omega)
theorem sgt_one {c : Int} {r : List Int} {k : Nat} (hk : sk (ofL [c]) = k) (hk0 : ¬ k = 0) (hb : byt (c :: r)) (hn : ∀ d r', r = d :: r' → ¬ ((c = 58 ∧ d = 45) ∨ (c = 33 ∧ d = 61) ∨ (c = 60 ∧ d = 61))) : sgt (c :: r) = .ok (k : Int) [] 0 1 := by
  unfold sgt
  have hone : sgF (c :: r) 1 = .ok (k : Int) [] 0 1 := by
    have e : ofL ((c :: r).take (0 + 1)) = ofL [c] := rfl
    rw [sgF_yes (m := 0) (by rw [e, hk]; exact hk0), e, hk]
  cases r with
  | nil => exact hone
  | cons d r =>
    have e : min 2 (c :: d :: r).length = 2 := by simp
    have hz : sk (ofL ((c :: d :: r).take (1 + 1))) = 0 := by
      rcases sk_two c d (hb c (by simp)) (hb d (by simp)) with h | h
      · exact h
      · exact absurd h (hn d r rfl)
    rw [e, sgF_no hz]; exact hone
theorem sgt_two {a b : Int} {y : List Int} {k : Nat} (hk : sk (ofL [a, b]) = k) (hk0 : ¬ k = 0) : sgt (a :: b :: y) = .ok (k : Int) [] 0 2 := by
  unfold sgt
  have e : min 2 (a :: b :: y).length = 2 := by simp
  have e2 : ofL ((a :: b :: y).take (1 + 1)) = ofL [a, b] := rfl
  rw [e, sgF_yes (m := 1) (by rw [e2, hk]; exact hk0), e2, hk]
theorem take_two {l : List Int} {a b : Int} (h : l.take 2 = [a, b]) : ∃ r, l = a :: b :: r := by
  match l, h with
  | [], h => simp at h
  | [x], h => simp at h
  | x :: y :: r, h => simp at h; exact ⟨r, by rw [h.1, h.2]⟩
theorem take_one {l : List Int} {a : Int} (h : l.take 1 = [a]) : ∃ r, l = a :: r := by
  match l, h with
  | [], h => simp at h
  | x :: r, h => simp at h; exact ⟨r, by rw [h]⟩
theorem sgt_first {l : List Int} (hb : byt l) {m : Nat} {t : ByteArray} (ht : qsL[m]? = some t) (hm : l.take t.size = blK t) (hno : ∀ i u, i < m → qsL[i]? = some u → ¬ l.take u.size = blK u) : ∃ k, qkL[m]? = some k ∧ sgt l = .ok k [] 0 t.size := by
  have hlt : m < 11 := (List.getElem?_eq_some_iff.1 ht).1
  have hc : m = 0 ∨ m = 1 ∨ m = 2 ∨ m = 3 ∨ m = 4 ∨ m = 5 ∨ m = 6 ∨ m = 7 ∨ m = 8 ∨ m = 9 ∨ m = 10 := by omega
  rcases hc with rfl | rfl | rfl | rfl | rfl | rfl | rfl | rfl | rfl | rfl | rfl
  · obtain rfl : t = ⟨#[58, 45]⟩ := (Option.some.inj ht).symm
    obtain ⟨r, rfl⟩ := take_two (a := 58) (b := 45) hm
    exact ⟨11, rfl, sgt_two (k := 11) rfl (by decide)⟩
  · obtain rfl : t = ⟨#[33, 61]⟩ := (Option.some.inj ht).symm
    obtain ⟨r, rfl⟩ := take_two (a := 33) (b := 61) hm
    exact ⟨14, rfl, sgt_two (k := 14) rfl (by decide)⟩
  · obtain rfl : t = ⟨#[60, 61]⟩ := (Option.some.inj ht).symm
    obtain ⟨r, rfl⟩ := take_two (a := 60) (b := 61) hm
    exact ⟨16, rfl, sgt_two (k := 16) rfl (by decide)⟩
  · obtain rfl : t = ⟨#[40]⟩ := (Option.some.inj ht).symm
    obtain ⟨r, rfl⟩ := take_one (a := 40) hm
    exact ⟨6, rfl, sgt_one (k := 6) rfl (by decide) hb (fun d r' e h => by omega)⟩
  · obtain rfl : t = ⟨#[41]⟩ := (Option.some.inj ht).symm
    obtain ⟨r, rfl⟩ := take_one (a := 41) hm
    exact ⟨7, rfl, sgt_one (k := 7) rfl (by decide) hb (fun d r' e h => by omega)⟩
  · obtain rfl : t = ⟨#[44]⟩ := (Option.some.inj ht).symm
    obtain ⟨r, rfl⟩ := take_one (a := 44) hm
    exact ⟨8, rfl, sgt_one (k := 8) rfl (by decide) hb (fun d r' e h => by omega)⟩
  · obtain rfl : t = ⟨#[59]⟩ := (Option.some.inj ht).symm
    obtain ⟨r, rfl⟩ := take_one (a := 59) hm
    exact ⟨9, rfl, sgt_one (k := 9) rfl (by decide) hb (fun d r' e h => by omega)⟩
  · obtain rfl : t = ⟨#[46]⟩ := (Option.some.inj ht).symm
    obtain ⟨r, rfl⟩ := take_one (a := 46) hm
    exact ⟨10, rfl, sgt_one (k := 10) rfl (by decide) hb (fun d r' e h => by omega)⟩
  · obtain rfl : t = ⟨#[63]⟩ := (Option.some.inj ht).symm
    obtain ⟨r, rfl⟩ := take_one (a := 63) hm
    exact ⟨12, rfl, sgt_one (k := 12) rfl (by decide) hb (fun d r' e h => by omega)⟩
  · obtain rfl : t = ⟨#[61]⟩ := (Option.some.inj ht).symm
    obtain ⟨r, rfl⟩ := take_one (a := 61) hm
    exact ⟨13, rfl, sgt_one (k := 13) rfl (by decide) hb (fun d r' e h => by omega)⟩
  · obtain rfl : t = ⟨#[60]⟩ := (Option.some.inj ht).symm
    obtain ⟨r, rfl⟩ := take_one (a := 60) hm
    exact ⟨15, rfl, sgt_one (k := 15) rfl (by decide) hb (fun d r' e h => by rcases h with h | h | h; omega; omega; exact hno 2 _ (by omega) rfl (by rw [e, h.2]; rfl))⟩
theorem sgt_none {c : Int} {r : List Int} (hb : byt (c :: r)) (hno : ∀ i u, i < 11 → qsL[i]? = some u → ¬ (c :: r).take u.size = blK u) : sgt (c :: r) = .bad 42 0 := by
  have h1 : ¬ sk (ofL [c]) = 0 → False := fun h => by
    rcases sk_one c (hb c (by simp)) with q | q | q | q | q | q | q | q | q
    · exact h q
    · exact hno 3 _ (by omega) rfl (by rw [q]; rfl)
    · exact hno 4 _ (by omega) rfl (by rw [q]; rfl)
    · exact hno 5 _ (by omega) rfl (by rw [q]; rfl)
    · exact hno 6 _ (by omega) rfl (by rw [q]; rfl)
    · exact hno 7 _ (by omega) rfl (by rw [q]; rfl)
    · exact hno 8 _ (by omega) rfl (by rw [q]; rfl)
    · exact hno 9 _ (by omega) rfl (by rw [q]; rfl)
    · exact hno 10 _ (by omega) rfl (by rw [q]; rfl)
  have hone : sgF (c :: r) 1 = .bad 42 0 := by
    have e : ofL ((c :: r).take (0 + 1)) = ofL [c] := rfl
    rw [sgF_no (m := 0) (by rw [e]; exact Decidable.byContradiction h1)]; rfl
  unfold sgt
  cases r with
  | nil => exact hone
  | cons d r =>
    have e : min 2 (c :: d :: r).length = 2 := by simp
    have hz : sk (ofL ((c :: d :: r).take (1 + 1))) = 0 := by
      rcases sk_two c d (hb c (by simp)) (hb d (by simp)) with h | ⟨h, h'⟩ | ⟨h, h'⟩ | ⟨h, h'⟩
      · exact h
      · exact absurd (by rw [h, h']; rfl) (hno 0 _ (by omega) rfl)
      · exact absurd (by rw [h, h']; rfl) (hno 1 _ (by omega) rfl)
      · exact absurd (by rw [h, h']; rfl) (hno 2 _ (by omega) rfl)
    rw [e, sgF_no hz]; exact hone
set_option maxRecDepth 20000 in
set_option maxHeartbeats 4000000 in
theorem qone_any (s : ByteArray) (j : Nat) (hj : j < s.size) (hs : s.size ≤ 9000000) (w : World) (hQ : QOk w) :
    Calls Tryd.prog 35 #[.string s, .int .i64 j] w fun e w' => e = .returned (TR.v j (tok ((blK s).drop j))) ∧ Below w.heap.size w w' := by
  have hidx := run_index_atK s j hj (j : Int) rfl
  have cq := fun X => qquoted_any s j hj hs X
  have cr := qrun_any s j (by omega) (by omega)
  have cr1 := qrun_any s (j + 1) (by omega) (by omega)
  rw [rne_eq s j (by omega)] at cr
  rw [rne_eq s (j + 1) (by omega)] at cr1
  have HL : Hid (((blK s).drop j).length = s.size - j) := by show _ = _; rw [List.length_drop, bl_len]
  have HX : Hid (∀ m, s.extract j (j + m) = ofL (((blK s).drop j).take m)) := fun m => by rw [extract_eq]; congr 2; omega
  have HBy : Hid (byt ((blK s).drop j)) := byt_drop (bl_byt s) j
  rw [bl_drop hj] at cr HL HX HBy ⊢
  obtain ⟨r, hr⟩ : ∃ r, (blK s).drop (j + 1) = r := ⟨_, rfl⟩
  rw [hr] at cr cr1 cq HL HX HBy ⊢
  have hc0 := at_range s j
  obtain ⟨c, hc⟩ : ∃ c, atK_ s j = c := ⟨_, rfl⟩
  rw [hc] at hidx cr HL HX HBy hc0 ⊢
  have h0 := hc0.1
  have h1 := hc0.2
  have HQ : Hid (QOk w) := hQ
  clear hr hc hc0 hQ
  have ca := qsmall_any c
  have cb := qgreat_any c
  have cd := qdigit_any c
  obtain ⟨R, hR⟩ : ∃ R, tok (c :: r) = R := ⟨_, rfl⟩
  have HR : Hid (tok (c :: r) = R) := hR
  rw [hR]
  clear hR
  have hn0 := rl_le (c :: r)
  have hll0 := HL.out
  have hE0 : ((j + rl (c :: r) : Nat) : Int) ≤ (s.size : Int) := by omega
  have hj0 : (j : Int) ≤ ((j + rl (c :: r) : Nat) : Int) := by omega
  have hx0 : s.extract j (((j + rl (c :: r) : Nat) : Int)).toNat = ofL ((c :: r).take (rl (c :: r))) := by rw [Int.toNat_natCast]; exact HX.out _
  obtain ⟨E, hEE⟩ : ∃ E : Int, ((j + rl (c :: r) : Nat) : Int) = E := ⟨_, rfl⟩
  have HEE : Hid (((j + rl (c :: r) : Nat) : Int) = E) := hEE
  rw [hEE] at hE0 hj0 hx0 cr
  obtain ⟨X, hXX⟩ : ∃ X, ofL ((c :: r).take (rl (c :: r))) = X := ⟨_, rfl⟩
  have HXX : Hid (ofL ((c :: r).take (rl (c :: r))) = X) := hXX
  rw [hXX] at hx0
  have esay := str_dec X saysB
  rw [show saysB.toList = [115, 97, 121, 115] from saysL] at esay
  clear hEE hXX hn0 hll0
  go_enter Tryd.func35, Tryd.ntmps35
  go_upto_region 1 with fail
  have bx := BxK.start w
  revert bx
  generalize (w.alloc (.cells #[.int .i64 0, .string ⟨#[]⟩, .int .i64 0, .int .i64 0, .int .i64 0] 60)).alloc (.cells #[.int .i64 0, .int .i64 0] 32) = W1
  intro bx
  have HBX : Hid (BxK w W1) := bx
  have HQ1 : Hid (QOk W1) := HQ.out.later bx.b
  obtain ⟨d0, d1, d2, d3, d4⟩ := fiveK bx.t
  obtain ⟨f0, f1, f2, f3, f4⟩ := fiveFK bx.t
  obtain ⟨b0, b1, b2, b3⟩ := two bx.f
  clear bx HQ
  cases a : sml c
  · cases b : grt c
    · by_cases m : c = 45
      · -- a minus sign
        rw [a] at ca
        rw [b] at cb
        have n1 : (c == 45) = true := by simp [m]
        have hd : dig c = false := by rw [m]; rfl
        rw [hd] at cd
        have hRR := HR.out
        rw [tok_minus a b m] at hRR
        have hn : 1 + rl r ≤ (c :: r).length := by have := rl_le r; simp; omega
        have hln := HL.out
        obtain ⟨n, hnn⟩ : ∃ n, 1 + rl r = n := ⟨_, rfl⟩
        rw [hnn] at hRR hn
        have hE1 : ((j + n : Nat) : Int) ≤ (s.size : Int) := by omega
        have hj1 : (j : Int) ≤ ((j + n : Nat) : Int) := by omega
        have hx : s.extract j (((j + n : Nat) : Int)).toNat = ofL ((c :: r).take n) := by rw [Int.toNat_natCast]; exact HX.out n
        rw [show j + 1 + rl r = j + n by omega, show ((j + 1 : Nat) : Int) = (j : Int) + 1 by omega] at cr1
        obtain ⟨F, hF⟩ : ∃ F : Int, ((j + n : Nat) : Int) = F := ⟨_, rfl⟩
        have HFF : Hid (((j + n : Nat) : Int) = F) := hF
        rw [hF] at hE1 hj1 hx cr1
        obtain ⟨Y, hY⟩ : ∃ Y, ofL ((c :: r).take n) = Y := ⟨_, rfl⟩
        have HY : Hid (ofL ((c :: r).take n) = Y) := hY
        rw [hY] at hx
        clear hF hY
        have cn : ∀ (W : World), Calls Tryd.prog 66 #[.string Y] W fun e w' => (∃ x, e = .returned (.tuple #[.int .i64 ((num ((c :: r).take n)).getD x), .bool (num ((c :: r).take n)).isSome])) ∧ w' = W := fun W => by
          have h1 := qNumber_any (ofL ((c :: r).take n)) (by rw [ofL_size, List.length_take]; omega) W
          rw [bl_ofL (byt_take HBy.out n), HY.out] at h1
          exact h1
        clear hln hn hnn cq HX HL HBy esay m
        cases o : num ((c :: r).take n) with
        | some v =>
          rw [numt_some o] at hRR
          have HRR : Hid (TR.ok 4 [] v n = R) := hRR
          have cn2 : ∀ (W : World), Calls Tryd.prog 66 #[.string Y] W fun e w' => e = .returned (.tuple #[.int .i64 v, .bool true]) ∧ w' = W := fun W => by have h1 := cn W; rw [o] at h1; exact h1.mono (fun e w' ⟨⟨x, h2⟩, h3⟩ => ⟨h2, h3⟩)
          clear hRR o cn HR HXX HY
          go_wp2_with (first | (go_at_call 63; refine (ca _).mono ?_; rintro e w1 ⟨rfl, hw1⟩; subst w1) | (go_at_call 64; refine (cb _).mono ?_; rintro e w1 ⟨rfl, hw1⟩; subst w1) | (go_at_call 65; refine (cd _).mono ?_; rintro e w1 ⟨rfl, hw1⟩; subst w1) | (go_at_call 62; with_reducible refine (cr _).mono ?_; rintro e w1 ⟨rfl, hw1⟩; subst w1) | (go_at_call 62; with_reducible refine (cr1 _).mono ?_; rintro e w1 ⟨rfl, hw1⟩; subst w1) | (go_at_call 66; refine (cn2 _).mono ?_; rintro e w2 ⟨rfl, rfl⟩))
          have e1 : R = TR.ok 4 [] v n := HRR.out.symm
          have hEE := HFF.out
          subst hEE
          refine bodyPost_ret (v := TR.v j R) ?_ rfl ⟨rfl, HBX.out.bel ⟨4, ⟨#[]⟩, v, j, _⟩ 0 0⟩
          rw [e1]
          exact HBX.out.res Tryd.results35 _ ⟨4, ⟨#[]⟩, v, j, _⟩ 0 0 rfl rfl
        | none =>
          rw [numt_none o] at hRR
          have HRR : Hid (TR.bad 45 0 = R) := hRR
          have cn2 : ∀ (W : World), Calls Tryd.prog 66 #[.string Y] W fun e w' => (∃ x, e = .returned (.tuple #[.int .i64 x, .bool false])) ∧ w' = W := fun W => by have h1 := cn W; rw [o] at h1; exact h1
          clear hRR o cn HR HXX HY
          go_wp2_with (first | (go_at_call 63; refine (ca _).mono ?_; rintro e w1 ⟨rfl, hw1⟩; subst w1) | (go_at_call 64; refine (cb _).mono ?_; rintro e w1 ⟨rfl, hw1⟩; subst w1) | (go_at_call 65; refine (cd _).mono ?_; rintro e w1 ⟨rfl, hw1⟩; subst w1) | (go_at_call 62; with_reducible refine (cr _).mono ?_; rintro e w1 ⟨rfl, hw1⟩; subst w1) | (go_at_call 62; with_reducible refine (cr1 _).mono ?_; rintro e w1 ⟨rfl, hw1⟩; subst w1) | (go_at_call 66; refine (cn2 _).mono ?_; rintro e w2 ⟨⟨x, rfl⟩, rfl⟩))
          have e1 : R = TR.bad 45 0 := HRR.out.symm
          refine bodyPost_ret (v := TR.v j R) ?_ rfl ⟨rfl, HBX.out.bel ⟨0, ⟨#[]⟩, 0, 0, 0⟩ 45 j⟩
          rw [e1]
          exact HBX.out.res Tryd.results35 _ ⟨0, ⟨#[]⟩, 0, 0, 0⟩ 45 j rfl rfl
      · have n1 : (c == 45) = false := beq_eq_false_iff_ne.2 m
        cases d : dig c
        · by_cases q : c = 34
          · -- a quoted text
            rw [a] at ca
            rw [b] at cb
            rw [d] at cd
            have hRR := HR.out
            rw [tok_quote a b m d q] at hRR
            have n2 : (c == 34) = true := by simp [q]
            obtain ⟨t, e, p, he⟩ : ∃ (t : Tk) (e p : Int), TR.v j R = .tuple #[t.v, .agg #[.int .i64 e, .int .i64 p]] := ⟨R.tk j, R.err, R.pl j, rfl⟩
            rw [hRR] at cq
            simp only [he] at cq
            have HHe : Hid (TR.v j R = .tuple #[t.v, .agg #[.int .i64 e, .int .i64 p]]) := he
            obtain ⟨tk, tx, tn, ta, te⟩ := t
            clear hRR he HR HX HL HBy cr1 m q esay HXX HEE
            go_wp2_with (first | (go_at_call 63; refine (ca _).mono ?_; rintro e w1 ⟨rfl, hw1⟩; subst w1) | (go_at_call 64; refine (cb _).mono ?_; rintro e w1 ⟨rfl, hw1⟩; subst w1) | (go_at_call 65; refine (cd _).mono ?_; rintro e w1 ⟨rfl, hw1⟩; subst w1) | (go_at_call 62; with_reducible refine (cr _).mono ?_; rintro e w1 ⟨rfl, hw1⟩; subst w1) | (go_at_call 67; refine (cq _).mono ?_; rintro e w2 ⟨rfl, hb2⟩; have HB2 : Hid (Below _ _ _) := hb2; clear d0 d1 d2 d3 d4 f0 f1 f2 f3 f4 b0 b1 b2 b3; obtain ⟨d0, d1, d2, d3, d4⟩ := fiveK (HBX.out.later hb2).t; obtain ⟨f0, f1, f2, f3, f4⟩ := fiveFK (HBX.out.later hb2).t; obtain ⟨b0, b1, b2, b3⟩ := two (HBX.out.later hb2).f; clear hb2))
            have hbx := HBX.out.later HB2.out
            refine bodyPost_ret (v := TR.v j R) ?_ rfl ⟨rfl, hbx.bel ⟨tk, tx, tn, ta, te⟩ e p⟩
            rw [HHe.out]
            exact hbx.res Tryd.results35 _ ⟨tk, tx, tn, ta, te⟩ e p rfl rfl
          · -- a sign
            rw [a] at ca
            rw [b] at cb
            rw [d] at cd
            have hRR := HR.out
            rw [tok_sign a b m d q] at hRR
            have n2 : (c == 34) = false := beq_eq_false_iff_ne.2 q
            have HRR : Hid (sgt (c :: r) = R) := hRR
            clear hRR HR cr1 m q esay HXX HEE cq
            go_upto_region 19 with (first | (go_at_call 63; refine (ca _).mono ?_; rintro e w1 ⟨rfl, hw1⟩; subst w1) | (go_at_call 64; refine (cb _).mono ?_; rintro e w1 ⟨rfl, hw1⟩; subst w1) | (go_at_call 65; refine (cd _).mono ?_; rintro e w1 ⟨rfl, hw1⟩; subst w1) | (go_at_call 62; with_reducible refine (cr _).mono ?_; rintro e w1 ⟨rfl, hw1⟩; subst w1))
            clear d0 d1 d2 d3 d4 f0 f1 f2 f3 f4 b0 b1 b2 b3
            go_loopg [7, 10] 11 (fun g _ i wr => ∃ m : Nat, m + g = 11 ∧ i = .int .i64 (m : Int) ∧ (∀ i u, i < m → qsL[i]? = some u → ¬ (c :: r).take u.size = blK u) ∧ Below W1.heap.size W1 wr)
            case atStart => exact ⟨0, by omega, rfl, fun _ _ h => by omega, Below.refl _ _⟩
            case round =>
              obtain ⟨m, hmg, rfl, hno, hbr⟩ := hrel
              have HNO : Hid (∀ i u, i < m → qsL[i]? = some u → ¬ (c :: r).take u.size = blK u) := hno
              have HBr : Hid (Below W1.heap.size W1 wr) := hbr
              have hbx := HBX.out.later hbr
              have hqr := HQ1.out.later hbr
              obtain ⟨d0, d1, d2, d3, d4⟩ := fiveK hbx.t
              obtain ⟨f0, f1, f2, f3, f4⟩ := fiveFK hbx.t
              obtain ⟨b0, b1, b2, b3⟩ := two hbx.f
              have HBXr : Hid (BxK w wr) := hbx
              clear hno hbx hbr
              cases gk with
              | succ g =>
                have hm1 : (m : Int) < 11 := by omega
                have hm0 : (0 : Int) ≤ (m : Int) := by omega
                have hmlt : m < qsL.length := by show m < 11; omega
                obtain ⟨t, ht⟩ : ∃ t, qsL[m]? = some t := ⟨_, List.getElem?_eq_getElem hmlt⟩
                obtain ⟨k, hk⟩ : ∃ k, qkL[m]? = some k := ⟨_, List.getElem?_eq_getElem (show m < qkL.length from hmlt)⟩
                have cs := hqr.s m t ht
                have ck := hqr.k m k hk
                have HNX : Hid (¬ (c :: r).take t.size = blK t → ∀ i u, i < m + 1 → qsL[i]? = some u → ¬ (c :: r).take u.size = blK u) := fun h i u hi hu => by
                  rcases Nat.lt_or_ge i m with h2 | h2
                  · exact HNO.out i u h2 hu
                  · obtain rfl : i = m := by omega
                    rw [ht] at hu; cases hu; exact h
                have HYS : Hid ((c :: r).take t.size = blK t → R = .ok k [] 0 t.size) := fun h => by
                  obtain ⟨k2, hk2, h2⟩ := sgt_first HBy.out ht h HNO.out
                  rw [hk] at hk2; cases hk2
                  rw [← HRR.out]; exact h2
                have htz : t.size ≤ 2 := by
                  have : ∀ x ∈ qsL, x.size ≤ 2 := by decide
                  exact this t (List.mem_of_getElem? ht)
                have hlen := HL.out
                obtain ⟨E2, hE2⟩ : ∃ E : Int, (j : Int) + (t.size : Int) = E := ⟨_, rfl⟩
                have hw1 : IntKind.i64.wrap ((j : Int) + (t.size : Int)) = E2 := by rw [IntKind.wrap_i64]; omega
                have HE2 : Hid (((j + t.size : Nat) : Int) = E2) := by show _ = _; omega
                rcases Nat.lt_or_ge s.size (j + t.size) with h3 | h3
                · have hne : ¬ (c :: r).take t.size = blK t := fun h => by
                    have h4 := congrArg List.length h
                    rw [List.length_take, bl_len] at h4; omega
                  have HN2 : Hid _ := HNX.out hne
                  have i2 : ¬ E2 ≤ (s.size : Int) := by omega
                  have i2d : decide (E2 ≤ (s.size : Int)) = false := decide_eq_false i2
                  clear hne HNX HYS ht hk hlen hE2
                  go_upto_region 22 with fail
                  go_quiet (fail)
                  go_wp2
                  go_roundg g
                  case measure => omega
                  case rel => exact ⟨m + 1, by omega, by go_num, HN2.out, below_drewN HBr.out _⟩
                · have i2 : E2 ≤ (s.size : Int) := by omega
                  have i2d : decide (E2 ≤ (s.size : Int)) = true := decide_eq_true i2
                  have i3 : (j : Int) ≤ E2 := by omega
                  have hx : s.extract j E2.toNat = ofL ((c :: r).take t.size) := by rw [show E2.toNat = j + t.size by omega]; exact HX.out _
                  have hst := str_dec (ofL ((c :: r).take t.size)) t
                  by_cases hq : (c :: r).take t.size = blK t
                  · rw [hq, ofL_bl] at hst hx
                    rw [decide_eq_true rfl] at hst
                    have HY2 : Hid (R = .ok k [] 0 t.size) := HYS.out hq
                    clear HNX HYS ht hk hlen hE2 hq
                    go_upto_region 22 with fail
                    go_quiet (fail)
                    have HN3 : True := trivial
                    have hbx := below_drewN (Below.refl wr.heap.size wr) nq
                    have ck2 : (wr.drewN nq).cell? ⟨2, m, none⟩ = some (.int .i64 k) := cell_stepK hbx (World.block_lt_of_cell? wr _ ck) ck
                    clear d0 d1 d2 d3 d4 f0 f1 f2 f3 f4 b0 b1 b2 b3
                    obtain ⟨d0, d1, d2, d3, d4⟩ := fiveK (HBXr.out.later hbx).t
                    obtain ⟨f0, f1, f2, f3, f4⟩ := fiveFK (HBXr.out.later hbx).t
                    obtain ⟨b0, b1, b2, b3⟩ := two (HBXr.out.later hbx).f
                    go_wp2
                    refine bodyPost_ret (v := TR.v j R) ?_ rfl ⟨rfl, (HBXr.out.later hbx).bel ⟨k, ⟨#[]⟩, 0, j, E2⟩ 0 0⟩
                    rw [HY2.out]
                    have e1 : TR.v j (.ok k [] 0 t.size) = .tuple #[Tk.v ⟨k, ⟨#[]⟩, 0, j, E2⟩, .agg #[.int .i64 0, .int .i64 0]] := by
                      have := HE2.out; subst this; rfl
                    rw [e1]
                    exact (HBXr.out.later hbx).res Tryd.results35 _ ⟨k, ⟨#[]⟩, 0, j, E2⟩ 0 0 rfl rfl
                  · have hne : ¬ ofL ((c :: r).take t.size) = t := fun h => hq (by rw [← h, bl_ofL (byt_take HBy.out _), ofL_size, List.length_take]; congr 1; omega)
                    rw [decide_eq_false hne] at hst
                    have HN2 : Hid _ := HNX.out hq
                    generalize ofL ((c :: r).take t.size) = Y at hst hx
                    clear hne HNX HYS ht hk hlen hE2 hq
                    go_upto_region 22 with fail
                    go_quiet (fail)
                    go_wp2
                    go_roundg g
                    case measure => omega
                    case rel => exact ⟨m + 1, by omega, by go_num, HN2.out, below_drewN HBr.out _⟩
              | zero =>
                obtain rfl : m = 11 := by omega
                have hR2 : R = .bad 42 0 := by rw [← HRR.out]; exact sgt_none HBy.out HNO.out
                subst hR2
                clear hqr
                go_wp2
                refine bodyPost_ret (v := TR.v j (.bad 42 0)) ?_ rfl ⟨rfl, HBXr.out.bel ⟨0, ⟨#[]⟩, 0, 0, 0⟩ 42 j⟩
                exact HBXr.out.res Tryd.results35 _ ⟨0, ⟨#[]⟩, 0, 0, 0⟩ 42 j rfl rfl
        · -- a number
          rw [a] at ca
          rw [b] at cb
          rw [d] at cd
          have hRR := HR.out
          rw [tok_dig a b m d] at hRR
          have hn : rl (c :: r) ≤ (c :: r).length := rl_le _
          have hln := HL.out
          obtain ⟨n, hnn⟩ : ∃ n, rl (c :: r) = n := ⟨_, rfl⟩
          rw [hnn] at hRR hn HEE HXX
          have cn : ∀ (W : World), Calls Tryd.prog 66 #[.string X] W fun e w' => (∃ x, e = .returned (.tuple #[.int .i64 ((num ((c :: r).take n)).getD x), .bool (num ((c :: r).take n)).isSome])) ∧ w' = W := fun W => by
            have h1 := qNumber_any (ofL ((c :: r).take n)) (by rw [ofL_size, List.length_take]; omega) W
            rw [bl_ofL (byt_take HBy.out n), HXX.out] at h1
            exact h1
          clear hln hn hnn cq HX HL HBy esay m cr1
          cases o : num ((c :: r).take n) with
          | some v =>
            rw [numt_some o] at hRR
            have HRR : Hid (TR.ok 4 [] v n = R) := hRR
            have cn2 : ∀ (W : World), Calls Tryd.prog 66 #[.string X] W fun e w' => e = .returned (.tuple #[.int .i64 v, .bool true]) ∧ w' = W := fun W => by have h1 := cn W; rw [o] at h1; exact h1.mono (fun e w' ⟨⟨x, h2⟩, h3⟩ => ⟨h2, h3⟩)
            clear hRR o cn HR HXX
            go_wp2_with (first | (go_at_call 63; refine (ca _).mono ?_; rintro e w1 ⟨rfl, hw1⟩; subst w1) | (go_at_call 64; refine (cb _).mono ?_; rintro e w1 ⟨rfl, hw1⟩; subst w1) | (go_at_call 65; refine (cd _).mono ?_; rintro e w1 ⟨rfl, hw1⟩; subst w1) | (go_at_call 62; with_reducible refine (cr _).mono ?_; rintro e w1 ⟨rfl, hw1⟩; subst w1) | (go_at_call 66; refine (cn2 _).mono ?_; rintro e w2 ⟨rfl, rfl⟩))
            have e1 : R = TR.ok 4 [] v n := HRR.out.symm
            have hEE := HEE.out
            subst hEE
            refine bodyPost_ret (v := TR.v j R) ?_ rfl ⟨rfl, HBX.out.bel ⟨4, ⟨#[]⟩, v, j, _⟩ 0 0⟩
            rw [e1]
            exact HBX.out.res Tryd.results35 _ ⟨4, ⟨#[]⟩, v, j, _⟩ 0 0 rfl rfl
          | none =>
            rw [numt_none o] at hRR
            have HRR : Hid (TR.bad 45 0 = R) := hRR
            have cn2 : ∀ (W : World), Calls Tryd.prog 66 #[.string X] W fun e w' => (∃ x, e = .returned (.tuple #[.int .i64 x, .bool false])) ∧ w' = W := fun W => by have h1 := cn W; rw [o] at h1; exact h1
            clear hRR o cn HR HXX
            go_wp2_with (first | (go_at_call 63; refine (ca _).mono ?_; rintro e w1 ⟨rfl, hw1⟩; subst w1) | (go_at_call 64; refine (cb _).mono ?_; rintro e w1 ⟨rfl, hw1⟩; subst w1) | (go_at_call 65; refine (cd _).mono ?_; rintro e w1 ⟨rfl, hw1⟩; subst w1) | (go_at_call 62; with_reducible refine (cr _).mono ?_; rintro e w1 ⟨rfl, hw1⟩; subst w1) | (go_at_call 66; refine (cn2 _).mono ?_; rintro e w2 ⟨⟨x, rfl⟩, rfl⟩))
            have e1 : R = TR.bad 45 0 := HRR.out.symm
            refine bodyPost_ret (v := TR.v j R) ?_ rfl ⟨rfl, HBX.out.bel ⟨0, ⟨#[]⟩, 0, 0, 0⟩ 45 j⟩
            rw [e1]
            exact HBX.out.res Tryd.results35 _ ⟨0, ⟨#[]⟩, 0, 0, 0⟩ 45 j rfl rfl
    · -- a variable
      rw [a] at ca
      rw [b] at cb
      have hRR := HR.out
      rw [tok_great a b] at hRR
      obtain ⟨n, hnn⟩ : ∃ n, rl (c :: r) = n := ⟨_, rfl⟩
      rw [hnn] at hRR HEE HXX
      have HRR : Hid (TR.ok 2 ((c :: r).take n) 0 n = R) := hRR
      clear hRR hnn cq cr1 HX HL HBy HR cd esay
      go_wp2_with (first | (go_at_call 63; refine (ca _).mono ?_; rintro e w1 ⟨rfl, hw1⟩; subst w1) | (go_at_call 64; refine (cb _).mono ?_; rintro e w1 ⟨rfl, hw1⟩; subst w1) | (go_at_call 62; with_reducible refine (cr _).mono ?_; rintro e w1 ⟨rfl, hw1⟩; subst w1))
      refine bodyPost_ret (v := TR.v j R) ?_ rfl ⟨rfl, HBX.out.bel ⟨2, X, 0, j, E⟩ 0 0⟩
      rw [← HRR.out]
      have hv : TR.v j (.ok 2 ((c :: r).take n) 0 n) = .tuple #[Tk.v ⟨2, X, 0, j, E⟩, .agg #[.int .i64 0, .int .i64 0]] := by
        have h1 := HEE.out
        have h2 := HXX.out
        subst h1
        subst h2
        rfl
      rw [hv]
      exact HBX.out.res Tryd.results35 _ ⟨2, X, 0, j, E⟩ 0 0 rfl rfl
  · -- a word
    rw [a] at ca
    have hRR := HR.out
    rw [tok_small a] at hRR
    obtain ⟨n, hnn⟩ : ∃ n, rl (c :: r) = n := ⟨_, rfl⟩
    rw [hnn] at hRR HEE HXX
    rw [HXX.out] at hRR
    by_cases hy : X = saysB
    · rw [if_pos hy] at hRR
      rw [decide_eq_true hy] at esay
      have HRR : Hid (TR.ok 5 [] 0 n = R) := hRR
      clear hRR hnn cq cr1 HX HL HBy HR cd cb hy
      go_wp2_with (first | (go_at_call 63; refine (ca _).mono ?_; rintro e w1 ⟨rfl, hw1⟩; subst w1) | (go_at_call 62; with_reducible refine (cr _).mono ?_; rintro e w1 ⟨rfl, hw1⟩; subst w1))
      refine bodyPost_ret (v := TR.v j R) ?_ rfl ⟨rfl, HBX.out.bel ⟨5, ⟨#[]⟩, 0, j, E⟩ 0 0⟩
      rw [← HRR.out]
      have hv : TR.v j (.ok 5 [] 0 n) = .tuple #[Tk.v ⟨5, ⟨#[]⟩, 0, j, E⟩, .agg #[.int .i64 0, .int .i64 0]] := by
        have h1 := HEE.out
        subst h1
        rfl
      rw [hv]
      exact HBX.out.res Tryd.results35 _ ⟨5, ⟨#[]⟩, 0, j, E⟩ 0 0 rfl rfl
    · rw [if_neg hy] at hRR
      rw [decide_eq_false hy] at esay
      have HRR : Hid (TR.ok 1 ((c :: r).take n) 0 n = R) := hRR
      clear hRR hnn cq cr1 HX HL HBy HR cd cb hy
      go_wp2_with (first | (go_at_call 63; refine (ca _).mono ?_; rintro e w1 ⟨rfl, hw1⟩; subst w1) | (go_at_call 62; with_reducible refine (cr _).mono ?_; rintro e w1 ⟨rfl, hw1⟩; subst w1))
      refine bodyPost_ret (v := TR.v j R) ?_ rfl ⟨rfl, HBX.out.bel ⟨1, X, 0, j, E⟩ 0 0⟩
      rw [← HRR.out]
      have hv : TR.v j (.ok 1 ((c :: r).take n) 0 n) = .tuple #[Tk.v ⟨1, X, 0, j, E⟩, .agg #[.int .i64 0, .int .i64 0]] := by
        have h1 := HEE.out
        have h2 := HXX.out
        subst h1
        subst h2
        rfl
      rw [hv]
      exact HBX.out.res Tryd.results35 _ ⟨1, X, 0, j, E⟩ 0 0 rfl rfl
end Go.Proofs.YtdfdnjkeiddfjabDoor
