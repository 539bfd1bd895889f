/-
  tokenAt.
-/
import Derived.Test.YtdfdnjkeiddfjaaDoorK6
namespace Go.Proofs.YtdfdnjkeiddfjaaDoor
open Go.RowKit

theorem ofL_size (l : List Int) : (ofL l).size = l.length := by simp [ofL, i2b, ByteArray.size]
theorem byt_take {l : List Int} (h : byt l) (n : Nat) : byt (l.take n) := fun x hx => h x (List.mem_of_mem_take hx)
theorem byt_drop {l : List Int} (h : byt l) (n : Nat) : byt (l.drop n) := fun x hx => h x (List.mem_of_mem_drop hx)
theorem tok_cons (c : Int) (r : List Int) : tok (c :: r) =
    if sml c = true then (if ofL ((c :: r).take (rl (c :: r))) = saysB then .ok 5 [] 0 (rl (c :: r)) else .ok 1 ((c :: r).take (rl (c :: r))) 0 (rl (c :: r)))
    else if grt c = true then .ok 2 ((c :: r).take (rl (c :: r))) 0 (rl (c :: r))
    else if c = 45 then numt (1 + rl r) (c :: r)
    else if dig c = true then numt (rl (c :: r)) (c :: r)
    else if c = 34 then qd (r.length + 1) r 1 []
    else sgt (c :: r) := rfl
theorem tok_small {c : Int} {r : List Int} (h : sml c = true) : tok (c :: r) = if ofL ((c :: r).take (rl (c :: r))) = saysB then .ok 5 [] 0 (rl (c :: r)) else .ok 1 ((c :: r).take (rl (c :: r))) 0 (rl (c :: r)) := by
  rw [tok_cons, if_pos h]
theorem tok_great {c : Int} {r : List Int} (h1 : sml c = false) (h : grt c = true) : tok (c :: r) = .ok 2 ((c :: r).take (rl (c :: r))) 0 (rl (c :: r)) := by
  rw [tok_cons, if_neg (by rw [h1]; simp), if_pos h]
theorem tok_minus {c : Int} {r : List Int} (h1 : sml c = false) (h2 : grt c = false) (h : c = 45) : tok (c :: r) = numt (1 + rl r) (c :: r) := by
  rw [tok_cons, if_neg (by rw [h1]; simp), if_neg (by rw [h2]; simp), if_pos h]
theorem tok_dig {c : Int} {r : List Int} (h1 : sml c = false) (h2 : grt c = false) (h3 : ¬ c = 45) (h : dig c = true) : tok (c :: r) = numt (rl (c :: r)) (c :: r) := by
  rw [tok_cons, if_neg (by rw [h1]; simp), if_neg (by rw [h2]; simp), if_neg h3, if_pos h]
theorem tok_quote {c : Int} {r : List Int} (h1 : sml c = false) (h2 : grt c = false) (h3 : ¬ c = 45) (h4 : dig c = false) (h : c = 34) : tok (c :: r) = qd (r.length + 1) r 1 [] := by
  rw [tok_cons, if_neg (by rw [h1]; simp), if_neg (by rw [h2]; simp), if_neg h3, if_neg (by rw [h4]; simp), if_pos h]
theorem tok_sign {c : Int} {r : List Int} (h1 : sml c = false) (h2 : grt c = false) (h3 : ¬ c = 45) (h4 : dig c = false) (h : ¬ c = 34) : tok (c :: r) = sgt (c :: r) := by
  rw [tok_cons, if_neg (by rw [h1]; simp), if_neg (by rw [h2]; simp), if_neg h3, if_neg (by rw [h4]; simp), if_neg h]
theorem wos_eq (l : List Int) (n j : Nat) (hn : n ≤ l.length) : wos (ofL (l.take n)) j = TR.tk j (if ofL (l.take n) = saysB then .ok 5 [] 0 n else .ok 1 (l.take n) 0 n) := by
  have e : (ofL (l.take n)).size = n := by rw [ofL_size, List.length_take]; omega
  unfold wos
  rw [e]
  by_cases h : ofL (l.take n) = saysB
  · rw [if_pos h, if_pos h]; rfl
  · rw [if_neg h, if_neg h]; rfl
/-- What number answers, as tokenAt takes it. -/
theorem numt_some {n : Nat} {l : List Int} {v : Int} (h : num (l.take n) = some v) : numt n l = .ok 4 [] v n := by unfold numt; rw [h]
theorem numt_none {n : Nat} {l : List Int} (h : num (l.take n) = none) : numt n l = .bad 45 0 := by unfold numt; rw [h]
set_option maxRecDepth 20000 in
set_option maxHeartbeats 2000000 in
theorem tokenAt_any (s : ByteArray) (j : Nat) (hj : j < s.size) (hs : s.size ≤ 9000000) (w : World) (hE : EnvOk w) :
    Calls Tryd.prog 28 #[.string s, .int .i64 j] w fun e w' => e = .returned (TR.v j (tok ((blK s).drop j))) ∧ Below w.heap.size w w' := by
  have hidx := run_index_atK s j hj (j : Int) rfl
  have cq := fun X => quotedAt_any s j hj hs X
  have cg := fun X h => signAt_any s j hj (by omega) X h
  have cr := runEnd_any s j (by omega) (by omega)
  have cr1 := runEnd_any s (j + 1) (by omega) (by omega)
  rw [rne_eq s j (by omega)] at cr
  rw [rne_eq s (j + 1) (by omega)] at cr1
  have HL : Hid (((blK s).drop j).length = s.size - j) := by show _ = _; rw [List.length_drop, bl_len]
  have HX : Hid (∀ m, s.extract j (j + m) = ofL (((blK s).drop j).take m)) := fun m => by rw [extract_eq]; congr 2; omega
  have HBy : Hid (byt ((blK s).drop j)) := byt_drop (bl_byt s) j
  rw [bl_drop hj] at cr cg HL HX HBy ⊢
  obtain ⟨r, hr⟩ : ∃ r, (blK s).drop (j + 1) = r := ⟨_, rfl⟩
  rw [hr] at cr cr1 cq cg HL HX HBy ⊢
  have hc0 := at_range s j
  obtain ⟨c, hc⟩ : ∃ c, atK_ s j = c := ⟨_, rfl⟩
  rw [hc] at hidx cr cg HL HX HBy hc0 ⊢
  have h0 := hc0.1
  have h1 := hc0.2
  have HE : Hid (EnvOk w) := hE
  clear hr hc hc0 hE
  have ca := small_anyK c
  have cb := great_any c
  have cd := digit_any c
  obtain ⟨R, hR⟩ : ∃ R, tok (c :: r) = R := ⟨_, rfl⟩
  have HR : Hid (tok (c :: r) = R) := hR
  rw [hR]
  clear hR
  go_enter Tryd.func28, Tryd.ntmps28
  go_upto_region 1 with fail
  have bx := BxK.start w
  revert bx
  generalize (w.alloc (.cells #[.int .i64 0, .string ⟨#[]⟩, .int .i64 0, .int .i64 0, .int .i64 0] 43)).alloc (.cells #[.int .i64 0, .int .i64 0] 27) = W1
  intro bx
  have HBX : Hid (BxK w W1) := bx
  have HE1 : Hid (EnvOk W1) := HE.out.later bx.b
  obtain ⟨d0, d1, d2, d3, d4⟩ := fiveK bx.t
  obtain ⟨f0, f1, f2, f3, f4⟩ := fiveFK bx.t
  obtain ⟨b0, b1, b2, b3⟩ := two bx.f
  clear bx HE
  cases a : sml c
  · cases b : grt c
    · by_cases m : c = 45
      · -- a minus sign
        rw [a] at ca
        rw [b] at cb
        have n1 : (c == 45) = true := by simp [m]
        have hn : 1 + rl r ≤ (c :: r).length := by have := rl_le r; simp; omega
        have hRR := HR.out
        rw [tok_minus a b m] at hRR
        obtain ⟨n, hnn⟩ : ∃ n, 1 + rl r = n := ⟨_, rfl⟩
        rw [hnn] at hRR hn
        have hln := HL.out
        have hE1 : ((j + n : Nat) : Int) ≤ (s.size : Int) := by omega
        have hx : s.extract j (((j + n : Nat) : Int)).toNat = ofL ((c :: r).take n) := by rw [Int.toNat_natCast]; exact HX.out n
        have cn := fun (W : World) (h : EnvOk W) => number_any (ofL ((c :: r).take n)) (by rw [ofL_size, List.length_take]; omega) W h
        have hbl : blK (ofL ((c :: r).take n)) = (c :: r).take n := bl_ofL (byt_take HBy.out n)
        simp only [hbl] at cn
        have hj1 : (j : Int) ≤ ((j + n : Nat) : Int) := by omega
        obtain ⟨E, hE⟩ : ∃ E : Int, ((j + n : Nat) : Int) = E := ⟨_, rfl⟩
        have HEE : Hid (((j + n : Nat) : Int) = E) := hE
        rw [show j + 1 + rl r = j + n by omega] at cr1
        rw [hE] at hE1 hx hj1 cr1
        rw [show ((j + 1 : Nat) : Int) = (j : Int) + 1 by omega] at cr1
        generalize ofL ((c :: r).take n) = X at *
        clear hln hn hE hnn hbl cq cg HX HL HBy m cr
        cases o : num ((c :: r).take n) with
        | some v =>
          rw [numt_some o] at hRR
          have HRR : Hid (TR.ok 4 [] v n = R) := hRR
          have cn2 : ∀ (W : World), EnvOk W → Calls Tryd.prog 40 #[.string X] W fun e w' => e = .returned (.tuple #[.int .i64 v, .bool true]) ∧ Below W.heap.size W w' := fun W h => by have := cn W h; rw [o] at this; exact this
          clear hRR o cn HR
          go_wp2_with (first | (go_at_call 35; refine (ca _).mono ?_; rintro e w1 ⟨rfl, rfl⟩) | (go_at_call 38; refine (cb _).mono ?_; rintro e w1 ⟨rfl, rfl⟩) | (go_at_call 36; refine (cr1 _).mono ?_; rintro e w1 ⟨rfl, rfl⟩) | (go_at_call 40; refine (cn2 _ HE1.out).mono ?_; rintro e w2 ⟨rfl, hb2⟩; have HB2 : Hid (Below _ _ _) := hb2; clear d0 d1 d2 d3 d4 f0 f1 f2 f3 f4 b0 b1 b2 b3; obtain ⟨d0, d1, d2, d3, d4⟩ := fiveK (HBX.out.later hb2).t; obtain ⟨f0, f1, f2, f3, f4⟩ := fiveFK (HBX.out.later hb2).t; obtain ⟨b0, b1, b2, b3⟩ := two (HBX.out.later hb2).f; clear hb2))
          have e1 : R = TR.ok 4 [] v n := HRR.out.symm
          have hbx := HBX.out.later HB2.out
          have hEE := HEE.out
          subst hEE
          refine bodyPost_ret (v := TR.v j R) ?_ rfl ⟨rfl, hbx.bel ⟨4, ⟨#[]⟩, v, j, _⟩ 0 0⟩
          rw [e1]
          exact hbx.res Tryd.results28 _ ⟨4, ⟨#[]⟩, v, j, _⟩ 0 0 rfl rfl
        | none =>
          rw [numt_none o] at hRR
          have HRR : Hid (TR.bad 45 0 = R) := hRR
          have cn2 : ∀ (W : World), EnvOk W → Calls Tryd.prog 40 #[.string X] W fun e w' => e = .returned (.tuple #[.int .i64 0, .bool false]) ∧ Below W.heap.size W w' := fun W h => by have := cn W h; rw [o] at this; exact this
          clear hRR o cn HR
          go_wp2_with (first | (go_at_call 35; refine (ca _).mono ?_; rintro e w1 ⟨rfl, rfl⟩) | (go_at_call 38; refine (cb _).mono ?_; rintro e w1 ⟨rfl, rfl⟩) | (go_at_call 36; refine (cr1 _).mono ?_; rintro e w1 ⟨rfl, rfl⟩) | (go_at_call 40; refine (cn2 _ HE1.out).mono ?_; rintro e w2 ⟨rfl, hb2⟩; have HB2 : Hid (Below _ _ _) := hb2; clear d0 d1 d2 d3 d4 f0 f1 f2 f3 f4 b0 b1 b2 b3; obtain ⟨d0, d1, d2, d3, d4⟩ := fiveK (HBX.out.later hb2).t; obtain ⟨f0, f1, f2, f3, f4⟩ := fiveFK (HBX.out.later hb2).t; obtain ⟨b0, b1, b2, b3⟩ := two (HBX.out.later hb2).f; clear hb2))
          have e1 : R = TR.bad 45 0 := HRR.out.symm
          have hbx := HBX.out.later HB2.out
          refine bodyPost_ret (v := TR.v j R) ?_ rfl ⟨rfl, hbx.bel ⟨0, ⟨#[]⟩, 0, 0, 0⟩ 45 j⟩
          rw [e1]
          exact hbx.res Tryd.results28 _ ⟨0, ⟨#[]⟩, 0, 0, 0⟩ 45 j rfl rfl
      · have n1 : (c == 45) = false := beq_eq_false_iff_ne.2 m
        cases d : dig c
        · by_cases q : c = 34
          · -- a quoted text
            rw [a] at ca
            rw [b] at cb
            rw [d] at cd
            have hRR := HR.out
            rw [tok_quote a b m d q] at hRR
            have n2 : (c == 34) = true := by simp [q]
            obtain ⟨t, e, p, he⟩ : ∃ (t : Tk) (e p : Int), TR.v j R = .tuple #[t.v, .agg #[.int .i64 e, .int .i64 p]] := ⟨R.tk j, R.err, R.pl j, rfl⟩
            rw [hRR] at cq
            simp only [he] at cq
            have HHe : Hid (TR.v j R = .tuple #[t.v, .agg #[.int .i64 e, .int .i64 p]]) := he
            obtain ⟨tk, tx, tn, ta, te⟩ := t
            clear hRR he HR HX HL HBy cr cr1 cg m q
            go_wp2_with (first | (go_at_call 35; refine (ca _).mono ?_; rintro e w1 ⟨rfl, rfl⟩) | (go_at_call 38; refine (cb _).mono ?_; rintro e w1 ⟨rfl, rfl⟩) | (go_at_call 39; refine (cd _).mono ?_; rintro e w1 ⟨rfl, rfl⟩) | (go_at_call 41; refine (cq _).mono ?_; rintro e w2 ⟨rfl, hb2⟩; have HB2 : Hid (Below _ _ _) := hb2; clear d0 d1 d2 d3 d4 f0 f1 f2 f3 f4 b0 b1 b2 b3; obtain ⟨d0, d1, d2, d3, d4⟩ := fiveK (HBX.out.later hb2).t; obtain ⟨f0, f1, f2, f3, f4⟩ := fiveFK (HBX.out.later hb2).t; obtain ⟨b0, b1, b2, b3⟩ := two (HBX.out.later hb2).f; clear hb2))
            have hbx := HBX.out.later HB2.out
            refine bodyPost_ret (v := TR.v j R) ?_ rfl ⟨rfl, hbx.bel ⟨tk, tx, tn, ta, te⟩ e p⟩
            rw [HHe.out]
            exact hbx.res Tryd.results28 _ ⟨tk, tx, tn, ta, te⟩ e p rfl rfl
          · -- a sign
            rw [a] at ca
            rw [b] at cb
            rw [d] at cd
            have hRR := HR.out
            rw [tok_sign a b m d q] at hRR
            have n2 : (c == 34) = false := beq_eq_false_iff_ne.2 q
            obtain ⟨t, e, p, he⟩ : ∃ (t : Tk) (e p : Int), TR.v j R = .tuple #[t.v, .agg #[.int .i64 e, .int .i64 p]] := ⟨R.tk j, R.err, R.pl j, rfl⟩
            rw [hRR] at cg
            simp only [he] at cg
            have HHe : Hid (TR.v j R = .tuple #[t.v, .agg #[.int .i64 e, .int .i64 p]]) := he
            obtain ⟨tk, tx, tn, ta, te⟩ := t
            clear hRR he HR HX HL HBy cr cr1 cq m q
            go_wp2_with (first | (go_at_call 35; refine (ca _).mono ?_; rintro e w1 ⟨rfl, rfl⟩) | (go_at_call 38; refine (cb _).mono ?_; rintro e w1 ⟨rfl, rfl⟩) | (go_at_call 39; refine (cd _).mono ?_; rintro e w1 ⟨rfl, rfl⟩) | (go_at_call 42; refine (cg _ HE1.out.signs).mono ?_; rintro e w2 ⟨rfl, hb2⟩; have HB2 : Hid (Below _ _ _) := hb2; clear d0 d1 d2 d3 d4 f0 f1 f2 f3 f4 b0 b1 b2 b3; obtain ⟨d0, d1, d2, d3, d4⟩ := fiveK (HBX.out.later hb2).t; obtain ⟨f0, f1, f2, f3, f4⟩ := fiveFK (HBX.out.later hb2).t; obtain ⟨b0, b1, b2, b3⟩ := two (HBX.out.later hb2).f; clear hb2))
            have hbx := HBX.out.later HB2.out
            refine bodyPost_ret (v := TR.v j R) ?_ rfl ⟨rfl, hbx.bel ⟨tk, tx, tn, ta, te⟩ e p⟩
            rw [HHe.out]
            exact hbx.res Tryd.results28 _ ⟨tk, tx, tn, ta, te⟩ e p rfl rfl
        · -- a number
          rw [a] at ca
          rw [b] at cb
          rw [d] at cd
          have hn : rl (c :: r) ≤ (c :: r).length := rl_le _
          have hRR := HR.out
          rw [tok_dig a b m d] at hRR
          obtain ⟨n, hnn⟩ : ∃ n, rl (c :: r) = n := ⟨_, rfl⟩
          rw [hnn] at hRR hn cr
          have hln := HL.out
          have hE1 : ((j + n : Nat) : Int) ≤ (s.size : Int) := by omega
          have hx : s.extract j (((j + n : Nat) : Int)).toNat = ofL ((c :: r).take n) := by rw [Int.toNat_natCast]; exact HX.out n
          have cn := fun (W : World) (h : EnvOk W) => number_any (ofL ((c :: r).take n)) (by rw [ofL_size, List.length_take]; omega) W h
          have hbl : blK (ofL ((c :: r).take n)) = (c :: r).take n := bl_ofL (byt_take HBy.out n)
          simp only [hbl] at cn
          have hj1 : (j : Int) ≤ ((j + n : Nat) : Int) := by omega
          obtain ⟨E, hE⟩ : ∃ E : Int, ((j + n : Nat) : Int) = E := ⟨_, rfl⟩
          have HEE : Hid (((j + n : Nat) : Int) = E) := hE
          rw [hE] at hE1 hx hj1 cr
          skip
          skip
          generalize ofL ((c :: r).take n) = X at *
          clear hln hn hE hnn hbl cq cg HX HL HBy m cr1
          cases o : num ((c :: r).take n) with
          | some v =>
            rw [numt_some o] at hRR
            have HRR : Hid (TR.ok 4 [] v n = R) := hRR
            have cn2 : ∀ (W : World), EnvOk W → Calls Tryd.prog 40 #[.string X] W fun e w' => e = .returned (.tuple #[.int .i64 v, .bool true]) ∧ Below W.heap.size W w' := fun W h => by have := cn W h; rw [o] at this; exact this
            clear hRR o cn HR
            go_wp2_with (first | (go_at_call 35; refine (ca _).mono ?_; rintro e w1 ⟨rfl, rfl⟩) | (go_at_call 38; refine (cb _).mono ?_; rintro e w1 ⟨rfl, rfl⟩) | (go_at_call 39; refine (cd _).mono ?_; rintro e w1 ⟨rfl, rfl⟩) | (go_at_call 36; refine (cr _).mono ?_; rintro e w1 ⟨rfl, rfl⟩) | (go_at_call 40; refine (cn2 _ HE1.out).mono ?_; rintro e w2 ⟨rfl, hb2⟩; have HB2 : Hid (Below _ _ _) := hb2; clear d0 d1 d2 d3 d4 f0 f1 f2 f3 f4 b0 b1 b2 b3; obtain ⟨d0, d1, d2, d3, d4⟩ := fiveK (HBX.out.later hb2).t; obtain ⟨f0, f1, f2, f3, f4⟩ := fiveFK (HBX.out.later hb2).t; obtain ⟨b0, b1, b2, b3⟩ := two (HBX.out.later hb2).f; clear hb2))
            have e1 : R = TR.ok 4 [] v n := HRR.out.symm
            have hbx := HBX.out.later HB2.out
            have hEE := HEE.out
            subst hEE
            refine bodyPost_ret (v := TR.v j R) ?_ rfl ⟨rfl, hbx.bel ⟨4, ⟨#[]⟩, v, j, _⟩ 0 0⟩
            rw [e1]
            exact hbx.res Tryd.results28 _ ⟨4, ⟨#[]⟩, v, j, _⟩ 0 0 rfl rfl
          | none =>
            rw [numt_none o] at hRR
            have HRR : Hid (TR.bad 45 0 = R) := hRR
            have cn2 : ∀ (W : World), EnvOk W → Calls Tryd.prog 40 #[.string X] W fun e w' => e = .returned (.tuple #[.int .i64 0, .bool false]) ∧ Below W.heap.size W w' := fun W h => by have := cn W h; rw [o] at this; exact this
            clear hRR o cn HR
            go_wp2_with (first | (go_at_call 35; refine (ca _).mono ?_; rintro e w1 ⟨rfl, rfl⟩) | (go_at_call 38; refine (cb _).mono ?_; rintro e w1 ⟨rfl, rfl⟩) | (go_at_call 39; refine (cd _).mono ?_; rintro e w1 ⟨rfl, rfl⟩) | (go_at_call 36; refine (cr _).mono ?_; rintro e w1 ⟨rfl, rfl⟩) | (go_at_call 40; refine (cn2 _ HE1.out).mono ?_; rintro e w2 ⟨rfl, hb2⟩; have HB2 : Hid (Below _ _ _) := hb2; clear d0 d1 d2 d3 d4 f0 f1 f2 f3 f4 b0 b1 b2 b3; obtain ⟨d0, d1, d2, d3, d4⟩ := fiveK (HBX.out.later hb2).t; obtain ⟨f0, f1, f2, f3, f4⟩ := fiveFK (HBX.out.later hb2).t; obtain ⟨b0, b1, b2, b3⟩ := two (HBX.out.later hb2).f; clear hb2))
            have e1 : R = TR.bad 45 0 := HRR.out.symm
            have hbx := HBX.out.later HB2.out
            refine bodyPost_ret (v := TR.v j R) ?_ rfl ⟨rfl, hbx.bel ⟨0, ⟨#[]⟩, 0, 0, 0⟩ 45 j⟩
            rw [e1]
            exact hbx.res Tryd.results28 _ ⟨0, ⟨#[]⟩, 0, 0, 0⟩ 45 j rfl rfl
    · -- a variable
      rw [a] at ca
      rw [b] at cb
      have hRR := HR.out
      rw [tok_great a b] at hRR
      have hn := rl_le (c :: r)
      skip
      skip
      obtain ⟨n, hnn⟩ : ∃ n, rl (c :: r) = n := ⟨_, rfl⟩
      rw [hnn] at hRR hn cr
      have hln := HL.out
      have hE1 : ((j + n : Nat) : Int) ≤ (s.size : Int) := by omega
      have hj1 : (j : Int) ≤ ((j + n : Nat) : Int) := by omega
      have hx : s.extract j (((j + n : Nat) : Int)).toNat = ofL ((c :: r).take n) := by rw [Int.toNat_natCast]; exact HX.out n
      have hxs : (ofL ((c :: r).take n)).size ≤ 9000000 := by rw [ofL_size, List.length_take]; omega
      obtain ⟨E, hE⟩ : ∃ E : Int, ((j + n : Nat) : Int) = E := ⟨_, rfl⟩
      have HEE : Hid (((j + n : Nat) : Int) = E) := hE
      rw [hE] at hE1 hx hj1 cr
      have HRR : Hid (TR.ok 2 ((c :: r).take n) 0 n = R) := hRR
      obtain ⟨X, hX⟩ : ∃ X, ofL ((c :: r).take n) = X := ⟨_, rfl⟩
      have HXX : Hid (ofL ((c :: r).take n) = X) := hX
      rw [hX] at hx hxs
      clear hRR hX hln hn hE hnn cq cg cr1 HX HL HBy HR cd
      go_wp2_with (first | (go_at_call 35; refine (ca _).mono ?_; rintro e w1 ⟨rfl, rfl⟩) | (go_at_call 38; refine (cb _).mono ?_; rintro e w1 ⟨rfl, rfl⟩) | (go_at_call 36; refine (cr _).mono ?_; rintro e w1 ⟨rfl, rfl⟩))
      refine bodyPost_ret (v := TR.v j R) ?_ rfl ⟨rfl, HBX.out.bel ⟨2, X, 0, j, E⟩ 0 0⟩
      rw [← HRR.out]
      have hv : TR.v j (.ok 2 ((c :: r).take n) 0 n) = .tuple #[Tk.v ⟨2, X, 0, j, E⟩, .agg #[.int .i64 0, .int .i64 0]] := by
        have h1 := HEE.out
        have h2 := HXX.out
        subst h1
        subst h2
        rfl
      rw [hv]
      exact HBX.out.res Tryd.results28 _ ⟨2, X, 0, j, E⟩ 0 0 rfl rfl
  · -- a word
    rw [a] at ca
    have hRR := HR.out
    rw [tok_small a] at hRR
    have hn := rl_le (c :: r)
    have hW := wos_eq (c :: r) (rl (c :: r)) j hn
    rw [hRR] at hW
    obtain ⟨n, hnn⟩ : ∃ n, rl (c :: r) = n := ⟨_, rfl⟩
    rw [hnn] at hRR hn cr hW
    have hln := HL.out
    have hE1 : ((j + n : Nat) : Int) ≤ (s.size : Int) := by omega
    have hj1 : (j : Int) ≤ ((j + n : Nat) : Int) := by omega
    have hx : s.extract j (((j + n : Nat) : Int)).toNat = ofL ((c :: r).take n) := by rw [Int.toNat_natCast]; exact HX.out n
    have hxs : (ofL ((c :: r).take n)).size ≤ 9000000 := by rw [ofL_size, List.length_take]; omega
    obtain ⟨E, hE⟩ : ∃ E : Int, ((j + n : Nat) : Int) = E := ⟨_, rfl⟩
    have HEE : Hid (((j + n : Nat) : Int) = E) := hE
    rw [hE] at hE1 hx hj1 cr
    have hv : TR.v j R = .tuple #[(R.tk j).v, .agg #[.int .i64 0, .int .i64 0]] := by
      rw [← hRR]
      split <;> rfl
    rw [← hW] at hv
    have HHe : Hid (TR.v j R = .tuple #[(wos (ofL ((c :: r).take n)) j).v, .agg #[.int .i64 0, .int .i64 0]]) := hv
    have cw := fun (W : World) (h : SaysOk W) => wordOrSays_any (ofL ((c :: r).take n)) j (by omega) (by omega) W h
    generalize ofL ((c :: r).take n) = X at *
    generalize wos X j = t at *
    obtain ⟨tk, tx, tn, ta, te⟩ := t
    clear hRR hW hv hln hn hE hnn cq cg cr1 HX HL HBy HR cb cd
    go_wp2_with (first | (go_at_call 35; refine (ca _).mono ?_; rintro e w1 ⟨rfl, rfl⟩) | (go_at_call 36; refine (cr _).mono ?_; rintro e w1 ⟨rfl, rfl⟩) | (go_at_call 37; refine (cw _ HE1.out.signs.says).mono ?_; rintro e w2 ⟨rfl, hb2⟩; have HB2 : Hid (Below _ _ _) := hb2; clear d0 d1 d2 d3 d4 f0 f1 f2 f3 f4 b0 b1 b2 b3; obtain ⟨d0, d1, d2, d3, d4⟩ := fiveK (HBX.out.later hb2).t; obtain ⟨f0, f1, f2, f3, f4⟩ := fiveFK (HBX.out.later hb2).t; obtain ⟨b0, b1, b2, b3⟩ := two (HBX.out.later hb2).f; clear hb2))
    have hbx := HBX.out.later HB2.out
    refine bodyPost_ret (v := TR.v j R) ?_ rfl ⟨rfl, hbx.bel ⟨tk, tx, tn, ta, te⟩ 0 0⟩
    rw [HHe.out]
    exact hbx.res Tryd.results28 _ ⟨tk, tx, tn, ta, te⟩ 0 0 rfl rfl
end Go.Proofs.YtdfdnjkeiddfjaaDoor
