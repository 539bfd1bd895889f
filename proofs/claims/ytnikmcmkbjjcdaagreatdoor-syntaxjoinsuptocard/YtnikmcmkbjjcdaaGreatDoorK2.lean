import Derived.Test.YtnikmcmkbjjcdaaGreatDoorSY22
import Derived.Test.YtnikmcmkbjjcdaaGreatDoorK1
/-
  syntax: program.
-/
namespace Go.Proofs.YtnikmcmkbjjcdaaGreatDoor
open Go.RowKit
attribute [local go_sem ↓] Go.wp_at_zero Go.wp_at_succ

/-- All rules, one by one. -/
def pr5 (T : List Tk) (L : Nat) : Nat → List Ck → Nat → Except (Int × Int) (List Ck)
  | 0, acc, _ => .ok acc
  | f + 1, acc, nx => if nx < T.length then match rl5 T L nx with
      | .error e => .error e
      | .ok (ks, n') => pr5 T L f (acc ++ ks) n'
    else .ok acc
theorem rl5_nx {T : List Tk} {L nx n' : Nat} {ks : List Ck} (hx : nx ≤ T.length) (h : rl5 T L nx = .ok (ks, n')) : nx < n' ∧ n' ≤ T.length := by
  unfold rl5 at h
  cases hr : rh5 T L (s05 nx) with
  | error e => rw [hr] at h; cases h
  | ok p =>
    obtain ⟨⟨a, m⟩, s⟩ := p
    rw [hr] at h
    have h1 : (if 64 < m.length then (.error (53, pl5 T L (s05 nx)) : Except (Int × Int) (List Ck × Nat)) else match cls5 (pl5 T L (s05 nx)) a m [] with
      | .error e => .error e
      | .ok ks => .ok (ks, s.nx)) = .ok (ks, n') := h
    have hs : s.nx = n' := by
      by_cases hm : 64 < m.length
      · rw [if_pos hm] at h1; cases h1
      · rw [if_neg hm] at h1
        cases hc : cls5 (pl5 T L (s05 nx)) a m [] with
        | error e => rw [hc] at h1; cases h1
        | ok k => rw [hc] at h1; exact congrArg Prod.snd (Except.ok.inj h1)
    unfold rh5 at hr
    obtain ⟨b, s1, h2, h3⟩ := and5_inv hr
    obtain ⟨m2, s2, h4, h5⟩ := and5_inv h3
    obtain ⟨t, s3, h6, h7⟩ := and5_inv h5
    obtain ⟨g1, n1, q1⟩ := wg_at T L _ _ _ (gs_05 hx) h2
    obtain ⟨g2, n2, q2⟩ := wg_bd T L _ _ _ g1 h4
    obtain ⟨g3, n3, q3⟩ := wg_tk T L _ _ _ _ g2 h6
    have e2 : s3 = s := congrArg Prod.snd (Except.ok.inj h7)
    have h8 := q1.1
    have h9 : (s05 nx).nx = nx := rfl
    rw [h9] at n1 h8
    have h10 := g3.a
    rw [e2] at n3 h10
    omega
/-- What program answers. -/
def PrP (g : Nat) (w : World) (R : Except (Int × Int) (List Ck)) (e : Ending) (w' : World) : Prop :=
  Fr (fun b => b = g) w w' ∧ match R with
    | .error f => e = .panicked [pF f]
    | .ok ks => ∃ v l, e = .returned v ∧ l.map Cm.key = ks ∧ RL (fun b => w.heap.size ≤ b) w' v l
theorem row5_pos {w : World} {base n m : Nat} {e : TypeId} {v : Value} {xs : List Value} (h : w.ownsRow base e n v m xs) (h0 : 0 < m) : ∃ g cap, v = .slice (some ⟨g, 0, none⟩) m cap := by
  rcases h.2 with ⟨-, hn⟩ | ⟨g, cap, cur, hv, -⟩
  · omega
  · exact ⟨g, cap, hv⟩
theorem RuP.err {g N : Nat} {tv : Value} {T : List Tk} {L : Nat} {w : World} {R : Except (Int × Int) (List Ck × Nat)} {f : Int × Int} {fn : Nat} {args : Array Value} (h : Calls Tryz.prog fn args w (RuP g N tv T L w R)) (hr : R = .error f) : Calls Tryz.prog fn args w fun e w' => e = .panicked [pF f] ∧ Fr (fun b => b = g) w w' := by
  subst hr
  exact h.mono fun e w' ⟨h1, h2⟩ => ⟨h2, h1⟩
theorem RuP.ok {g N : Nat} {tv : Value} {T : List Tk} {L : Nat} {w : World} {R : Except (Int × Int) (List Ck × Nat)} {ks : List Ck} {nx : Nat} {fn : Nat} {args : Array Value} (h : Calls Tryz.prog fn args w (RuP g N tv T L w R)) (hr : R = .ok (ks, nx)) : Calls Tryz.prog fn args w fun e w' => ∃ v l, e = .returned v ∧ l.map Cm.key = ks ∧ l ≠ [] ∧ l.length ≤ 64 ∧ RL (fun b => w.heap.size ≤ b) w' v l ∧ PB g N tv T L w' nx ∧ Fr (fun b => b = g) w w' := by
  subst hr
  exact h.mono fun e w' ⟨h1, v, l, h2, h3, h4, h5, h6, h7⟩ => ⟨v, l, h2, h3, h4, h5, h6, h7, h1⟩
set_option maxRecDepth 20000 in
set_option maxHeartbeats 4000000 in
theorem program5_any (g N : Nat) (tv : Value) (T : List Tk) (L : Nat) (w : World) (h : PB g N tv T L w 0) :
    Calls Tryz.prog 29 #[.pointer (some ⟨g, 0, none⟩)] w (PrP g w (pr5 T L (T.length + 1) [] 0)) := by
  have HPB := hm7 h
  have hT := h.ok.l
  have HGW : Hid (g < w.heap.size) := Nat.lt_of_lt_of_le h.gN h.Nw
  have HNW := hm7 h.Nw
  have HRU : Hid (∀ (X : World) (nx : Nat), PB g N tv T L X nx → Calls Tryz.prog 49 #[.pointer (some ⟨g, 0, none⟩)] X (RuP g N tv T L X (rl5 T L nx))) := fun X nx hX => rule5_any g N tv T L nx X hX
  obtain ⟨R, hR⟩ : ∃ R, pr5 T L (T.length + 1) [] 0 = R := ⟨_, rfl⟩
  rw [hR]
  have HR := hm7 hR
  obtain ⟨ta, tc, htv, -⟩ := h.t
  subst htv
  obtain ⟨tn, htn⟩ : ∃ tn, T.length = tn := ⟨_, rfl⟩
  rw [htn] at HPB HRU hT
  have HTN := hm7 htn
  clear h hR htn
  go_enter Tryz.func29, Tryz.ntmps29
  go_wp2
  go_loopg [3] (tn + 1) (fun f u wr => ∃ (nx : Nat) (l : List Cm), pr5 T L f (l.map Cm.key) nx = R ∧ tn < nx + f ∧ nx ≤ tn ∧ l.length ≤ 64 * nx ∧ wr.ownsRow w.heap.size 37 7 u l.length (l.flatMap cc5) ∧ (∀ d ∈ l, KF (fun b => w.heap.size ≤ b ∧ u.ownBlock ≠ some b) wr d) ∧ PB g N (.slice ta tn tc) T L wr nx ∧ Fr (fun b => b = g) w wr)
  case atStart => exact ⟨0, [], by have := HR.out; rw [HTN.out] at this; exact this, by omega, Nat.zero_le _, Nat.zero_le _, World.ownsRow_nil _ _ _ _, (fun d hd => by cases hd), HPB.out, Fr.refl _ _⟩
  case round =>
    obtain ⟨nx, l, hRj, hfl, hnx, hll, ho, hkf, hpb, hfr⟩ := hrel
    have HRJ := hm7 hRj
    have HKF := hm7 hkf
    have HPJ := hm7 hpb
    have HFJ := hm7 hfr
    obtain ⟨mv, vs, hb⟩ := hpb.b
    have c0 := hb.cell (i := 0) rfl
    have c1 := hb.cell (i := 1) rfl
    obtain ⟨ua, uc, huf, -⟩ := row7_form ho
    obtain ⟨ln, hln⟩ : ∃ ln, l.length = ln := ⟨_, rfl⟩
    rw [hln] at huf ho hll
    have HLN := hm7 hln
    have HO := hm7 ho
    subst huf
    have hsz := hfr.size
    clear hRj hkf hpb hfr hb ho hln HR HPB
    cases gk with
    | zero => omega
    | succ f =>
      by_cases hlt : nx < tn
      · have hlt2 : (nx : Int) < (tn : Int) := by omega
        have HRN : Hid ((match rl5 T L nx with
            | .error e => .error e
            | .ok (ks, n') => pr5 T L f (l.map Cm.key ++ ks) n') = R) := by
          have := HRJ.out
          unfold pr5 at this
          rw [if_pos (by rw [HTN.out]; exact hlt)] at this
          exact this
        clear HRJ
        go_wp2
        go_quiet (fail)
        clear c0 c1
        have HDB : Hid (Below wr.heap.size wr (wr.drewN nq)) := below_drewN (Below.refl _ wr) _
        revert HDB
        generalize wr.drewN nq = wd
        intro HDB
        have HPD := hm7 (HPJ.out.below HDB.out)
        have HRX := hm7 (HRU.out wd nx HPD.out)
        have hszd : w.heap.size ≤ wd.heap.size := Nat.le_trans hsz HDB.out.size
        cases hr : rl5 T L nx with
        | error e0 =>
          have HRE : Hid (R = .error e0) := by have := HRN.out; rw [hr] at this; exact this.symm
          have HE := hm7 (RuP.err HRX.out hr)
          clear hr HRN HRX
          go_wp2_with (go_at_call 49; refine HE.out.mono ?_; rintro e W1 ⟨rfl, hf⟩; have HF1 := hm7 ((HFJ.out.then HDB.out).tr hf); clear hf)
          refine ⟨rfl, ?_⟩
          rw [HRE.out]
          exact ⟨HF1.out, rfl⟩
        | ok p =>
          obtain ⟨ks, n'⟩ := p
          have HRN2 : Hid (pr5 T L f (l.map Cm.key ++ ks) n' = R) := by have := HRN.out; rw [hr] at this; exact this
          have HE := hm7 (RuP.ok HRX.out hr)
          obtain ⟨hn1, hn2⟩ := rl5_nx (by rw [HTN.out]; exact hnx) hr
          rw [HTN.out] at hn2
          clear hr HRN HRX
          go_wp2_with (first
            | (go_at_call 49; refine HE.out.mono ?_; rintro e W1 ⟨v1, l1, rfl, hk1, hne, hl64, hrl, hpb, hf⟩; have hpos : 0 < l1.length := List.length_pos_iff.2 hne; obtain ⟨vg, vc, hvf⟩ := row5_pos hrl.o hpos; generalize hl1 : l1.length = k1 at hvf hl64 hpos; subst hvf; have HL1 := hm7 hl1; have HK1 := hm7 hk1; have HRL := hm7 hrl; have HP1 := hm7 hpb; have HF1 := hm7 ((HFJ.out.then HDB.out).tr hf); have HO1 := hm7 (row7_fr (row7_below HO.out HDB.out) hf fun b hb e => by have := (World.ownsRow.lt HO.out b hb).1; have := HGW.out; omega); have HKF1 : Hid (∀ d ∈ l, KF (fun b => w.heap.size ≤ b ∧ (Value.slice ua ln uc).ownBlock ≠ some b) W1 d) := (fun d hd => ((HKF.out d hd).below HDB.out).fr hf fun b hb e => by have := hb.1; have := HGW.out; omega); have hsz1 := hf.size; clear hk1 hne hrl hpb hf hl1 HE)
            | (at_builtin; refine gappL5 Tryz.underlying23 Tryz.infoClause5 rfl (by decide) (by decide) rfl _ _ rfl w.heap.size (.slice ua ln uc) ln (l.flatMap cc5) rfl HO1.out vg k1 vc 0 (l1.flatMap cc5) rfl (by have := HRL.out.o; rw [HL1.out] at this; exact this) hpos (fun u hu => by obtain ⟨d, hd, hu⟩ := List.mem_flatMap.1 hu; exact cc5_one (HRL.out.k d hd).ok u hu) (by omega) (by omega) ?_; intro g5 q5 w5 ho5 hg5 hv5 hl5; have HO5 := hm7 ho5; have HG5 := hm7 hg5; have HV5 := hm7 hv5; clear ho5 hg5 hv5 hl5))
          have HGF : Hid (Fr (fun b => w.heap.size ≤ b) W1 w5) := Fr.grown HG5.out fun b hb => (World.ownsRow.lt HO1.out b hb).1
          have HGO : Hid (Fr (fun b => (Value.slice ua ln uc).ownBlock = some b) W1 w5) := Fr.grown HG5.out fun b hb => hb
          have HI5 : Hid (∀ d, KF (fun b => w.heap.size ≤ b ∧ (Value.slice ua ln uc).ownBlock ≠ some b) W1 d → KF (fun b => w.heap.size ≤ b ∧ (Value.slice (some ⟨g5, 0, none⟩) (ln + k1) q5).ownBlock ≠ some b) w5 d) := fun d hd => by
            have h2 := hd.mono (G := fun b => (w.heap.size ≤ b ∧ (Value.slice (some ⟨g5, 0, none⟩) (ln + k1) q5).ownBlock ≠ some b) ∧ (Value.slice ua ln uc).ownBlock ≠ some b) fun b hb hw => ⟨⟨hw.1, fun e => by
              have e1 : g5 = b := Option.some.inj e
              rcases HV5.out with e2 | e2
              · exact hw.2 (by rw [← e1]; exact e2)
              · omega⟩, hw.2⟩
            exact (h2.fr HGO.out fun b hb => hb.2).mono fun b _ hb => hb.1
          try go_wp2
          go_roundg f
          case measure => omega
          case rel =>
            refine ⟨n', l ++ l1, ?_, by omega, by omega, ?_, ?_, ?_, ?_, ?_⟩
            · rw [List.map_append, HK1.out]; exact HRN2.out
            · rw [List.length_append, HLN.out, HL1.out]; omega
            · rw [List.length_append, HLN.out, HL1.out, List.flatMap_append]; exact HO5.out
            · intro d hd
              rcases List.mem_append.1 hd with hd | hd
              · exact HI5.out d (HKF1.out d hd)
              · refine HI5.out d ((HRL.out.k d hd).mono fun b _ hb => ⟨Nat.le_trans hszd hb.1, fun e => ?_⟩)
                have h1 := (World.ownsRow.lt (row7_below HO.out HDB.out) b e).2
                have h2 := hb.1
                omega
            · exact HP1.out.fr HGF.out fun b hb e => by have := HNW.out; omega
            · exact HF1.out.trans HGF.out fun b hb e => by omega
      · have hlt2 : ¬ (nx : Int) < (tn : Int) := by omega
        have HRE : Hid (R = .ok (l.map Cm.key)) := by
          have := HRJ.out
          unfold pr5 at this
          rw [if_neg (by rw [HTN.out]; exact hlt)] at this
          exact this.symm
        clear HRJ
        go_wp2
        go_quiet (fail)
        clear c0 c1
        have HDB : Hid (Below wr.heap.size wr (wr.drewN nq)) := below_drewN (Below.refl _ wr) _
        revert HDB
        generalize wr.drewN nq = wd
        intro HDB
        go_wp2
        go_ret
        rw [HRE.out]
        refine ⟨HFJ.out.then HDB.out, _, l, rfl, rfl, ⟨?_, ?_, fun d hd => (HKF.out d hd).below HDB.out⟩⟩
        · rw [HLN.out]; exact row5_base (row7_below HO.out HDB.out)
        · intro b hb
          exact (World.ownsRow.lt HO.out b hb).1
end Go.Proofs.YtnikmcmkbjjcdaaGreatDoor
/-
  lineEnd, digitValue, hexByte, escapeAt.
-/
namespace Go.Proofs.YtnikmcmkbjjcdaaGreatDoor
open Go.RowKit

theorem ret_2 {a a' b b' : Value} (h : a = a') (h' : b = b') : Ending.returned (.tuple #[a, b]) = .returned (.tuple #[a', b']) := by rw [h, h']
theorem le_yes {l : List Int} {c : Int} (h : c = 10) : le_ (c :: l) = 0 := by unfold le_; rw [if_pos h]
theorem le_no {l : List Int} {c : Int} (h : ¬ c = 10) : le_ (c :: l) = le_ l + 1 := by show (if c = 10 then 0 else le_ l + 1) = _; rw [if_neg h]
theorem lineEnd_any (s : ByteArray) (j0 : Nat) (h0 : j0 ≤ s.size) (hs : s.size < 4611686018427387904) (w : World) :
    Calls Tryz.prog 30 #[.string s, .int .i64 j0] w fun e w' => e = .returned (.int .i64 ((j0 + le_ ((blK s).drop j0) : Nat) : Int)) ∧ w' = w := by
  obtain ⟨R, hR⟩ : ∃ R, j0 + le_ ((blK s).drop j0) = R := ⟨_, rfl⟩
  rw [hR]
  go_enter Tryz.func30, Tryz.ntmps30
  go_wp2
  go_loopg [1] (s.size - j0) (fun g i wr => ∃ j : Nat, j + g = s.size ∧ i = .int .i64 j ∧ j + le_ ((blK s).drop j) = R ∧ wr = w)
  case atStart => exact ⟨j0, by omega, rfl, hR, rfl⟩
  case round =>
    obtain ⟨j, hj, rfl, hr, rfl⟩ := hrel
    have HR : Hid (j + le_ ((blK s).drop j) = R) := hr
    clear hr hR
    cases gk with
    | succ g =>
      have hlt : j < s.size := by omega
      have i1 : (j : Int) < (s.size : Int) := by omega
      have hidx := run_index_atK s j hlt (j : Int) rfl
      have HD : Hid ((blK s).drop j = atK_ s j :: (blK s).drop (j + 1)) := bl_drop hlt
      obtain ⟨c, hc⟩ : ∃ c, atK_ s j = c := ⟨_, rfl⟩
      rw [hc] at hidx HD
      clear hc
      by_cases hb : c = 10
      · have HB : Hid (c = 10) := hb
        have n1 : (c == 10) = true := by simp [hb]
        have n2 : (c != 10) = false := by simp [hb]
        clear hb
        go_wp2
        go_ret
        exact ⟨by rw [← HR.out, HD.out, le_yes HB.out]; rfl, rfl⟩
      · have HB : Hid (¬ c = 10) := hb
        have n1 : (c == 10) = false := beq_eq_false_iff_ne.2 hb
        have n2 : (c != 10) = true := by simp [hb]
        clear hb
        go_wp2
        go_roundg g
        case measure => omega
        case rel => exact ⟨j + 1, by omega, by go_num, by rw [← HR.out, HD.out, le_no HB.out]; omega, rfl⟩
    | zero =>
      obtain rfl : j = s.size := by omega
      have hz : ¬ ((s.size : Int) < (s.size : Int)) := by omega
      go_wp2
      go_ret
      exact ⟨by rw [← HR.out, bl_drop_end (Nat.le_refl _)]; rfl, rfl⟩
set_option maxHeartbeats 400000 in
theorem digitValue_any (c : Int) (h0 : 0 ≤ c) (h1 : c ≤ 255) (w : World) :
    Calls Tryz.prog 124 #[.int .u8 c] w fun e w' => e = .returned (.tuple #[.int .u8 ((hexv c).getD 0), .bool (hexv c).isSome]) ∧ w' = w := by
  have cd := digit_any c
  by_cases a : 48 ≤ c ∧ c ≤ 57
  · have e : dig c = true := by simp [dig, a]
    have E : hexv c = some (c - 48) := by unfold hexv; rw [if_pos a]
    rw [e] at cd
    rw [E]
    obtain ⟨a1, a2⟩ := a
    clear e E
    go_enter Tryz.func124, Tryz.ntmps124
    go_wp2_with (go_at_call 54; refine (cd _).mono ?_; rintro e w1 ⟨rfl, rfl⟩)
    go_ret2
    exact ⟨ret_2 rfl rfl, rfl⟩
  · have e : dig c = false := by simp [dig]; omega
    rw [e] at cd
    clear e
    by_cases b : 97 ≤ c ∧ c ≤ 102
    · have E : hexv c = some (c - 87) := by unfold hexv; rw [if_neg a, if_pos b]
      rw [E]
      obtain ⟨b1, b2⟩ := b
      clear a E
      go_enter Tryz.func124, Tryz.ntmps124
      go_wp2_with (go_at_call 54; refine (cd _).mono ?_; rintro e w1 ⟨rfl, rfl⟩)
      go_ret2
      exact ⟨ret_2 (by simp; omega) rfl, rfl⟩
    · by_cases d : 65 ≤ c ∧ c ≤ 70
      · have E : hexv c = some (c - 55) := by unfold hexv; rw [if_neg a, if_neg b, if_pos d]
        rw [E]
        obtain ⟨d1, d2⟩ := d
        have b1 : ¬ 97 ≤ c := by omega
        clear a b E
        go_enter Tryz.func124, Tryz.ntmps124
        go_wp2_with (go_at_call 54; refine (cd _).mono ?_; rintro e w1 ⟨rfl, rfl⟩)
        go_ret2
        exact ⟨ret_2 (by simp; omega) rfl, rfl⟩
      · have E : hexv c = none := by unfold hexv; rw [if_neg a, if_neg b, if_neg d]
        rw [E]
        clear a E
        have b' : c < 97 ∨ (97 ≤ c ∧ 102 < c) := by omega
        have d' : c < 65 ∨ (65 ≤ c ∧ 70 < c) := by omega
        clear b d
        rcases b' with b1 | ⟨b1, b2⟩ <;> rcases d' with d1 | ⟨d1, d2⟩ <;> first | (exfalso; omega) | skip
        all_goals
          go_enter Tryz.func124, Tryz.ntmps124
          go_wp2_with (go_at_call 54; refine (cd _).mono ?_; rintro e w1 ⟨rfl, rfl⟩)
          go_ret2
          exact ⟨ret_2 rfl rfl, rfl⟩
theorem hexv_rng {c x : Int} (h : hexv c = some x) : 0 ≤ x ∧ x ≤ 15 := by
  unfold hexv at h
  split at h
  · simp at h; omega
  · split at h
    · simp at h; omega
    · split at h
      · simp at h; omega
      · simp at h
theorem or_nat : ∀ a : Nat, a < 16 → ∀ b : Nat, b < 16 → bits BinOp.or IntKind.u8 ((a : Int) * 16) (b : Int) = (a : Int) * 16 + b := by decide
theorem or_hl (h l : Int) (h0 : 0 ≤ h) (h1 : h ≤ 15) (l0 : 0 ≤ l) (l1 : l ≤ 15) : bits BinOp.or IntKind.u8 (h * 16) l = h * 16 + l := by
  obtain ⟨a, rfl⟩ : ∃ a : Nat, h = a := ⟨h.toNat, by omega⟩
  obtain ⟨b, rfl⟩ : ∃ b : Nat, l = b := ⟨l.toNat, by omega⟩
  exact or_nat a (by omega) b (by omega)
set_option maxHeartbeats 1000000 in
theorem hexByte_any (s : ByteArray) (j : Nat) (hj : j < 4611686018427387904) (w : World) :
    Calls Tryz.prog 105 #[.string s, .int .i64 j] w fun e w' => e = .returned (.tuple #[.int .u8 ((hex2 ((blK s).drop j)).getD 0), .bool (hex2 ((blK s).drop j)).isSome]) ∧ w' = w := by
  rcases Nat.lt_or_ge s.size (j + 2) with h | h
  · have e : hex2 ((blK s).drop j) = none := by
      have hl : ((blK s).drop j).length < 2 := by rw [List.length_drop, bl_len]; omega
      match (blK s).drop j, hl with
      | [], _ => rfl
      | [_], _ => rfl
    have i1 : (s.size : Int) < (j : Int) + 2 := by omega
    rw [e]
    clear e
    go_enter Tryz.func105, Tryz.ntmps105
    go_wp2
    go_ret2
    exact ⟨ret_2 rfl rfl, rfl⟩
  · have i1 : ¬ (s.size : Int) < (j : Int) + 2 := by omega
    have x1 := run_index_atK s j (by omega) (j : Int) rfl
    have x2 := run_index_atK s (j + 1) (by omega) ((j : Int) + 1) (by omega)
    have c1 := digitValue_any (atK_ s j) (at_range s j).1 (at_range s j).2
    have c2 := digitValue_any (atK_ s (j + 1)) (at_range s (j + 1)).1 (at_range s (j + 1)).2
    rw [bl_drop (by omega), bl_drop (by omega)]
    obtain ⟨a, ha⟩ : ∃ c, atK_ s j = c := ⟨_, rfl⟩
    obtain ⟨b, hb⟩ : ∃ c, atK_ s (j + 1) = c := ⟨_, rfl⟩
    rw [ha] at x1 c1 ⊢
    rw [hb] at x2 c2 ⊢
    clear ha hb
    cases u : hexv a <;> cases v : hexv b
    all_goals
      rw [u] at c1
      rw [v] at c2
      simp only [Option.getD_some, Option.getD_none, Option.isSome_some, Option.isSome_none] at c1 c2
    case some.some x y =>
      have r1 := hexv_rng u
      have r2 := hexv_rng v
      have ho := or_hl x y r1.1 r1.2 r2.1 r2.2
      have r3 := r1.1
      have r4 := r1.2
      rw [show hex2 (a :: b :: (blK s).drop (j + 1 + 1)) = some (x * 16 + y) by simp [hex2, u, v]]
      clear r1 r2 u v
      go_enter Tryz.func105, Tryz.ntmps105
      go_upto_region 4 with (go_at_call 124; refine (c1 _).mono ?_; rintro e w1 ⟨rfl, rfl⟩)
      clear c1
      go_wp2_with (go_at_call 124; refine (c2 _).mono ?_; rintro e w1 ⟨rfl, rfl⟩)
      go_ret2
      exact ⟨ret_2 rfl rfl, rfl⟩
    all_goals
      rw [show hex2 (a :: b :: (blK s).drop (j + 1 + 1)) = none by simp [hex2, u, v]]
      clear u v
      go_enter Tryz.func105, Tryz.ntmps105
      go_upto_region 4 with (go_at_call 124; refine (c1 _).mono ?_; rintro e w1 ⟨rfl, rfl⟩)
      clear c1
      go_wp2_with (go_at_call 124; refine (c2 _).mono ?_; rintro e w1 ⟨rfl, rfl⟩)
      go_ret2
      exact ⟨ret_2 rfl rfl, rfl⟩
theorem esc_cons (c : Int) (r : List Int) : esc (c :: r) = if c = 34 ∨ c = 92 then some (c, 1) else if c = 110 then some (10, 1) else if c = 116 then some (9, 1) else if c = 120 then (hex2 r).map (fun b => (b, 3)) else none := rfl
/-- What escapeAt answers at the backslash at j. -/
def escV (s : ByteArray) (j : Nat) : Int × Nat := match esc ((blK s).drop (j + 1)) with
  | some (b, k) => (b, j + 1 + k)
  | none => (0, j)
set_option maxHeartbeats 1000000 in
theorem escapeAt_any (s : ByteArray) (j : Nat) (hj : j < s.size) (hs : s.size < 4611686018427387000) (w : World) :
    Calls Tryz.prog 85 #[.string s, .int .i64 j] w fun e w' => e = .returned (.tuple #[.int .u8 (escV s j).1, .int .i64 ((escV s j).2 : Int)]) ∧ w' = w := by
  rcases Nat.lt_or_ge (j + 1) s.size with h | h
  · have i1 : ¬ (s.size : Int) ≤ (j : Int) + 1 := by omega
    have x1 := run_index_atK s (j + 1) h ((j : Int) + 1) (by omega)
    have ch := hexByte_any s (j + 2) (by omega)
    have ec : (((j + 2 : Nat)) : Int) = (j : Int) + 2 := by omega
    rw [ec] at ch
    have HE : Hid (∀ c, atK_ s (j + 1) = c → escV s j = (if c = 34 ∨ c = 92 then (c, j + 2) else if c = 110 then (10, j + 2) else if c = 116 then (9, j + 2) else if c = 120 then (if (hex2 ((blK s).drop (j + 2))).isSome = true then ((hex2 ((blK s).drop (j + 2))).getD 0, j + 4) else (0, j)) else (0, j))) := fun c hc => by
      unfold escV
      rw [bl_drop h, hc, esc_cons]
      by_cases q1 : c = 34 ∨ c = 92
      · rw [if_pos q1, if_pos q1]
      · rw [if_neg q1, if_neg q1]
        by_cases q2 : c = 110
        · rw [if_pos q2, if_pos q2]
        · rw [if_neg q2, if_neg q2]
          by_cases q3 : c = 116
          · rw [if_pos q3, if_pos q3]
          · rw [if_neg q3, if_neg q3]
            by_cases q4 : c = 120
            · rw [if_pos q4, if_pos q4]
              cases hex2 ((blK s).drop (j + 2)) <;> rfl
            · rw [if_neg q4, if_neg q4]
    obtain ⟨c, hc⟩ : ∃ c, atK_ s (j + 1) = c := ⟨_, rfl⟩
    rw [HE.out c hc]
    rw [hc] at x1
    clear HE hc ec
    by_cases q1 : c = 34 ∨ c = 92
    · rw [if_pos q1]
      rcases q1 with rfl | rfl <;>
      · go_enter Tryz.func85, Tryz.ntmps85
        go_wp2
        go_ret2
        exact ⟨ret_2 rfl rfl, rfl⟩
    · rw [if_neg q1]
      have n1 : (c == 34) = false := beq_eq_false_iff_ne.2 fun e => q1 (Or.inl e)
      have n2 : (c == 92) = false := beq_eq_false_iff_ne.2 fun e => q1 (Or.inr e)
      clear q1
      by_cases q2 : c = 110
      · rw [if_pos q2]
        subst q2
        clear n1 n2
        go_enter Tryz.func85, Tryz.ntmps85
        go_wp2
        go_ret2
        exact ⟨ret_2 rfl rfl, rfl⟩
      · rw [if_neg q2]
        have n3 : (c == 110) = false := beq_eq_false_iff_ne.2 q2
        clear q2
        by_cases q3 : c = 116
        · rw [if_pos q3]
          subst q3
          clear n1 n2 n3
          go_enter Tryz.func85, Tryz.ntmps85
          go_wp2
          go_ret2
          exact ⟨ret_2 rfl rfl, rfl⟩
        · rw [if_neg q3]
          have n4 : (c == 116) = false := beq_eq_false_iff_ne.2 q3
          clear q3
          by_cases q4 : c = 120
          · rw [if_pos q4]
            subst q4
            clear n1 n2 n3 n4
            obtain ⟨o, ho⟩ : ∃ o, (hex2 ((blK s).drop (j + 2))).isSome = o := ⟨_, rfl⟩
            obtain ⟨v, hv⟩ : ∃ v, (hex2 ((blK s).drop (j + 2))).getD 0 = v := ⟨_, rfl⟩
            rw [ho, hv] at ch ⊢
            clear ho hv
            cases o <;>
            · go_enter Tryz.func85, Tryz.ntmps85
              go_wp2_with (go_at_call 105; refine (ch _).mono ?_; rintro e w1 ⟨rfl, rfl⟩)
              go_ret2
              exact ⟨ret_2 rfl rfl, rfl⟩
          · rw [if_neg q4]
            have n5 : (c == 120) = false := beq_eq_false_iff_ne.2 q4
            clear q4
            go_enter Tryz.func85, Tryz.ntmps85
            go_wp2
            go_ret2
            exact ⟨ret_2 rfl rfl, rfl⟩
  · have i1 : (s.size : Int) ≤ (j : Int) + 1 := by omega
    have E : escV s j = (0, j) := by unfold escV; rw [bl_drop_end h]; rfl
    rw [E]
    clear E
    go_enter Tryz.func85, Tryz.ntmps85
    go_wp2
    go_ret2
    exact ⟨ret_2 rfl rfl, rfl⟩
end Go.Proofs.YtnikmcmkbjjcdaaGreatDoor
