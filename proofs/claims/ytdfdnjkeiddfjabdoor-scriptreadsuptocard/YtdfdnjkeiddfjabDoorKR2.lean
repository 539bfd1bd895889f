/-
  ref's Number.
-/
import Derived.Test.YtdfdnjkeiddfjabDoorK50
import Derived.Test.YtdfdnjkeiddfjabDoorK9
namespace Go.Proofs.YtdfdnjkeiddfjabDoor
open Go.RowKit

theorem dv_le : ∀ (l : List Int) (acc k : Nat), acc < 10 ^ k → l.all dig = true → dv l acc < 10 ^ (k + l.length)
  | [], acc, k, h, _ => by simpa [dv] using h
  | c :: l, acc, k, h, hd => by
    rw [List.all_cons, Bool.and_eq_true] at hd
    have hc := hd.1
    simp only [dig, Bool.and_eq_true, decide_eq_true_eq] at hc
    have := dv_le l (acc * 10 + (c - 48).toNat) (k + 1) (by rw [Nat.pow_succ]; omega) hd.2
    show dv l (acc * 10 + (c - 48).toNat) < _
    rw [List.length_cons, show k + (l.length + 1) = k + 1 + l.length by omega]
    exact this
theorem dv_small (l : List Int) (h : l.length ≤ 19) (hd : l.all dig = true) : dv l 0 < 10000000000000000000 := by
  have h1 := dv_le l 0 0 (by decide) hd
  have h2 : 10 ^ (0 + l.length) ≤ 10 ^ 19 := Nat.pow_le_pow_right (by decide) (by omega)
  exact Nat.lt_of_lt_of_le h1 h2
/-- What stands behind the sign. -/
def mag (mn : Bool) (t : List Int) : Option Int :=
  if t.length < 1 ∨ 19 < t.length ∨ t.head? = some 48 then none
  else if t.all dig = false then none
  else if mn = true then (if 9223372036854775808 < dv t 0 then none else some (-(dv t 0 : Int)))
  else if dv t 0 ≤ 9223372036854775807 then some (dv t 0 : Int) else none
theorem rnum_mag (d : List Int) (h : ¬ d = [48]) : rnum d = if d.head? = some 45 then mag true d.tail else mag false d := by
  unfold rnum mag
  rw [if_neg h]
  simp
set_option maxRecDepth 20000 in
set_option maxHeartbeats 2000000 in
theorem qNumber_any (d : ByteArray) (hs : d.size ≤ 9000000) (w : World) :
    Calls Tryd.prog 66 #[.string d] w fun e w' => (∃ x, e = .returned (.tuple #[.int .i64 ((num (blK d)).getD x), .bool (num (blK d)).isSome])) ∧ w' = w := by
  rw [← rnum_num (blK d) (bl_byt d)]
  have e0 := str_dec d ⟨#[48]⟩
  have e48 : (⟨#[48]⟩ : ByteArray).toList = [48] := by rw [ByteArray.toList_eq]
  rw [e48] at e0
  by_cases q0 : d = ⟨#[48]⟩
  · subst q0
    rw [decide_eq_true rfl] at e0
    go_enter Tryd.func66, Tryd.ntmps66
    go_wp2
    go_ret2
    exact ⟨⟨0, ret_2 rfl rfl⟩, rfl⟩
  · rw [decide_eq_false q0] at e0
    have hn : ¬ blK d = [48] := fun h => q0 (by rw [← ofL_bl d, h]; rfl)
    rw [rnum_mag _ hn]
    obtain ⟨mn, t, hm⟩ : ∃ (mn : Bool) (t : ByteArray), (if (blK d).head? = some 45 then mag true (blK d).tail else mag false (blK d)) = mag mn (blK t) ∧ t.size ≤ d.size ∧ ((mn = true ∧ 0 < d.size ∧ atK_ d 0 = 45 ∧ t = d.extract 1 d.size) ∨ (mn = false ∧ t = d ∧ (d.size = 0 ∨ (0 < d.size ∧ ¬ atK_ d 0 = 45)))) := by
      rcases Nat.eq_zero_or_pos d.size with hz | hp
      · have hb : blK d = [] := List.eq_nil_of_length_eq_zero (by rw [bl_len]; exact hz)
        exact ⟨false, d, by rw [hb]; rfl, Nat.le_refl _, Or.inr ⟨rfl, rfl, Or.inl hz⟩⟩
      · have hb := bl_drop hp
        rw [List.drop_zero] at hb
        by_cases q : atK_ d 0 = 45
        · refine ⟨true, d.extract 1 d.size, ?_, by rw [extract_eq, ofL_size, List.length_take, List.length_drop, bl_len]; omega, Or.inl ⟨rfl, hp, q, rfl⟩⟩
          have e1 : blK (d.extract 1 d.size) = (blK d).tail := by
            rw [extract_eq, bl_ofL (byt_take (byt_drop (bl_byt d) 1) _), List.take_of_length_le (by rw [List.length_drop, bl_len]; exact Nat.le_refl _), List.drop_one]
          rw [e1, hb, q]
          rfl
        · refine ⟨false, d, ?_, Nat.le_refl _, Or.inr ⟨rfl, rfl, Or.inr ⟨hp, q⟩⟩⟩
          rw [if_neg (by rw [hb]; simpa using q)]
    obtain ⟨hm, hts, hmc⟩ := hm
    rw [hm]
    obtain ⟨O, hO⟩ : ∃ O, mag mn (blK t) = O := ⟨_, rfl⟩
    have HOO : Hid (mag mn (blK t) = O) := hO
    rw [hO]
    clear hO
    have HMC : Hid ((mn = true ∧ 0 < d.size ∧ atK_ d 0 = 45 ∧ t = d.extract 1 d.size) ∨ (mn = false ∧ t = d ∧ (d.size = 0 ∨ (0 < d.size ∧ ¬ atK_ d 0 = 45)))) := hmc
    clear hm hmc hn q0
    go_enter Tryd.func66, Tryd.ntmps66
    go_upto_region 3 with fail
    go_cut [4] from 10 (fun s4 wx => s4 = .bool mn ∧ wx = w)
    case first =>
      rcases HMC.out with ⟨rfl, hp, h45, -⟩ | ⟨rfl, -, hz | ⟨hp, h45⟩⟩
      · have hidx := run_index_atK d 0 hp (0 : Int) rfl
        have hpi : (0 : Int) < (d.size : Int) := by omega
        rw [h45] at hidx
        go_wp2
        go_meet
        case rel => exact ⟨rfl, rfl⟩
      · have hpi : ¬ (0 : Int) < (d.size : Int) := by omega
        go_wp2
        go_meet
        case rel => exact ⟨rfl, rfl⟩
      · have hidx := run_index_atK d 0 hp (0 : Int) rfl
        have hpi : (0 : Int) < (d.size : Int) := by omega
        have n1 : (atK_ d 0 == 45) = false := beq_eq_false_iff_ne.2 h45
        go_wp2
        go_meet
        case rel => exact ⟨rfl, rfl⟩
    case rest =>
      obtain ⟨rfl, rfl⟩ := hcut
      go_upto_if 18 with fail
      go_cut [0] from 19 (fun s0 wx => s0 = .string t ∧ wx = wc)
      case first =>
        rcases HMC.out with ⟨rfl, hp, h45, ht⟩ | ⟨rfl, ht, -⟩
        · have hpi : (1 : Int) ≤ (d.size : Int) := by omega
          have HT : Hid (t = d.extract 1 d.size) := ht
          clear ht
          go_wp2
          go_meet
          case rel => exact ⟨by rw [HT.out], rfl⟩
        · subst ht
          go_wp2
          go_meet
          case rel => exact ⟨rfl, rfl⟩
      case rest =>
        obtain ⟨rfl, rfl⟩ := hcut
        have hbl := bl_len t
        clear HMC e0
        rcases Nat.eq_zero_or_pos t.size with hz | hp
        · have hM : mag mn (blK t) = none := by unfold mag; rw [if_pos (Or.inl (by omega))]
          obtain rfl : none = O := hM.symm.trans HOO.out
          have i1 : (t.size : Int) < 1 := by omega
          clear hM
          go_wp2
          go_ret2
          exact ⟨⟨0, ret_2 rfl rfl⟩, rfl⟩
        · have i1 : ¬ (t.size : Int) < 1 := by omega
          rcases Nat.lt_or_ge 19 t.size with h19 | h19
          · have hM : mag mn (blK t) = none := by unfold mag; rw [if_pos (Or.inr (Or.inl (by omega)))]
            obtain rfl : none = O := hM.symm.trans HOO.out
            have i2 : (19 : Int) < (t.size : Int) := by omega
            clear hM
            go_wp2
            go_ret2
            exact ⟨⟨0, ret_2 rfl rfl⟩, rfl⟩
          · have i2 : ¬ (19 : Int) < (t.size : Int) := by omega
            have hidx := run_index_atK t 0 hp (0 : Int) rfl
            have hb := bl_drop hp
            rw [List.drop_zero] at hb
            have hhd : (blK t).head? = some (atK_ t 0) := by rw [hb]; rfl
            by_cases q48 : atK_ t 0 = 48
            · have hM : mag mn (blK t) = none := by unfold mag; rw [if_pos (Or.inr (Or.inr (by rw [hhd, q48])))]
              obtain rfl : none = O := hM.symm.trans HOO.out
              rw [q48] at hidx
              clear hM hb hhd
              go_wp2
              go_ret2
              exact ⟨⟨0, ret_2 rfl rfl⟩, rfl⟩
            · have n48 : (atK_ t 0 == 48) = false := beq_eq_false_iff_ne.2 q48
              have HC : Hid (¬ ((blK t).length < 1 ∨ 19 < (blK t).length ∨ (blK t).head? = some 48)) := by
                show ¬ _
                rintro (h | h | h)
                · omega
                · omega
                · rw [hhd] at h; exact q48 (Option.some.inj h)
              clear hb hhd q48
              go_upto_region 10 with fail
              go_loopg [5, 6] t.size (fun g v i wr => ∃ j : Nat, j + g = t.size ∧ i = .int .i64 (j : Int) ∧ v = .int .u64 ((dv ((blK t).take j) 0 : Nat) : Int) ∧ ((blK t).take j).all dig = true ∧ wr = wc)
              case atStart => exact ⟨0, by omega, rfl, rfl, rfl, rfl⟩
              case round =>
                obtain ⟨j, hj, rfl, rfl, had, rfl⟩ := hrel
                cases gk with
                | succ g =>
                  have hlt : j < t.size := by omega
                  have hix := run_index_atK t j hlt (j : Int) rfl
                  have i3 : (j : Int) < (t.size : Int) := by omega
                  have hrg := at_range t j
                  have htk : (blK t).take (j + 1) = (blK t).take j ++ [atK_ t j] := by
                    have h1 : j < (blK t).length := by omega
                    rw [List.take_succ_eq_append_getElem h1]
                    congr 2
                    have h2 := bl_drop hlt
                    rw [List.drop_eq_getElem_cons h1] at h2
                    exact (List.cons.inj h2).1
                  have cd := qdigit_any (atK_ t j)
                  cases hd : dig (atK_ t j) with
                  | false =>
                    rw [hd] at cd
                    have hM : mag mn (blK t) = none := by
                      unfold mag
                      rw [if_neg HC.out, if_pos ?_]
                      have h3 : blK t = (blK t).take (j + 1) ++ (blK t).drop (j + 1) := (List.take_append_drop _ _).symm
                      rw [h3, List.all_append, htk, List.all_append]
                      simp [hd]
                    obtain rfl : none = O := hM.symm.trans HOO.out
                    clear hM htk had
                    go_wp2_with (go_at_call 65; refine (cd _).mono ?_; rintro e w1 ⟨rfl, rfl⟩)
                    go_ret2
                    exact ⟨⟨0, ret_2 rfl rfl⟩, rfl⟩
                  | true =>
                    rw [hd] at cd
                    have had' : ((blK t).take (j + 1)).all dig = true := by rw [htk, List.all_append, had]; simp [hd]
                    have hdv : dv ((blK t).take (j + 1)) 0 = dv ((blK t).take j) 0 * 10 + (atK_ t j - 48).toNat := by rw [htk, dv_app]; rfl
                    have hsm := dv_small ((blK t).take (j + 1)) (by rw [List.length_take]; omega) had'
                    have HAD : Hid (((blK t).take (j + 1)).all dig = true) := had'
                    have HDV : Hid (dv ((blK t).take (j + 1)) 0 = dv ((blK t).take j) 0 * 10 + (atK_ t j - 48).toNat) := hdv
                    rw [hdv] at hsm
                    simp only [dig, Bool.and_eq_true, decide_eq_true_eq] at hd
                    obtain ⟨V, hV⟩ : ∃ V, dv ((blK t).take j) 0 = V := ⟨_, rfl⟩
                    obtain ⟨c, hc⟩ : ∃ c, atK_ t j = c := ⟨_, rfl⟩
                    rw [hV, hc] at hsm HDV
                    rw [hc] at hix cd hd hrg
                    rw [hV]
                    have hd1 := hd.1
                    have hd2 := hd.2
                    have hw1 : IntKind.u64.wrap (10 * (V : Int)) = 10 * (V : Int) := by rw [IntKind.wrap_u64]; omega
                    have hw2 : IntKind.u8.wrap (c - 48) = c - 48 := by rw [IntKind.wrap_u8]; omega
                    have hw3 : IntKind.u64.wrap (c - 48) = c - 48 := by rw [IntKind.wrap_u64]; omega
                    have hw4 : IntKind.u64.wrap (10 * (V : Int) + (c - 48)) = 10 * (V : Int) + (c - 48) := by rw [IntKind.wrap_u64]; omega
                    clear had had' hdv htk hd hc
                    go_wp2_with (go_at_call 65; refine (cd _).mono ?_; rintro e w1 ⟨rfl, rfl⟩)
                    go_roundg g
                    case measure => omega
                    case rel => exact ⟨j + 1, by omega, by go_num, by rw [HDV.out]; congr 1; omega, HAD.out, rfl⟩
                | zero =>
                  obtain rfl : j = t.size := by omega
                  have hz : ¬ ((t.size : Int) < (t.size : Int)) := by omega
                  have hsm := dv_small ((blK t).take t.size) (by rw [List.length_take]; omega) had
                  rw [List.take_of_length_le (by omega)] at had hsm ⊢
                  have hM : mag mn (blK t) = if mn = true then (if 9223372036854775808 < dv (blK t) 0 then none else some (-(dv (blK t) 0 : Int))) else if dv (blK t) 0 ≤ 9223372036854775807 then some (dv (blK t) 0 : Int) else none := by
                    unfold mag
                    rw [if_neg HC.out, if_neg (by rw [had]; simp)]
                  have hOM := HOO.out
                  rw [hM] at hOM
                  obtain ⟨V, hV⟩ : ∃ V, dv (blK t) 0 = V := ⟨_, rfl⟩
                  rw [hV] at hsm hOM ⊢
                  clear hM had hV HC hj
                  cases mn with
                  | true =>
                    rw [if_pos rfl] at hOM
                    by_cases q : 9223372036854775808 < V
                    · rw [if_pos q] at hOM
                      subst hOM
                      have qi : (9223372036854775808 : Int) < (V : Int) := by omega
                      go_wp2
                      go_ret2
                      exact ⟨⟨0, ret_2 rfl rfl⟩, rfl⟩
                    · rw [if_neg q] at hOM
                      subst hOM
                      have qi : ¬ (9223372036854775808 : Int) < (V : Int) := by omega
                      have hw : IntKind.i64.wrap (IntKind.u64.wrap (-(V : Int))) = -(V : Int) := by rw [IntKind.wrap_i64, IntKind.wrap_u64]; omega
                      go_wp2
                      go_ret2
                      exact ⟨ret_2 (by simp) rfl, rfl⟩
                  | false =>
                    rw [if_neg (by simp)] at hOM
                    by_cases q : V ≤ 9223372036854775807
                    · rw [if_pos q] at hOM
                      subst hOM
                      have qi : (V : Int) ≤ 9223372036854775807 := by omega
                      have hw : IntKind.i64.wrap (V : Int) = (V : Int) := by rw [IntKind.wrap_i64]; omega
                      go_wp2
                      go_ret2
                      exact ⟨ret_2 rfl rfl, rfl⟩
                    · rw [if_neg q] at hOM
                      subst hOM
                      have qi : ¬ (V : Int) ≤ 9223372036854775807 := by omega
                      go_wp2
                      go_ret2
                      exact ⟨⟨_, ret_2 rfl rfl⟩, rfl⟩
end Go.Proofs.YtdfdnjkeiddfjabDoor
