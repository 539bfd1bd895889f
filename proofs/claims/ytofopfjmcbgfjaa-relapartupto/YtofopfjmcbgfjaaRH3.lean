/-
  law 7: lend, the walk. (Written by RH2.py.)
-/
import Derived.Test.YtofopfjmcbgfjaaRH2
import Derived.Test.YtofopfjmcbgfjaaRD5
namespace Go.Proofs.Ytofopfjmcbgfjaa
open Go.RowKit
attribute [local go_sem ↓] Go.wp_at_zero Go.wp_at_succ

theorem Try.infoKept7 : (Try.prog.info? 86).map (fun i => (i.zero, i.size, i.bytes)) = some (some (.agg #[.slice none 0 0, .slice none 0 0, .int .i64 0]), 3, 56) := by kernel_rfl
theorem wrap_in {x : Int} (h : -9223372036854775808 ≤ x) (k : x ≤ 9223372036854775807) : IntKind.i64.wrap x = x := by
  simp only [IntKind.wrap, IntKind.bits, IntKind.signed]
  simp
  omega
/-- Part of a row has its mark. -/
theorem part_set {x : List Int} {t : Nat} (M : Int) (h : t < x.length) : (List.replicate t M ++ x.drop t).set t M = List.replicate (t + 1) M ++ x.drop (t + 1) := by
  apply List.ext_getElem?
  intro i
  rw [List.getElem?_set, List.getElem?_append, List.getElem?_append, List.length_replicate, List.length_replicate, List.getElem?_replicate, List.getElem?_replicate, List.getElem?_drop, List.getElem?_drop]
  by_cases e : t = i
  · subst e
    rw [if_pos rfl, if_pos (by simp; omega), if_pos (by omega), if_pos (by omega)]
  · rw [if_neg e]
    by_cases hi : i < t
    · rw [if_pos hi, if_pos hi, if_pos (by omega), if_pos (by omega)]
    · rw [if_neg hi, if_neg (by omega)]
      congr 1
      omega
def LdQ (w : World) (m : Int) (B : Nat) (u : Value) (Q : List (List Int × Value)) (e : Ending) (w' : World) : Prop := ∃ v Ks, e = .returned v ∧ LN7 w m B u Q Q.length v Ks w'
set_option maxRecDepth 20000 in
set_option maxHeartbeats 4000000 in
theorem lend7_any (m : Int) (h0 : 0 ≤ m) (h1 : m ≤ 100) (B : Nat) (u : Value) (Q : List (List Int × Value)) (w : World) (h : OD w B u Q) (hB : B ≤ w.heap.size) (hq : Q.length ≤ 100000000000) (hl : ∀ p ∈ Q, p.1.length ≤ 100000000000) :
    Calls Try.prog 24 #[u, .int .i64 m] w (LdQ w m B u Q) := by
  obtain ⟨ua, uc, hu, -⟩ := row7_form h.o
  obtain ⟨qn, hqn⟩ : ∃ n, Q.length = n := ⟨_, rfl⟩
  rw [hqn] at hu hq
  subst hu
  have HQN := hm7 hqn
  have HD := hm7 h
  have HL := hm7 hl
  have HRB : Hid ((∀ p ∈ Q, ∀ b, p.2.ownBlock = some b → b < w.heap.size) ∧ ∀ b, (Value.slice ua qn uc).ownBlock = some b → b < w.heap.size) := ⟨fun p hp b hb => (World.ownsRow.lt (h.l p hp).1 b hb).2, fun b hb => (h.o.lt b hb).2⟩
  clear h hl hqn
  go_enter Try.func24, Try.ntmps24
  go_wp2
  go_loopg [5] qn (fun gg i wr => ∃ j : Nat, j + gg = qn ∧ i = .int .i64 j ∧ OD wr B (.slice ua qn uc) (mrkd m j Q) ∧ Fr (fun b => ∃ p ∈ Q, p.2.ownBlock = some b) w wr)
  case atStart => exact ⟨0, by omega, rfl, HD.out, Fr.refl _ _⟩
  case round =>
    obtain ⟨j, hj, rfl, hod, hfr⟩ := hrel
    have HOD := hm7 hod
    have HFR := hm7 hfr
    clear hod hfr
    cases gk with
    | succ gg =>
      have hlt : (j : Int) < (qn : Int) := by omega
      have j0 : (0 : Int) ≤ (j : Int) := by omega
      have jb : j ≤ 100000000000 := by omega
      obtain ⟨p, hp⟩ : ∃ p, Q[j]? = some p := ⟨_, List.getElem?_eq_getElem (by have := HQN.out; omega)⟩
      have hpm := List.mem_of_getElem? hp
      have hmj := mrkd_at m Q hp j
      rw [if_neg (by omega)] at hmj
      obtain ⟨x, pv⟩ := p
      have ho := (HOD.out.l _ (List.mem_of_getElem? hmj)).1
      obtain ⟨ra, rc, hrv, -⟩ := row7_form ho
      obtain ⟨n, hn⟩ : ∃ n, x.length = n := ⟨_, rfl⟩
      simp only at hrv
      rw [hn] at hrv
      subst hrv
      have hnb : n ≤ 100000000000 := by rw [← hn]; exact HL.out _ hpm
      have HP := hm7 hp
      have HMJ := hm7 hmj
      have HXN := hm7 hn
      have HPM := hm7 hpm
      clear hp hmj ho hn hpm
      go_wp2
      generalize wr = w1 at *
      go_loopg [6] n (fun g2 k wr => ∃ t : Nat, t + g2 = n ∧ k = .int .i64 t ∧ OD wr B (.slice ua qn uc) ((mrkd m j Q).set j (List.replicate t (mrk m j) ++ x.drop t, .slice ra n rc)) ∧ Fr (fun b => ∃ p ∈ Q, p.2.ownBlock = some b) w wr)
      case atStart =>
        refine ⟨0, by omega, rfl, ?_, HFR.out⟩
        rw [List.drop_zero, List.replicate_zero, List.nil_append, set_self HMJ.out]
        exact HOD.out
      case round =>
        obtain ⟨t, ht, rfl, hod, hfr⟩ := hrel
        have hat : ((mrkd m j Q).set j (List.replicate t (mrk m j) ++ x.drop t, .slice ra n rc))[j]? = some (List.replicate t (mrk m j) ++ x.drop t, .slice ra n rc) := by
          rw [List.getElem?_set, if_pos rfl, if_pos (List.getElem?_eq_some_iff.1 HMJ.out).1]
        have hlen : ((mrkd m j Q).set j (List.replicate t (mrk m j) ++ x.drop t, Value.slice ra n rc)).length = qn := by rw [List.length_set, mrkd_len]; exact HQN.out
        have hoo : wr.ownsRow B 23 1 (.slice ua qn uc) qn (((mrkd m j Q).set j (List.replicate t (mrk m j) ++ x.drop t, Value.slice ra n rc)).map Prod.snd) := by have := hod.o; rw [hlen] at this; exact this
        obtain ⟨ug, hua, hug, hugl, c0, -⟩ := row7_at hoo (i := j) (u := .slice ra n rc) (by rw [List.getElem?_map, hat]; rfl)
        have HOD2 := hm7 hod
        have HFR2 := hm7 hfr
        have HAT := hm7 hat
        clear hod hfr hat hlen hoo HOD HFR
        subst hua
        cases gk with
        | succ g2 =>
          have tlt : (t : Int) < (n : Int) := by omega
          have t0 : (0 : Int) ≤ (t : Int) := by omega
          have hxl : (List.replicate t (mrk m j) ++ x.drop t).length = n := by rw [List.length_append, List.length_replicate, List.length_drop, HXN.out]; omega
          obtain ⟨y, hy⟩ : ∃ y, (List.replicate t (mrk m j) ++ x.drop t)[t]? = some y := ⟨_, List.getElem?_eq_getElem (by omega)⟩
          have how : wr.ownsRow B 3 1 (.slice ra n rc) n (ibs7 (List.replicate t (mrk m j) ++ x.drop t)) := by have := (HOD2.out.l _ (List.mem_of_getElem? HAT.out)).1; unfold OwI at this; simp only at this; rw [hxl] at this; exact this
          obtain ⟨bq, rfl, -, bql, p0, p1⟩ := row7_at how (i := t) (u := .int .i64 y) (by simp only [ibs7, List.getElem?_map, hy]; rfl)
          have HPU := hm7 (row7_put (i := t) how (.int .i64 (mrk m j)))
          have HXL := hm7 hxl
          clear hy how hxl
          go_wp2
          go_roundg g2
          case measure => omega
          case rel =>
            refine ⟨t + 1, by omega, by go_num, ?_, HFR2.out.trans (Q := fun b => b = bq) ((Fr.refl _ _).set (Or.inl rfl)) fun b _ hb => ⟨_, HPM.out, by subst hb; simp [Value.ownBlock]⟩⟩
            have hx2 := part_set (mrk m j) (show t < x.length by rw [HXN.out]; omega)
            have := HOD2.out.set (x := List.replicate (t + 1) (mrk m j) ++ x.drop (t + 1)) (w' := wr.setCell ⟨bq, t, none⟩ (.int .i64 (mrk m j))) HAT.out (((Fr.refl _ _).set (g := bq) (P := fun b => b = bq) (Or.inl rfl)).mono fun b _ hb => by subst hb; simp [Value.ownBlock]) ?_ ?_
            · rw [List.set_set] at this
              exact this
            · unfold OwI
              rw [← hx2, List.length_set, HXL.out, ibs7, List.map_set]
              exact HPU.out
            · intro z hz
              rcases List.mem_append.1 hz with hz | hz
              · rw [List.eq_of_mem_replicate hz]; exact mrk_wf h0 h1 (by omega)
              · exact (HD.out.l _ HPM.out).2 z (List.mem_of_mem_drop hz)
        | zero =>
          have tlt : ¬ (t : Int) < (n : Int) := by omega
          obtain rfl : n = t := by omega
          go_wp2
          go_roundg gg
          case measure => omega
          case rel =>
            refine ⟨j + 1, by omega, by go_num, ?_, HFR2.out⟩
            have e : mrkd m (j + 1) Q = (mrkd m j Q).set j (List.replicate n (mrk m j), .slice ra n rc) := by
              rw [mrkd, HP.out]
              simp only
              rw [HXN.out]
            rw [e]
            have := HOD2.out
            rw [List.drop_of_length_le (by rw [HXN.out]; exact Nat.le_refl _), List.append_nil] at this
            exact this
    | zero =>
      have hlt : ¬ (j : Int) < (qn : Int) := by omega
      obtain rfl : qn = j := by omega
      have HLE : Hid (LN7 w m B (.slice ua qn uc) Q 0 (.slice none 0 0) [] wr) := ⟨by rw [HQN.out]; exact HOD.out, World.ownsRow_nil _ _ _ _, rfl, by simp, HFR.out, HRB.out.1, HRB.out.2, hB⟩
      clear HOD HFR
      go_wp2
      generalize wr = w1 at *
      go_loopg [7, 8] qn (fun gg v i wr => ∃ (j : Nat) (Ks : List Kp), j + gg = qn ∧ i = .int .i64 j ∧ LN7 w m B (.slice ua qn uc) Q j v Ks wr)
      case atStart => exact ⟨0, [], by omega, rfl, HLE.out⟩
      case round =>
        obtain ⟨j, Ks, hj2, rfl, hle⟩ := hrel
        obtain ⟨va, vc, hv, -⟩ := row7_form hle.o
        subst hv
        have HLN := hm7 hle
        clear hle HLE
        cases gk with
        | succ gg =>
          have jlt : (j : Int) < (qn : Int) := by omega
          have j0 : (0 : Int) ≤ (j : Int) := by omega
          have jb : j ≤ 100000000000 := by omega
          obtain ⟨p, hp⟩ : ∃ p, Q[j]? = some p := ⟨_, List.getElem?_eq_getElem (by have := HQN.out; omega)⟩
          obtain ⟨x, pv⟩ := p
          have hmj := mrkd_all m hp
          have ho := (HLN.out.od.l _ (List.mem_of_getElem? hmj)).1
          simp only at ho hmj
          obtain ⟨ra, rc, hrv, -⟩ := row7_form ho
          obtain ⟨n, hn⟩ : ∃ n, x.length = n := ⟨_, rfl⟩
          rw [List.length_replicate, hn] at hrv
          subst hrv
          have hnb : n ≤ 100000000000 := by rw [← hn]; exact HL.out _ (List.mem_of_getElem? hp)
          have hoo : wr.ownsRow B 23 1 (.slice ua qn uc) qn ((mrkd m Q.length Q).map Prod.snd) := by have h9 := HLN.out.od.o; rw [mrkd_len] at h9; generalize mrkd m Q.length Q = Z at h9 ⊢; rw [HQN.out] at h9; exact h9
          obtain ⟨ug, hua, hug, hugl, c0, -⟩ := row7_at hoo (i := j) (u := .slice ra n rc) (by rw [List.getElem?_map, hmj]; rfl)
          subst hua
          have HP := hm7 hp
          have HXN := hm7 hn
          have HMJ := hm7 hmj
          have HUG : Hid (ug < w.heap.size) := HLN.out.ub ug (by simp [Value.ownBlock])
          have hwf := mrk_wf h0 h1 (show j ≤ 1000000000000 by omega)
          have HWF := hm7 hwf
          have wr1 : IntKind.i64.wrap (-1000 * m) = -1000 * m := wrap_in (by omega) (by omega)
          have wr2 : IntKind.i64.wrap (-1000 * m - (j : Int)) = -1000 * m - (j : Int) := wrap_in (by omega) (by omega)
          have wr4 : IntKind.i64.wrap (-1000 * m - (j : Int) - 1) = mrk m j := wrap_in (by omega) (by omega)
          have wr3 : IntKind.i64.wrap (mrk m j) = mrk m j := wrap_in (by unfold mrk; omega) (by unfold mrk; omega)
          clear hp hn ho hoo hmj hwf
          go_upto_region 12 with fail
          refine wp_region_held_drew (S := fun w' => w'.cell? ⟨ug, j, none⟩ = some (.slice ra n rc) ∧ ug < w'.heap.size) (by kernel_rfl) ⟨(by first | exact c0 | (simp; exact c0)), (by simpa using hugl)⟩ (fun hH => ?_)
          have HLD := hm7 HLN.out.drew
          clear HLN
          revert hH HLD
          generalize wr.drew = V
          intro hH HLD
          refine wpAnyH_take (i := 0) (oi := ⟨_, _, _, _, _, _⟩) (v := .slice va j vc) rfl (by kernel_rfl) (by kernel_rfl) (by kernel_rfl) (fun _ _ _ h => h) (Or.inl ⟨by rfl, fun w' h => by clear h; go_simp⟩) hH ?_
          simp only [Act.put, List.setIfInBounds_toArray, List.set_cons_zero, List.set_cons_succ]
          refine wpAnyH_take (i := 1) (oi := ⟨_, _, _, _, _, _⟩) (v := .slice (some ⟨ug, 0, none⟩) qn uc) rfl (by kernel_rfl) (by kernel_rfl) (by kernel_rfl) (fun _ _ _ h => h) (Or.inl ⟨by rfl, fun w' h => by clear h; go_simp⟩) hH ?_
          simp only [Act.put, List.setIfInBounds_toArray, List.set_cons_zero, List.set_cons_succ]
          refine wpAnyH_take (i := 2) (oi := ⟨_, _, _, _, _, _⟩) (v := .int .i64 (j : Int)) rfl (by kernel_rfl) (by kernel_rfl) (by kernel_rfl) (fun _ _ _ h => h) (Or.inl ⟨by rfl, fun w' h => by clear h; go_simp⟩) hH ?_
          simp only [Act.put, List.setIfInBounds_toArray, List.set_cons_zero, List.set_cons_succ]
          refine wpAnyH_take (i := 3) (oi := ⟨_, _, _, _, _, _⟩) (v := .pointer (some ⟨ug, j, none⟩)) rfl (by kernel_rfl) (by kernel_rfl) (by kernel_rfl) (fun _ _ _ h => h) (Or.inl ⟨by rfl, fun w' h => by clear h; go_simp⟩) hH ?_
          simp only [Act.put, List.setIfInBounds_toArray, List.set_cons_zero, List.set_cons_succ]
          refine wpAnyH_take (i := 4) (oi := ⟨_, _, _, _, _, _⟩) (v := .slice ra n rc) rfl (by kernel_rfl) (by kernel_rfl) (by kernel_rfl) (fun _ _ _ h => h) (Or.inl ⟨by rfl, fun w' h => by have q := h.1; clear h; go_simp⟩) hH ?_
          simp only [Act.put, List.setIfInBounds_toArray, List.set_cons_zero, List.set_cons_succ]
          refine wpAnyH_take (i := 5) (oi := ⟨_, _, _, _, _, _⟩) (v := .slice (some ⟨ug, 0, none⟩) qn uc) rfl (by kernel_rfl) (by kernel_rfl) (by kernel_rfl) (fun _ _ _ h => h) (Or.inl ⟨by rfl, fun w' h => by clear h; go_simp⟩) hH ?_
          simp only [Act.put, List.setIfInBounds_toArray, List.set_cons_zero, List.set_cons_succ]
          refine wpAnyH_take (i := 6) (oi := ⟨_, _, _, _, _, _⟩) (v := .int .i64 (j : Int)) rfl (by kernel_rfl) (by kernel_rfl) (by kernel_rfl) (fun _ _ _ h => h) (Or.inl ⟨by rfl, fun w' h => by clear h; go_simp⟩) hH ?_
          simp only [Act.put, List.setIfInBounds_toArray, List.set_cons_zero, List.set_cons_succ]
          refine wpAnyH_take (i := 7) (oi := ⟨_, _, _, _, _, _⟩) (v := .pointer (some ⟨ug, j, none⟩)) rfl (by kernel_rfl) (by kernel_rfl) (by kernel_rfl) (fun _ _ _ h => h) (Or.inl ⟨by rfl, fun w' h => by clear h; go_simp⟩) hH ?_
          simp only [Act.put, List.setIfInBounds_toArray, List.set_cons_zero, List.set_cons_succ]
          refine wpAnyH_take (i := 8) (oi := ⟨_, _, _, _, _, _⟩) (v := .slice ra n rc) rfl (by kernel_rfl) (by kernel_rfl) (by kernel_rfl) (fun _ _ _ h => h) (Or.inl ⟨by rfl, fun w' h => by have q := h.1; clear h; go_simp⟩) hH ?_
          simp only [Act.put, List.setIfInBounds_toArray, List.set_cons_zero, List.set_cons_succ]
          refine wpAnyH_take (i := 9) (oi := ⟨_, _, _, _, _, _⟩) (v := .int .i64 m) rfl (by kernel_rfl) (by kernel_rfl) (by kernel_rfl) (fun _ _ _ h => h) (Or.inl ⟨by rfl, fun w' h => by clear h; go_simp⟩) hH ?_
          simp only [Act.put, List.setIfInBounds_toArray, List.set_cons_zero, List.set_cons_succ]
          refine wpAnyH_take (i := 10) (oi := ⟨_, _, _, _, _, _⟩) (v := .int .i64 (-1000 * m)) rfl (by kernel_rfl) (by kernel_rfl) (by kernel_rfl) (fun _ _ _ h => h) (Or.inl ⟨by rfl, fun w' h => by clear h; go_simp⟩) hH ?_
          simp only [Act.put, List.setIfInBounds_toArray, List.set_cons_zero, List.set_cons_succ]
          refine wpAnyH_take (i := 11) (oi := ⟨_, _, _, _, _, _⟩) (v := .int .i64 (j : Int)) rfl (by kernel_rfl) (by kernel_rfl) (by kernel_rfl) (fun _ _ _ h => h) (Or.inl ⟨by rfl, fun w' h => by clear h; go_simp⟩) hH ?_
          simp only [Act.put, List.setIfInBounds_toArray, List.set_cons_zero, List.set_cons_succ]
          refine wpAnyH_take (i := 12) (oi := ⟨_, _, _, _, _, _⟩) (v := .int .i64 (-1000 * m - (j : Int))) rfl (by kernel_rfl) (by kernel_rfl) (by kernel_rfl) (fun _ _ _ h => h) (Or.inl ⟨by rfl, fun w' h => by clear h; go_simp⟩) hH ?_
          simp only [Act.put, List.setIfInBounds_toArray, List.set_cons_zero, List.set_cons_succ]
          refine wpAnyH_take (i := 13) (oi := ⟨_, _, _, _, _, _⟩) (v := .int .i64 (mrk m j)) rfl (by kernel_rfl) (by kernel_rfl) (by kernel_rfl) (fun _ _ _ h => h) (Or.inl ⟨by rfl, fun w' h => by clear h; go_simp⟩) hH ?_
          simp only [Act.put, List.setIfInBounds_toArray, List.set_cons_zero, List.set_cons_succ]
          refine wpAnyH_take (i := 16) (oi := ⟨_, _, _, _, _, _⟩) (v := .int .i64 m) rfl (by kernel_rfl) (by kernel_rfl) (by kernel_rfl) (fun _ _ _ h => h) (Or.inl ⟨by rfl, fun w' h => by clear h; go_simp⟩) hH ?_
          simp only [Act.put, List.setIfInBounds_toArray, List.set_cons_zero, List.set_cons_succ]
          refine wpAnyH_take (i := 17) (oi := ⟨_, _, _, _, _, _⟩) (v := .int .i64 (-1000 * m)) rfl (by kernel_rfl) (by kernel_rfl) (by kernel_rfl) (fun _ _ _ h => h) (Or.inl ⟨by rfl, fun w' h => by clear h; go_simp⟩) hH ?_
          simp only [Act.put, List.setIfInBounds_toArray, List.set_cons_zero, List.set_cons_succ]
          refine wpAnyH_take (i := 18) (oi := ⟨_, _, _, _, _, _⟩) (v := .int .i64 (j : Int)) rfl (by kernel_rfl) (by kernel_rfl) (by kernel_rfl) (fun _ _ _ h => h) (Or.inl ⟨by rfl, fun w' h => by clear h; go_simp⟩) hH ?_
          simp only [Act.put, List.setIfInBounds_toArray, List.set_cons_zero, List.set_cons_succ]
          refine wpAnyH_take (i := 19) (oi := ⟨_, _, _, _, _, _⟩) (v := .int .i64 (-1000 * m - (j : Int))) rfl (by kernel_rfl) (by kernel_rfl) (by kernel_rfl) (fun _ _ _ h => h) (Or.inl ⟨by rfl, fun w' h => by clear h; go_simp⟩) hH ?_
          simp only [Act.put, List.setIfInBounds_toArray, List.set_cons_zero, List.set_cons_succ]
          refine wpAnyH_take (i := 20) (oi := ⟨_, _, _, _, _, _⟩) (v := .int .i64 (mrk m j)) rfl (by kernel_rfl) (by kernel_rfl) (by kernel_rfl) (fun _ _ _ h => h) (Or.inl ⟨by rfl, fun w' h => by clear h; go_simp⟩) hH ?_
          simp only [Act.put, List.setIfInBounds_toArray, List.set_cons_zero, List.set_cons_succ]
          refine wpAnyH_ready (rs := [14]) (by kernel_rfl) (by simp) ?_
          refine (AllReadyH.cons (o := ⟨_, _, _, _, _, _⟩) rfl (fun K hK => ?_) AllReadyH.nil)
          go_simp
          refine hK.out _ _ ⟨by have q := hH.1; have q2 := hH.2; go_simp, by have := hH.2; simp; omega⟩ (fun hH => ?_)
          clear hK K
          try simp only [Act.put, List.setIfInBounds_toArray, List.set_cons_zero, List.set_cons_succ]
          obtain ⟨ii, hi1, hi2, hi3, hi4⟩ := info7 Try.infoInt7
          refine wpAnyH_ready (rs := [15]) (by kernel_rfl) (by simp) ?_
          refine (AllReadyH.cons (o := ⟨_, _, _, _, _, _⟩) rfl (fun K hK => ?_) AllReadyH.nil)
          refine step_pair7 rfl _ _ _ rfl B 3 ii (.int .i64 0) 1 8 Try.underlying23 hi1 hi2 hi3 hi4 rfl (by omega) (.slice ra n rc) n (ibs7 (List.replicate n (mrk m j))) (by rfl) ?own1 V.heap.size #[.int .i64 (mrk m j)] (by rfl) rfl (Bk.new _ _ _) (by simp [Value.oneCell']) (by omega) (by omega) ?base1 ?next1
          case own1 => have := (HLD.out.od.l _ (List.mem_of_getElem? HMJ.out)).1; unfold OwI at this; simp only [List.length_replicate, HXN.out] at this; exact row7_below this (below1 _ _)
          case base1 => have h3 := HLD.out.bw; have h4 := HLD.out.f.size; simp; omega
          case next1 =>
            intro G X2 hG hc
            have hone := HLD.out.one HP.out HXN.out HWF.out hG hc
            obtain ⟨ga, gc, hgv, -⟩ := row7_form hG
            have HL2 := hm7 hone.1
            have HG2 := hm7 hone.2.1
            have hx2 : ug < X2.heap.size := by have h3 := hone.2.2; have h4 := HUG.out; have h5 := HLD.out.f.size; omega
            have hc2 : X2.cell? ⟨ug, j, none⟩ = some (.slice ra n rc) := by
              have hoo : X2.ownsRow B 23 1 (.slice (some ⟨ug, 0, none⟩) qn uc) qn ((mrkd m Q.length Q).map Prod.snd) := by have h9 := hone.1.od.o; rw [mrkd_len] at h9; generalize mrkd m Q.length Q = Z at h9 ⊢; rw [HQN.out] at h9; exact h9
              obtain ⟨ug2, e2, -, -, c2, -⟩ := row7_at hoo (i := j) (u := .slice ra n rc) (by rw [List.getElem?_map, HMJ.out]; rfl)
              cases e2
              exact c2
            subst hgv
            clear hG hc hone HLD
            refine hK.out _ _ ⟨hc2, hx2⟩ (fun hH => ?_)
            clear hK K hc2 hx2
            try simp only [Act.put, List.setIfInBounds_toArray, List.set_cons_zero, List.set_cons_succ]
            refine wpAnyH_take (i := 21) (oi := ⟨_, _, _, _, _, _⟩) (v := .agg #[.slice ra n rc, .slice ga (n + 1) gc, .int .i64 (mrk m j)]) rfl (by kernel_rfl) (by kernel_rfl) (by kernel_rfl) (fun _ _ _ h => h) (Or.inl ⟨by rfl, fun w' h => by clear h; go_simp⟩) hH ?_
            simp only [Act.put, List.setIfInBounds_toArray, List.set_cons_zero, List.set_cons_succ]
            refine wpAnyH_ready (rs := [22]) (by kernel_rfl) (by simp) ?_
            refine (AllReadyH.cons (o := ⟨_, _, _, _, _, _⟩) rfl (fun K hK => ?_) AllReadyH.nil)
            go_simp
            refine hK.out _ _ ⟨by have q := hH.1; have q2 := hH.2; go_simp, by have := hH.2; simp; omega⟩ (fun hH => ?_)
            clear hK K
            try simp only [Act.put, List.setIfInBounds_toArray, List.set_cons_zero, List.set_cons_succ]
            refine wpAnyH_ready (rs := [23]) (by kernel_rfl) (by simp) ?_
            refine (AllReadyH.cons (o := ⟨_, _, _, _, _, _⟩) rfl (fun K hK => ?_) AllReadyH.nil)
            refine gstepN Try.underlying49 Try.infoKept7 rfl (by omega) (by omega) rfl _ _ rfl w.heap.size (.slice va j vc) j (kps Ks) (by rfl) (row7_below HL2.out.o (below1 _ _)) X2.heap.size #[.slice ra n rc, .slice ga (n + 1) gc, .int .i64 (mrk m j)] (by rfl) (Bk.new _ _ _) rfl (by simp [Value.oneCell']) (by omega) (by have h4 := HL2.out.f.size; simp; omega) ?_
            intro g4 c4 X4 ho4 hg4 hv4 hl4
            have HLF := hm7 (HL2.out.two HP.out HXN.out HG2.out ho4 hg4 hv4)
            have hx4 : ug < X4.heap.size := by have h4 := HUG.out; have h5 := HLF.out.f.size; omega
            have hc4 : X4.cell? ⟨ug, j, none⟩ = some (.slice ra n rc) := by
              have hoo : X4.ownsRow B 23 1 (.slice (some ⟨ug, 0, none⟩) qn uc) qn ((mrkd m Q.length Q).map Prod.snd) := by have h9 := HLF.out.od.o; rw [mrkd_len] at h9; generalize mrkd m Q.length Q = Z at h9 ⊢; rw [HQN.out] at h9; exact h9
              obtain ⟨ug2, e2, -, -, c2, -⟩ := row7_at hoo (i := j) (u := .slice ra n rc) (by rw [List.getElem?_map, HMJ.out]; rfl)
              cases e2
              exact c2
            refine hK.out _ _ ⟨hc4, hx4⟩ (fun hH => ?_)
            clear hK K hc4 hx4 ho4 hg4 hv4 hl4 HL2 HG2
            try simp only [Act.put, List.setIfInBounds_toArray, List.set_cons_zero, List.set_cons_succ]
            refine wpAnyH_take (i := 24) (oi := ⟨_, _, _, _, _, _⟩) (v := .slice (some ⟨g4, 0, none⟩) (j + 1) c4) rfl (by kernel_rfl) (by kernel_rfl) (by kernel_rfl) (fun _ _ _ h => h) (Or.inl ⟨by rfl, fun w' h => by clear h; go_simp⟩) hH ?_
            simp only [Act.put, List.setIfInBounds_toArray, List.set_cons_zero, List.set_cons_succ]
            refine wpAnyH_done (by kernel_rfl) ?_ _
            clear hH
            go_wp2
            go_roundg gg
            case measure => omega
            case rel => exact ⟨j + 1, _, by omega, by go_num, HLF.out⟩
        | zero =>
          have jlt : ¬ (j : Int) < (qn : Int) := by omega
          obtain rfl : qn = j := by omega
          go_wp2
          go_ret
          exact ⟨_, _, rfl, by rw [HQN.out]; exact HLN.out⟩
end Go.Proofs.Ytofopfjmcbgfjaa
