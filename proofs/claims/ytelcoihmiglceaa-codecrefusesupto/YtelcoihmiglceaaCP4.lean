/-
  codec.Proof.
-/
import Derived.Test.YtelcoihmiglceaaCP3
namespace Go.Proofs.Ytelcoihmiglceaa
open Go.RowKit

theorem knd_con {t : Tm} (h : t.con = true) : knd t := knd_cov (by unfold Tm.cov; simp [h])
theorem ctwo {w : World} {g : Nat} {a b : Value} {t : TypeId} (h : CBlk w g #[a, b] t) : w.cell? ⟨g, 0, none⟩ = some a ∧ w.cell? ⟨g, 1, none⟩ = some b :=
  two_at h 0 a b rfl rfl
theorem bnP_nil (w : World) : Bn w (.slice none 0 0) [] := ⟨none, 0, rfl, Nat.le_refl _, by simp, Or.inl rfl⟩
set_option maxRecDepth 20000 in
set_option maxHeartbeats 600000 in
theorem proofW_any (R : List Cm) (S : List St) (rv sv : Value) (w : World) (hR : CsP w rv R) (hS : SsP w sv S) (hwf : ∀ c ∈ R, c.wf) (hl1 : R.length ≤ 1000000000000) (hl2 : S.length ≤ 1000000000000)
    (hbd : fErr R = 0 → S.all wSt = true → (R.flatMap cBm).length + (S.flatMap sBm).length ≤ 90000000000) :
    Calls Try.prog 7 #[.agg #[rv, sv]] w fun e w' => ∃ v, e = .returned (.tuple #[v, .int .i64 (pErr R S)]) ∧ Bn w' v (if pErr R S = 0 then pB R S else []) ∧ Below w.heap.size w w' := by
  have HFE : Hid (∀ X : World, Below w.heap.size w X → Calls Try.prog 22 #[rv] X fun e w' => e = .returned (.int .i64 (fErr R)) ∧ Below X.heap.size X w') := fun X hX => firstError_any R rv X (hR.later hX) hwf hl1
  have HPC : Hid (fErr R = 0 → S.all wSt = true → ∀ X : World, Below w.heap.size w X → Calls Try.prog 24 #[.slice none 0 0, .int .i64 4, rv, .func (.func 25) #[] #[]] X fun e w' => ∃ v', e = .returned v' ∧ Wr X w.heap.size (be 4 (R.length : Int) ++ R.flatMap cBm) v' w') := fun h1 h2 X hX => by
    have hb := hbd h1 h2
    have := putClauses_any R (fErr_zero h1) (by omega) rv (.slice none 0 0) [] w.heap.size X (ownB_nil _ _) (by simp only [List.length_nil]; omega) hX.size (hR.later hX) (fun Y hY => hR.later (hX.trans hY))
    rwa [List.nil_append] at this
  have HPS : Hid (fErr R = 0 → S.all wSt = true → ∀ (v1 : Value) (X : World), OwnB X w.heap.size v1 (be 4 (R.length : Int) ++ R.flatMap cBm) → Below w.heap.size w X → Calls Try.prog 26 #[v1, .int .i64 4, sv, .func (.func 27) #[] #[]] X fun e w' => ∃ v', e = .returned v' ∧ Wr X w.heap.size (pB R S) v' w') := fun h1 h2 v1 X ho hX => by
    have hb := hbd h1 h2
    exact putSteps_any S (fun t ht x hx => knd_con (by
      have := List.all_eq_true.1 h2 t ht
      unfold wSt wOk at this
      rw [Bool.and_eq_true] at this
      exact List.all_eq_true.1 this.1 x hx)) (by omega) sv v1 _ w.heap.size X ho (by rw [List.length_append, be_len]; omega) hX.size (hS.later hX) (fun Y hY => hS.later (hX.trans hY))
  have HLB : Hid (fErr R = 0 → S.all wSt = true → (pB R S).length < 1000000000000000000) := fun h1 h2 => by
    have hb := hbd h1 h2
    unfold pB
    simp only [List.length_append, be_len]; omega
  have HS : Hid (SsP w sv S) := hS
  obtain ⟨ra, rc, rfl⟩ := hR.form
  obtain ⟨sa, sc, rfl⟩ := hS.form
  have HX : Hid (CBlk (w.alloc (.cells #[.slice ra R.length rc, .slice sa S.length sc] 25)) w.heap.size #[.slice ra R.length rc, .slice sa S.length sc] 25) := CBlk.new _ _ _
  have HW0 : Hid (Below w.heap.size w (w.alloc (.cells #[.slice ra R.length rc, .slice sa S.length sc] 25))) := below1 _ _
  clear hR hS hwf hbd
  by_cases hF : fErr R = 0
  · rw [hF] at HFE
    have hpE : pErr R S = if S.all wSt = true then 0 else 63 := by unfold pErr; rw [if_pos hF]
    rw [hpE]
    obtain ⟨G, hG⟩ : ∃ g, S.all wSt = g := ⟨_, rfl⟩
    rw [hG]
    have HG : Hid ((S.drop 0).all wSt = G) := hG
    have HF : Hid (fErr R = 0) := hF
    clear hF hG hpE
    go_enter Try.func7, Try.ntmps7
    go_wp2_with (go_at_call 22; refine (HFE.out _ (below1 _ _)).mono ?_; rintro e w1 ⟨rfl, hb⟩; have HX1 : Hid (CBlk w1 w.heap.size _ 25) := HX.out.later hb; have HW1 : Hid (Below w.heap.size w w1) := below_step HW0.out hb; obtain ⟨c0, c1⟩ := ctwo HX1.out; clear hb)
    clear HX HW0 HFE
    go_loopg [17] S.length (fun g i wr => ∃ j : Nat, j + g = S.length ∧ i = .int .i64 j ∧ (S.drop j).all wSt = G ∧ Below w1.heap.size w1 wr)
    case atStart => exact ⟨0, by omega, rfl, HG.out, Below.refl _ _⟩
    case round =>
      obtain ⟨j, hj, rfl, hGj, hb⟩ := hrel
      have HGj : Hid ((S.drop j).all wSt = G) := hGj
      have HB : Hid (Below w1.heap.size w1 wr) := hb
      clear hGj hb c0 c1
      cases gk with
      | succ g =>
        have hlt : (j : Int) < (S.length : Int) := by omega
        have j0 : (0 : Int) ≤ (j : Int) := by omega
        obtain ⟨t, ht⟩ : ∃ t, S[j]? = some t := ⟨_, List.getElem?_eq_getElem (by omega)⟩
        obtain ⟨b, o, rfl, hbs, hr, hok⟩ := ((HS.out.later HW1.out).later HB.out).at_ ht
        have HSj : Hid ((wSt t && (S.drop (j + 1)).all wSt) = G) := by show _ = _; rw [← all_drop ht]; exact HGj.out
        have HWT : Hid (∀ X : World, Below wr.heap.size wr X → Calls Try.prog 23 #[t.v] X fun e w' => e = .returned (.bool (wSt t)) ∧ Below X.heap.size X w') := fun X hX => writable_any t X (hok.later hX)
        obtain ⟨c0, c1, c2⟩ := hr.three ht
        obtain ⟨⟨a1, cap1, x1⟩, ⟨a2, cap2, x2⟩, -, -⟩ := hok.shape
        generalize wSt t = E at *
        obtain ⟨tr, tt, tv, tu, tw⟩ := t
        simp only at c0 c1 c2 x1 x2
        subst x1 x2
        clear hr hok ht HGj
        cases E
        · obtain rfl : false = G := by have := HSj.out; rwa [Bool.false_and] at this
          clear HSj
          go_wp2_with (go_at_call 23; refine (HWT.out _ (below1 _ _)).mono ?_; rintro e w2 ⟨rfl, hb⟩; have HB2 : Hid (Below w.heap.size w w2) := below_step HW1.out (below_step (below_step HB.out (below1 _ _)) hb); clear hb)
          exact bodyPost_ret (v := .tuple #[.slice none 0 0, .int .i64 63]) (by simp [results, Try.results7, go_sem]) rfl ⟨_, rfl, bnP_nil _, HB2.out⟩
        · have HS2 : Hid ((S.drop (j + 1)).all wSt = G) := by have := HSj.out; rwa [Bool.true_and] at this
          clear HSj
          go_wp2_with (go_at_call 23; refine (HWT.out _ (below1 _ _)).mono ?_; rintro e w2 ⟨rfl, hb⟩; have HB2 : Hid (Below w1.heap.size w1 w2) := below_step (below_step HB.out (below1 _ _)) hb; clear hb)
          go_roundg g
          case measure => omega
          case rel => exact ⟨j + 1, by omega, by go_num, HS2.out, HB2.out⟩
      | zero =>
        obtain rfl : j = S.length := by omega
        obtain rfl : true = G := by have := HGj.out; rwa [List.drop_length] at this
        have HA : Hid (S.all wSt = true) := HG.out
        have hz : ¬ ((S.length : Int) < (S.length : Int)) := by omega
        have HX2 : Hid (CBlk wr w.heap.size _ 25) := HX1.out.later HB.out
        have HWr : Hid (Below w.heap.size w wr) := below_step HW1.out HB.out
        obtain ⟨c0, c1⟩ := ctwo HX2.out
        clear HGj HG HB HW1 HX1
        go_wp2_with (first
          | (go_at_call 24; refine (HPC.out HF.out HA.out _ HWr.out).mono ?_; rintro e w3 ⟨v3, rfl, hw3⟩; have HW3 : Hid (Wr w w.heap.size _ v3 w3) := ⟨hw3.own, HWr.out.trans hw3.low, (K8.of HWr.out).trans hw3.k8⟩; have HX3 : Hid (CBlk w3 w.heap.size _ 25) := Blk.k8 HX2.out hw3.k8 (by decide); clear c0 c1; obtain ⟨c0, c1⟩ := ctwo HX3.out; clear hw3)
          | (go_at_call 26; refine (HPS.out HF.out HA.out _ _ HW3.out.own HW3.out.low).mono ?_; rintro e w4 ⟨v4, rfl, hw4⟩))
        exact bodyPost_ret (v := .tuple #[v4, .int .i64 0]) (by simp [results, Try.results7, go_sem]) rfl ⟨_, rfl, hw4.own.bn (HLB.out HF.out HA.out), HW3.out.low.trans hw4.low⟩
  · have hpE : pErr R S = fErr R := by unfold pErr; rw [if_neg hF]
    rw [hpE, if_neg hF]
    have hne : (fErr R != 0) = true := by simpa using hF
    generalize fErr R = F at *
    clear hF hpE HPC HPS HLB
    go_enter Try.func7, Try.ntmps7
    go_wp2_with (go_at_call 22; refine (HFE.out _ (below1 _ _)).mono ?_; rintro e w1 ⟨rfl, hb⟩; have HW1 : Hid (Below w.heap.size w w1) := below_step HW0.out hb; clear hb)
    exact bodyPost_ret (v := .tuple #[.slice none 0 0, .int .i64 F]) (by simp [results, Try.results7, go_sem]) rfl ⟨_, rfl, bnP_nil _, HW1.out⟩
end Go.Proofs.Ytelcoihmiglceaa
