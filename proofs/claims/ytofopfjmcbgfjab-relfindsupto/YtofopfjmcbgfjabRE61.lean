/-
  law 7: plays, one kind of step (written by RE6.py).
-/
import Derived.Test.YtofopfjmcbgfjabRE60
namespace Go.Proofs.Ytofopfjmcbgfjab
open Go.RowKit
attribute [local go_sem ↓] Go.wp_at_zero Go.wp_at_succ
set_option maxRecDepth 20000 in
set_option maxHeartbeats 8000000 in
theorem plays7_1 (w : World) (T R : Nat → Prop) (g h m : Nat) (s : St7) (Y : World) (k parts stop : Int) (two : Bool) (row cols key : List Int) (rv cv kv : Value) (H : BO w T R g h m s Y) (ho : OpM w Y ⟨k, parts, stop, two, row, cols, key⟩ rv cv kv) (hm : m ≤ 10000000000000) (hc : s.rows.length < 10000000000) (hkk : k = 1) :
    Calls Try.prog 8 #[.agg #[.pointer (some ⟨g, 0, none⟩), .pointer (some ⟨h, 0, none⟩)], opv ⟨k, parts, stop, two, row, cols, key⟩ rv cv kv] Y (PyQ w T R g h m (step7 s k row) Y) := by
  have HKK := hm7 hkk
  clear hkk
  unfold opv
  simp only
  obtain ⟨Y0, hY0⟩ : ∃ Y0, (Y.alloc (.cells #[.pointer (some ⟨g, 0, none⟩), .pointer (some ⟨h, 0, none⟩)] 28)).alloc (.cells #[.int .i64 k, .int .i64 parts, .int .i64 stop, .bool two, rv, cv, kv] 34) = Y0 := ⟨_, rfl⟩
  have hz0 : Y0.heap.size = Y.heap.size + 2 := by rw [← hY0]; simp
  have hb0 : Below Y.heap.size Y Y0 := by rw [← hY0]; exact (below1 _ _).trans ((below1 _ _).mono (by simp))
  have hk0 : Bk Y0 Y.heap.size #[.pointer (some ⟨g, 0, none⟩), .pointer (some ⟨h, 0, none⟩)] 28 := by rw [← hY0]; exact (Bk.new _ _ _).below (below1 _ _)
  have hk1 : Bk Y0 (Y.heap.size + 1) #[.int .i64 k, .int .i64 parts, .int .i64 stop, .bool two, rv, cv, kv] 34 := by rw [← hY0]; have := Bk.new (Y.alloc (.cells #[.pointer (some ⟨g, 0, none⟩), .pointer (some ⟨h, 0, none⟩)] 28)) #[.int .i64 k, .int .i64 parts, .int .i64 stop, .bool two, rv, cv, kv] 34; simpa using this
  have HT : Hid (∀ b, T b ∨ R b → w.heap.size ≤ b ∧ b < Y.heap.size) := fun b hb => hb.elim (H.p.t b) (H.r.t b)
  have hbw := H.p.b.size
  have HB0 := hm7 hb0
  have HK0 := hm7 hk0
  have HK1 := hm7 hk1
  have HO := hm7 ho
  have H0 := hm7 H
  have HW : Hid (w64 row) := by obtain ⟨a, c, -, -, -, h, -⟩ := ho.r; exact h
  have hrl : row.length ≤ 1000000000 := ho.rl
  obtain ⟨ra, rc, hrv⟩ : ∃ a c, rv = .slice a row.length c := by obtain ⟨a, c, e, -⟩ := ho.r; exact ⟨_, _, e⟩
  obtain ⟨n, hn⟩ : ∃ n, row.length = n := ⟨_, rfl⟩
  rw [hn] at hrv hrl
  subst hrv
  have HN := hm7 hn
  have HMM := hm7 hm
  have HCC := hm7 hc
  have c4 := hk1.cell (i := 4) rfl
  have c5 := hk1.cell (i := 0) rfl
  have HRO := hm7 (roomy7_any _ (.slice ra n rc) row Y0 (ho.r.below hb0) (by omega))
  clear H ho hb0 hk0 hk1 hn hm hc
  go_enter Try.func8, Try.ntmps8
  go_upto_region 2 with (go_at_call 17; refine HRO.out.mono ?_; rintro e Y1 ⟨qv, rfl, ho1, hb1⟩; obtain ⟨qa, qc, hqv, hqc⟩ := row7_form ho1; have e1 : (row ++ [71, 72, 73]).length = n + 3 := by {rw [List.length_append, HN.out]; rfl}; rw [e1] at hqv hqc; subst hqv; have HQ1 := hm7 ho1; have HB1 := hm7 hb1; clear ho1 hb1 e1)
  have hs1 := HB1.out.size
  have HX1 := hm7 (BX.refl ((H0.out.below HB0.out).below HB1.out))
  have HKA := hm7 (HK0.out.below HB1.out)
  have HKB := hm7 (HK1.out.below HB1.out)
  have HNA : Hid (¬ T Y.heap.size ∧ ¬ R Y.heap.size) := ⟨fun hc => by have := (HT.out _ (Or.inl hc)).2; omega, fun hc => by have := (HT.out _ (Or.inr hc)).2; omega⟩
  have HNB : Hid (¬ T (Y.heap.size + 1) ∧ ¬ R (Y.heap.size + 1)) := ⟨fun hc => by have := (HT.out _ (Or.inl hc)).2; omega, fun hc => by have := (HT.out _ (Or.inr hc)).2; omega⟩
  have HRV : Hid (Li (fun b => b < w.heap.size) Y1 (.slice ra n rc) row) := (HO.out.r.below HB0.out).below HB1.out
  have HNL : Hid (∀ b, b < Y1.heap.size → b < w.heap.size → ¬ T b ∧ ¬ R b) := fun b _ hb => ⟨fun hc => by have := (HT.out _ (Or.inl hc)).1; omega, fun hc => by have := (HT.out _ (Or.inr hc)).1; omega⟩
  have HQL : Hid (Li (fun b => Y0.heap.size ≤ b) Y1 (.slice qa (n + 3) qc) (row ++ [71, 72, 73])) := (HQ1.out.li (w64_marks HW.out)).mono fun b _ hb => hb.1
  have HQF : Hid (Li (fun b => Y0.heap.size ≤ b) Y1 (.slice qa n qc) row) := by have := HQ1.out.front (w64_marks HW.out); rw [HN.out] at this; exact this
  have HNQ : Hid (∀ b, b < Y1.heap.size → Y0.heap.size ≤ b → ¬ T b ∧ ¬ R b) := fun b _ hb => ⟨fun hc => by have := (HT.out _ (Or.inl hc)).2; omega, fun hc => by have := (HT.out _ (Or.inr hc)).2; omega⟩
  have HOM : Hid (OpM w Y1 ⟨k, parts, stop, two, row, cols, key⟩ (.slice ra n rc) cv kv) := ⟨HRV.out, (HO.out.c.below HB0.out).below HB1.out, (HO.out.k.below HB0.out).below HB1.out, HO.out.rl, HO.out.cl, HO.out.kl⟩
  clear HRO HO c4 c5 HK0 HK1
  have hqn : n ≤ qc := by omega
  have a0 := HKA.out.cell (i := 0) rfl
  have a1 := HKA.out.cell (i := 1) rfl
  have b0 := HKB.out.cell (i := 0) rfl
  have b1 := HKB.out.cell (i := 1) rfl
  have b4' := HKB.out.cell (i := 4) rfl
  go_upto_block 0 with fail
  go_cut [6] from 7 to 101 (fun s6 wx => s6 = .bool true ∧ ∃ m', m' ≤ m + 3 ∧ BX w T R g h m' (step7 s k row) Y1 wx)
  case rest =>
    obtain ⟨rfl, m', hm', hx⟩ := hcut
    have HXF := hm7 hx
    clear hx a0 a1 b0 b1 b4'
    have HMD := hm7 HXF.out.md
    have b4 := (HMD.out.kin HKB.out HNB.out).cell (i := 4) rfl
    have HRO := hm7 (roomy7_any _ (.slice ra n rc) row wc (HMD.out.li HRV.out HNL.out) (by have := HN.out; omega))
    go_upto_region 20 with (first | (go_at_call 17; refine HRO.out.mono ?_; rintro e W5 ⟨pv, rfl, ho5, hb5⟩; have HO5 := hm7 ho5; have HB5 := hm7 hb5; clear ho5 hb5) | (go_at_call 26; refine (same7_any _ _ (row ++ [71, 72, 73]) (row ++ [71, 72, 73]) (.slice qa (n + 3) qc) pv W5 ((HMD.out.below HB5.out).li HQL.out HNQ.out) (HO5.out.li (w64_marks HW.out))).mono ?_; rw [decide_eq_true rfl]; rintro e W6 ⟨rfl, n6, rfl⟩))
    have hs5 := HB5.out.size
    have HXE := hm7 ((HXF.out.below HB5.out).below (below_dn7 W5 n6))
    have HQE : Hid (OwI (W5.drewN n6) Y0.heap.size (.slice qa (n + 3) qc) (row ++ [71, 72, 73])) := row7_fr HQ1.out HXE.out.1 fun b hb hc => by have := (World.ownsRow.lt HQ1.out b hb).1; have := (HT.out b hc).2; omega
    clear b4 HRO
    generalize W5.drewN n6 = W6 at *
    go_wp2
    go_loopg [11] (n + 3) (fun gg i wr => ∃ (j : Nat) (l : List Int), j + gg = n + 3 ∧ i = .int .i64 j ∧ l.length = n + 3 ∧ OwI wr Y0.heap.size (.slice qa (n + 3) qc) l ∧ Fr (fun b => (Value.slice qa (n + 3) qc).ownBlock = some b) W6 wr)
    case atStart => exact ⟨0, _, by omega, rfl, by rw [List.length_append, HN.out]; rfl, HQE.out, Fr.refl _ _⟩
    case round =>
      obtain ⟨j, l, hj, rfl, hll, hol, hfl⟩ := hrel
      have HOL := hm7 hol
      have HFL := hm7 hfl
      have HLL := hm7 hll
      clear hol hfl hll
      cases gk with
      | succ gg =>
        have hlt : (j : Int) < ((n + 3 : Nat) : Int) := by omega
        have hlt' : (j : Int) < (n : Int) + 3 := by omega
        have j0 : (0 : Int) ≤ (j : Int) := by omega
        obtain ⟨x, hx⟩ : ∃ x, l[j]? = some x := ⟨_, List.getElem?_eq_getElem (by have := HLL.out; omega)⟩
        have ho' : wr.ownsRow Y0.heap.size 3 1 (.slice qa (n + 3) qc) (n + 3) (ibs7 l) := by have := HOL.out; unfold OwI at this; rw [HLL.out] at this; exact this
        obtain ⟨bq, rfl, -, -, p0, p1⟩ := row7_at ho' (i := j) (u := .int .i64 x) (by simp only [ibs7, List.getElem?_map, hx]; rfl)
        have HPU := hm7 (row7_put (i := j) ho' (.int .i64 99))
        clear hx ho'
        go_wp2
        go_roundg gg
        case measure => omega
        case rel =>
          refine ⟨j + 1, l.set j 99, by omega, by go_num, by rw [List.length_set]; exact HLL.out, ?_, HFL.out.set (Or.inl rfl)⟩
          unfold OwI
          rw [List.length_set, HLL.out, ibs7, List.map_set]
          exact HPU.out
      | zero =>
        have hlt : ¬ (j : Int) < ((n + 3 : Nat) : Int) := by omega
        have hlt' : ¬ (j : Int) < (n : Int) + 3 := by omega
        go_wp2
        go_ret
        refine ⟨rfl, m', by omega, ?_⟩
        exact BX.off HXE.out HFL.out (HB0.out.trans (HB1.out.mono (by omega))) (fun b hb => (HT.out b hb).2) hbw fun b hb => ⟨by have := (World.ownsRow.lt HQ1.out b hb).1; omega, (World.ownsRow.lt HQ1.out b hb).2⟩
  case first =>
    have hkk := HKK.out
    subst hkk
    by_cases hw1 : row.length = s.wd
    · have HST : Hid (step7 s 1 row = ad7 s row) := by show _ = _; unfold step7; rw [if_pos ⟨rfl, hw1⟩]
      obtain ⟨bb, hbb⟩ : ∃ b, decide (row ∉ s.rows) = b := ⟨_, rfl⟩
      have HA1 : Hid (∀ W, MD w T R g h m s s Y1 W → Calls Try.prog 13 #[.pointer (some ⟨g, 0, none⟩), .slice qa n qc] W fun e W' => e = .returned (.tuple #[.bool bb, .int .i64 0]) ∧ MD w T R g h m (ad7 s row) s Y1 W') := fun W hW => by have := md_add hW (hW.li HQF.out HNQ.out) hw1 (by have := HN.out; omega) HCC.out; rw [hbb] at this; exact this
      have HA2 : Hid (∀ W, MD w T R g h m (ad7 s row) s Y1 W → Calls Try.prog 18 #[.pointer (some ⟨h, 0, none⟩), .slice ra n rc] W fun e W' => e = .returned (.tuple #[.bool bb, .int .i64 0]) ∧ MD w T R g h m (ad7 s row) (ad7 s row) Y1 W') := fun W hW => by have := md_radd hW (hW.li HRV.out HNL.out) hw1 (by have := HN.out; omega) HCC.out; rw [hbb] at this; exact this
      clear hbb hw1
      have HXD := hm7 HX1.out.drew.md
      go_upto_region 5 with fail
      go_region_with (go_at_call 13; refine Calls.mono (HA1.out _ HXD.out) ?_; rintro e WL ⟨rfl, hx⟩; have x0 := (hx.kin HKA.out HNA.out).cell (i := 0) rfl; have x1 := (hx.kin HKA.out HNA.out).cell (i := 1) rfl; have y1 := (hx.kin HKB.out HNB.out).cell (i := 1) rfl; have y4 := (hx.kin HKB.out HNB.out).cell (i := 4) rfl; have HXL := hm7 hx; clear hx)
      all_goals go_wp2_with (go_at_call 18; refine Calls.mono (HA2.out _ HXL.out) ?_; rintro e WF ⟨rfl, hx⟩; have HXF := hm7 hx.bx; clear hx)
      all_goals (go_meet; exact ⟨rfl, m, by omega, by rw [HST.out]; exact HXF.out⟩)
    · have HST : Hid (step7 s 1 row = s) := by show _ = _; unfold step7; rw [if_neg (fun e => hw1 e.2), if_neg (by simp)]
      have HA1 : Hid (∀ W, MD w T R g h m s s Y1 W → Calls Try.prog 13 #[.pointer (some ⟨g, 0, none⟩), .slice qa n qc] W fun e W' => e = .returned (.tuple #[.bool false, .int .i64 71]) ∧ MD w T R g h m s s Y1 W') := fun W hW => md_no hW (hW.li HQF.out HNQ.out) hw1
      have HA2 : Hid (∀ W, MD w T R g h m s s Y1 W → Calls Try.prog 18 #[.pointer (some ⟨h, 0, none⟩), .slice ra n rc] W fun e W' => e = .returned (.tuple #[.bool false, .int .i64 71]) ∧ MD w T R g h m s s Y1 W') := fun W hW => md_rno hW (hW.li HRV.out HNL.out) hw1
      clear hw1
      have HXD := hm7 HX1.out.drew.md
      go_upto_region 5 with fail
      go_region_with (go_at_call 13; refine Calls.mono (HA1.out _ HXD.out) ?_; rintro e WL ⟨rfl, hx⟩; have x0 := (hx.kin HKA.out HNA.out).cell (i := 0) rfl; have x1 := (hx.kin HKA.out HNA.out).cell (i := 1) rfl; have y1 := (hx.kin HKB.out HNB.out).cell (i := 1) rfl; have y4 := (hx.kin HKB.out HNB.out).cell (i := 4) rfl; have HXL := hm7 hx; clear hx)
      all_goals go_wp2_with (go_at_call 18; refine Calls.mono (HA2.out _ HXL.out) ?_; rintro e WF ⟨rfl, hx⟩; have HXF := hm7 hx.bx; clear hx)
      all_goals (go_meet; exact ⟨rfl, m, by omega, by rw [HST.out]; exact HXF.out⟩)
end Go.Proofs.Ytofopfjmcbgfjab
