/-
  law 7: RelApart's walk. (Written by RH8.py.)
-/
import Derived.Test.YtofopfjmcbgfjaaRH7
import Derived.Test.YtofopfjmcbgfjaaRA31
namespace Go.Proofs.Ytofopfjmcbgfjaa
open Go.RowKit
attribute [local go_sem ↓] Go.wp_at_zero Go.wp_at_succ

theorem Try.infoIntss7 : (Try.prog.info? 29).map (fun i => (i.zero, i.size, i.bytes)) = some (some (.slice none 0 0), 1, 24) := by kernel_rfl
theorem kps_one {Ks : List Kp} (h : ∀ k ∈ Ks, k.L.oneCell' = true ∧ k.G.oneCell' = true) : ∀ u ∈ kps Ks, u.oneCell' = true := by
  intro u hu
  simp only [kps, List.mem_flatMap, Kp.cs] at hu
  obtain ⟨k, hk, hu⟩ := hu
  simp only [List.mem_cons, List.not_mem_nil, or_false] at hu
  rcases hu with rfl | rfl | rfl
  · exact (h k hk).1
  · exact (h k hk).2
  · rfl
theorem part_val {x : List Value} {t : Nat} (M : Value) (h : t < x.length) : (List.replicate t M ++ x.drop t).set t M = List.replicate (t + 1) M ++ x.drop (t + 1) := by
  apply List.ext_getElem?
  intro i
  rw [List.getElem?_set, List.getElem?_append, List.getElem?_append, List.length_replicate, List.length_replicate, List.getElem?_replicate, List.getElem?_replicate, List.getElem?_drop, List.getElem?_drop]
  by_cases e : t = i
  · subst e
    rw [if_pos rfl, if_pos (by simp; omega), if_pos (by omega), if_pos (by omega)]
  · rw [if_neg e]
    by_cases hi : i < t
    · rw [if_pos hi, if_pos hi, if_pos (by omega), if_pos (by omega)]
    · rw [if_neg hi, if_neg (by omega)]
      congr 1
      omega
theorem R9_len {s : St7} (ho : s.Ok) : (R9 s).length = s.rows.length := by unfold R9; rw [(srt7_perm _).length_eq, sel_seven ho]
theorem R9_row {s : St7} (ho : s.Ok) : ∀ x ∈ R9 s, x.length = s.wd := fun x hx => ho.wid x (by have := (srt7_perm _).mem_iff.1 hx; rw [sel_seven ho] at this; exact this)
/-- What RelApart carries from round to round. -/
def AQ (w : World) (g1 g2 k : Nat) (lv : Value) (Lq : List (List Int × Value)) (q : Nat) (kv ov : Value) (W : World) : Prop :=
  ∃ T1 T2 X m s Ks Os, GD w T1 T2 X g1 g2 m m s s kv Ks ov Os lv Lq [] [] W ∧ m ≤ 8 * q ∧ s.wd = k ∧ s.rows.length ≤ 1048576 + q ∧ Os.length = q ∧ Ks.length ≤ 8 * q * 1048600
set_option maxRecDepth 20000 in
set_option maxHeartbeats 8000000 in
theorem relApart7_any (x : Int) (Bs : List (List (List Int × Value) × Value)) (v mv : Value) (Pm : List (List Int × Value)) (w : World) (h : Bt7 w v Bs) (hmv : Rn7 w mv Pm) (hB : tot7 Bs ≤ 1048576) (hBl : Bs.length ≤ 1048576) (hPm : Pm.length ≤ 1048576) :
    Calls Try.prog 6 #[.int .i64 x, v, .agg #[mv]] w fun e w' => e = .returned (.bool true) ∧ Below w.heap.size w w' := by
  have HBT := hm7 h
  have HMV := hm7 hmv
  obtain ⟨va, vn, vc, rfl⟩ : ∃ a n c, v = .slice a n c := by obtain ⟨a, c, e, -⟩ := h; exact ⟨_, _, _, e⟩
  obtain ⟨ma, mn, mc, rfl⟩ : ∃ a n c, mv = .slice a n c := by obtain ⟨a, c, e, -⟩ := hmv; exact ⟨_, _, _, e⟩
  clear h hmv
  obtain ⟨W0, hW0⟩ : ∃ W0, w.alloc (.cells #[.slice ma mn mc] 43) = W0 := ⟨_, rfl⟩
  have hz0 : W0.heap.size = w.heap.size + 1 := by rw [← hW0]; simp
  have HW0 : Hid (Below w.heap.size w W0 ∧ Bk W0 w.heap.size #[.slice ma mn mc] 43) := by show _ ∧ _; rw [← hW0]; exact ⟨below1 _ _, Bk.new _ _ _⟩
  have hk5 := sm7_le x
  obtain ⟨k, hk⟩ : ∃ k, sm7 x = k := ⟨_, rfl⟩
  have HSM := hm7 (small7_any x W0)
  rw [hk] at HSM hk5
  clear hk
  obtain ⟨s0, hs0⟩ : ∃ s, grw k Bs Bs.length = s := ⟨_, rfl⟩
  have HS0 : Hid (s0.wd = k ∧ s0.rows.length ≤ 1048576) := by
    rw [← hs0]
    exact ⟨grw_wd _ _ _, Nat.le_trans (grw_len k Bs Bs.length (Nat.le_refl _)) (Nat.le_trans (tot7_le Bs Bs.length) hB)⟩
  have HG1 := hm7 (grown7_any Bs (.slice va vn vc) k W0 (HBT.out.below HW0.out.1) hk5 hB hBl)
  rw [hs0] at HG1
  go_enter Try.func6, Try.ntmps6
  go_upto_region 2 with (go_at_call 9; refine HSM.out.mono ?_; rintro e W1 ⟨rfl, h1⟩; rw [h1]; clear h1 W1)
  go_upto_region 3 with (go_at_call 10; refine HG1.out.mono ?_; rintro e W1 ⟨g1, F1, S1, rfl, hr1, hd1, hb1⟩; have HP1 : Hid (PT w (fun b => W0.heap.size ≤ b ∧ b < W1.heap.size) g1 0 s0 W1) := ⟨F1, S1, hr1, fun b hb => ⟨hd1 b hb, hb.elim (fun h => (hr1.q b h).2) (hr1.q2 b)⟩, fun b hb => ⟨by omega, hb.2⟩, bel7 HW0.out.1 hb1⟩; have HB1 := hm7 hb1; clear hr1 hd1 hb1)
  clear HG1 HSM hW0
  have HG2 := hm7 (grown7_any Bs (.slice va vn vc) k W1 ((HBT.out.below HW0.out.1).below HB1.out) hk5 hB hBl)
  rw [hs0] at HG2
  have hs1 := HB1.out.size
  go_upto_region 4 with (go_at_call 10; refine HG2.out.mono ?_; rintro e W2 ⟨g2, F2, S2, rfl, hr2, hd2, hb2⟩; have HP2 : Hid (PT w (fun b => W1.heap.size ≤ b ∧ b < W2.heap.size) g2 0 s0 W2) := ⟨F2, S2, hr2, fun b hb => ⟨hd2 b hb, hb.elim (fun h => (hr2.q b h).2) (hr2.q2 b)⟩, fun b hb => ⟨by omega, hb.2⟩, bel7 (bel7 HW0.out.1 HB1.out) hb2⟩; have HB2 := hm7 hb2; clear hr2 hd2 hb2)
  clear HG2 hs0
  have hs2 := HB2.out.size
  have HHD := hm7 (head7_any W2)
  go_upto_region 8 with (go_at_call 11; refine HHD.out.mono ?_; rintro e W3 ⟨rfl, hb3⟩; have HB3 := hm7 hb3; clear hb3)
  clear HHD
  have hs3 := HB3.out.size
  have HBX := hm7 (((HW0.out.2.below HB1.out).below HB2.out).below HB3.out)
  have c0 : W3.cell? ⟨w.heap.size, 0, none⟩ = some (.slice ma mn mc) := HBX.out.cell (i := 0) rfl
  have HBR := hm7 (brought7_any Pm (.slice ma mn mc) k W3 ((((by obtain ⟨a, c, e, q1, q2⟩ := HMV.out; exact ⟨a, c, e, q1, q2⟩ : Rn7 w (.slice ma mn mc) Pm).below HW0.out.1).below HB1.out |>.below HB2.out).below HB3.out) (by omega) hPm)
  go_upto_region 9 with (go_at_call 19; refine HBR.out.mono ?_; rintro e W4 ⟨lv, rfl, Lq, hol, hlm, hb4⟩; obtain ⟨la, lc, hu, -⟩ := row7_form hol.o; obtain ⟨ln, hn⟩ : ∃ n, Lq.length = n := ⟨_, rfl⟩; rw [hn] at hu; subst hu; have HLN := hm7 hn; have HLX := hm7 hol.lx; have HLM := hm7 hlm; have HB4 := hm7 hb4; clear hol hlm hb4 hn)
  have hs4 := HB4.out.size
  have HGD : Hid (GD w (fun b => W0.heap.size ≤ b ∧ b < W1.heap.size) (fun b => W1.heap.size ≤ b ∧ b < W2.heap.size) (fun b => W3.heap.size ≤ b ∧ b < W4.heap.size) g1 g2 0 0 s0 s0 (.slice none 0 0) [] (.slice none 0 0) [] (.slice la ln lc) Lq [] [] W4) := GD.new (((HP1.out.below HB2.out).below HB3.out).below HB4.out) ((HP2.out.below HB3.out).below HB4.out) (fun b h1 h2 => by omega) HLX.out (fun b hb => by omega) (fun b hb => ⟨fun hc => by omega, fun hc => by omega⟩)
  have HLW : Hid (∀ p ∈ Lq, p.1.length = k) := fun p hp => by
    have h1 : p.1 ∈ Lq.map Prod.fst := List.mem_map_of_mem hp
    rw [HLM.out] at h1
    obtain ⟨r, -, e⟩ := List.mem_map.1 h1
    rw [← e]; exact wd7_len _ _
  have HAQ : Hid (AQ w g1 g2 k (.slice la ln lc) Lq 0 (.slice none 0 0) (.slice none 0 0) W4) := ⟨_, _, _, 0, s0, [], [], HGD.out, Nat.zero_le _, HS0.out.1, HS0.out.2, rfl, Nat.zero_le _⟩
  clear HGD HBR HBX HLX HP1 HP2 HB1 HB2 HB3 HB4 HW0 HS0 HBT HMV c0 hz0 hs1 hs2 hs3 hs4 HLM
  go_wp2
  go_loopg [12, 13, 15] 4 (fun gg kv ov i wr => ∃ q : Nat, q + gg = 4 ∧ i = .int .i64 q ∧ AQ w g1 g2 k (.slice la ln lc) Lq q kv ov wr)
  case atStart => exact ⟨0, by omega, rfl, HAQ.out⟩
  case round =>
    obtain ⟨q, hq4, rfl, T1, T2, X0, m, s, Ks0, Os, hgd, hm8, hwd, hsl, hosl, hksl⟩ := hrel
    obtain ⟨ka0, kc0, hkv, -⟩ := row7_form hgd.z.ko
    obtain ⟨oa, oc, hov, -⟩ := row7_form hgd.z.oo
    obtain ⟨kn0, hkn⟩ : ∃ n, Ks0.length = n := ⟨_, rfl⟩
    rw [hkn] at hkv hksl
    rw [hosl] at hov
    subst hkv hov
    have HKL0 := hm7 hkn
    have HOL := hm7 hosl
    have HG0 := hm7 hgd
    have HSW := hm7 (And.intro hwd hsl)
    have HOK := hm7 hgd.p1.ok
    clear hgd hkn hosl hwd hsl HAQ
    cases gk with
    | succ gg =>
      have q3 : q ≤ 3 := by omega
      have qlt : (q : Int) < 4 := by omega
      have HR9 : Hid ((R9 s).length ≤ 1048580 ∧ ∀ r ∈ R9 s, r.length = k) := ⟨by rw [R9_len HOK.out]; have := HSW.out.2; omega, fun r hr => by rw [← HSW.out.1]; exact R9_row HOK.out r hr⟩
      go_upto_region 13 with (go_at_call 12; refine (HG0.out.rows (by omega)).mono ?_; rintro e Y1 ⟨TA, uA, QA, BA, rfl, hgd, hq⟩; obtain ⟨aA, cA, hu, -⟩ := row7_form (hgd.zs _ (List.mem_append_right _ (List.mem_singleton.2 rfl))).1.h.o; obtain ⟨nA, hn⟩ : ∃ n, QA.length = n := ⟨_, rfl⟩; simp only at hu; rw [hn] at hu; subst hu; have HNA := hm7 hn; have HQA := hm7 hq; have HGA := hm7 hgd; clear hgd hq hn)
      clear HG0
      go_upto_region 14 with (go_at_call 12; refine (HGA.out.rows (by omega)).mono ?_; rintro e Y2 ⟨TB, uB, QB, BB, rfl, hgd, hq⟩; obtain ⟨aB, cB, hu, -⟩ := row7_form (hgd.zs _ (List.mem_append_right _ (List.mem_singleton.2 rfl))).1.h.o; obtain ⟨nB, hn⟩ : ∃ n, QB.length = n := ⟨_, rfl⟩; simp only at hu; rw [hn] at hu; subst hu; have HNB := hm7 hn; have HQB := hm7 hq; have HGB := hm7 hgd; clear hgd hq hn)
      clear HGA
      go_upto_region 15 with (go_at_call 23; refine (HGB.out.given (by omega)).mono ?_; rintro e Y3 ⟨TC, uC, QC, BC, rfl, hgd, hq⟩; obtain ⟨aC, cC, hu, -⟩ := row7_form (hgd.zs _ (List.mem_append_right _ (List.mem_singleton.2 rfl))).1.h.o; obtain ⟨nC, hn⟩ : ∃ n, QC.length = n := ⟨_, rfl⟩; simp only at hu; rw [hn] at hu; subst hu; have HNC := hm7 hn; have HQC := hm7 hq; have HGC := hm7 hgd; clear hgd hq hn)
      clear HGB
      go_upto_region 16 with (go_at_call 23; refine (HGC.out.given (by omega)).mono ?_; rintro e Y4 ⟨TD, uD, QD, BD, rfl, hgd, hq⟩; obtain ⟨aD, cD, hu, -⟩ := row7_form (hgd.zs _ (List.mem_append_right _ (List.mem_singleton.2 rfl))).1.h.o; obtain ⟨nD, hn⟩ : ∃ n, QD.length = n := ⟨_, rfl⟩; simp only at hu; rw [hn] at hu; subst hu; have HND := hm7 hn; have HQD := hm7 hq; have HGD := hm7 hgd; clear hgd hq hn)
      clear HGC
      go_upto_region 17 with (go_at_call 12; refine (HGD.out.swap.rows (by omega)).mono ?_; rintro e Y5 ⟨TE, uE, QE, BE, rfl, hgd, hq⟩; obtain ⟨aE, cE, hu, -⟩ := row7_form (hgd.zs _ (List.mem_append_right _ (List.mem_singleton.2 rfl))).1.h.o; obtain ⟨nE, hn⟩ : ∃ n, QE.length = n := ⟨_, rfl⟩; simp only at hu; rw [hn] at hu; subst hu; have HNE := hm7 hn; have HQE := hm7 hq; have HGE := hm7 hgd.swap; clear hgd hq hn)
      clear HGD
      have HG5 : Hid (GD w TD TE X0 g1 g2 (m + 1 + 1 + 1 + 1) (m + 1) s s (.slice ka0 kn0 kc0) Ks0 (.slice oa q oc) Os (.slice la ln lc) Lq [⟨BA, Y1.heap.size, .slice aA nA cA, QA⟩, ⟨BB, Y2.heap.size, .slice aB nB cB, QB⟩, ⟨BC, Y3.heap.size, .slice aC nC cC, QC⟩, ⟨BD, Y4.heap.size, .slice aD nD cD, QD⟩, ⟨BE, Y5.heap.size, .slice aE nE cE, QE⟩] [] Y5) := HGE.out
      clear HGE
      have HPLA : Hid (∀ p ∈ QA, p.1.length ≤ 100000000000) := fun p hp => by have h9 : p.1 ∈ QA.map Prod.fst := List.mem_map_of_mem hp; rw [HQA.out] at h9; have := HR9.out.2 _ h9; omega
      have hnA : nA ≤ 1048580 := by have h9 := congrArg List.length HQA.out; rw [List.length_map, HNA.out] at h9; have := HR9.out.1; omega
      have HPLB : Hid (∀ p ∈ QB, p.1.length ≤ 100000000000) := fun p hp => by have h9 : p.1 ∈ QB.map Prod.fst := List.mem_map_of_mem hp; rw [HQB.out] at h9; have := HR9.out.2 _ h9; omega
      have hnB : nB ≤ 1048580 := by have h9 := congrArg List.length HQB.out; rw [List.length_map, HNB.out] at h9; have := HR9.out.1; omega
      have HPLC : Hid (∀ p ∈ QC, p.1.length ≤ 100000000000) := fun p hp => by have h9 : p.1 ∈ QC.map Prod.fst := List.mem_map_of_mem hp; rw [HQC.out] at h9; have := HR9.out.2 _ h9; omega
      have hnC : nC ≤ 1048580 := by have h9 := congrArg List.length HQC.out; rw [List.length_map, HNC.out] at h9; have := HR9.out.1; omega
      have HPLD : Hid (∀ p ∈ QD, p.1.length ≤ 100000000000) := fun p hp => by have h9 : p.1 ∈ QD.map Prod.fst := List.mem_map_of_mem hp; rw [HQD.out] at h9; have := HR9.out.2 _ h9; omega
      have hnD : nD ≤ 1048580 := by have h9 := congrArg List.length HQD.out; rw [List.length_map, HND.out] at h9; have := HR9.out.1; omega
      have HPLE : Hid (∀ p ∈ QE, p.1.length ≤ 100000000000) := fun p hp => by have h9 : p.1 ∈ QE.map Prod.fst := List.mem_map_of_mem hp; rw [HQE.out] at h9; have := HR9.out.2 _ h9; omega
      have hnE : nE ≤ 1048580 := by have h9 := congrArg List.length HQE.out; rw [List.length_map, HNE.out] at h9; have := HR9.out.1; omega
      have HNN : Hid (nA ≤ 1048580 ∧ nB ≤ 1048580 ∧ nC ≤ 1048580 ∧ nD ≤ 1048580) := ⟨hnA, hnB, hnC, hnD⟩
      have HSA : Hid (∀ V, (∃ n, V = Y5.drewN n) → Calls Try.prog 22 #[.slice aA nA cA, .slice aE nE cE] V fun e w' => e = .returned (.bool true) ∧ ∃ n, w' = Y5.drewN n) := fun V ⟨n, hn⟩ => by
        have hb : Below Y5.heap.size Y5 V := by rw [hn]; exact below_dn7 Y5 n
        refine (sameRows7_any QA QE _ _ V ((HG5.out.below hb).zs _ (List.mem_cons_self ..)).1.ls ((HG5.out.below hb).zs ⟨BE, Y5.heap.size, .slice aE nE cE, QE⟩ (List.mem_cons_of_mem _ (List.mem_cons_of_mem _ (List.mem_cons_of_mem _ (List.mem_cons_of_mem _ (List.mem_cons_self ..)))))).1.ls (HQA.out.trans HQE.out.symm)).mono ?_
        rintro e w' ⟨rfl, n2, rfl⟩
        exact ⟨rfl, _, by rw [hn, World.drewN_drewN]⟩
      have HSB : Hid (∀ V, (∃ n, V = Y5.drewN n) → Calls Try.prog 22 #[.slice aB nB cB, .slice aE nE cE] V fun e w' => e = .returned (.bool true) ∧ ∃ n, w' = Y5.drewN n) := fun V ⟨n, hn⟩ => by
        have hb : Below Y5.heap.size Y5 V := by rw [hn]; exact below_dn7 Y5 n
        refine (sameRows7_any QB QE _ _ V ((HG5.out.below hb).zs _ (List.mem_cons_of_mem _ (List.mem_cons_self ..))).1.ls ((HG5.out.below hb).zs ⟨BE, Y5.heap.size, .slice aE nE cE, QE⟩ (List.mem_cons_of_mem _ (List.mem_cons_of_mem _ (List.mem_cons_of_mem _ (List.mem_cons_of_mem _ (List.mem_cons_self ..)))))).1.ls (HQB.out.trans HQE.out.symm)).mono ?_
        rintro e w' ⟨rfl, n2, rfl⟩
        exact ⟨rfl, _, by rw [hn, World.drewN_drewN]⟩
      have HSC : Hid (∀ V, (∃ n, V = Y5.drewN n) → Calls Try.prog 22 #[.slice aC nC cC, .slice aE nE cE] V fun e w' => e = .returned (.bool true) ∧ ∃ n, w' = Y5.drewN n) := fun V ⟨n, hn⟩ => by
        have hb : Below Y5.heap.size Y5 V := by rw [hn]; exact below_dn7 Y5 n
        refine (sameRows7_any QC QE _ _ V ((HG5.out.below hb).zs _ (List.mem_cons_of_mem _ (List.mem_cons_of_mem _ (List.mem_cons_self ..)))).1.ls ((HG5.out.below hb).zs ⟨BE, Y5.heap.size, .slice aE nE cE, QE⟩ (List.mem_cons_of_mem _ (List.mem_cons_of_mem _ (List.mem_cons_of_mem _ (List.mem_cons_of_mem _ (List.mem_cons_self ..)))))).1.ls (HQC.out.trans HQE.out.symm)).mono ?_
        rintro e w' ⟨rfl, n2, rfl⟩
        exact ⟨rfl, _, by rw [hn, World.drewN_drewN]⟩
      have HSD : Hid (∀ V, (∃ n, V = Y5.drewN n) → Calls Try.prog 22 #[.slice aD nD cD, .slice aE nE cE] V fun e w' => e = .returned (.bool true) ∧ ∃ n, w' = Y5.drewN n) := fun V ⟨n, hn⟩ => by
        have hb : Below Y5.heap.size Y5 V := by rw [hn]; exact below_dn7 Y5 n
        refine (sameRows7_any QD QE _ _ V ((HG5.out.below hb).zs _ (List.mem_cons_of_mem _ (List.mem_cons_of_mem _ (List.mem_cons_of_mem _ (List.mem_cons_self ..))))).1.ls ((HG5.out.below hb).zs ⟨BE, Y5.heap.size, .slice aE nE cE, QE⟩ (List.mem_cons_of_mem _ (List.mem_cons_of_mem _ (List.mem_cons_of_mem _ (List.mem_cons_of_mem _ (List.mem_cons_self ..)))))).1.ls (HQD.out.trans HQE.out.symm)).mono ?_
        rintro e w' ⟨rfl, n2, rfl⟩
        exact ⟨rfl, _, by rw [hn, World.drewN_drewN]⟩
      have hd0 : ∃ n, Y5 = Y5.drewN n := ⟨0, rfl⟩
      have HD := hm7 hd0
      clear hd0
      go_upto_region 19 with (go_at_call 22; (first | with_reducible refine (HSA.out _ HD.out).mono ?_ | with_reducible refine (HSB.out _ HD.out).mono ?_ | with_reducible refine (HSC.out _ HD.out).mono ?_ | with_reducible refine (HSD.out _ HD.out).mono ?_); rintro e V ⟨rfl, hd⟩; have HD := hm7 hd; clear hd)
      have HG6 : Hid (GD w TD TE X0 g1 g2 (m + 1 + 1 + 1 + 1) (m + 1) s s (.slice ka0 kn0 kc0) Ks0 (.slice oa q oc) Os (.slice la ln lc) Lq [⟨BA, Y1.heap.size, .slice aA nA cA, QA⟩, ⟨BB, Y2.heap.size, .slice aB nB cB, QB⟩, ⟨BC, Y3.heap.size, .slice aC nC cC, QC⟩, ⟨BD, Y4.heap.size, .slice aD nD cD, QD⟩] [] V) := by
        obtain ⟨n, hn⟩ := HD.out
        exact GD.init (z := ⟨BE, Y5.heap.size, .slice aE nE cE, QE⟩) (HG5.out.below (by rw [hn]; exact below_dn7 Y5 n))
      clear HG5 HSA HSB HSC HSD HD HQB HQC HQD HQE HNE
      have HLDA := hm7 (HG6.out.lend (4 * (q : Int)) (by omega) (by omega) (by simp only; rw [HNA.out]; have := HNN.out; omega) (HPLA.out))
      simp only at HLDA
      go_upto_region 20 with (first
        | (go_at_call 24; refine HLDA.out.mono ?_; rintro e Y6 ⟨vA, KA, rfl, l1, l2, l3, l4, l5, l6⟩; obtain ⟨vaA, vcA, hvv, -⟩ := row7_form l1; obtain ⟨knA, hkn⟩ : ∃ n, KA.length = n := ⟨_, rfl⟩; rw [hkn] at hvv l1; subst hvv; have HL1 := hm7 l1; have HL2 : Hid (KA.length = nA) := l2.trans HNA.out; have HL3 := hm7 l3; have HL5 := hm7 l5; have HL6 := hm7 l6; have HKN := hm7 hkn; have hkb : knA ≤ 1048600 := (by have h9 := HL2.out; have h8 := HNN.out; omega); clear l1 l2 l3 l5 l6 hkn)
        | (at_builtin; refine gapp3 Try.underlying49 Try.infoKept7 rfl (by omega) rfl _ _ rfl w.heap.size (.slice ka0 kn0 kc0) kn0 (kps Ks0) rfl (by have h9 := HL3.out; rw [HKL0.out] at h9; exact h9) _ (.slice vaA knA vcA) knA (kps KA) rfl HL1.out (kps_one HL5.out) (by omega) l4 ?_; intro kv2 Y7 r1 r2 r3; obtain ⟨X1, hgd⟩ := HL6.out kv2 Y7 (by rw [HKL0.out, HKN.out]; exact r1) r2 r3; obtain ⟨ka1, kc1, hkv, -⟩ := row7_form r1; subst hkv; have HKL1 : Hid ((Ks0 ++ KA).length = kn0 + knA) := (by show _ = _; rw [List.length_append, HKL0.out, HKN.out]); have HGLA := hm7 (hgd); clear hgd r1 r2 r3 l4))
      obtain ⟨Ks1, hks⟩ : ∃ l, Ks0 ++ KA = l := ⟨_, rfl⟩
      rw [hks] at HKL1 HGLA
      obtain ⟨kn1, hkn⟩ : ∃ n, kn0 + knA = n := ⟨_, rfl⟩
      rw [hkn] at HKL1 HGLA
      have hkb1 : kn1 ≤ 8 * q * 1048600 + 1 * 1048600 := by omega
      rw [hkn]
      clear hks hkn HL1 HL2 HL3 HL5 HL6 HKN HLDA hkb
      clear HG6
      have HLDB := hm7 (HGLA.out.lend (4 * (q : Int) + 1) (by omega) (by omega) (by simp only; rw [HNB.out]; have := HNN.out; omega) (HPLB.out))
      simp only at HLDB
      go_upto_region 21 with (first
        | (go_at_call 24; refine HLDB.out.mono ?_; rintro e Y8 ⟨vB, KB, rfl, l1, l2, l3, l4, l5, l6⟩; obtain ⟨vaB, vcB, hvv, -⟩ := row7_form l1; obtain ⟨knB, hkn⟩ : ∃ n, KB.length = n := ⟨_, rfl⟩; rw [hkn] at hvv l1; subst hvv; have HL1 := hm7 l1; have HL2 : Hid (KB.length = nB) := l2.trans HNB.out; have HL3 := hm7 l3; have HL5 := hm7 l5; have HL6 := hm7 l6; have HKN := hm7 hkn; have hkb : knB ≤ 1048600 := (by have h9 := HL2.out; have h8 := HNN.out; omega); clear l1 l2 l3 l5 l6 hkn)
        | (at_builtin; refine gapp3 Try.underlying49 Try.infoKept7 rfl (by omega) rfl _ _ rfl w.heap.size (.slice ka1 kn1 kc1) kn1 (kps Ks1) rfl (by have h9 := HL3.out; rw [HKL1.out] at h9; exact h9) _ (.slice vaB knB vcB) knB (kps KB) rfl HL1.out (kps_one HL5.out) (by omega) l4 ?_; intro kv2 Y9 r1 r2 r3; obtain ⟨X2, hgd⟩ := HL6.out kv2 Y9 (by rw [HKL1.out, HKN.out]; exact r1) r2 r3; obtain ⟨ka2, kc2, hkv, -⟩ := row7_form r1; subst hkv; have HKL2 : Hid ((Ks1 ++ KB).length = kn1 + knB) := (by show _ = _; rw [List.length_append, HKL1.out, HKN.out]); have HGLB := hm7 (hgd.sub (PL' := [(.slice aA nA cA, QA.map Prod.snd)]) (fun a ha => List.mem_cons_of_mem _ ha)); clear hgd r1 r2 r3 l4))
      obtain ⟨Ks2, hks⟩ : ∃ l, Ks1 ++ KB = l := ⟨_, rfl⟩
      rw [hks] at HKL2 HGLB
      obtain ⟨kn2, hkn⟩ : ∃ n, kn1 + knB = n := ⟨_, rfl⟩
      rw [hkn] at HKL2 HGLB
      have hkb2 : kn2 ≤ 8 * q * 1048600 + 2 * 1048600 := by omega
      rw [hkn]
      clear hks hkn HL1 HL2 HL3 HL5 HL6 HKN HLDB hkb
      clear HGLA
      have HLDC := hm7 (HGLB.out.lend (4 * (q : Int) + 2) (by omega) (by omega) (by simp only; rw [HNC.out]; have := HNN.out; omega) (HPLC.out))
      simp only at HLDC
      go_upto_region 22 with (first
        | (go_at_call 24; refine HLDC.out.mono ?_; rintro e Y10 ⟨vC, KC, rfl, l1, l2, l3, l4, l5, l6⟩; obtain ⟨vaC, vcC, hvv, -⟩ := row7_form l1; obtain ⟨knC, hkn⟩ : ∃ n, KC.length = n := ⟨_, rfl⟩; rw [hkn] at hvv l1; subst hvv; have HL1 := hm7 l1; have HL2 : Hid (KC.length = nC) := l2.trans HNC.out; have HL3 := hm7 l3; have HL5 := hm7 l5; have HL6 := hm7 l6; have HKN := hm7 hkn; have hkb : knC ≤ 1048600 := (by have h9 := HL2.out; have h8 := HNN.out; omega); clear l1 l2 l3 l5 l6 hkn)
        | (at_builtin; refine gapp3 Try.underlying49 Try.infoKept7 rfl (by omega) rfl _ _ rfl w.heap.size (.slice ka2 kn2 kc2) kn2 (kps Ks2) rfl (by have h9 := HL3.out; rw [HKL2.out] at h9; exact h9) _ (.slice vaC knC vcC) knC (kps KC) rfl HL1.out (kps_one HL5.out) (by omega) l4 ?_; intro kv2 Y11 r1 r2 r3; obtain ⟨X3, hgd⟩ := HL6.out kv2 Y11 (by rw [HKL2.out, HKN.out]; exact r1) r2 r3; obtain ⟨ka3, kc3, hkv, -⟩ := row7_form r1; subst hkv; have HKL3 : Hid ((Ks2 ++ KC).length = kn2 + knC) := (by show _ = _; rw [List.length_append, HKL2.out, HKN.out]); have HGLC := hm7 (hgd.sub (PL' := [(.slice aA nA cA, QA.map Prod.snd)]) (fun a ha => List.mem_cons_of_mem _ ha)); clear hgd r1 r2 r3 l4))
      obtain ⟨Ks3, hks⟩ : ∃ l, Ks2 ++ KC = l := ⟨_, rfl⟩
      rw [hks] at HKL3 HGLC
      obtain ⟨kn3, hkn⟩ : ∃ n, kn2 + knC = n := ⟨_, rfl⟩
      rw [hkn] at HKL3 HGLC
      have hkb3 : kn3 ≤ 8 * q * 1048600 + 3 * 1048600 := by omega
      rw [hkn]
      clear hks hkn HL1 HL2 HL3 HL5 HL6 HKN HLDC hkb
      clear HGLB
      have HLDD := hm7 (HGLC.out.lend (4 * (q : Int) + 3) (by omega) (by omega) (by simp only; rw [HND.out]; have := HNN.out; omega) (HPLD.out))
      simp only at HLDD
      go_upto_region 23 with (first
        | (go_at_call 24; refine HLDD.out.mono ?_; rintro e Y12 ⟨vD, KD, rfl, l1, l2, l3, l4, l5, l6⟩; obtain ⟨vaD, vcD, hvv, -⟩ := row7_form l1; obtain ⟨knD, hkn⟩ : ∃ n, KD.length = n := ⟨_, rfl⟩; rw [hkn] at hvv l1; subst hvv; have HL1 := hm7 l1; have HL2 : Hid (KD.length = nD) := l2.trans HND.out; have HL3 := hm7 l3; have HL5 := hm7 l5; have HL6 := hm7 l6; have HKN := hm7 hkn; have hkb : knD ≤ 1048600 := (by have h9 := HL2.out; have h8 := HNN.out; omega); clear l1 l2 l3 l5 l6 hkn)
        | (at_builtin; refine gapp3 Try.underlying49 Try.infoKept7 rfl (by omega) rfl _ _ rfl w.heap.size (.slice ka3 kn3 kc3) kn3 (kps Ks3) rfl (by have h9 := HL3.out; rw [HKL3.out] at h9; exact h9) _ (.slice vaD knD vcD) knD (kps KD) rfl HL1.out (kps_one HL5.out) (by omega) l4 ?_; intro kv2 Y13 r1 r2 r3; obtain ⟨X4, hgd⟩ := HL6.out kv2 Y13 (by rw [HKL3.out, HKN.out]; exact r1) r2 r3; obtain ⟨ka4, kc4, hkv, -⟩ := row7_form r1; subst hkv; have HKL4 : Hid ((Ks3 ++ KD).length = kn3 + knD) := (by show _ = _; rw [List.length_append, HKL3.out, HKN.out]); have HGLD := hm7 (hgd.sub (PL' := [(.slice aA nA cA, QA.map Prod.snd)]) (fun a ha => List.mem_cons_of_mem _ ha)); clear hgd r1 r2 r3 l4))
      obtain ⟨Ks4, hks⟩ : ∃ l, Ks3 ++ KD = l := ⟨_, rfl⟩
      rw [hks] at HKL4 HGLD
      obtain ⟨kn4, hkn⟩ : ∃ n, kn3 + knD = n := ⟨_, rfl⟩
      rw [hkn] at HKL4 HGLD
      have hkb4 : kn4 ≤ 8 * q * 1048600 + 4 * 1048600 := by omega
      rw [hkn]
      clear hks hkn HL1 HL2 HL3 HL5 HL6 HKN HLDD hkb
      clear HGLC
      have HQL : Hid ((QA.map Prod.snd).length = nA) := by show _ = _; rw [List.length_map]; exact HNA.out
      go_wp2
      go_loopg [21] nA (fun g2' i wr => ∃ t : Nat, t + g2' = nA ∧ i = .int .i64 t ∧ GD w TD TE X4 g1 g2 (m + 1 + 1 + 1 + 1) (m + 1) s s (.slice ka4 kn4 kc4) Ks4 (.slice oa q oc) Os (.slice la ln lc) Lq [] [(.slice aA nA cA, List.replicate t (Value.slice none 0 0) ++ (QA.map Prod.snd).drop t)] wr)
      case atStart =>
        refine ⟨0, by omega, rfl, ?_⟩
        rw [List.drop_zero, List.replicate_zero, List.nil_append]
        exact HGLD.out
      case round =>
        obtain ⟨t, ht, rfl, hgd⟩ := hrel
        have hln : (List.replicate t (Value.slice none 0 0) ++ (QA.map Prod.snd).drop t).length = nA := by rw [List.length_append, List.length_replicate, List.length_drop, HQL.out]; omega
        have HLN2 := hm7 hln
        have HGT := hm7 hgd
        have hoo : wr.ownsRow w.heap.size 23 1 (.slice aA nA cA) nA (List.replicate t (Value.slice none 0 0) ++ (QA.map Prod.snd).drop t) := by have h9 := (hgd.pl _ (List.mem_singleton.2 rfl)).1; simp only at h9; rw [hln] at h9; exact h9
        clear hgd HGLD
        cases gk with
        | succ g2' =>
          have tlt : (t : Int) < (nA : Int) := by omega
          have t0 : (0 : Int) ≤ (t : Int) := by omega
          obtain ⟨y, hy⟩ : ∃ y, (List.replicate t (Value.slice none 0 0) ++ (QA.map Prod.snd).drop t)[t]? = some y := ⟨_, List.getElem?_eq_getElem (by omega)⟩
          obtain ⟨bA, rfl, -, bAl, p0, p1⟩ := row7_at hoo (i := t) hy
          have HPT := hm7 (HGT.out.put (i := t) hln (Value.slice none 0 0))
          rw [part_val _ (by rw [HQL.out]; omega)] at HPT
          clear hoo hy hln
          go_wp2
          go_roundg g2'
          case measure => omega
          case rel => exact ⟨t + 1, by omega, by go_num, HPT.out⟩
        | zero =>
          have tlt : ¬ (t : Int) < (nA : Int) := by omega
          obtain rfl : nA = t := by omega
          have hnil : List.replicate nA (Value.slice none 0 0) ++ (QA.map Prod.snd).drop nA = List.replicate nA (Value.slice none 0 0) := by rw [List.drop_of_length_le (by rw [HQL.out]; exact Nat.le_refl _), List.append_nil]
          rw [hnil] at HGT hoo
          have HOO := hm7 hoo
          have HOV : Hid (wr.ownsRow w.heap.size 29 1 (.slice oa q oc) q Os) := by have h9 := HGT.out.z.oo; rw [HOL.out] at h9; exact h9
          have hww := HGT.out.p1.b.size
          clear hoo hnil hln HLN2
          generalize wr = Y at *
          go_upto_region 28 with (at_builtin; first
            | (refine gapp Try.underlying29 Try.infoInts7 rfl (by omega) rfl _ _ rfl w.heap.size (.slice aA nA cA) nA (List.replicate nA (Value.slice none 0 0)) rfl (row7_below HOO.out (below2 _ _ _)) (Y.heap.size + 1) (.slice (some ⟨Y.heap.size, 0, none⟩) 1 1) rfl (by have h9 := Bk.new (Y.alloc (.cells #[.int .i64 (q : Int)] 3)) #[.slice (some ⟨Y.heap.size, 0, none⟩) 1 1] 23; rw [World.size_alloc] at h9; exact h9) rfl (by omega) (by simp; omega) ?_; intro gO cO Y3 r1 r2 r3 r4; have HR1 := hm7 r1; have HR2 := hm7 r2; have HR3 := hm7 r3; have HFO : Hid (Fr (fun b => (Value.slice aA nA cA).ownBlock = some b) Y Y3) := (Fr.of (below2 _ _ _)).tr (Fr.grown r2 fun b hb => hb); clear r1 r2 r3)
            | (refine gapp Try.underlying50 Try.infoIntss7 rfl (by omega) rfl _ _ rfl w.heap.size (.slice oa q oc) q Os rfl (row7_below (row7_fr HOV.out HFO.out fun b hb hc => ((HGT.out.pl _ (List.mem_singleton.2 rfl)).2 b hc).2.2.1 (Or.inr (Or.inr hb))) (below1 _ _)) Y3.heap.size (.slice (some ⟨gO, 0, none⟩) (nA + 1) cO) rfl (Bk.new _ _ _) rfl (by omega) (by have := HFO.out.size; simp; omega) ?_; intro g5 c5 Y5' r5 r6 r7 r8; have HR5 := hm7 r5; have HR6 := hm7 r6; have HR7 := hm7 r7; clear r5 r6 r7))
          have HGO : Hid (∃ X5, GD w TD TE X5 g1 g2 (m + 8) (m + 8) s s (.slice ka4 kn4 kc4) Ks4 (.slice (some ⟨g5, 0, none⟩) (q + 1) c5) (Os ++ [.slice (some ⟨gO, 0, none⟩) (nA + 1) cO]) (.slice la ln lc) Lq [] [] Y5') := by
            have h1 := HR1.out
            have h2 := HR2.out
            have h3 := HR3.out
            have h5 := HR5.out
            have h6 := HR6.out
            have h7 := HR7.out
            rw [← HOL.out] at h2 h3 h5 ⊢
            obtain ⟨X5, h9⟩ := HGT.out.outer (by omega) h1 h2 h3 h5 h6 h7
            exact ⟨X5, h9.up (by omega) (by omega)⟩
          have HOL2 : Hid ((Os ++ [Value.slice (some ⟨gO, 0, none⟩) (nA + 1) cO]).length = q + 1) := by show _ = _; rw [List.length_append, HOL.out]; rfl
          obtain ⟨X5, hgo⟩ := HGO.out
          have HG7 := hm7 hgo
          clear hgo HGO HR1 HR2 HR3 HR5 HR6 HR7 HFO HOV HOO HGT
          by_cases hql : q < ln
          · have ql1 : (q : Int) < (ln : Int) := by omega
            have ql0 : (0 : Int) ≤ (q : Int) := by omega
            obtain ⟨p, hp⟩ : ∃ p, Lq[q]? = some p := ⟨_, List.getElem?_eq_getElem (by have := HLN.out; omega)⟩
            obtain ⟨lb, lo, hla, hlb, c4, hlp⟩ := HG7.out.z.l.rn.get hp
            have hpk := HLW.out p (List.mem_of_getElem? hp)
            obtain ⟨r, pv⟩ := p
            simp only at hpk hlp c4
            have HLP := hm7 hlp
            obtain ⟨pa, pc, hpv, -⟩ := hlp
            rw [hpk] at hpv
            subst hpv hla
            have HPK := hm7 hpk
            have HP := hm7 hp
            have HAD := hm7 (HG7.out.p1.add HLP.out (by rw [HPK.out, HSW.out.1]) (by rw [HPK.out]; omega) (by have := HSW.out.2; omega))
            clear hp hpk
            go_upto_region 30 with (go_at_call 16; refine HAD.out.mono ?_; rintro e YA ⟨rfl, hx⟩; obtain ⟨TX, hga⟩ := HG7.out.step hx; have HGA1 := hm7 hga.swap; clear hx hga)
            clear HAD c4 hlb
            obtain ⟨lb2, lo2, hla2, hlb2, c5, hlp2⟩ := HGA1.out.z.l.rn.get HP.out
            cases hla2
            simp only at c5 hlp2
            have HAD := hm7 (HGA1.out.p1.add hlp2 (by rw [HPK.out, HSW.out.1]) (by rw [HPK.out]; omega) (by have := HSW.out.2; omega))
            clear hlp2
            go_upto_region 31 with (go_at_call 16; refine HAD.out.mono ?_; rintro e YB ⟨rfl, hx⟩; obtain ⟨TY, hga⟩ := HGA1.out.step hx; have HGA2 := hm7 hga.swap; clear hx hga)
            clear HAD c5 hlb2 HGA1 HG7
            by_cases hq1 : q = 1
            · have e1 : ((q : Int) == 1) = true := by simp; omega
              have e2 : (q : Int) = 1 := by omega
              have HTU := hm7 HGA2.out.p1.turn
              clear hq1 e2
              go_upto_region 33 with (go_at_call 18; refine HTU.out.mono ?_; rintro e YT ⟨rfl, hx⟩; obtain ⟨TT, hgt⟩ := HGA2.out.step hx; have HGT1 := hm7 hgt.swap; clear hx hgt)
              clear HTU
              have HTU := hm7 HGT1.out.p1.turn
              go_wp2_with (go_at_call 18; refine HTU.out.mono ?_; rintro e YU ⟨rfl, hx⟩; obtain ⟨TU, hgt⟩ := HGT1.out.step hx; have HGT2 := hm7 hgt.swap; clear hx hgt)
              clear HTU HGT1
              go_roundg gg
              case measure => omega
              case rel => exact ⟨q + 1, by omega, by go_num, _, _, _, _, (Turn7 (ad7 s r)), Ks4, _, HGT2.out, by omega, (by first | exact (ad7_wd s r).1.trans HSW.out.1 | (show (ad7 s r).wd = k; exact (ad7_wd s r).1.trans HSW.out.1)), (by have h9 := ad7_len s r; have h8 := HSW.out.2; first | omega | (show (ad7 s r).rows.length ≤ _; omega)), HOL2.out, by rw [HKL4.out]; omega⟩
            · have e1 : ((q : Int) == 1) = false := by simp; omega
              clear hq1
              go_wp2
              go_roundg gg
              case measure => omega
              case rel => exact ⟨q + 1, by omega, by go_num, _, _, _, _, (ad7 s r), Ks4, _, HGA2.out, by omega, (by first | exact (ad7_wd s r).1.trans HSW.out.1 | (show (ad7 s r).wd = k; exact (ad7_wd s r).1.trans HSW.out.1)), (by have h9 := ad7_len s r; have h8 := HSW.out.2; first | omega | (show (ad7 s r).rows.length ≤ _; omega)), HOL2.out, by rw [HKL4.out]; omega⟩
          · have ql1 : ¬ (q : Int) < (ln : Int) := by omega
            by_cases hq1 : q = 1
            · have e1 : ((q : Int) == 1) = true := by simp; omega
              have e2 : (q : Int) = 1 := by omega
              have HTU := hm7 HG7.out.p1.turn
              clear hq1 e2
              go_upto_region 33 with (go_at_call 18; refine HTU.out.mono ?_; rintro e YT ⟨rfl, hx⟩; obtain ⟨TT, hgt⟩ := HG7.out.step hx; have HGT1 := hm7 hgt.swap; clear hx hgt)
              clear HTU
              have HTU := hm7 HGT1.out.p1.turn
              go_wp2_with (go_at_call 18; refine HTU.out.mono ?_; rintro e YU ⟨rfl, hx⟩; obtain ⟨TU, hgt⟩ := HGT1.out.step hx; have HGT2 := hm7 hgt.swap; clear hx hgt)
              clear HTU HGT1
              go_roundg gg
              case measure => omega
              case rel => exact ⟨q + 1, by omega, by go_num, _, _, _, _, (Turn7 s), Ks4, _, HGT2.out, by omega, (by first | exact HSW.out.1 | (show s.wd = k; exact HSW.out.1)), (by have h8 := HSW.out.2; first | omega | (show s.rows.length ≤ _; omega)), HOL2.out, by rw [HKL4.out]; omega⟩
            · have e1 : ((q : Int) == 1) = false := by simp; omega
              clear hq1
              go_wp2
              go_roundg gg
              case measure => omega
              case rel => exact ⟨q + 1, by omega, by go_num, _, _, _, _, s, Ks4, _, HG7.out, by omega, (by first | exact HSW.out.1 | (show s.wd = k; exact HSW.out.1)), (by have h8 := HSW.out.2; first | omega | (show s.rows.length ≤ _; omega)), HOL2.out, by rw [HKL4.out]; omega⟩
    | zero =>
      have qlt : ¬ (q : Int) < 4 := by omega
      have qb : q ≤ 4 := by omega
      generalize wr = Y at *
      have hgl : ∀ n, GD w T1 T2 X0 g1 g2 m m s s (.slice ka0 kn0 kc0) Ks0 (.slice oa q oc) Os (.slice la ln lc) Lq [] [] (Y.drewN n) := fun n => HG0.out.below (below_dn7 Y n)
      have HGN := hm7 hgl
      have hoo : Y.ownsRow w.heap.size 29 1 (.slice oa q oc) q Os := by have h9 := HG0.out.z.oo; rw [HOL.out] at h9; exact h9
      have HOO := hm7 hoo
      clear hgl hoo
      go_wp2
      go_loopg [22] q (fun g3 i wr => ∃ j mm : Nat, j + g3 = q ∧ i = .int .i64 j ∧ wr = Y.drewN mm)
      case atStart => exact ⟨0, 0, by omega, rfl, rfl⟩
      case round =>
        obtain ⟨j, mm, hj, rfl, rfl⟩ := hrel
        cases gk with
        | succ g3 =>
          have jlt : (j : Int) < (q : Int) := by omega
          have j0 : (0 : Int) ≤ (j : Int) := by omega
          obtain ⟨u, hu⟩ : ∃ u, Os[j]? = some u := ⟨_, List.getElem?_eq_getElem (by have := HOL.out; omega)⟩
          obtain ⟨ob, e1, -, obl, c0, -⟩ := row7_at HOO.out (i := j) hu
          obtain ⟨b, n, cap, c, hu2, -, hbl, hcell, c1, -, hcl, c2, hnb⟩ := HG0.out.z.ok j u hu
          subst hu2 e1
          have HCE := hm7 hcell
          have n0 : (0 : Int) ≤ (n : Int) := by omega
          have n1 : (n : Int) < (n : Int) + 1 := by omega
          have n2 : (n : Int) + 1 - 1 = (n : Int) := by omega
          have e0 : ((j : Int) != (j : Int)) = false := by simp
          clear hu hcell
          go_wp2
          go_quiet (fail)
          go_wp2
          go_loopg [24] n (fun g4 i wr => ∃ t m2 : Nat, t + g4 = n ∧ i = .int .i64 t ∧ wr = Y.drewN m2)
          case atStart => exact ⟨0, _, by omega, rfl, by first | rfl | rw [World.drewN_drewN]⟩
          case round =>
            obtain ⟨t, m2, ht, rfl, rfl⟩ := hrel
            cases gk with
            | succ g4 =>
              have tlt : (t : Int) + 1 < (n : Int) + 1 := by omega
              have tlt2 : (t : Int) + 1 < ((n + 1 : Nat) : Int) := by omega
              have tlt3 : (t : Int) < (n : Int) + 1 := by omega
              have tlt4 : (t : Int) < (n : Int) := by omega
              have t0 : (0 : Int) ≤ (t : Int) := by omega
              have c3 := HCE.out t (by omega)
              have qN : ∀ w : World, (binOp .neq 23 (.slice none 0 0) (.slice none 0 0)).run Try.prog w = .ok (.bool false) w := fun w => rfl
              go_wp2
              go_roundg g4
              case measure => omega
              case rel => exact ⟨t + 1, _, by omega, by go_num, rfl⟩
            | zero =>
              have tlt : ¬ (t : Int) + 1 < (n : Int) + 1 := by omega
              have tlt2 : ¬ (t : Int) + 1 < ((n + 1 : Nat) : Int) := by omega
              have tlt4 : ¬ (t : Int) < (n : Int) := by omega
              go_wp2
              go_roundg g3
              case measure => omega
              case rel => exact ⟨j + 1, _, by omega, by go_num, rfl⟩
        | zero =>
          have jlt : ¬ (j : Int) < (q : Int) := by omega
          have HWH := hm7 (whole7_any Ks0 (.slice ka0 kn0 kc0) w.heap.size (Y.drewN mm) ((HGN.out mm).z.ko) (fun k hk => ((HGN.out mm).z.kk k hk).mono fun _ _ _ => trivial) (by rw [HKL0.out]; omega))
          go_wp2_with (first
            | (go_at_call 25; refine HWH.out.mono ?_; rintro e V1 ⟨rfl, n1, hv1⟩; have HGW : Hid (GD w T1 T2 X0 g1 g2 m m s s (.slice ka0 kn0 kc0) Ks0 (.slice oa q oc) Os (.slice la ln lc) Lq [] [] V1) := (by rw [hv1]; exact (HGN.out mm).below (below_dn7 _ n1)); clear hv1)
            | (go_at_call 12; refine (HGX.out.rows (by omega)).mono ?_; rintro e V3 ⟨TY, uY, QY, BY, rfl, hgd, hq⟩; obtain ⟨aY, cY, hu, -⟩ := row7_form (hgd.zs _ (List.mem_append_right _ (List.mem_singleton.2 rfl))).1.h.o; obtain ⟨nY, hn⟩ : ∃ n, QY.length = n := ⟨_, rfl⟩; simp only at hu; rw [hn] at hu; subst hu; have HQY := hm7 hq; have HGY := hm7 hgd; clear hgd hq hn)
            | (go_at_call 12; refine (HGW.out.rows (by omega)).mono ?_; rintro e V2 ⟨TX, uX, QX, BX, rfl, hgd, hq⟩; obtain ⟨aX, cX, hu, -⟩ := row7_form (hgd.zs _ (List.mem_append_right _ (List.mem_singleton.2 rfl))).1.h.o; obtain ⟨nX, hn⟩ : ∃ n, QX.length = n := ⟨_, rfl⟩; simp only at hu; rw [hn] at hu; subst hu; have HQX := hm7 hq; have HGX := hm7 hgd.swap; clear hgd hq hn)
            | (go_at_call 22; refine (sameRows7_any QX QY _ _ V3 (HGY.out.zs _ (List.mem_cons_self ..)).1.ls (HGY.out.zs _ (List.mem_cons_of_mem _ (List.mem_cons_self ..))).1.ls (HQX.out.trans HQY.out.symm)).mono ?_; rintro e V4 ⟨rfl, n4, hv4⟩; have HB4 : Hid (Below w.heap.size w V4) := (by rw [hv4]; exact bel7 HGY.out.p1.b (below_dn7 _ n4)); clear hv4))
          go_ret
          exact ⟨rfl, HB4.out⟩
end Go.Proofs.Ytofopfjmcbgfjaa
