/-
  wire: law 23: WireOrder.
-/
import Derived.Test.YtboomeeipnfbmaaWSO1
namespace Go.Proofs.Ytboomeeipnfbmaa
open Go.RowKit
attribute [local go_sem ↓] Go.wp_at_zero Go.wp_at_succ

theorem remW (x : Int) (n : Nat) (hn : n ≤ 4095) : ∃ i : Nat, i ≤ n ∧ wrap64 ((IntKind.u64.wrap x).tmod ((n : Int) + 1)) = (i : Int) := by
  have h0 : 0 ≤ IntKind.u64.wrap x := by simp [IntKind.wrap, IntKind.bits, IntKind.signed]; omega
  obtain ⟨y, hy⟩ : ∃ y, IntKind.u64.wrap x = y := ⟨_, rfl⟩
  rw [hy] at h0 ⊢
  rw [Int.tmod_eq_emod_of_nonneg h0]
  have h1 := Int.emod_nonneg y (b := (n : Int) + 1) (by omega)
  have h2 := Int.emod_lt_of_pos y (b := (n : Int) + 1) (by omega)
  exact ⟨(y % ((n : Int) + 1)).toNat, by omega, by unfold wrap64; omega⟩
set_option maxRecDepth 20000 in
set_option maxHeartbeats 16000000 in
theorem wireOrderW_any {sv : Value} {L : List (OvW × Value)} {Y : World} (pick other : Int) (h : ScW (fun x => x < Y.heap.size) Y sv L) :
    Calls Try.prog 8 #[sv, .int .i64 pick, .int .i64 other] Y fun e Y' => e = .returned (.bool true) ∧ Below Y.heap.size Y Y' := by
  have HBG := hm7 (begunW_any h)
  obtain ⟨sa, sn, sc, rfl⟩ : ∃ a n c, sv = .slice a n c := by obtain ⟨⟨a, c, e, -⟩, -⟩ := h; exact ⟨_, _, _, e⟩
  clear h
  go_enter Try.func8, Try.ntmps8
  go_upto_region 4 with (go_at_call 23; (with_reducible refine HBG.out.mono ?_); rintro e Y2 ⟨T, v, s, rfl, hw, hso, hsg, hb, hts⟩; obtain ⟨g, rfl⟩ := hw.ptr; have HW2 := hm7 hw; have HB2 := hm7 hb; clear hw hb)
  obtain ⟨S0, hS0⟩ : ∃ S0, putW s [1, 2, 3, 4, 5] = S0 := ⟨_, rfl⟩
  obtain ⟨rl, hrl⟩ : ∃ rl, S0.row.length = rl + 1 := ⟨s.row.length, by rw [← hS0]; unfold putW; simp⟩
  rw [hS0] at HW2
  clear hS0 hso hsg hts
  have HRL := hm7 hrl
  have hrb : rl ≤ 4095 := by have h1 := HW2.out.ok.r; have h2 := HW2.out.ok.g; omega
  obtain ⟨m0, hm0⟩ : ∃ m0, S0.row[0]? = some m0 := ⟨_, List.getElem?_eq_getElem (by omega)⟩
  clear hrl
  go_upto_region 5 with (go_at_call 22; with_reducible refine (wwaitW_any HW2.out).mono ?_; rintro e Y3 ⟨u, Z, rfl, hz, ho, hb⟩; have HW3 := hm7 (HW2.out.below hb); have HB3 := hm7 (HB2.out.trans (hb.mono HB2.out.size)); have HT3 := hm7 (fun x (hx : T x) => (HW2.out.lt x hx)); have HO3 := hm7 ho; have HZ := hm7 hz; clear hz hb ho)
  have hzl : Z.length = rl + 1 := by have := HZ.out; have := HRL.out; rw [← HZ.out, List.length_map] at this; exact this
  obtain ⟨gr, cap, rfl, hor⟩ := HO3.out.or (fun e => by rw [e] at hzl; simp at hzl)
  rw [hzl]
  obtain ⟨F3, hF3, hor⟩ : ∃ F3 : Nat → Prop, (∀ x, F3 x → Y2.heap.size ≤ x ∧ x < Y3.heap.size) ∧ OrW F3 Y3 gr cap Z := ⟨_, fun _ h => h, hor⟩
  have HF3 := hm7 hF3
  clear hF3
  have HOR := hm7 hor
  obtain ⟨z0, hz0⟩ : ∃ z0, Z[0]? = some z0 := ⟨_, List.getElem?_eq_getElem (by omega)⟩
  have hz01 : z0.1 = m0 := by have := HZ.out; rw [← this, List.getElem?_map, hz0] at hm0; simpa using hm0
  have c00 : Y3.cell? ⟨gr, 0, none⟩ = some (.int .i64 (z0.1.n : Int)) := by have := (hor.n 0 z0 hz0).1; rw [Nat.zero_mul] at this; exact this
  rw [hz01] at c00
  have hnx : nxtW S0 = (m0.n : Int) := by unfold nxtW; cases hr : S0.row with | nil => rw [hr] at hm0; simp at hm0 | cons a l => rw [hr] at hm0; simp at hm0; rw [hm0]
  have HNX := hm7 hnx
  obtain ⟨mn, hmn⟩ : ∃ z : Int, (m0.n : Int) = z := ⟨_, rfl⟩
  rw [hmn] at c00 HNX
  clear hm0 hz0 hz01 hnx hmn
  have HZL := hm7 hzl
  clear hzl
  go_upto_region 6 with (go_at_call 25; with_reducible refine (wnextW_any HW3.out).mono ?_; rintro e Y4 ⟨hret, hb⟩; rw [HNX.out] at hret; subst hret; have H34 := hm7 hb.size; have c04 := (hb.cell (p := ⟨gr, 0, none⟩) HOR.out.b.2).trans c00; have HOR4 := hm7 (HOR.out.same hb.size fun b hb1 _ => hb.block b hb1); have HW4 := hm7 (HW3.out.below hb); have HB4 := hm7 (HB3.out.trans (hb.mono HB3.out.size)); clear hb hor)
  have hb0 : (((rl : Int) + 1) == 0) = false := by simp; omega
  go_upto_region 10 with (fail)
  obtain ⟨i, hi, ei⟩ := remW pick rl hrb
  obtain ⟨j, hj, ej⟩ := remW other rl hrb
  rw [ei, ej]
  clear ei ej c00 c04
  obtain ⟨zi, hzi⟩ : ∃ zi, Z[i]? = some zi := ⟨_, List.getElem?_eq_getElem (by have := HZL.out; omega)⟩
  obtain ⟨zj, hzj⟩ : ∃ zj, Z[j]? = some zj := ⟨_, List.getElem?_eq_getElem (by have := HZL.out; omega)⟩
  have c4i := (HOR4.out.n i zi hzi).1
  have c4j := (HOR4.out.n j zj hzj).1
  have hri : S0.row[i]? = some zi.1 := by rw [← HZ.out, List.getElem?_map, hzi]; rfl
  have hrj : S0.row[j]? = some zj.1 := by rw [← HZ.out, List.getElem?_map, hzj]; rfl
  have hpi := plW_at HW4.out.ok hri
  have hpj := plW_at HW4.out.ok hrj
  have hsE : swpE S0 (zi.1.n : Int) (zj.1.n : Int) = 0 := swpE_two hpi hpj
  have hsS : swpS S0 (zi.1.n : Int) (zj.1.n : Int) = ⟨swpR S0.row i j, S0.gv⟩ := by unfold swpS; rw [hpi, hpj]
  have HSW := hm7 (wswpW_any (HW4.out.below (⟨rfl, rfl, rfl, Nat.le_refl _, fun _ _ => rfl⟩ : Below Y4.heap.size Y4 Y4.drew)) (zi.1.n : Int) (zj.1.n : Int))
  rw [hsE, hsS] at HSW
  obtain ⟨ni, hni⟩ : ∃ z : Int, (zi.1.n : Int) = z := ⟨_, rfl⟩
  obtain ⟨nj, hnj⟩ : ∃ z : Int, (zj.1.n : Int) = z := ⟨_, rfl⟩
  rw [hni, hnj] at HSW
  rw [hni] at c4i
  rw [hnj] at c4j
  have HNI := hm7 hni
  have HNJ := hm7 hnj
  have HZI := hm7 hzi
  have HZJ := hm7 hzj
  have HRI := hm7 hri
  have HRJ := hm7 hrj
  clear hni hnj hzi hzj hri hrj hpi hpj hsE hsS
  have i0 : (0 : Int) ≤ (i : Int) := by omega
  have i1 : (i : Int) < (rl : Int) + 1 := by omega
  have j0 : (0 : Int) ≤ (j : Int) := by omega
  have j1 : (j : Int) < (rl : Int) + 1 := by omega
  have HOR4d := hm7 (HOR4.out.same (w' := Y4.drew) (Nat.le_refl _) fun _ _ _ => rfl)
  go_region_held3 (fun w' => w'.cell? ⟨gr, i * 2, none⟩ = some (.int .i64 ni) ∧ w'.cell? ⟨gr, j * 2, none⟩ = some (.int .i64 nj))
    ((first | exact ⟨c4i, c4j⟩ | exact ⟨c5i, c5j⟩))
    ((go_at_call 16; with_reducible refine HSW.out.mono ?_; rintro e Y5 ⟨rfl, hq⟩; obtain ⟨T5, hw, hs⟩ := hq.st; have HOR5 := hm7 (HOR4d.out.same (w' := Y5) hs.f.size fun b hb1 hb2 => hs.f.block b hb1 fun ht => by have h1 := HT3.out b ht; have h2 := HF3.out b hb2; omega); have c5i : Y5.cell? ⟨gr, i * 2, none⟩ = some (.int .i64 ni) := by { rw [← HNI.out]; exact (HOR5.out.n i zi HZI.out).1 }; have c5j : Y5.cell? ⟨gr, j * 2, none⟩ = some (.int .i64 nj) := by { rw [← HNJ.out]; exact (HOR5.out.n j zj HZJ.out).1 }; have HS5 := hm7 hs; have HW5 := hm7 hw; clear hq hw hs))
  obtain ⟨ia, ic, hui, -⟩ := (HOR5.out.u zi (List.mem_of_getElem? HZI.out)).form
  obtain ⟨ja, jc, huj, -⟩ := (HOR5.out.u zj (List.mem_of_getElem? HZJ.out)).form
  obtain ⟨il, hil⟩ : ∃ l, zi.1.b.length = l := ⟨_, rfl⟩
  obtain ⟨jl, hjl⟩ : ∃ l, zj.1.b.length = l := ⟨_, rfl⟩
  rw [hil] at hui
  rw [hjl] at huj
  have d5i := (HOR5.out.n i zi HZI.out).2
  have d5j := (HOR5.out.n j zj HZJ.out).2
  rw [hui] at d5i
  rw [huj] at d5j
  have hgl := HOR5.out.b.2
  have hff := HOR5.out.f
  have HUI := hm7 hui
  have HUJ := hm7 huj
  clear c4i c4j hui huj hil hjl
  go_upto_region 13 with (fail)
  have hil : i < Z.length := by have := HZL.out; omega
  have hjl : j < Z.length := by have := HZL.out; omega
  have hr5 : OrW F3 ((Y5.setCell ⟨gr, i * 2, none⟩ (.int .i64 nj)).setCell ⟨gr, i * 2 + 1, none⟩ (.slice ja jl jc)) gr cap (Z.set i zj) := by
    have := HOR5.out.put (j := i) (q := zj) hil (HOR5.out.u zj (List.mem_of_getElem? HZJ.out))
    rw [HNJ.out, HUJ.out] at this
    exact this
  obtain ⟨Y6, hY6⟩ : ∃ Y6, ((Y5.setCell ⟨gr, i * 2, none⟩ (.int .i64 nj)).setCell ⟨gr, i * 2 + 1, none⟩ (.slice ja jl jc)).alloc (.cells #[.int .i64 ni, .slice ia il ic] 57) = Y6 := ⟨_, rfl⟩
  have hs5 : ((Y5.setCell ⟨gr, i * 2, none⟩ (.int .i64 nj)).setCell ⟨gr, i * 2 + 1, none⟩ (.slice ja jl jc)).heap.size = Y5.heap.size := by simp
  have hr6 : OrW F3 Y6 gr cap (Z.set i zj) := by rw [← hY6]; exact hr5.same (below1 _ _).size fun b hb _ => (below1 _ _).block b hb
  have hk6 : Bk Y6 Y5.heap.size #[.int .i64 ni, .slice ia il ic] 57 := by rw [← hY6, ← hs5]; exact Bk.new _ _ _
  have fr6 : Fr (fun b => b = gr) Y5 Y6 := by
    rw [← hY6]
    have h1 : Fr (fun b => b = gr) Y5 ((Y5.setCell ⟨gr, i * 2, none⟩ (.int .i64 nj)).setCell ⟨gr, i * 2 + 1, none⟩ (.slice ja jl jc)) := Fr.set (Fr.set (Fr.refl (fun b => b = gr) Y5) (Or.inl rfl)) (Or.inl rfl)
    exact (h1.trans (Q := fun _ => False) (Fr.of (below1 _ _)) fun b _ e => e.elim)
  rw [hY6]
  have x0 : Y6.cell? ⟨Y5.heap.size, 0, none⟩ = some (.int .i64 ni) := hk6.cell rfl
  have x1 : Y6.cell? ⟨Y5.heap.size, 1, none⟩ = some (.slice ia il ic) := hk6.cell rfl
  obtain ⟨zq, hzq⟩ : ∃ q, (Z.set i zj)[j]? = some q := ⟨_, List.getElem?_eq_getElem (by rw [List.length_set]; exact hjl)⟩
  obtain ⟨e6, f6⟩ := hr6.n j zq hzq
  have hff6 := hr6.f
  have hgl6 := hr6.b.2
  have HR6 := hm7 hr6
  have HF6 := hm7 fr6
  have HIL := hm7 hil
  have HJL := hm7 hjl
  clear hY6 hs5 hr5 hr6 hk6 fr6 hzq hff c5i c5j d5i d5j hgl hil hjl
  go_upto_region 14 with (fail)
  have hr7 : OrW F3 ((Y6.setCell ⟨gr, j * 2, none⟩ (.int .i64 ni)).setCell ⟨gr, j * 2 + 1, none⟩ (.slice ia il ic)) gr cap ((Z.set i zj).set j zi) := by
    have := HR6.out.put (j := j) (q := zi) (by rw [List.length_set]; exact HJL.out) ((HOR5.out.u zi (List.mem_of_getElem? HZI.out)).fr HF6.out fun b _ hF => hF.2)
    rw [HNI.out, HUI.out] at this
    exact this
  have hf7 : Fr (fun b => b = gr) Y5 ((Y6.setCell ⟨gr, j * 2, none⟩ (.int .i64 ni)).setCell ⟨gr, j * 2 + 1, none⟩ (.slice ia il ic)) := Fr.set (Fr.set HF6.out (Or.inl rfl)) (Or.inl rfl)
  generalize (Y6.setCell ⟨gr, j * 2, none⟩ (.int .i64 ni)).setCell ⟨gr, j * 2 + 1, none⟩ (.slice ia il ic) = Y7 at hr7 hf7 ⊢
  have hb4d : Below Y4.heap.size Y4 Y4.drew := ⟨rfl, rfl, rfl, Nat.le_refl _, fun _ _ => rfl⟩
  have hb5 : Below Y.heap.size Y Y5 := (HW4.out.below hb4d).go HS5.out (HB4.out.trans (hb4d.mono HB4.out.size)) HB4.out.size
  have hge : Y2.heap.size ≤ gr := (HF3.out gr HOR4.out.b.1).1
  have h34 : Y3.heap.size ≤ Y4.heap.size := H34.out
  have hTF : ∀ x, T5 x → ¬ F3 x := fun x hx hF => by
    have h0 := HF3.out x hF
    rcases HS5.out.s x hx with hx | hx
    · have := HT3.out x hx; omega
    · have h1 : Y4.drew.heap.size = Y4.heap.size := rfl
      omega
  have hTg : ∀ x, T5 x → x ≠ gr := fun x hx e => hTF x hx (by rw [e]; exact HOR4.out.b.1)
  have HW7 := hm7 (HW5.out.fr hf7 fun b _ hb hg => hTg b hb hg)
  have HB7 := hm7 (hb5.trans (Fr.low (B := Y.heap.size) (hf7.mono fun x _ hx => by have := HB2.out.size; omega) hb5.size))
  have hz7 : ((Z.set i zj).set j zi).map Prod.fst = swpR S0.row i j := by rw [swpR_at HRI.out HRJ.out, List.map_set, List.map_set, HZ.out]
  have hl7 : ((Z.set i zj).set j zi).length = rl + 1 := by rw [List.length_set, List.length_set]; exact HZL.out
  obtain ⟨Z7, hZ7⟩ : ∃ Z7, (Z.set i zj).set j zi = Z7 := ⟨_, rfl⟩
  rw [hZ7] at hr7 hz7 hl7
  obtain ⟨R1, hR1⟩ : ∃ R1, swpR S0.row i j = R1 := ⟨_, rfl⟩
  rw [hR1] at hz7 HW7
  have hR1l : R1.length = rl + 1 := by rw [← hR1, swpR_len]; exact HRL.out
  have HR7 := hm7 hr7
  have HZ7 := hm7 hz7
  have HL7 := hm7 hl7
  have HR1 := hm7 hR1l
  have HT7 := hm7 hTF
  obtain ⟨zt, hzt⟩ : ∃ q, Z7[i]? = some q := ⟨_, List.getElem?_eq_getElem (by omega)⟩
  have HZT := hm7 hzt
  clear hr7 hf7 hb4d hb5 hge hTg hTF h34 hz7 hl7 hZ7 hR1 hR1l hzt x0 x1 e6 f6 hff6 hgl6
  go_upto_region 15 with (go_at_call 22; with_reducible refine (wwaitW_any HW7.out).mono ?_; rintro e Y8 ⟨u, Z8, rfl, hz, ho, hb⟩; have hlm := ho.out HW7.out; rw [hz] at hlm; obtain ⟨x1, y1, rfl, -⟩ := hlm.form; rw [HR1.out] at hlm ⊢; have HN8 := hm7 hlm; have HW8 := hm7 (HW7.out.below hb); have HB8 := hm7 (HB7.out.trans (hb.mono HB7.out.size)); have HR8 := hm7 (HR7.out.same hb.size fun b hb1 _ => hb.block b hb1); clear hlm ho hz hb)
  have hrow8 := HR8.out.lm HL7.out
  rw [HZ7.out] at hrow8
  have HSR := hm7 (srowsW_any _ _ R1 _ _ Y8 HN8.out hrow8)
  have hti := HR8.out.n i zt HZT.out
  obtain ⟨nt, hnt⟩ : ∃ z : Int, (zt.1.n : Int) = z := ⟨_, rfl⟩
  have ht1 : R1[i]? = some zt.1 := by rw [← HZ7.out, List.getElem?_map, HZT.out]; rfl
  have htp := plW_at HW8.out.ok ht1
  have htb := byW_at htp ht1
  have htk : takS ⟨R1, S0.gv⟩ (zt.1.n : Int) = ⟨R1.eraseIdx i, S0.gv⟩ := by unfold takS; rw [htp]
  have hte : lokE ⟨R1, S0.gv⟩ (zt.1.n : Int) = 0 := by unfold lokE; rw [htp]
  rw [hnt] at hti htp htb htk hte
  obtain ⟨ta, tc, hut, -⟩ := (HR8.out.u zt (List.mem_of_getElem? HZT.out)).form
  have htb2 : zt.1.b.length ≤ 1048576 := HW8.out.ok.l zt.1 (List.mem_of_getElem? ht1)
  obtain ⟨tl, htl⟩ : ∃ l, zt.1.b.length = l := ⟨_, rfl⟩
  rw [htl] at hut htb2
  rw [hut] at hti
  obtain ⟨t0, t1⟩ := hti
  have hgl8 := HR8.out.b.2
  have HUT := hm7 hut
  have HTB := hm7 htb
  have HTK := hm7 htk
  have HTE := hm7 hte
  have HTL := hm7 htl
  have HNT := hm7 hnt
  clear hrow8 hnt ht1 htp htb htk hte hut htl
  go_upto_region 17 with (go_at_call 24; with_reducible refine HSR.out.mono ?_; rintro e Y9 ⟨rfl, m9, rfl⟩)
  obtain ⟨Y9, hY9⟩ : ∃ Y9, Y8.drewN m9 = Y9 := ⟨_, rfl⟩
  have hb9 : Below Y8.heap.size Y8 Y9 := by rw [← hY9]; exact ⟨rfl, rfl, rfl, Nat.le_refl _, fun _ _ => rfl⟩
  rw [hY9]
  have HW9 := hm7 (HW8.out.below hb9)
  have HB9 := hm7 (HB8.out.trans (hb9.mono HB8.out.size))
  have HR9 := hm7 (HR8.out.same hb9.size fun b hb1 _ => hb9.block b hb1)
  have t9 : Y9.cell? ⟨gr, i * 2, none⟩ = some (.int .i64 nt) := by rw [← HNT.out]; exact (HR9.out.n i zt HZT.out).1
  have hgl9 := HR9.out.b.2
  clear hY9 hb9 t0 t1 hgl8
  go_upto_region 18 with (go_at_call 11; with_reducible refine (wtakeW_any HW9.out nt).mono ?_; rintro e Y10 ⟨u, T10, hret, hw, h1, h2, h3⟩; rw [HTE.out] at hret; rw [HTK.out] at hw; rw [HTB.out] at h3; subst hret; obtain ⟨ba, bc, rfl, -⟩ := h3.form; rw [HTL.out] at h3; rw [HTL.out]; have HX10 := hm7 (And.intro h1 (And.intro h2 (And.intro h3 hw))); clear h1 h2 h3 hw)
  obtain ⟨h1, h2, h3, hw⟩ := HX10.out
  have HS10 : Hid (StW T5 T10 Y9 Y10) := hm7 ⟨h2, h1⟩
  have HU10 := hm7 h3
  have HW10 := hm7 hw
  have HB10 := hm7 (HW9.out.go HS10.out HB9.out HB9.out.size)
  have HR10 := hm7 (HR9.out.same h2.size fun b hb1 hb2 => h2.block b hb1 fun ht => HT7.out b ht hb2)
  clear h1 h2 h3 hw
  have hR2l : (R1.eraseIdx i).length = rl := by rw [List.length_eraseIdx, HR1.out]; split <;> omega
  have HR2 := hm7 hR2l
  clear hR2l t9 hgl9
  go_upto_region 19 with (go_at_call 22; with_reducible refine (wwaitW_any HW10.out).mono ?_; rintro e Y11 ⟨u, Z11, rfl, hz, ho, hb⟩; have hlm := ho.lm; rw [hz] at hlm; obtain ⟨na, nc, rfl, hnc⟩ := hlm.form; rw [HR2.out] at hlm hnc ⊢; have HN11 := hm7 hlm; have HB11 := hm7 (HB10.out.trans (hb.mono HB10.out.size)); have HR11 := hm7 (HR10.out.same hb.size fun b hb1 _ => hb.block b hb1); have HU11 := hm7 (HU10.out.below hb); clear hlm ho hz hb)
  have d1 := (HR11.out.n i zt HZT.out).2
  rw [HUT.out] at d1
  have hgl11 := HR11.out.b.2
  have hub := HR11.out.u zt (List.mem_of_getElem? HZT.out)
  rw [HUT.out] at hub
  have HSB : Hid (∀ k, Calls Try.prog 12 #[.slice ba tl bc, .slice ta tl tc] (Y11.drewN k) fun e w' => e = .returned (.bool true) ∧ ∃ n, w' = Y11.drewN (k + n)) := hm7 fun k => by
    have := sameW_any _ _ zt.1.b zt.1.b _ _ (Y11.drewN k) (HU11.out.drewN k) (hub.drewN k)
    rw [decide_eq_true rfl] at this
    exact this.mono fun e w' ⟨h1, n, h2⟩ => ⟨h1, n, by rw [h2, World.drewN_drewN]⟩
  have hrow := HR11.out.lm HL7.out
  rw [HZ7.out] at hrow
  have h2t : (R1.eraseIdx i).take i = R1.take i := by
    refine List.ext_getElem? fun k => ?_
    rw [List.getElem?_take, List.getElem?_take]
    split
    · rw [List.getElem?_eraseIdx, if_pos (by assumption)]
    · rfl
  have hta := HN11.out.take (k := i) hi
  rw [h2t] at hta
  have HSA : Hid (∀ k, Calls Try.prog 24 #[.slice na i nc, .slice (some ⟨gr, 0, none⟩) i cap] (Y11.drewN k) fun e w' => e = .returned (.bool true) ∧ ∃ n, w' = Y11.drewN (k + n)) := hm7 fun k =>
    (srowsW_any _ _ (R1.take i) _ _ (Y11.drewN k) (hta.drewN k) ((hrow.take (k := i) (by omega)).drewN k)).mono fun e w' ⟨h1, n, h2⟩ => ⟨h1, n, by rw [h2, World.drewN_drewN]⟩
  have hnc2 : (i : Int) ≤ (nc : Int) := by omega
  have hcc : rl + 1 ≤ cap := by have := HR11.out.c.1; rw [HL7.out] at this; exact this
  have hcc2 : (i : Int) ≤ (cap : Int) := by omega
  have hw1 : IntKind.i64.wrap ((rl : Int) + 1 - 1) = (rl : Int) := by simp [IntKind.wrap, IntKind.bits, IntKind.signed]; omega
  have HROW := hm7 hrow
  clear hub hrow h2t hta
  go_quiet (first
    | (go_at_call 12; with_reducible refine (HSB.out _).mono ?_; rintro e Yx ⟨rfl, mx, rfl⟩; first | exact ⟨rfl, _, rfl⟩ | exact ⟨rfl, _, by rw [Nat.add_assoc]⟩)
    | (go_at_call 24; with_reducible refine (HSA.out _).mono ?_; rintro e Yx ⟨rfl, mx, rfl⟩; first | exact ⟨rfl, _, rfl⟩ | exact ⟨rfl, _, by rw [Nat.add_assoc]⟩))
  have HNA := hm7 hnc2
  have i0 : (0 : Int) ≤ (i : Int) := by omega
  have hic : (i : Int) ≤ (rl : Int) := by omega
  have hi1 : (0 : Int) ≤ (i : Int) + 1 := by omega
  have t1 : ((i : Int) + 1).toNat = i + 1 := by omega
  have hwi : IntKind.i64.wrap ((i : Int) + 1) = (i : Int) + 1 := by simp [IntKind.wrap, IntKind.bits, IntKind.signed]; omega
  obtain ⟨M, hM⟩ : ∃ M, rl + 1 = M := ⟨_, rfl⟩
  have hi2 : (i : Int) + 1 ≤ (M : Int) := by omega
  have hE : (R1.eraseIdx i).drop i = R1.drop (i + 1) := by
    rw [List.eraseIdx_eq_take_drop_succ, List.drop_append, List.drop_of_length_le (by rw [List.length_take]; omega), List.nil_append, List.length_take]
    rw [show i - min i R1.length = 0 by have := HR1.out; omega, List.drop_zero]
  have hA := HN11.out.dropW (k := i) hi
  rw [hE] at hA
  have hB := HROW.out
  rw [hM] at hB
  have hB := hB.dropW (k := i + 1) (by omega)
  rw [Option.map_some, Go.WideShapes.add_plain, Nat.zero_add] at hB
  have HSC : Hid (∀ k, Calls Try.prog 24 #[.slice (if nc = i then na else Option.map (fun x => x.add (i * 2)) na) (rl - i) (nc - i), .slice (if cap = i + 1 then some ⟨gr, 0, none⟩ else some ⟨gr, (i + 1) * 2, none⟩) (M - (i + 1)) (cap - (i + 1))] (Y11.drewN k) fun e w' => e = .returned (.bool true) ∧ ∃ n, w' = Y11.drewN (k + n)) := hm7 fun k =>
    (srowsW_any _ _ (R1.drop (i + 1)) _ _ (Y11.drewN k) (hA.drewN k) (hB.drewN k)).mono fun e w' ⟨h3, n, h4⟩ => ⟨h3, n, by rw [h4, World.drewN_drewN]⟩
  clear hA hB hE
  go_wp2_with (fail)
  rw [hM]
  go_quiet ((go_at_call 24; with_reducible refine (HSC.out _).mono ?_; rintro e Yx ⟨rfl, mx, rfl⟩; first | exact ⟨rfl, _, rfl⟩ | exact ⟨rfl, _, by rw [Nat.add_assoc]⟩))
  go_wp2
  all_goals
    go_ret
    exact ⟨rfl, HB11.out.trans ⟨rfl, rfl, rfl, Nat.le_refl _, fun _ _ => rfl⟩⟩
end Go.Proofs.Ytboomeeipnfbmaa
