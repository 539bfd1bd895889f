import Derived.Test.YtcejljehjhlonaaGreatDoorB5
import Derived.Test.YtcejljehjhlonaaGreatDoorHC14
import Derived.Test.YtcejljehjhlonaaGreatDoorHC8
import Derived.Test.YtcejljehjhlonaaGreatDoorHC5
namespace Go.Proofs.YtcejljehjhlonaaGreatDoor
open Go.RowKit
attribute [local go_sem ↓] Go.wp_at_zero Go.wp_at_succ

theorem allH_szF {R : List Ck} (hR : ∀ c ∈ R, szK c) : ∀ {S : List Sk} {F G : List At}, (∀ a ∈ F, szA a) -> allH R S F = .ok G -> ∀ a ∈ G, szA a
 | [], F, G, hF, h => by cases h; exact hF
 | s :: S, F, G, hF, h => by
  unfold allH at h
  cases hs : stepH R s F with
  | error c => rw [hs] at h; cases h
  | ok a =>
   rw [hs] at h
   refine allH_szF hR (fun b hb => ?_) h
   rcases List.mem_append.1 hb with hb | hb
   ·exact hF b hb
   ·rw [List.mem_singleton] at hb; subst hb; exact stepH_sz hR hs
theorem conH_szF {R : List Ck} {S : List Sk} {G : List At} (hR : ∀ c ∈ R, szK c) (h : conH R S = .ok G) : ∀ a ∈ G, szA a := by
 unfold conH at h
 split at h
 ·cases h
 ·exact allH_szF hR (fun a ha => by cases ha) h
set_option maxRecDepth 20000 in
set_option maxHeartbeats 2000000 in
theorem rcheckH_any (l R : List Cm) (S : List St) (f : At) (lv rv sv fv : Value) (w : World) (hl : CsP w lv l) (hR : CsP w rv R) (hS : SsP w sv S) (hf : Ts w fv f.args) (hkp : ∀ c ∈ R, OKP w c) (hzl : ∀ c ∈ l, c.szs) (hzR : ∀ c ∈ R, c.szs) (hzf : szA f) (hn : l.length <= 1000000000000) (hn2 : R.length <= 1000000000000) (hn3 : S.length <= 1000000000000) :
  Calls Tryz.prog 14 #[lv, .agg #[rv, sv], f.v fv] w fun e w' => e = .returned (.int .i64 (cheH (l.map Cm.key) (R.map Cm.key) (S.map St.key) f)) /\ Below w.heap.size w w' := by
 have hzk : ∀ c ∈ R.map Cm.key, szK c := fun c hc => by obtain ⟨d, hd, rfl⟩ := List.mem_map.1 hc; exact szK_of (hzR d hd)
 have HC : Hid (∀ X : World, Below w.heap.size w X -> Calls Tryz.prog 7 #[.agg #[rv, sv]] X (CPH X (conH (R.map Cm.key) (S.map St.key)))) := fun X hX => rconclude_any R S rv sv X (hR.later hX) (hS.later hX) (fun c hc => (hkp c hc).laterH hX) (fun c hc => szK_of (hzR c hc))
 have HHC : Hid (∀ (X : World) (d : Cm), Below w.heap.size w X -> d ∈ R -> Calls Tryz.prog 29 #[lv, d.v] X fun e w' => e = .returned (.bool (decide (d.key ∈ l.map Cm.key))) /\ Below X.heap.size X w') := fun X d hX hd => among_any l lv d X (hl.later hX) ((hR.ok d hd).later hX) (by omega) hzl (hzR d hd)
 have HSA : Hid (∀ (X : World) (x : At × Value), Below w.heap.size w X -> Ts X x.2 x.1.args -> szA x.1 -> Calls Tryz.prog 30 #[x.1.v x.2, f.v fv] X fun e w' => e = .returned (.bool (decide (x.1 = f))) /\ Below X.heap.size X w') := fun X x hX hx hz => rsameH_any x.1 f x.2 fv X hx (hf.later hX) hz hzf
 have HSZ : Hid (∀ F, conH (R.map Cm.key) (S.map St.key) = .ok F -> ∀ a ∈ F, szA a) := fun F h => conH_szF hzk h
 have HR : Hid (CsP w rv R) := hR
 have HS : Hid (SsP w sv S) := hS
 obtain ⟨r, hr⟩ : ∃ r, cheH (l.map Cm.key) (R.map Cm.key) (S.map St.key) f = r := ⟨_, rfl⟩
 rw [hr]
 have HRR : Hid (cheH (l.map Cm.key) (R.map Cm.key) (S.map St.key) f = r) := hr
 obtain ⟨q, hq⟩ : ∃ q, conH (R.map Cm.key) (S.map St.key) = q := ⟨_, rfl⟩
 rw [hq] at HC
 have HQ : Hid (conH (R.map Cm.key) (S.map St.key) = q) := hq
 generalize l.map Cm.key = CK at HHC HRR
 obtain ⟨la, lc, rfl⟩ := hl.form
 obtain ⟨ra, rc, rfl⟩ := hR.form
 obtain ⟨sa, sc, rfl⟩ := hS.form
 obtain ⟨f1, f3, rfl⟩ := hf.sl
 generalize l.length = lln at HHC ⊢
 obtain ⟨rn, hrn⟩ : ∃ n, n = R.length := ⟨_, rfl⟩
 obtain ⟨sn, hsn⟩ : ∃ n, n = S.length := ⟨_, rfl⟩
 rw [<- hrn, <- hsn] at HC ⊢
 rw [<- hrn] at HR hn2
 rw [<- hsn] at HS hn3
 have HN : Hid (rn = R.length /\ sn = S.length) := ⟨hrn, hsn⟩
 clear hl hR hS hf hkp hzl hzR hzf hr hq hzk hrn hsn
 obtain ⟨⟨fk, fm, fs⟩, fn, fl⟩ := f
 simp only at HSA ⊢
 generalize fl.length = f2 at HSA ⊢
 have hmk := mk_bools rn (by omega)
 have HP0 : Hid (CBlk ((w.alloc (.cells #[.slice ra rn rc, .slice sa sn sc] 25)).alloc (.cells #[.int .i64 fk, .int .i64 fm, .string fs, .string fn, .slice f1 f2 f3] 39)) w.heap.size #[.slice ra rn rc, .slice sa sn sc] 25) := (CBlk.new _ _ _).later (below1 _ _)
 have HF0 : Hid (CBlk ((w.alloc (.cells #[.slice ra rn rc, .slice sa sn sc] 25)).alloc (.cells #[.int .i64 fk, .int .i64 fm, .string fs, .string fn, .slice f1 f2 f3] 39)) (w.heap.size + 1) #[.int .i64 fk, .int .i64 fm, .string fs, .string fn, .slice f1 f2 f3] 39) := by
  have := CBlk.new (w.alloc (.cells #[.slice ra rn rc, .slice sa sn sc] 25)) #[.int .i64 fk, .int .i64 fm, .string fs, .string fn, .slice f1 f2 f3] 39
  rwa [show (w.alloc (.cells #[.slice ra rn rc, .slice sa sn sc] 25)).heap.size = w.heap.size + 1 by simp] at this
 have HW0 : Hid (Below w.heap.size w ((w.alloc (.cells #[.slice ra rn rc, .slice sa sn sc] 25)).alloc (.cells #[.int .i64 fk, .int .i64 fm, .string fs, .string fn, .slice f1 f2 f3] 39))) := below2 _ _ _
 go_enter Tryz.func14, Tryz.ntmps14
 go_upto_region 1 with fail
 revert HP0 HF0 HW0
 generalize (w.alloc (.cells #[.slice ra rn rc, .slice sa sn sc] 25)).alloc (.cells #[.int .i64 fk, .int .i64 fm, .string fs, .string fn, .slice f1 f2 f3] 39) = W0
 intro HP0 HF0 HW0
 obtain ⟨p0, p1⟩ := ctwo HP0.out
 cases q with
 | error c =>
  have HE : Hid (r = c) := by show r = c; rw [<- HRR.out]; unfold cheH; rw [HQ.out]
  have hcz : c ≠ 0 := conH_ne HQ.out
  have hc1 : (c == 0) = false := by simpa using hcz
  have hc2 : (c != 0) = true := by simpa using hcz
  clear hcz hmk
  go_wp2_with (go_at_call 7; refine (HC.out _ HW0.out).mono ?_; rintro e w1 ⟨hb, he⟩; have he : e = .returned (.tuple #[.slice none 0 0, .int .i64 c]) := he; subst he; have HW1 : Hid (Below w.heap.size w w1) := below_step HW0.out hb; clear hb)
  go_ret
  exact ⟨ret_i HE.out.symm, HW1.out⟩
 | ok F =>
  go_upto_region 4 with (go_at_call 7; refine (HC.out _ HW0.out).mono ?_; rintro e w1 ⟨hb, v, FL, rfl, hFL, hFF⟩; obtain ⟨v1, v3, rfl⟩ := hFL.sl; obtain ⟨v2, hv2⟩ : ∃ k, k = FL.length := ⟨_, rfl⟩; rw [<- hv2] at hFL ⊢; have HV2 : Hid (v2 = FL.length) := hv2; have HFL : Hid (As w1 (.slice v1 v2 v3) FL) := hFL; have HFF : Hid (fsts FL = F) := hFF; have HP1 : Hid (CBlk w1 w.heap.size #[.slice ra rn rc, .slice sa sn sc] 25) := HP0.out.later hb; have HF1 : Hid (CBlk w1 (w.heap.size + 1) #[.int .i64 fk, .int .i64 fm, .string fs, .string fn, .slice f1 f2 f3] 39) := HF0.out.later hb; have HW1 : Hid (Below w.heap.size w w1) := below_step HW0.out hb; clear hb hFL hFF hv2 p0 p1)
  clear HP0 HF0 HW0 HC
  obtain ⟨p0, p1⟩ := ctwo HP1.out
  go_upto_region 5 with fail
  have HY1 : Hid (Below w1.heap.size w1 (w1.alloc (.cells (madeCells #[.bool false] (rn * 1)) 4))) := below1 _ _
  have HB1 : Hid (BBk (w1.alloc (.cells (madeCells #[.bool false] (rn * 1)) 4)) w1.heap.size rn (fun _ => false)) := BBk.new _ _
  clear p0 p1 hmk
  try rw [Nat.mul_one] at HY1 HB1
  revert HY1 HB1
  try rw [Nat.mul_one]
  generalize w1.alloc (.cells (madeCells #[.bool false] rn) 4) = W1
  obtain ⟨G, hG⟩ : ∃ G, G = w1.heap.size := ⟨_, rfl⟩
  rw [<- hG]
  have HG : Hid (G = w1.heap.size) := hG
  clear hG
  intro HY1 HB1
  have HPL := hm (conH_place HQ.out)
  go_wp2_with fail
  go_loopg [10] sn (fun g i wr => ∃ (j : Nat) (fb : Nat -> Bool), j + g = sn /\ i = .int .i64 (j : Int) /\ (∀ k s, k < j -> S[k]? = some s -> inH CK (R.map Cm.key) s.key = true) /\ (∀ (k : Nat) (c : Cm), R[k]? = some c -> fb k = true -> c.key ∈ CK) /\ BBk wr G rn fb /\ Below w1.heap.size w1 wr)
  case atStart => exact ⟨0, _, by omega, rfl, (fun k s hk => absurd hk (by omega)), (fun k c _ h => by cases h), HB1.out, (by have h9 := HY1.out; rw [HG.out] at h9; exact h9)⟩
  case round =>
  obtain ⟨j, fb, hj, rfl, hco, hfb, hbb, hbw⟩ := hrel
  have HCO : Hid (∀ k s, k < j -> S[k]? = some s -> inH CK (R.map Cm.key) s.key = true) := hco
  have HFB : Hid (∀ (k : Nat) (c : Cm), R[k]? = some c -> fb k = true -> c.key ∈ CK) := hfb
  have HBB : Hid (BBk wr G rn fb) := hbb
  have HBW : Hid (Below w1.heap.size w1 wr) := hbw
  have HBP : Hid (CBlk wr w.heap.size #[.slice ra rn rc, .slice sa sn sc] 25) := HP1.out.later hbw
  have HW9 : Hid (Below w.heap.size w wr) := below_step HW1.out hbw
  clear hco hfb hbb hbw HB1 HY1
  cases gk with
  | succ g =>
   have i1 : (j : Int) < (sn : Int) := by omega
   have i0 : (0 : Int) <= (j : Int) := by omega
   obtain ⟨t, ht⟩ : ∃ t, S[j]? = some t := ⟨_, List.getElem?_eq_getElem (by have := HN.out.2; omega)⟩
   obtain ⟨b, o, rfl, hbs, hrow, hok⟩ := (HS.out.later HW9.out).at_ ht
   obtain ⟨d0, d1, d2⟩ := hrow.three ht
   obtain ⟨ht0, ht1⟩ := HPL.out.1 t.key (List.mem_map.2 ⟨t, List.mem_of_getElem? ht, rfl⟩)
   rw [List.length_map] at ht1
   have ht0 : 0 <= t.rule := ht0
   have ht1 : t.rule < (R.length : Int) := ht1
   obtain ⟨n, hn9⟩ := Int.eq_ofNat_of_zero_le ht0
   obtain ⟨c, hc⟩ : ∃ c, R[n]? = some c := ⟨_, List.getElem?_eq_getElem (by omega)⟩
   have hcm := List.mem_of_getElem? hc
   obtain ⟨rb, ro, rfl, hrz, hrrow, hcok⟩ := HR.out.at_ hc
   have hsv := hrrow.seven hc
   have hcsh := hcok.shape
   have hin : inH CK (R.map Cm.key) t.key = decide (c.key ∈ CK) := by
    unfold inH
    rw [show (t.key).1.toNat = n by show t.rule.toNat = n; rw [hn9]; rfl, List.getElem?_map, hc]
    rfl
   have HNX : Hid (c.key ∈ CK -> ∀ k s, k < j + 1 -> S[k]? = some s -> inH CK (R.map Cm.key) s.key = true) := fun h0 k s hk hs => by
    rcases Nat.lt_succ_iff_lt_or_eq.1 hk with hk | rfl
    ·exact HCO.out k s hk hs
    ·rw [ht] at hs; cases hs; rw [hin]; exact decide_eq_true h0
   have HNO : Hid (c.key ∉ CK -> r = 127) := fun h0 => by
    rw [<- HRR.out]
    unfold cheH
    rw [HQ.out]
    exact if_pos (allF (j := j) (x := t.key) (by rw [List.getElem?_map, ht]; rfl) (by rw [hin]; exact decide_eq_false h0))
   have HYF : Hid (fb n = true -> c.key ∈ CK) := HFB.out n c hc
   have HF2 : Hid (c.key ∈ CK -> ∀ (k : Nat) (d : Cm), R[k]? = some d -> (if k = n then true else fb k) = true -> d.key ∈ CK) := fun h0 k d hd h1 => by
    by_cases e : k = n
    ·subst e; rw [hc] at hd; cases hd; exact h0
    ·rw [if_neg e] at h1; exact HFB.out k d hd h1
   have HC0 := fun (X : World) (hX : Below w.heap.size w X) => HHC.out X c hX hcm
   obtain ⟨q, hq⟩ : ∃ q, decide (c.key ∈ CK) = q := ⟨_, rfl⟩
   rw [hq] at HC0
   have HQ2 : Hid (decide (c.key ∈ CK) = q) := hq
   have n1 : (n : Int) < (rn : Int) := by have := HN.out.1; omega
   have n0 : (0 : Int) <= (n : Int) := by omega
   have hnr : n < rn := by omega
   clear ht hbs hrow hok hc hcm hrrow hcok hin hq ht0 ht1 HCO HFB d1 d2
   obtain ⟨tr, tl, tv, tu, tw⟩ := t
   simp only at d0 hn9
   subst hn9
   obtain ⟨⟨⟨⟨zk, zm, zs⟩, zn, zl⟩, zx⟩, zb, zbv, zt, ztv⟩ := c
   simp only at hsv hcsh
   obtain ⟨⟨z1, z2, z3, e1⟩, ⟨z4, z6, e2⟩, ⟨z7, z9, e3⟩, -, -⟩ := hcsh
   generalize zb.length = z5 at e2
   generalize zt.length = z8 at e3
   subst e1 e2 e3
   have HC : Hid (∀ X : World, Below w.heap.size w X -> Calls Tryz.prog 29 #[.slice la lln lc, .agg #[.int .i64 zk, .int .i64 zm, .string zs, .string zn, .slice z1 z2 z3, .slice z4 z5 z6, .slice z7 z8 z9]] X fun e w' => e = .returned (.bool q) /\ Below X.heap.size X w') := HC0
   obtain ⟨h0, h1, h2, h3, h4, h5, h6⟩ := hsv
   have hX := HW9.out
   have g0 := cell_step hX hrz h0
   have g1 := cell_step hX hrz h1
   have g2 := cell_step hX hrz h2
   have g3 := cell_step hX hrz h3
   have g4 := cell_step hX hrz h4
   have g5 := cell_step hX hrz h5
   have g6 := cell_step hX hrz h6
   clear HC0 h0 h1 h2 h3 h4 h5 h6 hrz hX
   obtain ⟨p0, p1⟩ := ctwo HBP.out
   have f0 := HBB.out.cell hnr
   have hGW : w1.heap.size <= G := Nat.le_of_eq HG.out.symm
   obtain ⟨fv, hfv⟩ : ∃ v, fb n = v := ⟨_, rfl⟩
   rw [hfv] at f0
   have HFV : Hid (fb n = fv) := hfv
   clear hfv
   cases fv
   case true =>
    have hin := HYF.out HFV.out
    have HN2 : Hid (∀ k s, k < j + 1 -> S[k]? = some s -> inH CK (R.map Cm.key) s.key = true) := HNX.out hin
    have HF3 : Hid (∀ (k : Nat) (d : Cm), R[k]? = some d -> (if k = n then true else fb k) = true -> d.key ∈ CK) := HF2.out hin
    have fz : wr.frozen? ⟨G, n, none⟩ = false := HBB.out.froz
    clear hin
    go_wp2_with fail
    go_roundg g
    case measure => omega
    case rel => exact ⟨j + 1, _, by omega, by go_num, HN2.out, HF3.out, HBB.out.set hnr, HBW.out.setCell hGW _⟩
   case false =>
    cases q
    case false =>
     have HE : Hid (r = 127) := HNO.out (of_decide_eq_false HQ2.out)
     go_wp2_with (go_at_call 29; refine (HC.out _ HW9.out).mono ?_; rintro e w3 ⟨rfl, hb⟩; have HB3 : Hid (Below w.heap.size w w3) := below_step HW9.out hb; clear hb)
     go_ret
     exact ⟨ret_i HE.out.symm, HB3.out⟩
    case true =>
     have hin := of_decide_eq_true HQ2.out
     have HN2 : Hid (∀ k s, k < j + 1 -> S[k]? = some s -> inH CK (R.map Cm.key) s.key = true) := HNX.out hin
     have HF3 : Hid (∀ (k : Nat) (d : Cm), R[k]? = some d -> (if k = n then true else fb k) = true -> d.key ∈ CK) := HF2.out hin
     clear hin
     go_wp2_with (go_at_call 29; refine (HC.out _ HW9.out).mono ?_; rintro e w3 ⟨rfl, hb⟩; have HB3 : Hid (BBk w3 G rn fb) := HBB.out.later hb; have HW3 : Hid (Below w1.heap.size w1 w3) := below_step HBW.out hb; clear d0 f0 p0 p1 g0 g1 g2 g3 g4 g5 g6; have f0 := HB3.out.cell hnr; have fz : w3.frozen? ⟨G, n, none⟩ = false := HB3.out.froz; clear hb)
     go_roundg g
     case measure => omega
     case rel => exact ⟨j + 1, _, by omega, by go_num, HN2.out, HF3.out, HB3.out.set hnr, HW3.out.setCell hGW _⟩
  | zero =>
   have k1 : ¬ ((j : Int) < (sn : Int)) := by omega
   have HWW : Hid (wiH CK (R.map Cm.key) (S.map St.key) = true) := allT fun k x hx => by
    rw [List.getElem?_map] at hx
    cases hs : S[k]? with
    | none => rw [hs] at hx; cases hx
    | some s =>
     rw [hs] at hx; cases hx
     exact HCO.out k s (by have := (List.getElem?_eq_some_iff.1 hs).1; have := HN.out.2; omega) hs
   obtain ⟨h1, h2, h3, h4⟩ := HPL.out
   have hv0 : 0 < v2 /\ v2 <= 5000 := by
    have := congrArg List.length HFF.out
    simp only [fsts, List.length_map] at this
    have := HV2.out
    omega
   obtain ⟨m, rfl⟩ : ∃ m, v2 = m + 1 := ⟨v2 - 1, by omega⟩
   have mbd : m <= 5000 := by omega
   have hw9 : wrap64 (((m + 1 : Nat) : Int) - 1) = (m : Int) := by rw [show ((m + 1 : Nat) : Int) - 1 = (m : Int) by omega]; unfold wrap64; omega
   have hw8 : wrap64 ((m : Int) + 1 - 1) = (m : Int) := by rw [show (m : Int) + 1 - 1 = (m : Int) by omega]; unfold wrap64; omega
   clear h1 h2 h3 h4 hv0
   have HFL2 : Hid (As wr (.slice v1 (m + 1) v3) FL) := HFL.out.later HBW.out
   have HA2 : Hid (CBlk wr (w.heap.size + 1) #[.int .i64 fk, .int .i64 fm, .string fs, .string fn, .slice f1 f2 f3] 39) := HF1.out.later HBW.out
   obtain ⟨b1, o1, x, rfl, hx, hb1, ⟨e0, e1, e2, e3, e4⟩, hxt⟩ := HFL2.out.get_ (j := m) (by omega)
   have hlast : F.getLast? = some x.1 := by
    rw [<- HFF.out, List.getLast?_eq_getElem?]
    simp only [fsts, List.length_map, List.getElem?_map]
    rw [<- HV2.out, Nat.add_sub_cancel, hx]; rfl
   have hxz : szA x.1 := HSZ.out F HQ.out x.1 (by rw [<- HFF.out]; exact List.mem_map_of_mem (List.mem_of_getElem? hx))
   have HSA0 := fun (X : World) (hX : Below wr.heap.size wr X) => HSA.out X x (below_step HW9.out hX) (hxt.later hX) hxz
   obtain ⟨x1, x3, ex⟩ := hxt.sl
   obtain ⟨q, hq⟩ : ∃ q, decide (x.1 = (⟨⟨fk, fm, fs⟩, fn, fl⟩ : At)) = q := ⟨_, rfl⟩
   rw [hq] at HSA0
   have HE : Hid (r = if q = true then 0 else 128) := by
    show r = _
    rw [<- HRR.out]
    unfold cheH
    rw [HQ.out]
    simp only
    rw [if_neg (by rw [HWW.out]; simp), hlast, <- hq]
    by_cases e : x.1 = ⟨⟨fk, fm, fs⟩, fn, fl⟩
    ·rw [if_pos (by rw [e]), if_pos (decide_eq_true e)]
    ·rw [if_neg (fun h => e (Option.some.inj h)), if_neg (by simpa using e)]
   have hi2 : ((m + 1 : Nat) : Int) - 1 = (m : Int) := by omega
   have mb : (m : Int) < (m : Int) + 1 := by omega
   have m0 : (0 : Int) <= (m : Int) := by omega
   clear hx hxt hlast hq hxz
   obtain ⟨⟨⟨xk, xm, xs⟩, xn, xl⟩, xv⟩ := x
   simp only at ex HSA0 e0 e1 e2 e3 e4
   generalize xl.length = x2 at ex
   subst ex
   have HSB : Hid (∀ X : World, Below wr.heap.size wr X -> Calls Tryz.prog 30 #[.agg #[.int .i64 xk, .int .i64 xm, .string xs, .string xn, .slice x1 x2 x3], .agg #[.int .i64 fk, .int .i64 fm, .string fs, .string fn, .slice f1 f2 f3]] X fun e w' => e = .returned (.bool q) /\ Below X.heap.size X w') := HSA0
   have HEE : Hid (wr.cell? ⟨b1, o1 + m * 5, none⟩ = some (.int .i64 xk) /\ wr.cell? ⟨b1, o1 + m * 5 + 1, none⟩ = some (.int .i64 xm) /\ wr.cell? ⟨b1, o1 + m * 5 + 2, none⟩ = some (.string xs) /\ wr.cell? ⟨b1, o1 + m * 5 + 3, none⟩ = some (.string xn) /\ wr.cell? ⟨b1, o1 + m * 5 + 4, none⟩ = some (.slice x1 x2 x3) /\ b1 < wr.heap.size) := ⟨e0, e1, e2, e3, e4, hb1⟩
   clear HSA0 e0 e1 e2 e3 e4 hb1
   obtain ⟨p0, p1⟩ := ctwo HBP.out
   go_upto_region 12 with fail
   clear p0 p1
   refine wp_region_held_drew (S := fun w' => Below wr.heap.size wr w') (by kernel_rfl) (Below.refl _ _).drew (fun hH => ?_)
   revert hH
   generalize wr.drew = V
   intro hH
   refine wTk 0 (.slice (some ⟨b1, o1, none⟩) (m + 1) v3) rfl (by kernel_rfl) (fun _ _ _ h => h) (Or.inl ⟨by rfl, fun w' h => by clear h; go_simp⟩) hH ?_
   simp only [wA8, wB8, wC8, wD8]
   refine wTk 1 (.slice (some ⟨b1, o1, none⟩) (m + 1) v3) rfl (by kernel_rfl) (fun _ _ _ h => h) (Or.inl ⟨by rfl, fun w' h => by clear h; go_simp⟩) hH ?_
   simp only [wA8, wB8, wC8, wD8]
   refine wTk 2 (.int .i64 ((m : Int) + 1)) rfl (by kernel_rfl) (fun _ _ _ h => h) (Or.inl ⟨by rfl, fun w' h => by clear h; go_simp⟩) hH ?_
   simp only [wA8, wB8, wC8, wD8]
   refine wTk 3 (.int .i64 (m : Int)) rfl (by kernel_rfl) (fun _ _ _ h => h) (Or.inl ⟨by rfl, fun w' h => by clear h; go_simp; (rw [IntKind.wrap_i64]; omega)⟩) hH ?_
   simp only [wA8, wB8, wC8, wD8]
   refine wTk 4 (.pointer (some ⟨b1, o1 + m * 5, none⟩)) rfl (by kernel_rfl) (fun _ _ _ h => h) (Or.inl ⟨by rfl, fun w' h => by clear h; go_simp⟩) hH ?_
   simp only [wA8, wB8, wC8, wD8]
   refine wTk 5 (.agg #[.int .i64 xk, .int .i64 xm, .string xs, .string xn, .slice x1 x2 x3]) rfl (by kernel_rfl) (fun _ _ _ h => h) (Or.inl ⟨by rfl, fun w' h => by obtain ⟨q0, q1, q2, q3, q4, z⟩ := HEE.out; have y0 := cell_step h z q0; have y1 := cell_step h z q1; have y2 := cell_step h z q2; have y3 := cell_step h z q3; have y4 := cell_step h z q4; clear q0 q1 q2 q3 q4; go_simp⟩) hH ?_
   simp only [wA8, wB8, wC8, wD8]
   refine wTk 6 (.agg #[.int .i64 fk, .int .i64 fm, .string fs, .string fn, .slice f1 f2 f3]) rfl (by kernel_rfl) (fun _ _ _ h => h) (Or.inl ⟨by rfl, fun w' h => by obtain ⟨q0, q1, q2, q3, q4⟩ := cfive (HA2.out.later h); clear h; go_simp⟩) hH ?_
   simp only [wA8, wB8, wC8, wD8]
   refine wRd 7 (by kernel_rfl) rfl (fun K hK => ?_)
   go_simp
   refine (HSB.out _ hH).mono ?_
   rintro e V1 ⟨rfl, hb⟩
   refine hK.out _ _ (below_step hH hb) (fun hH => ?_)
   clear hK K hb
   try simp only [wA8, wB8, wC8, wD8]
   refine wTk 8 (.bool (!q)) rfl (by kernel_rfl) (fun _ _ _ h => h) (Or.inl ⟨by rfl, fun w' h => by clear h; go_simp⟩) hH ?_
   simp only [wA8, wB8, wC8, wD8]
   refine wpAnyH_done (by kernel_rfl) ?_ _
   cases q
   ·have HE2 : Hid (r = 128) := HE.out
    go_wp2_with fail
    go_ret
    exact ⟨ret_i HE2.out.symm, below_step HW9.out hH⟩
   ·have HE2 : Hid (r = 0) := HE.out
    go_wp2_with fail
    go_ret
    exact ⟨ret_i HE2.out.symm, below_step HW9.out hH⟩
end Go.Proofs.YtcejljehjhlonaaGreatDoor
