import Derived.Test.YtcejljehjhlonaaGreatDoorB5
import Derived.Test.YtcejljehjhlonaaGreatDoorHC4
import Derived.Test.YtcejljehjhlonaaGreatDoorHC3
namespace Go.Proofs.YtcejljehjhlonaaGreatDoor
open Go.RowKit
attribute [local go_sem ↓] Go.wp_at_zero Go.wp_at_succ

theorem OKP.laterH {w w' : World} {c : Cm} (h : OKP w c) (hb : Below w.heap.size w w') : OKP w' c := ⟨h.ok.later hb, h.hh.later hb, fun x hx => (h.hp x hx).later hb, h.bp.later hb⟩
theorem KpT.agree {B : Nat} {X X' : World} {v : Value} {l : List Tm} (h : KpT B X v l) (hs : X.heap.size <= X'.heap.size) (ha : ∀ b, B <= b -> b < X.heap.size -> X'.heap[b]? = X.heap[b]?) : KpT B X' v l := fun Y hs' ha' =>
 h Y (Nat.le_trans hs hs') fun b h1 h2 => (ha' b h1 (Nat.lt_of_lt_of_le h2 hs)).trans (ha b h1 h2)
theorem KpT.mono {B B' : Nat} {X : World} {v : Value} {l : List Tm} (h : KpT B X v l) (hb : B' <= B) : KpT B' X v l := fun Y hs ha => h Y hs fun b h1 h2 => ha b (Nat.le_trans hb h1) h2
theorem bput5 {W X : World} {G : Nat} (h : Below W.heap.size W X) (hG : W.heap.size <= G) (a b c d e : Value) : Below W.heap.size W (((((X.setCell ⟨G, 0, none⟩ a).setCell ⟨G, 1, none⟩ b).setCell ⟨G, 2, none⟩ c).setCell ⟨G, 3, none⟩ d).setCell ⟨G, 4, none⟩ e) := ((((h.setCell (show W.heap.size <= G from hG) _).setCell (show W.heap.size <= G from hG) _).setCell (show W.heap.size <= G from hG) _).setCell (show W.heap.size <= G from hG) _).setCell (show W.heap.size <= G from hG) _
theorem put5_heap {X : World} {G k : Nat} (h : k ≠ G) (a b c d e : Value) : (((((X.setCell ⟨G, 0, none⟩ a).setCell ⟨G, 1, none⟩ b).setCell ⟨G, 2, none⟩ c).setCell ⟨G, 3, none⟩ d).setCell ⟨G, 4, none⟩ e).heap[k]? = X.heap[k]? := by
 rw [heap_setCell_other _ _ _ _ h, heap_setCell_other _ _ _ _ h, heap_setCell_other _ _ _ _ h, heap_setCell_other _ _ _ _ h, heap_setCell_other _ _ _ _ h]
theorem put5_size {X : World} {G : Nat} (a b c d e : Value) : (((((X.setCell ⟨G, 0, none⟩ a).setCell ⟨G, 1, none⟩ b).setCell ⟨G, 2, none⟩ c).setCell ⟨G, 3, none⟩ d).setCell ⟨G, 4, none⟩ e).heap.size = X.heap.size := by simp [World.setCell]
theorem put5_blk {X : World} {G : Nat} {x0 x1 x2 x3 x4 : Value} {t : TypeId} (h : CBlk X G #[x0, x1, x2, x3, x4] t) (a b c d e : Value) : CBlk (((((X.setCell ⟨G, 0, none⟩ a).setCell ⟨G, 1, none⟩ b).setCell ⟨G, 2, none⟩ c).setCell ⟨G, 3, none⟩ d).setCell ⟨G, 4, none⟩ e) G #[a, b, c, d, e] t := by
 have := ((((h.set 0 a).set 1 b).set 2 c).set 3 d).set 4 e
 simpa using this
theorem ruleH_ne {c : Ck} {V : List Tm} {U : List Int} {F : List At} {e : Int} (h : ruleH c V U F = .error e) : e ≠ 0 := by
 unfold ruleH at h
 repeat (split at h; (first | (cases h; decide) | skip))
 cases h
theorem stepH_ne {R : List Ck} {s : Sk} {F : List At} {e : Int} (h : stepH R s F = .error e) : e ≠ 0 := by
 unfold stepH at h
 split at h
 ·split at h
  ·cases h; decide
  ·exact ruleH_ne h
 ·cases h; decide
structure RCJ (w X : World) (pb : Array Value) (v : Value) (FL : List (At × Value)) : Prop where
 bw : Below w.heap.size w X
 bp : CBlk X w.heap.size pb 25
 fl : OFL (w.heap.size + 1) X v FL
 sz : w.heap.size + 1 <= X.heap.size
theorem RCJ.later {w X X' : World} {pb : Array Value} {v : Value} {FL : List (At × Value)} (h : RCJ w X pb v FL) (hb : Below X.heap.size X X') : RCJ w X' pb v FL := ⟨below_step h.bw hb, h.bp.later hb, h.fl.later hb, Nat.le_trans h.sz hb.size⟩
set_option maxRecDepth 20000 in
set_option maxHeartbeats 1500000 in
theorem rconclude_any (R : List Cm) (S : List St) (rv sv : Value) (w : World) (hR : CsP w rv R) (hS : SsP w sv S) (hkp : ∀ c ∈ R, OKP w c) (hsz : ∀ c ∈ R, szK c.key) :
  Calls Tryz.prog 7 #[.agg #[rv, sv]] w (CPH w (conH (R.map Cm.key) (S.map St.key))) := by
 have HST0 : Hid (∀ (X : World) (s : St) (FL : List (At × Value)) (fv : Value), Below w.heap.size w X -> s.ok w -> As X fv FL -> (∀ x ∈ FL, szA x.1) -> Calls Tryz.prog 20 #[rv, s.v, fv] X (SPH X (stepH (R.map Cm.key) s.key (fsts FL)))) := fun X s FL fv hX hs hF hz => rstep_all R rv s FL fv X (hR.later hX) (hs.later hX) hF (fun c hc => (hkp c hc).laterH hX) hsz hz
 have HSS : Hid (∀ (s : Sk) (F : List At) (a : At), stepH (R.map Cm.key) s F = .ok a -> szA a) := fun s F a h => stepH_sz (fun c hc => by obtain ⟨d, hd, rfl⟩ := List.mem_map.1 hc; exact hsz d hd) h
 have HS : Hid (SsP w sv S) := hS
 obtain ⟨ra, rc, rfl⟩ := hR.form
 obtain ⟨sa, sc, rfl⟩ := hS.form
 obtain ⟨r, hr⟩ : ∃ r, conH (R.map Cm.key) (S.map St.key) = r := ⟨_, rfl⟩
 rw [hr]
 have HR : Hid (conH (R.map Cm.key) (S.map St.key) = r) := hr
 generalize R.map Cm.key = RK at HST0 HR HSS
 generalize R.length = rn at HST0 ⊢
 obtain ⟨sn, hsn⟩ : ∃ n, n = S.length := ⟨_, rfl⟩
 rw [<- hsn] at HS ⊢
 have HSN : Hid (sn = S.length) := hsn
 have HP0 : Hid (CBlk (w.alloc (.cells #[.slice ra rn rc, .slice sa sn sc] 25)) w.heap.size #[.slice ra rn rc, .slice sa sn sc] 25) := CBlk.new _ _ _
 have HW0 : Hid (Below w.heap.size w (w.alloc (.cells #[.slice ra rn rc, .slice sa sn sc] 25))) := below1 _ _
 clear hR hS hr hkp hsz hsn
 go_enter Tryz.func7, Tryz.ntmps7
 go_upto_region 1 with fail
 revert HP0 HW0
 generalize w.alloc (.cells #[.slice ra rn rc, .slice sa sn sc] 25) = W0
 intro HP0 HW0
 obtain ⟨p0, p1⟩ := ctwo HP0.out
 by_cases hz : S.length = 0 ∨ 5000 < S.length
 case pos =>
  have HE : Hid (r = .error 121) := by show r = _; rw [<- HR.out]; exact if_pos (by rw [List.length_map]; exact hz)
  rw [<- HSN.out] at hz
  rcases hz with h0 | h0
  ·have z1 : ((sn : Int) == 0) = true := by simp; omega
   clear h0
   go_wp2
   refine bodyPost_ret (v := .tuple #[.slice none 0 0, .int .i64 121]) (by simp [results, Tryz.results7, go_sem]) rfl ⟨HW0.out, ?_⟩
   rw [HE.out]
  ·have z1 : ((sn : Int) == 0) = false := by simp; omega
   have z2 : (5000 : Int) < (sn : Int) := by omega
   clear h0
   go_wp2
   refine bodyPost_ret (v := .tuple #[.slice none 0 0, .int .i64 121]) (by simp [results, Tryz.results7, go_sem]) rfl ⟨HW0.out, ?_⟩
   rw [HE.out]
 case neg =>
 have HRA : Hid (allH RK (S.map St.key) [] = r) := by show _ = _; rw [<- HR.out]; exact (if_neg (by rw [List.length_map]; exact hz)).symm
 rw [<- HSN.out] at hz
 have z1 : ((sn : Int) == 0) = false := by simp; omega
 have z2 : ¬ ((5000 : Int) < (sn : Int)) := by omega
 have h1 : sn <= 5000 := by omega
 clear HR hz
 go_wp2_with fail
 clear p0 p1 z1 z2
 go_loopg [4, 5] sn (fun g v i wr => ∃ (j : Nat) (FL : List (At × Value)), j + g = sn /\ i = .int .i64 (j : Int) /\ FL.length = j /\ (∀ x ∈ FL, szA x.1) /\ allH RK ((S.map St.key).drop j) (fsts FL) = r /\ RCJ w wr #[.slice ra rn rc, .slice sa sn sc] v FL)
 case atStart => exact ⟨0, [], by omega, rfl, rfl, (fun x hx => by cases hx), HRA.out, HW0.out, HP0.out, ⟨OwnA.nil _ _, fun x hx => by cases hx⟩, HP0.out.lt⟩
 case round =>
 obtain ⟨j, FL, hj, rfl, hfl, hfz, hall, hcl⟩ := hrel
 clear HRA
 have HFL : Hid (FL.length = j) := hfl
 have HFZ : Hid (∀ x ∈ FL, szA x.1) := hfz
 have HAL : Hid (allH RK ((S.map St.key).drop j) (fsts FL) = r) := hall
 obtain ⟨v1, v3, rfl⟩ := hcl.fl.o.form
 obtain ⟨v2, hv2⟩ : ∃ k, k = FL.length := ⟨_, rfl⟩
 rw [<- hv2] at hcl ⊢
 have HCL : Hid (RCJ w wr #[.slice ra rn rc, .slice sa sn sc] (.slice v1 v2 v3) FL) := hcl
 obtain ⟨p0, p1⟩ := ctwo hcl.bp
 clear hfl hfz hall hv2
 cases gk with
 | succ g =>
  have i1 : (j : Int) < (sn : Int) := by omega
  have i0 : (0 : Int) <= (j : Int) := by omega
  obtain ⟨t, ht⟩ : ∃ t, S[j]? = some t := ⟨_, List.getElem?_eq_getElem (by have := HSN.out; omega)⟩
  obtain ⟨b, o, rfl, hbs, hrow, hok⟩ := HS.out.at_ ht
  obtain ⟨d0, d1, d2⟩ := hrow.three ht
  have hstep := allH_step (R := RK) (S := S.map St.key) (j := j) (s := t.key) (F := fsts FL) (by rw [List.getElem?_map, ht]; rfl)
  rw [HAL.out] at hstep
  have HST1 : Hid (∀ X : World, Below wr.heap.size wr X -> Calls Tryz.prog 20 #[.slice ra rn rc, t.v, .slice v1 v2 v3] X (SPH X (stepH RK t.key (fsts FL)))) := fun X hX => HST0.out X t FL _ (below_step HCL.out.bw hX) hok ((HCL.out.later hX).fl.as (by have := HFL.out; omega)) HFZ.out
  have HSZ1 := fun a => HSS.out t.key (fsts FL) a
  obtain ⟨q, hq⟩ : ∃ q, stepH RK t.key (fsts FL) = q := ⟨_, rfl⟩
  have HQ : Hid (stepH RK t.key (fsts FL) = q) := hq
  rw [hq] at hstep HST1 HSZ1
  have hsc : b < wr.heap.size /\ wr.cell? ⟨b, o + j * 3, none⟩ = some (.int .i64 t.rule) /\ wr.cell? ⟨b, o + j * 3 + 1, none⟩ = some t.vv /\ wr.cell? ⟨b, o + j * 3 + 2, none⟩ = some t.uv := ⟨Nat.lt_of_lt_of_le hbs hcl.bw.size, cell_step hcl.bw hbs d0, cell_step hcl.bw hbs d1, cell_step hcl.bw hbs d2⟩
  obtain ⟨⟨a1, cap1, x1⟩, ⟨a2, cap2, x2⟩, -, -⟩ := hok.shape
  clear ht hbs hrow hok d0 d1 d2 hq HAL hcl
  obtain ⟨tr, tl, tv, tu, tw⟩ := t
  simp only at hsc x1 x2
  generalize tl.length = ln at x1
  generalize tu.length = lu at x2
  subst x1 x2
  have HSC : Hid (b < wr.heap.size /\ wr.cell? ⟨b, o + j * 3, none⟩ = some (.int .i64 tr) /\ wr.cell? ⟨b, o + j * 3 + 1, none⟩ = some (.slice a1 ln cap1) /\ wr.cell? ⟨b, o + j * 3 + 2, none⟩ = some (.slice a2 lu cap2)) := hsc
  have HST : Hid (∀ X : World, Below wr.heap.size wr X -> Calls Tryz.prog 20 #[.slice ra rn rc, .agg #[.int .i64 tr, .slice a1 ln cap1, .slice a2 lu cap2], .slice v1 v2 v3] X (SPH X q)) := HST1.out
  have HP : Hid (CBlk wr w.heap.size #[.slice ra rn rc, .slice (some ⟨b, o, none⟩) sn sc] 25) := HCL.out.bp
  clear hsc HST1 
  go_wp2_with fail
  clear p0 p1
  cases q with
  | error c =>
   have HE : Hid (r = .error c) := hstep
   have hcz : c ≠ 0 := stepH_ne HQ.out
   have hc1 : (c == 0) = false := by simpa using hcz
   have hc2 : (c != 0) = true := by simpa using hcz
   clear hcz
   clear hstep HSZ1
   refine wp_region_held_drew (S := fun w' => Below wr.heap.size wr w') (by kernel_rfl) (Below.refl _ _).drew (fun hH => ?_)
   revert hH
   generalize wr.drew = V0
   intro hH
   refine wTk 0 (.pointer (some ⟨w.heap.size, 0, none⟩)) rfl (by kernel_rfl) (fun _ _ _ h => h) (Or.inl ⟨by rfl, fun w' h => by clear h; go_simp⟩) hH ?_
   simp only [wA8, wB8, wC8, wD8]
   refine wTk 1 (.slice ra rn rc) rfl (by kernel_rfl) (fun _ _ _ h => h) (Or.inl ⟨by rfl, fun w' h => by obtain ⟨q0, q1⟩ := ctwo (HP.out.later h); clear h; go_simp⟩) hH ?_
   simp only [wA8, wB8, wC8, wD8]
   refine wTk 2 (.pointer (some ⟨w.heap.size, 1, none⟩)) rfl (by kernel_rfl) (fun _ _ _ h => h) (Or.inl ⟨by rfl, fun w' h => by clear h; go_simp⟩) hH ?_
   simp only [wA8, wB8, wC8, wD8]
   refine wTk 3 (.slice (some ⟨b, o, none⟩) sn sc) rfl (by kernel_rfl) (fun _ _ _ h => h) (Or.inl ⟨by rfl, fun w' h => by obtain ⟨q0, q1⟩ := ctwo (HP.out.later h); clear h; go_simp⟩) hH ?_
   simp only [wA8, wB8, wC8, wD8]
   refine wTk 4 (.int .i64 (j : Int)) rfl (by kernel_rfl) (fun _ _ _ h => h) (Or.inl ⟨by rfl, fun w' h => by clear h; go_simp⟩) hH ?_
   simp only [wA8, wB8, wC8, wD8]
   refine wTk 5 (.pointer (some ⟨b, o + j * 3, none⟩)) rfl (by kernel_rfl) (fun _ _ _ h => h) (Or.inl ⟨by rfl, fun w' h => by clear h; go_simp⟩) hH ?_
   simp only [wA8, wB8, wC8, wD8]
   refine wTk 6 (.agg #[.int .i64 tr, .slice a1 ln cap1, .slice a2 lu cap2]) rfl (by kernel_rfl) (fun _ _ _ h => h) (Or.inl ⟨by rfl, fun w' h => by obtain ⟨z, q0, q1, q2⟩ := HSC.out; have y0 := cell_step h z q0; have y1 := cell_step h z q1; have y2 := cell_step h z q2; clear q0 q1 q2; go_simp⟩) hH ?_
   simp only [wA8, wB8, wC8, wD8]
   refine wTk 7 (.slice v1 v2 v3) rfl (by kernel_rfl) (fun _ _ _ h => h) (Or.inl ⟨by rfl, fun w' h => by clear h; go_simp⟩) hH ?_
   simp only [wA8, wB8, wC8, wD8]
   refine wpAnyH_ready (rs := [8, 12]) (by kernel_rfl) (by simp) ?_
   refine (AllReadyH.cons (o := ⟨_, _, _, _, _, _⟩) rfl (fun K hK => ?_) (AllReadyH.cons (o := ⟨_, _, _, _, _, _⟩) rfl (fun K hK => ?_) AllReadyH.nil))
   ·go_simp
    refine (HST.out V0 hH).mono ?_
    rintro e V1 ⟨hb, he⟩
    have he : e = .returned (.tuple #[.agg #[.int .i64 0, .int .i64 0, .string ⟨#[]⟩, .string ⟨#[]⟩, .slice none 0 0], .int .i64 c]) := he
    subst he
    have HHB : Hid (Below V0.heap.size V0 V1) := hb
    refine hK.out _ _ (below_step hH hb) (fun hH => ?_)
    clear hK K hb
    try simp only [wA8, wB8, wC8, wD8]
    refine wTk 9 (.tuple #[.agg #[.int .i64 0, .int .i64 0, .string ⟨#[]⟩, .string ⟨#[]⟩, .slice none 0 0], .int .i64 c]) rfl (by kernel_rfl) (fun _ _ _ h => h) (Or.inl ⟨by rfl, fun w' h => by clear h; go_simp⟩) hH ?_
    simp only [wA8, wB8, wC8, wD8]
    refine wTk 10 (.agg #[.int .i64 0, .int .i64 0, .string ⟨#[]⟩, .string ⟨#[]⟩, .slice none 0 0]) rfl (by kernel_rfl) (fun _ _ _ h => h) (Or.inl ⟨by rfl, fun w' h => by clear h; go_simp⟩) hH ?_
    simp only [wA8, wB8, wC8, wD8]
    refine wTk 11 (.int .i64 c) rfl (by kernel_rfl) (fun _ _ _ h => h) (Or.inl ⟨by rfl, fun w' h => by clear h; go_simp⟩) hH ?_
    simp only [wA8, wB8, wC8, wD8]
    refine wRd 12 (by kernel_rfl) rfl (fun K hK => ?_)
    go_simp
    have HBX : Hid (CBlk (V1.alloc (.cells #[.int .i64 0, .int .i64 0, .string ⟨#[]⟩, .string ⟨#[]⟩, .slice none 0 0] 39)) V1.heap.size #[.int .i64 0, .int .i64 0, .string ⟨#[]⟩, .string ⟨#[]⟩, .slice none 0 0] 39) := CBlk.new _ _ _
    have HGB : Hid (wr.heap.size <= V1.heap.size) := hH.size
    refine hK.out _ _ (below_step hH (below1 _ _)) (fun hH => ?_)
    clear hK K
    try simp only [wA8, wB8, wC8, wD8]
    revert hH
    revert HGB
    revert HBX
    generalize V1.alloc (.cells #[.int .i64 0, .int .i64 0, .string ⟨#[]⟩, .string ⟨#[]⟩, .slice none 0 0] 39) = V2
    generalize V1.heap.size = GG
    intro HBX HGB hH
    refine wRd 13 (by kernel_rfl) rfl (fun K hK => ?_)
    obtain ⟨u0, u1, u2, u3, u4⟩ := cfive HBX.out
    have s0 : V2.frozen? ⟨GG, 0, none⟩ = false := HBX.out.froz
    have s1 : V2.frozen? ⟨GG, 1, none⟩ = false := HBX.out.froz
    have s2 : V2.frozen? ⟨GG, 2, none⟩ = false := HBX.out.froz
    have s3 : V2.frozen? ⟨GG, 3, none⟩ = false := HBX.out.froz
    have s4 : V2.frozen? ⟨GG, 4, none⟩ = false := HBX.out.froz
    go_simp
    clear u0 u1 u2 u3 u4 s0 s1 s2 s3 s4
    refine hK.out _ _ (bput5 hH HGB.out _ _ _ _ _) (fun hH => ?_)
    clear hK K
    try simp only [wA8, wB8, wC8, wD8]
    refine wTk 14 (.int .i64 c) rfl (by kernel_rfl) (fun _ _ _ h => h) (Or.inl ⟨by rfl, fun w' h => by clear h; go_simp⟩) hH ?_
    simp only [wA8, wB8, wC8, wD8]
    refine wpAnyH_done (by kernel_rfl) ?_ _
    have HV : Hid (Below wr.heap.size wr _) := hH
    clear hH
    go_wp2
    refine bodyPost_ret (v := .tuple #[.slice none 0 0, .int .i64 c]) (by simp [results, Tryz.results7, go_sem]) rfl ⟨below_step HCL.out.bw HV.out, ?_⟩
    rw [HE.out]
   ·go_simp
    have HBX : Hid (CBlk (V0.alloc (.cells #[.int .i64 0, .int .i64 0, .string ⟨#[]⟩, .string ⟨#[]⟩, .slice none 0 0] 39)) V0.heap.size #[.int .i64 0, .int .i64 0, .string ⟨#[]⟩, .string ⟨#[]⟩, .slice none 0 0] 39) := CBlk.new _ _ _
    have HGB : Hid (wr.heap.size <= V0.heap.size) := hH.size
    refine hK.out _ _ (below_step hH (below1 _ _)) (fun hH => ?_)
    clear hK K
    try simp only [wA8, wB8, wC8, wD8]
    have HGV : Hid (V0.heap.size < (V0.alloc (.cells #[.int .i64 0, .int .i64 0, .string ⟨#[]⟩, .string ⟨#[]⟩, .slice none 0 0] 39)).heap.size) := by show _ < _; simp
    revert HGV
    revert hH
    revert HGB
    revert HBX
    generalize V0.alloc (.cells #[.int .i64 0, .int .i64 0, .string ⟨#[]⟩, .string ⟨#[]⟩, .slice none 0 0] 39) = V2
    generalize V0.heap.size = GG
    intro HBX HGB hH HGV
    refine wRd 8 (by kernel_rfl) rfl (fun K hK => ?_)
    go_simp
    refine (HST.out V2 hH).mono ?_
    rintro e V3 ⟨hb, he⟩
    have he : e = .returned (.tuple #[.agg #[.int .i64 0, .int .i64 0, .string ⟨#[]⟩, .string ⟨#[]⟩, .slice none 0 0], .int .i64 c]) := he
    subst he
    have HHB : Hid (Below V2.heap.size V2 V3) := hb
    refine hK.out _ _ (below_step hH hb) (fun hH => ?_)
    clear hK K hb
    try simp only [wA8, wB8, wC8, wD8]
    have HBX : Hid (CBlk V3 GG #[.int .i64 0, .int .i64 0, .string ⟨#[]⟩, .string ⟨#[]⟩, .slice none 0 0] 39) := HBX.out.later HHB.out
    refine wTk 9 (.tuple #[.agg #[.int .i64 0, .int .i64 0, .string ⟨#[]⟩, .string ⟨#[]⟩, .slice none 0 0], .int .i64 c]) rfl (by kernel_rfl) (fun _ _ _ h => h) (Or.inl ⟨by rfl, fun w' h => by clear h; go_simp⟩) hH ?_
    simp only [wA8, wB8, wC8, wD8]
    refine wTk 10 (.agg #[.int .i64 0, .int .i64 0, .string ⟨#[]⟩, .string ⟨#[]⟩, .slice none 0 0]) rfl (by kernel_rfl) (fun _ _ _ h => h) (Or.inl ⟨by rfl, fun w' h => by clear h; go_simp⟩) hH ?_
    simp only [wA8, wB8, wC8, wD8]
    refine wTk 11 (.int .i64 c) rfl (by kernel_rfl) (fun _ _ _ h => h) (Or.inl ⟨by rfl, fun w' h => by clear h; go_simp⟩) hH ?_
    simp only [wA8, wB8, wC8, wD8]
    refine wRd 13 (by kernel_rfl) rfl (fun K hK => ?_)
    obtain ⟨u0, u1, u2, u3, u4⟩ := cfive HBX.out
    have s0 : V3.frozen? ⟨GG, 0, none⟩ = false := HBX.out.froz
    have s1 : V3.frozen? ⟨GG, 1, none⟩ = false := HBX.out.froz
    have s2 : V3.frozen? ⟨GG, 2, none⟩ = false := HBX.out.froz
    have s3 : V3.frozen? ⟨GG, 3, none⟩ = false := HBX.out.froz
    have s4 : V3.frozen? ⟨GG, 4, none⟩ = false := HBX.out.froz
    go_simp
    clear u0 u1 u2 u3 u4 s0 s1 s2 s3 s4
    refine hK.out _ _ (bput5 hH HGB.out _ _ _ _ _) (fun hH => ?_)
    clear hK K
    try simp only [wA8, wB8, wC8, wD8]
    refine wTk 14 (.int .i64 c) rfl (by kernel_rfl) (fun _ _ _ h => h) (Or.inl ⟨by rfl, fun w' h => by clear h; go_simp⟩) hH ?_
    simp only [wA8, wB8, wC8, wD8]
    refine wpAnyH_done (by kernel_rfl) ?_ _
    have HV : Hid (Below wr.heap.size wr _) := hH
    clear hH
    go_wp2
    refine bodyPost_ret (v := .tuple #[.slice none 0 0, .int .i64 c]) (by simp [results, Tryz.results7, go_sem]) rfl ⟨below_step HCL.out.bw HV.out, ?_⟩
    rw [HE.out]
  | ok a =>
   have HE : Hid (allH RK ((S.map St.key).drop (j + 1)) (fsts FL ++ [a]) = r) := hstep.symm
   have HSA : Hid (szA a) := HSZ1 a rfl
   clear hstep HSZ1
   obtain ⟨⟨xk, xm, xs⟩, xn, xl⟩ := a
   refine wp_region_held_drew (S := fun w' => Below wr.heap.size wr w') (by kernel_rfl) (Below.refl _ _).drew (fun hH => ?_)
   revert hH
   generalize wr.drew = V0
   intro hH
   refine wTk 0 (.pointer (some ⟨w.heap.size, 0, none⟩)) rfl (by kernel_rfl) (fun _ _ _ h => h) (Or.inl ⟨by rfl, fun w' h => by clear h; go_simp⟩) hH ?_
   simp only [wA8, wB8, wC8, wD8]
   refine wTk 1 (.slice ra rn rc) rfl (by kernel_rfl) (fun _ _ _ h => h) (Or.inl ⟨by rfl, fun w' h => by obtain ⟨q0, q1⟩ := ctwo (HP.out.later h); clear h; go_simp⟩) hH ?_
   simp only [wA8, wB8, wC8, wD8]
   refine wTk 2 (.pointer (some ⟨w.heap.size, 1, none⟩)) rfl (by kernel_rfl) (fun _ _ _ h => h) (Or.inl ⟨by rfl, fun w' h => by clear h; go_simp⟩) hH ?_
   simp only [wA8, wB8, wC8, wD8]
   refine wTk 3 (.slice (some ⟨b, o, none⟩) sn sc) rfl (by kernel_rfl) (fun _ _ _ h => h) (Or.inl ⟨by rfl, fun w' h => by obtain ⟨q0, q1⟩ := ctwo (HP.out.later h); clear h; go_simp⟩) hH ?_
   simp only [wA8, wB8, wC8, wD8]
   refine wTk 4 (.int .i64 (j : Int)) rfl (by kernel_rfl) (fun _ _ _ h => h) (Or.inl ⟨by rfl, fun w' h => by clear h; go_simp⟩) hH ?_
   simp only [wA8, wB8, wC8, wD8]
   refine wTk 5 (.pointer (some ⟨b, o + j * 3, none⟩)) rfl (by kernel_rfl) (fun _ _ _ h => h) (Or.inl ⟨by rfl, fun w' h => by clear h; go_simp⟩) hH ?_
   simp only [wA8, wB8, wC8, wD8]
   refine wTk 6 (.agg #[.int .i64 tr, .slice a1 ln cap1, .slice a2 lu cap2]) rfl (by kernel_rfl) (fun _ _ _ h => h) (Or.inl ⟨by rfl, fun w' h => by obtain ⟨z, q0, q1, q2⟩ := HSC.out; have y0 := cell_step h z q0; have y1 := cell_step h z q1; have y2 := cell_step h z q2; clear q0 q1 q2; go_simp⟩) hH ?_
   simp only [wA8, wB8, wC8, wD8]
   refine wTk 7 (.slice v1 v2 v3) rfl (by kernel_rfl) (fun _ _ _ h => h) (Or.inl ⟨by rfl, fun w' h => by clear h; go_simp⟩) hH ?_
   simp only [wA8, wB8, wC8, wD8]
   refine wpAnyH_ready (rs := [8, 12]) (by kernel_rfl) (by simp) ?_
   refine (AllReadyH.cons (o := ⟨_, _, _, _, _, _⟩) rfl (fun K hK => ?_) (AllReadyH.cons (o := ⟨_, _, _, _, _, _⟩) rfl (fun K hK => ?_) AllReadyH.nil))
   ·go_simp
    refine (HST.out V0 hH).mono ?_
    rintro e V1 ⟨hb, y, rfl, hkp⟩
    obtain ⟨y1, y3, ey⟩ := hkp.ts.sl
    obtain ⟨y2, hy2⟩ : ∃ k, k = xl.length := ⟨_, rfl⟩
    simp only at ey
    rw [<- hy2] at ey
    subst ey
    clear hy2
    have HKP : Hid (KpT V0.heap.size V1 (.slice y1 y2 y3) xl) := hkp
    have HHB : Hid (Below V0.heap.size V0 V1) := hb
    have HH0 : Hid (Below wr.heap.size wr V0) := hH
    clear hkp
    refine hK.out _ _ (below_step hH hb) (fun hH => ?_)
    clear hK K hb
    try simp only [wA8, wB8, wC8, wD8]
    refine wTk 9 (.tuple #[.agg #[.int .i64 xk, .int .i64 xm, .string xs, .string xn, .slice y1 y2 y3], .int .i64 0]) rfl (by kernel_rfl) (fun _ _ _ h => h) (Or.inl ⟨by rfl, fun w' h => by clear h; go_simp⟩) hH ?_
    simp only [wA8, wB8, wC8, wD8]
    refine wTk 10 (.agg #[.int .i64 xk, .int .i64 xm, .string xs, .string xn, .slice y1 y2 y3]) rfl (by kernel_rfl) (fun _ _ _ h => h) (Or.inl ⟨by rfl, fun w' h => by clear h; go_simp⟩) hH ?_
    simp only [wA8, wB8, wC8, wD8]
    refine wTk 11 (.int .i64 0) rfl (by kernel_rfl) (fun _ _ _ h => h) (Or.inl ⟨by rfl, fun w' h => by clear h; go_simp⟩) hH ?_
    simp only [wA8, wB8, wC8, wD8]
    refine wRd 12 (by kernel_rfl) rfl (fun K hK => ?_)
    go_simp
    have HBX : Hid (CBlk (V1.alloc (.cells #[.int .i64 0, .int .i64 0, .string ⟨#[]⟩, .string ⟨#[]⟩, .slice none 0 0] 39)) V1.heap.size #[.int .i64 0, .int .i64 0, .string ⟨#[]⟩, .string ⟨#[]⟩, .slice none 0 0] 39) := CBlk.new _ _ _
    have HGB : Hid (wr.heap.size <= V1.heap.size) := hH.size
    refine hK.out _ _ (below_step hH (below1 _ _)) (fun hH => ?_)
    clear hK K
    try simp only [wA8, wB8, wC8, wD8]
    have HKQ : Hid (∀ p0 p1 p2 p3 p4 : Value, KpT wr.heap.size ((((((V1.alloc (.cells #[.int .i64 0, .int .i64 0, .string ⟨#[]⟩, .string ⟨#[]⟩, .slice none 0 0] 39)).setCell ⟨V1.heap.size, 0, none⟩ p0).setCell ⟨V1.heap.size, 1, none⟩ p1).setCell ⟨V1.heap.size, 2, none⟩ p2).setCell ⟨V1.heap.size, 3, none⟩ p3).setCell ⟨V1.heap.size, 4, none⟩ p4) (.slice y1 y2 y3) xl) := fun p0 p1 p2 p3 p4 => (HKP.out.agree (by rw [put5_size]; simp) (fun k h1 h2 => by rw [put5_heap (by omega)]; exact @heap_alloc_old _ _ _ h2)).mono HH0.out.size
    revert hH
    revert HGB
    revert HBX
    revert HKQ
    generalize V1.alloc (.cells #[.int .i64 0, .int .i64 0, .string ⟨#[]⟩, .string ⟨#[]⟩, .slice none 0 0] 39) = V2
    generalize V1.heap.size = GG
    intro HKQ HBX HGB hH
    refine wRd 13 (by kernel_rfl) rfl (fun K hK => ?_)
    obtain ⟨u0, u1, u2, u3, u4⟩ := cfive HBX.out
    have s0 : V2.frozen? ⟨GG, 0, none⟩ = false := HBX.out.froz
    have s1 : V2.frozen? ⟨GG, 1, none⟩ = false := HBX.out.froz
    have s2 : V2.frozen? ⟨GG, 2, none⟩ = false := HBX.out.froz
    have s3 : V2.frozen? ⟨GG, 3, none⟩ = false := HBX.out.froz
    have s4 : V2.frozen? ⟨GG, 4, none⟩ = false := HBX.out.froz
    go_simp
    clear u0 u1 u2 u3 u4 s0 s1 s2 s3 s4
    refine hK.out _ _ (bput5 hH HGB.out _ _ _ _ _) (fun hH => ?_)
    clear hK K
    try simp only [wA8, wB8, wC8, wD8]
    refine wTk 14 (.int .i64 0) rfl (by kernel_rfl) (fun _ _ _ h => h) (Or.inl ⟨by rfl, fun w' h => by clear h; go_simp⟩) hH ?_
    simp only [wA8, wB8, wC8, wD8]
    refine wpAnyH_done (by kernel_rfl) ?_ _
    have HV : Hid (Below wr.heap.size wr (((((V2.setCell ⟨GG, 0, none⟩ (.int .i64 xk)).setCell ⟨GG, 1, none⟩ (.int .i64 xm)).setCell ⟨GG, 2, none⟩ (.string xs)).setCell ⟨GG, 3, none⟩ (.string xn)).setCell ⟨GG, 4, none⟩ (.slice y1 y2 y3))) := hH
    have HK3 : Hid (KpT wr.heap.size (((((V2.setCell ⟨GG, 0, none⟩ (.int .i64 xk)).setCell ⟨GG, 1, none⟩ (.int .i64 xm)).setCell ⟨GG, 2, none⟩ (.string xs)).setCell ⟨GG, 3, none⟩ (.string xn)).setCell ⟨GG, 4, none⟩ (.slice y1 y2 y3)) (.slice y1 y2 y3) xl) := HKQ.out _ _ _ _ _
    have HX3 : Hid (CBlk (((((V2.setCell ⟨GG, 0, none⟩ (.int .i64 xk)).setCell ⟨GG, 1, none⟩ (.int .i64 xm)).setCell ⟨GG, 2, none⟩ (.string xs)).setCell ⟨GG, 3, none⟩ (.string xn)).setCell ⟨GG, 4, none⟩ (.slice y1 y2 y3)) GG #[.int .i64 xk, .int .i64 xm, .string xs, .string xn, .slice y1 y2 y3] 39) := put5_blk HBX.out _ _ _ _ _
    clear hH HBX HKQ
    revert HV HK3 HX3
    generalize (((((V2.setCell ⟨GG, 0, none⟩ (.int .i64 xk)).setCell ⟨GG, 1, none⟩ (.int .i64 xm)).setCell ⟨GG, 2, none⟩ (.string xs)).setCell ⟨GG, 3, none⟩ (.string xn)).setCell ⟨GG, 4, none⟩ (.slice y1 y2 y3)) = X9
    intro HV HK3 HX3
    have HC3 : Hid (RCJ w X9 #[.slice ra rn rc, .slice (some ⟨b, o, none⟩) sn sc] (.slice v1 v2 v3) FL) := HCL.out.later HV.out
    have HO2 : Hid (∀ k, (Value.slice v1 v2 v3).ownBlock = some k -> k < wr.heap.size) := fun k hk => (HCL.out.fl.o.lt k hk).2
    have hB0 : w.heap.size + 1 <= wr.heap.size := HCL.out.sz
    obtain ⟨e0, e1, e2, e3, e4⟩ := cfive HX3.out
    have HK4 : Hid (KpT wr.heap.size (X9.alloc (.cells #[.int .i64 xk, .int .i64 xm, .string xs, .string xn, .slice y1 y2 y3] 39)) (.slice y1 y2 y3) xl) := HK3.out.later (below1 _ _)
    have HC4 : Hid (RCJ w (X9.alloc (.cells #[.int .i64 xk, .int .i64 xm, .string xs, .string xn, .slice y1 y2 y3] 39)) #[.slice ra rn rc, .slice (some ⟨b, o, none⟩) sn sc] (.slice v1 v2 v3) FL) := HC3.out.later (below1 _ _)
    have HG4 : Hid (CBlk (X9.alloc (.cells #[.int .i64 xk, .int .i64 xm, .string xs, .string xn, .slice y1 y2 y3] 39)) X9.heap.size (acell (⟨⟨xk, xm, xs⟩, xn, xl⟩, .slice y1 y2 y3)).toArray 39) := CBlk.new _ _ _
    have fl0 : FL.length <= 5000 := by have := HFL.out; omega
    go_wp2_with (at_builtin; refine aapp_one rfl _ _ rfl (w.heap.size + 1) (.slice v1 v2 v3) FL (by rfl) HC4.out.fl.o X9.heap.size (⟨⟨xk, xm, xs⟩, xn, xl⟩, .slice y1 y2 y3) (by rfl) HG4.out (acell_oneH rfl) (by omega) HC4.out.sz ?_; intro v5 w5 hown hb5 hg5 hv5; have HC5 : Hid (RCJ w w5 #[.slice ra rn rc, .slice (some ⟨b, o, none⟩) sn sc] v5 (FL ++ [(⟨⟨xk, xm, xs⟩, xn, xl⟩, .slice y1 y2 y3)])) := ⟨HC4.out.bw.trans (hb5.mono (by omega)), (hb5.block _ (by omega)).trans HC4.out.bp, HC4.out.fl.add (d := (⟨⟨xk, xm, xs⟩, xn, xl⟩, .slice y1 y2 y3)) HK4.out hB0 HO2.out hown hg5 hv5, Nat.le_trans HC4.out.sz hb5.size⟩; clear hown hb5 hg5 hv5 e0 e1 e2 e3 e4)
    go_roundg g
    case measure => omega
    case rel => exact ⟨j + 1, _, by omega, by go_num, by rw [List.length_append, HFL.out]; rfl, fun x hx => by rcases List.mem_append.1 hx with hx | hx; exact HFZ.out x hx; rw [List.mem_singleton] at hx; subst hx; exact HSA.out, by rw [<- HE.out]; simp only [fsts, List.map_append, List.map_cons, List.map_nil], HC5.out⟩
   ·go_simp
    have HBX : Hid (CBlk (V0.alloc (.cells #[.int .i64 0, .int .i64 0, .string ⟨#[]⟩, .string ⟨#[]⟩, .slice none 0 0] 39)) V0.heap.size #[.int .i64 0, .int .i64 0, .string ⟨#[]⟩, .string ⟨#[]⟩, .slice none 0 0] 39) := CBlk.new _ _ _
    have HGB : Hid (wr.heap.size <= V0.heap.size) := hH.size
    refine hK.out _ _ (below_step hH (below1 _ _)) (fun hH => ?_)
    clear hK K
    try simp only [wA8, wB8, wC8, wD8]
    have HGV : Hid (V0.heap.size < (V0.alloc (.cells #[.int .i64 0, .int .i64 0, .string ⟨#[]⟩, .string ⟨#[]⟩, .slice none 0 0] 39)).heap.size) := by show _ < _; simp
    revert HGV
    revert hH
    revert HGB
    revert HBX
    generalize V0.alloc (.cells #[.int .i64 0, .int .i64 0, .string ⟨#[]⟩, .string ⟨#[]⟩, .slice none 0 0] 39) = V2
    generalize V0.heap.size = GG
    intro HBX HGB hH HGV
    refine wRd 8 (by kernel_rfl) rfl (fun K hK => ?_)
    go_simp
    refine (HST.out V2 hH).mono ?_
    rintro e V3 ⟨hb, y, rfl, hkp⟩
    obtain ⟨y1, y3, ey⟩ := hkp.ts.sl
    obtain ⟨y2, hy2⟩ : ∃ k, k = xl.length := ⟨_, rfl⟩
    simp only at ey
    rw [<- hy2] at ey
    subst ey
    clear hy2
    have HKP : Hid (KpT V2.heap.size V3 (.slice y1 y2 y3) xl) := hkp
    have HHB : Hid (Below V2.heap.size V2 V3) := hb
    have HH0 : Hid (Below wr.heap.size wr V2) := hH
    clear hkp
    refine hK.out _ _ (below_step hH hb) (fun hH => ?_)
    clear hK K hb
    try simp only [wA8, wB8, wC8, wD8]
    have HBX : Hid (CBlk V3 GG #[.int .i64 0, .int .i64 0, .string ⟨#[]⟩, .string ⟨#[]⟩, .slice none 0 0] 39) := HBX.out.later HHB.out
    have HKQ : Hid (∀ p0 p1 p2 p3 p4 : Value, KpT wr.heap.size (((((V3.setCell ⟨GG, 0, none⟩ p0).setCell ⟨GG, 1, none⟩ p1).setCell ⟨GG, 2, none⟩ p2).setCell ⟨GG, 3, none⟩ p3).setCell ⟨GG, 4, none⟩ p4) (.slice y1 y2 y3) xl) := fun p0 p1 p2 p3 p4 => (HKP.out.agree (by rw [put5_size]; exact Nat.le_refl _) (fun k h1 h2 => by rw [put5_heap (by have := HGV.out; omega)])).mono HH0.out.size
    refine wTk 9 (.tuple #[.agg #[.int .i64 xk, .int .i64 xm, .string xs, .string xn, .slice y1 y2 y3], .int .i64 0]) rfl (by kernel_rfl) (fun _ _ _ h => h) (Or.inl ⟨by rfl, fun w' h => by clear h; go_simp⟩) hH ?_
    simp only [wA8, wB8, wC8, wD8]
    refine wTk 10 (.agg #[.int .i64 xk, .int .i64 xm, .string xs, .string xn, .slice y1 y2 y3]) rfl (by kernel_rfl) (fun _ _ _ h => h) (Or.inl ⟨by rfl, fun w' h => by clear h; go_simp⟩) hH ?_
    simp only [wA8, wB8, wC8, wD8]
    refine wTk 11 (.int .i64 0) rfl (by kernel_rfl) (fun _ _ _ h => h) (Or.inl ⟨by rfl, fun w' h => by clear h; go_simp⟩) hH ?_
    simp only [wA8, wB8, wC8, wD8]
    refine wRd 13 (by kernel_rfl) rfl (fun K hK => ?_)
    obtain ⟨u0, u1, u2, u3, u4⟩ := cfive HBX.out
    have s0 : V3.frozen? ⟨GG, 0, none⟩ = false := HBX.out.froz
    have s1 : V3.frozen? ⟨GG, 1, none⟩ = false := HBX.out.froz
    have s2 : V3.frozen? ⟨GG, 2, none⟩ = false := HBX.out.froz
    have s3 : V3.frozen? ⟨GG, 3, none⟩ = false := HBX.out.froz
    have s4 : V3.frozen? ⟨GG, 4, none⟩ = false := HBX.out.froz
    go_simp
    clear u0 u1 u2 u3 u4 s0 s1 s2 s3 s4
    refine hK.out _ _ (bput5 hH HGB.out _ _ _ _ _) (fun hH => ?_)
    clear hK K
    try simp only [wA8, wB8, wC8, wD8]
    refine wTk 14 (.int .i64 0) rfl (by kernel_rfl) (fun _ _ _ h => h) (Or.inl ⟨by rfl, fun w' h => by clear h; go_simp⟩) hH ?_
    simp only [wA8, wB8, wC8, wD8]
    refine wpAnyH_done (by kernel_rfl) ?_ _
    have HV : Hid (Below wr.heap.size wr (((((V3.setCell ⟨GG, 0, none⟩ (.int .i64 xk)).setCell ⟨GG, 1, none⟩ (.int .i64 xm)).setCell ⟨GG, 2, none⟩ (.string xs)).setCell ⟨GG, 3, none⟩ (.string xn)).setCell ⟨GG, 4, none⟩ (.slice y1 y2 y3))) := hH
    have HK3 : Hid (KpT wr.heap.size (((((V3.setCell ⟨GG, 0, none⟩ (.int .i64 xk)).setCell ⟨GG, 1, none⟩ (.int .i64 xm)).setCell ⟨GG, 2, none⟩ (.string xs)).setCell ⟨GG, 3, none⟩ (.string xn)).setCell ⟨GG, 4, none⟩ (.slice y1 y2 y3)) (.slice y1 y2 y3) xl) := HKQ.out _ _ _ _ _
    have HX3 : Hid (CBlk (((((V3.setCell ⟨GG, 0, none⟩ (.int .i64 xk)).setCell ⟨GG, 1, none⟩ (.int .i64 xm)).setCell ⟨GG, 2, none⟩ (.string xs)).setCell ⟨GG, 3, none⟩ (.string xn)).setCell ⟨GG, 4, none⟩ (.slice y1 y2 y3)) GG #[.int .i64 xk, .int .i64 xm, .string xs, .string xn, .slice y1 y2 y3] 39) := put5_blk HBX.out _ _ _ _ _
    clear hH HBX HKQ
    revert HV HK3 HX3
    generalize (((((V3.setCell ⟨GG, 0, none⟩ (.int .i64 xk)).setCell ⟨GG, 1, none⟩ (.int .i64 xm)).setCell ⟨GG, 2, none⟩ (.string xs)).setCell ⟨GG, 3, none⟩ (.string xn)).setCell ⟨GG, 4, none⟩ (.slice y1 y2 y3)) = X9
    intro HV HK3 HX3
    have HC3 : Hid (RCJ w X9 #[.slice ra rn rc, .slice (some ⟨b, o, none⟩) sn sc] (.slice v1 v2 v3) FL) := HCL.out.later HV.out
    have HO2 : Hid (∀ k, (Value.slice v1 v2 v3).ownBlock = some k -> k < wr.heap.size) := fun k hk => (HCL.out.fl.o.lt k hk).2
    have hB0 : w.heap.size + 1 <= wr.heap.size := HCL.out.sz
    obtain ⟨e0, e1, e2, e3, e4⟩ := cfive HX3.out
    have HK4 : Hid (KpT wr.heap.size (X9.alloc (.cells #[.int .i64 xk, .int .i64 xm, .string xs, .string xn, .slice y1 y2 y3] 39)) (.slice y1 y2 y3) xl) := HK3.out.later (below1 _ _)
    have HC4 : Hid (RCJ w (X9.alloc (.cells #[.int .i64 xk, .int .i64 xm, .string xs, .string xn, .slice y1 y2 y3] 39)) #[.slice ra rn rc, .slice (some ⟨b, o, none⟩) sn sc] (.slice v1 v2 v3) FL) := HC3.out.later (below1 _ _)
    have HG4 : Hid (CBlk (X9.alloc (.cells #[.int .i64 xk, .int .i64 xm, .string xs, .string xn, .slice y1 y2 y3] 39)) X9.heap.size (acell (⟨⟨xk, xm, xs⟩, xn, xl⟩, .slice y1 y2 y3)).toArray 39) := CBlk.new _ _ _
    have fl0 : FL.length <= 5000 := by have := HFL.out; omega
    go_wp2_with (at_builtin; refine aapp_one rfl _ _ rfl (w.heap.size + 1) (.slice v1 v2 v3) FL (by rfl) HC4.out.fl.o X9.heap.size (⟨⟨xk, xm, xs⟩, xn, xl⟩, .slice y1 y2 y3) (by rfl) HG4.out (acell_oneH rfl) (by omega) HC4.out.sz ?_; intro v5 w5 hown hb5 hg5 hv5; have HC5 : Hid (RCJ w w5 #[.slice ra rn rc, .slice (some ⟨b, o, none⟩) sn sc] v5 (FL ++ [(⟨⟨xk, xm, xs⟩, xn, xl⟩, .slice y1 y2 y3)])) := ⟨HC4.out.bw.trans (hb5.mono (by omega)), (hb5.block _ (by omega)).trans HC4.out.bp, HC4.out.fl.add (d := (⟨⟨xk, xm, xs⟩, xn, xl⟩, .slice y1 y2 y3)) HK4.out hB0 HO2.out hown hg5 hv5, Nat.le_trans HC4.out.sz hb5.size⟩; clear hown hb5 hg5 hv5 e0 e1 e2 e3 e4)
    go_roundg g
    case measure => omega
    case rel => exact ⟨j + 1, _, by omega, by go_num, by rw [List.length_append, HFL.out]; rfl, fun x hx => by rcases List.mem_append.1 hx with hx | hx; exact HFZ.out x hx; rw [List.mem_singleton] at hx; subst hx; exact HSA.out, by rw [<- HE.out]; simp only [fsts, List.map_append, List.map_cons, List.map_nil], HC5.out⟩
 | zero =>
  have hjl : j = sn := by omega
  have k1 : ¬ ((j : Int) < (sn : Int)) := by omega
  have HE : Hid (r = .ok (fsts FL)) := by
   show r = _
   rw [<- HAL.out, List.drop_eq_nil_of_le (by rw [List.length_map]; have := HSN.out; omega)]
   rfl
  have fl0 : FL.length <= 5000 := by have := HFL.out; omega
  go_wp2
  refine bodyPost_ret (v := .tuple #[.slice v1 v2 v3, .int .i64 0]) (by simp [results, Tryz.results7, go_sem]) rfl ⟨HCL.out.bw, ?_⟩
  rw [HE.out]
  exact ⟨_, FL, rfl, HCL.out.fl.as (by omega), rfl⟩
end Go.Proofs.YtcejljehjhlonaaGreatDoor
