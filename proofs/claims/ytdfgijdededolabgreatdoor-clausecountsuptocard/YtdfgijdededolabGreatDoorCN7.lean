/-
  ref's sorted. (Written by CN7.py.)
-/
import Derived.Test.YtdfgijdededolabGreatDoorR1
import Derived.Test.YtdfgijdededolabGreatDoorMD6
import Derived.Test.YtdfgijdededolabGreatDoorW2
import Derived.Test.YtdfgijdededolabGreatDoorCL5
namespace Go.Proofs.YtdfgijdededolabGreatDoor
open Go.RowKit

theorem TsP.get {w : World} {a : Option Addr} {n cap j : Nat} {l : List Tm} {c : Tm} (h : TsP w (.slice a n cap) l) (hc : l[j]? = some c) : ∃ b o, a = some ⟨b, o, none⟩ ∧ TRow w b o l := by
  rcases h with ⟨e, rfl⟩ | ⟨ad, cap', e, h2⟩
  · simp at hc
  · simp only [Value.slice.injEq] at e
    obtain ⟨rfl, -, -⟩ := e
    rcases h2 with rfl | ⟨b, o, rfl, h2⟩
    · simp at hc
    · exact ⟨b, o, rfl, h2⟩
theorem TsP.form7 {w : World} {v : Value} {l : List Tm} (h : TsP w v l) : ∃ a cap, v = .slice a l.length cap := by
  rcases h with ⟨rfl, rfl⟩ | ⟨ad, cap, rfl, -⟩
  · exact ⟨none, 0, rfl⟩
  · exact ⟨_, _, rfl⟩
theorem TsP.take {w : World} {b o n cap m : Nat} {l : List Tm} (h : TsP w (.slice (some ⟨b, o, none⟩) n cap) l) (hm : m ≤ l.length) (cap' : Nat) : TsP w (.slice (some ⟨b, o, none⟩) m cap') (l.take m) := by
  refine Or.inr ⟨_, cap', by rw [List.length_take, Nat.min_eq_left hm], ?_⟩
  cases l with
  | nil => left; simp
  | cons t l =>
    obtain ⟨b', o', e, hr⟩ := h.get (j := 0) rfl
    cases e
    exact Or.inr ⟨b, o, rfl, hr.1, fun i t ht => hr.2 i t (by rw [List.getElem?_take] at ht; split at ht; exact ht; cases ht)⟩
theorem TsP.drop {w : World} {b o n cap m : Nat} {l : List Tm} (h : TsP w (.slice (some ⟨b, o, none⟩) n cap) l) (hm : m ≤ l.length) (cap' : Nat) : TsP w (.slice (some ⟨b, o + m * 3, none⟩) (l.length - m) cap') (l.drop m) := by
  refine Or.inr ⟨_, cap', by rw [List.length_drop], ?_⟩
  cases l with
  | nil => left; simp
  | cons t l =>
    obtain ⟨b', o', e, hr⟩ := h.get (j := 0) rfl
    cases e
    refine Or.inr ⟨b, _, rfl, hr.1, fun i t ht => ?_⟩
    have := hr.2 (m + i) t (by rw [List.getElem?_drop] at ht; exact ht)
    rw [show o + m * 3 + i * 3 = o + (m + i) * 3 by omega]
    exact this
theorem conj3 {a b c : Prop} (h1 : a) (h2 : b) (h3 : c) : Hid (a ∧ b ∧ c) := ⟨h1, h2, h3⟩
theorem OwnT.empty {w : World} {b base : Nat} (h : CBlk w b #[] 35) (hb : base ≤ b) : OwnT w base (.slice (some ⟨b, 0, none⟩) 0 0) [] :=
  ⟨rfl, Or.inr ⟨b, 0, #[], rfl, hb, h, Nat.le_refl _, by unfold maxLen; omega, rfl, rfl⟩⟩
def RTS (w : World) (l : List Tm) (e : Ending) (w' : World) : Prop := ∃ v' o, e = .returned v' ∧ OwnT w' w.heap.size v' o ∧ o.length ≤ l.length ∧ RiseOf Tm.cmp o l ∧ Below w.heap.size w w'
theorem rts_mk {w w' : World} {l o : List Tm} {v' : Value} (h1 : OwnT w' w.heap.size v' o) (h3 : o.length ≤ l.length) (h4 : RiseOf Tm.cmp o l) (h5 : Below w.heap.size w w') : RTS w l (.returned v') w' := by
  unfold RTS; exact ⟨v', o, rfl, h1, h3, h4, h5⟩
theorem rise_few {l : List Tm} (h : l.length < 2) : RiseOf Tm.cmp l l := by
  match l, h with
  | [], _ => exact RiseOf.nil
  | [x], _ => exact RiseOf.one x
set_option maxRecDepth 20000 in
set_option maxHeartbeats 2000000 in
theorem rsorted_few (l : List Tm) (v : Value) (w : World) (h : TsP w v l) (hl : l.length < 2) : Calls Tryz.prog 40 #[v] w (RTS w l) := by
  have HR : Hid (RiseOf Tm.cmp l l) := rise_few hl
  have HP : Hid (TsP w v l) := h
  obtain ⟨a, cap, rfl⟩ := h.form7
  have i1 : (l.length : Int) < 2 := by omega
  have HE : Hid (OwnT (w.alloc (.cells #[] 35)) w.heap.size (.slice (some ⟨w.heap.size, 0, none⟩) 0 0) []) := OwnT.empty (CBlk.new _ _ _) (Nat.le_refl _)
  clear h
  go_enter Tryz.func40, Tryz.ntmps40
  go_wp2_with (at_builtin; refine app_terms rfl _ _ rfl w.heap.size _ [] (by rfl) HE.out _ l (by rfl) (HP.out.later (below1 _ _)) (by simp only [List.length_nil]; omega) (by simp) ?_; intro v1 w1 hown hb hg; rw [List.nil_append] at hown; have HO : Hid (OwnT w1 w.heap.size v1 l) := hown; have HW : Hid (Below w.heap.size w w1) := (below1 _ _).trans hb; clear hown hb hg)
  go_ret
  exact rts_mk HO.out (Nat.le_refl _) HR.out HW.out
set_option maxRecDepth 20000 in
set_option maxHeartbeats 8000000 in
theorem rsorted_step (b o cap : Nat) (l : List Tm) (w : World) (h2 : 2 ≤ l.length) (hl : l.length ≤ 3000000000000) (hcap : l.length ≤ cap) (hz : ∀ t ∈ l, t.s.size ≤ maxLen)
    (IH1 : ∀ X, Below w.heap.size w X → Calls Tryz.prog 40 #[.slice (some ⟨b, o, none⟩) (l.length / 2) cap] X (RTS X (l.take (l.length / 2))))
    (IH2 : ∀ X, Below w.heap.size w X → Calls Tryz.prog 40 #[.slice (some ⟨b, o + l.length / 2 * 3, none⟩) (l.length - l.length / 2) (cap - l.length / 2)] X (RTS X (l.drop (l.length / 2)))) :
    Calls Tryz.prog 40 #[.slice (some ⟨b, o, none⟩) l.length cap] w (RTS w l) := by
  obtain ⟨n, hn⟩ : ∃ n, l.length = n := ⟨_, rfl⟩
  obtain ⟨h, hh⟩ : ∃ h, n / 2 = h := ⟨_, rfl⟩
  have HI1 : Hid (∀ X, Below w.heap.size w X → Calls Tryz.prog 40 #[.slice (some ⟨b, o, none⟩) h cap] X (RTS X (l.take h))) := by rw [hn, hh] at IH1; exact IH1
  have HI2 : Hid (∀ X, Below w.heap.size w X → Calls Tryz.prog 40 #[.slice (some ⟨b, o + h * 3, none⟩) (n - h) (cap - h)] X (RTS X (l.drop h))) := by rw [hn, hh] at IH2; exact IH2
  have HNL : Hid (l.length = n) := hn
  have HZ : Hid (∀ t ∈ l, t.s.size ≤ maxLen) := hz
  rw [hn] at h2 hl hcap ⊢
  have hq : (n : Int) / 2 = (h : Int) := by omega
  have hq2 : (n : Int).tdiv 2 = (h : Int) := by rw [Int.tdiv_eq_ediv_of_nonneg (by omega)]; exact hq
  have i0 : ¬ (n : Int) < 2 := by omega
  have i2 : (0 : Int) ≤ (h : Int) := by omega
  have i3 : (h : Int) ≤ (n : Int) := by omega
  have i4 : (h : Int) ≤ (cap : Int) := by omega
  have i5 : (n : Int) ≤ (cap : Int) := by omega
  clear IH1 IH2 hn hz
  go_enter Tryz.func40, Tryz.ntmps40
  go_wp2_with (first
    | (go_at_call 40; refine (HI1.out _ (Below.refl _ _)).mono ?_; rintro e w1 ⟨v1, o1, rfl, hc1, hl1, hk1, hb1⟩; have HC1 : Hid (TsP w1 v1 o1) := hc1.tsP; obtain ⟨oa, oc, rfl⟩ := hc1.tsP.form7; have HK1 : Hid (RiseOf Tm.cmp o1 (l.take h)) := hk1; have HL1 : Hid (o1.length ≤ (l.take h).length) := hl1; have HB1 : Hid (Below w.heap.size w w1) := hb1; clear HI1 hc1 hl1 hk1 hb1)
    | (go_at_call 40; refine (HI2.out _ HB1.out).mono ?_; rintro e w2 ⟨v2, o2, rfl, hc2, hl2, hk2, hb2⟩; have HC2 : Hid (TsP w2 v2 o2) := hc2.tsP; obtain ⟨qa, qc, rfl⟩ := hc2.tsP.form7; have HK2 : Hid (RiseOf Tm.cmp o2 (l.drop h)) := hk2; have HL2 : Hid (o2.length ≤ (l.drop h).length) := hl2; have HB2 : Hid (Below w.heap.size w w2) := below_step HB1.out hb2; have HC1 : Hid (TsP w2 (.slice oa o1.length oc) o1) := HC1.out.later hb2; clear HI2 hc2 hl2 hk2 hb2 HB1))
  have hlo : o1.length + o2.length ≤ n := by have h1 := HL1.out; have h3 := HL2.out; rw [List.length_take] at h1; rw [List.length_drop] at h3; have := HNL.out; omega
  clear HL1 HL2 hq hq2 i0 i2 i3 i4 i5 hcap h2
  go_loopg [5, 6, 7] (o1.length + o2.length) (fun g u i k wr => ∃ (a c : Nat) (T : List Tm), i = .int .i64 (a : Int) ∧ k = .int .i64 (c : Int) ∧ a ≤ o1.length ∧ c ≤ o2.length ∧ a + c + g = o1.length + o2.length ∧ OwnT wr w2.heap.size u T ∧ T.length ≤ a + c ∧ MrgG Tm.cmp o1 o2 T a c ∧ Below w2.heap.size w2 wr)
  case atStart => exact ⟨0, 0, [], rfl, rfl, by omega, by omega, by omega, ownT_nil _ _, by simp, MrgG.start _ _ _, Below.refl _ _⟩
  case round =>
    obtain ⟨a, c, T, rfl, rfl, ha, hc, hg, hot, htl, hmg, hb⟩ := hrel
    have HB : Hid (Below w2.heap.size w2 wr) := hb
    have HOT : Hid (OwnT wr w2.heap.size u5 T) := hot
    have HM0 : Hid (MrgG Tm.cmp o1 o2 T a c) := hmg
    clear hb hot hmg
    have ia : (0 : Int) ≤ (a : Int) := by omega
    have ic : (0 : Int) ≤ (c : Int) := by omega
    by_cases h1 : a < o1.length
    · have k1 : (a : Int) < (o1.length : Int) := by omega
      have k2 : ¬ (a : Int) = (o1.length : Int) := by omega
      have k3 : ¬ a = o1.length := by omega
      obtain ⟨x, hx⟩ : ∃ z, o1[a]? = some z := ⟨_, List.getElem?_eq_getElem (by omega)⟩
      have mx : x.s.size ≤ maxLen := HZ.out x (List.mem_of_mem_take ((HK1.out.mem x).1 (List.mem_of_getElem? hx)))
      obtain ⟨sb, so, rfl, hrwx⟩ := TsP.get (HC1.out.later HB.out) hx
      have hzx := hrwx.1
      have hsvx := hrwx.2 _ _ hx
      by_cases h3 : c < o2.length
      · have k4 : (c : Int) < (o2.length : Int) := by omega
        have k5 : ¬ (c : Int) = (o2.length : Int) := by omega
        have k6 : ¬ c = o2.length := by omega
        obtain ⟨y, hy⟩ : ∃ z, o2[c]? = some z := ⟨_, List.getElem?_eq_getElem (by omega)⟩
        have my : y.s.size ≤ maxLen := HZ.out y (List.mem_of_mem_drop ((HK2.out.mem y).1 (List.mem_of_getElem? hy)))
        obtain ⟨sd, sq, rfl, hrwy⟩ := TsP.get (HC2.out.later HB.out) hy
        have hzy := hrwy.1
        have hsvy := hrwy.2 _ _ hy
        have HCS0 := fun (Y : World) => rcompare_any x y Y mx my
        have ML : Hid (x.cmp y < 0 → MrgG Tm.cmp o1 o2 (T ++ [x]) (a + 1) c) := fun hlt => HM0.out.left ord_tm HK1.out.rise HK2.out.rise hx (fun z hz => by rw [hy] at hz; cases hz; exact hlt)
        have MR : Hid (y.cmp x < 0 → MrgG Tm.cmp o1 o2 (T ++ [y]) a (c + 1)) := fun hlt => HM0.out.right ord_tm HK1.out.rise HK2.out.rise hy (fun z hz => by rw [hx] at hz; cases hz; exact hlt)
        have MB : Hid (x = y → MrgG Tm.cmp o1 o2 (T ++ [x]) (a + 1) (c + 1)) := fun he => HM0.out.both HK1.out.rise HK2.out.rise hx (by rw [hy, he])
        have hrng := ord_tm.rng x y
        have hneg := ord_tm.neg x y
        have hzer := ord_tm.zero x y
        clear hx hy mx my hrwx hrwy HM0
        obtain ⟨r, hr⟩ : ∃ r, x.cmp y = r := ⟨_, rfl⟩
        obtain ⟨r', hr'⟩ : ∃ r', y.cmp x = r' := ⟨_, rfl⟩
        rw [hr, hr'] at hneg
        rw [hr] at hrng hzer ML
        rw [hr'] at MR
        simp only [hr] at HCS0
        clear hr hr'
        obtain ⟨xk, xm, xs⟩ := x
        obtain ⟨yk, ym, ys⟩ := y
        obtain ⟨q0, q1, q2⟩ := hsvx
        have HQ := conj3 q0 q1 q2
        have HQz : Hid (sb < wr.heap.size) := hzx
        clear q0 q1 q2 hzx
        obtain ⟨q0, q1, q2⟩ := hsvy
        have HR := conj3 q0 q1 q2
        have HRz : Hid (sd < wr.heap.size) := hzy
        clear q0 q1 q2 hzy
        have HCS : Hid (∀ Y : World, Below wr.heap.size wr Y → Calls Tryz.prog 86 #[.agg #[.int .i64 xk, .int .i64 xm, .string xs], .agg #[.int .i64 yk, .int .i64 ym, .string ys]] Y fun e w' => e = .returned (.int .i64 r) ∧ Below Y.heap.size Y w') := fun Y _ => HCS0 Y
        clear HCS0
        rcases hrng with rfl | rfl | rfl
        · have HMG : Hid (MrgG Tm.cmp o1 o2 (T ++ [⟨xk, xm, xs⟩]) (a + 1) c) := Hid.out ML (by omega)
          clear ML MR MB hneg hzer
          go_upto_region 12 with fail
          refine wp_region_held_drew (S := fun w' => Below wr.heap.size wr w') (by kernel_rfl) (Below.refl _ _).drew (fun hH => ?_)
          revert hH
          generalize wr.drew = V
          intro hH
          refine wpAnyH_take (i := 0) (oi := ⟨_, _, _, _, _, _⟩) (v := .slice (some ⟨sb, so, none⟩) o1.length oc) rfl (by kernel_rfl) (by kernel_rfl) (by kernel_rfl) (fun _ _ _ h => h) (Or.inl ⟨by rfl, fun w' _ => by go_simp⟩) hH ?_
          simp only [Act.put, List.setIfInBounds_toArray, List.set_cons_zero, List.set_cons_succ]
          refine wpAnyH_take (i := 1) (oi := ⟨_, _, _, _, _, _⟩) (v := .int .i64 (a : Int)) rfl (by kernel_rfl) (by kernel_rfl) (by kernel_rfl) (fun _ _ _ h => h) (Or.inl ⟨by rfl, fun w' _ => by go_simp⟩) hH ?_
          simp only [Act.put, List.setIfInBounds_toArray, List.set_cons_zero, List.set_cons_succ]
          refine wpAnyH_take (i := 2) (oi := ⟨_, _, _, _, _, _⟩) (v := .pointer (some ⟨sb, so + a * 3, none⟩)) rfl (by kernel_rfl) (by kernel_rfl) (by kernel_rfl) (fun _ _ _ h => h) (Or.inl ⟨by rfl, fun w' _ => by go_simp⟩) hH ?_
          simp only [Act.put, List.setIfInBounds_toArray, List.set_cons_zero, List.set_cons_succ]
          refine wpAnyH_take (i := 3) (oi := ⟨_, _, _, _, _, _⟩) (v := .agg #[.int .i64 xk, .int .i64 xm, .string xs]) rfl (by kernel_rfl) (by kernel_rfl) (by kernel_rfl) (fun _ _ _ h => h) (Or.inl ⟨by rfl, fun w' h => by obtain ⟨q0, q1, q2⟩ := Hid.out HQ; have z := Hid.out HQz; have y0 := cell_step h z q0; have y1 := cell_step h z q1; have y2 := cell_step h z q2; clear q0 q1 q2; go_simp⟩) hH ?_
          simp only [Act.put, List.setIfInBounds_toArray, List.set_cons_zero, List.set_cons_succ]
          refine wpAnyH_take (i := 4) (oi := ⟨_, _, _, _, _, _⟩) (v := .slice (some ⟨sd, sq, none⟩) o2.length qc) rfl (by kernel_rfl) (by kernel_rfl) (by kernel_rfl) (fun _ _ _ h => h) (Or.inl ⟨by rfl, fun w' _ => by go_simp⟩) hH ?_
          simp only [Act.put, List.setIfInBounds_toArray, List.set_cons_zero, List.set_cons_succ]
          refine wpAnyH_take (i := 5) (oi := ⟨_, _, _, _, _, _⟩) (v := .int .i64 (c : Int)) rfl (by kernel_rfl) (by kernel_rfl) (by kernel_rfl) (fun _ _ _ h => h) (Or.inl ⟨by rfl, fun w' _ => by go_simp⟩) hH ?_
          simp only [Act.put, List.setIfInBounds_toArray, List.set_cons_zero, List.set_cons_succ]
          refine wpAnyH_take (i := 6) (oi := ⟨_, _, _, _, _, _⟩) (v := .pointer (some ⟨sd, sq + c * 3, none⟩)) rfl (by kernel_rfl) (by kernel_rfl) (by kernel_rfl) (fun _ _ _ h => h) (Or.inl ⟨by rfl, fun w' _ => by go_simp⟩) hH ?_
          simp only [Act.put, List.setIfInBounds_toArray, List.set_cons_zero, List.set_cons_succ]
          refine wpAnyH_take (i := 7) (oi := ⟨_, _, _, _, _, _⟩) (v := .agg #[.int .i64 yk, .int .i64 ym, .string ys]) rfl (by kernel_rfl) (by kernel_rfl) (by kernel_rfl) (fun _ _ _ h => h) (Or.inl ⟨by rfl, fun w' h => by obtain ⟨q0, q1, q2⟩ := Hid.out HR; have z := Hid.out HRz; have y0 := cell_step h z q0; have y1 := cell_step h z q1; have y2 := cell_step h z q2; clear q0 q1 q2; go_simp⟩) hH ?_
          simp only [Act.put, List.setIfInBounds_toArray, List.set_cons_zero, List.set_cons_succ]
          refine wpAnyH_ready (rs := [8]) (by kernel_rfl) (by simp) ?_
          refine (AllReadyH.cons (o := ⟨_, _, _, _, _, _⟩) rfl (fun K hK => ?_) AllReadyH.nil)
          go_simp
          refine (HCS.out _ hH).mono ?_
          rintro e V1 ⟨rfl, hb⟩
          refine hK.out _ _ (below_step hH hb) (fun hH => ?_)
          clear hK K hb
          refine wpAnyH_take (i := 9) (oi := ⟨_, _, _, _, _, _⟩) (v := .int .i64 (-1)) rfl (by kernel_rfl) (by kernel_rfl) (by kernel_rfl) (fun _ _ _ h => h) (Or.inl ⟨by rfl, fun w' _ => by go_simp⟩) hH ?_
          simp only [Act.put, List.setIfInBounds_toArray, List.set_cons_zero, List.set_cons_succ]
          refine wpAnyH_done (by kernel_rfl) ?_ _
          have HBW : Hid (Below wr.heap.size wr V1) := hH
          clear hH
          clear HCS
          obtain ⟨p0, p1, p2⟩ := HQ.out
          have zz := HQz.out
          have p0 := cell_step HBW.out zz p0
          have p1 := cell_step HBW.out zz p1
          have p2 := cell_step HBW.out zz p2
          clear zz
          have HG : Hid (TsP (V1.alloc (.cells #[.int .i64 xk, .int .i64 xm, .string xs] 35)) (.slice (some ⟨V1.heap.size, 0, none⟩) 1 1) [⟨xk, xm, xs⟩]) := TsP.one (CBlk.new _ _ _)
          have HOA : Hid (OwnT (V1.alloc (.cells #[.int .i64 xk, .int .i64 xm, .string xs] 35)) w2.heap.size u5 T) := HOT.out.later (below_step HBW.out (below1 _ _))
          have HB3 : Hid (Below w2.heap.size w2 (V1.alloc (.cells #[.int .i64 xk, .int .i64 xm, .string xs] 35))) := below_step (below_step HB.out HBW.out) (below1 _ _)
          clear HBW
          go_wp2_with (at_builtin; refine app_terms rfl _ _ rfl w2.heap.size u5 T (by rfl) HOA.out _ [⟨xk, xm, xs⟩] (by rfl) HG.out (by simp only [List.length_singleton]; omega) HB3.out.size ?_; intro v4 w4 hown hb4 hg4; have HO4 : Hid (OwnT w4 w2.heap.size v4 (T ++ [⟨xk, xm, xs⟩])) := hown; have HB4 : Hid (Below w2.heap.size w2 w4) := HB3.out.trans hb4; clear hown hb4 hg4 HOA HG HB3)
          go_roundg (gk - 1)
          case measure => omega
          case rel => exact ⟨a + 1, c, _, by go_num, by go_num, by omega, by omega, by omega, HO4.out, by simp only [List.length_append, List.length_singleton]; omega, HMG.out, HB4.out⟩
        · have HMG : Hid (MrgG Tm.cmp o1 o2 (T ++ [⟨xk, xm, xs⟩]) (a + 1) (c + 1)) := Hid.out MB (hzer rfl)
          clear ML MR MB hneg hzer
          go_upto_region 12 with fail
          refine wp_region_held_drew (S := fun w' => Below wr.heap.size wr w') (by kernel_rfl) (Below.refl _ _).drew (fun hH => ?_)
          revert hH
          generalize wr.drew = V
          intro hH
          refine wpAnyH_take (i := 0) (oi := ⟨_, _, _, _, _, _⟩) (v := .slice (some ⟨sb, so, none⟩) o1.length oc) rfl (by kernel_rfl) (by kernel_rfl) (by kernel_rfl) (fun _ _ _ h => h) (Or.inl ⟨by rfl, fun w' _ => by go_simp⟩) hH ?_
          simp only [Act.put, List.setIfInBounds_toArray, List.set_cons_zero, List.set_cons_succ]
          refine wpAnyH_take (i := 1) (oi := ⟨_, _, _, _, _, _⟩) (v := .int .i64 (a : Int)) rfl (by kernel_rfl) (by kernel_rfl) (by kernel_rfl) (fun _ _ _ h => h) (Or.inl ⟨by rfl, fun w' _ => by go_simp⟩) hH ?_
          simp only [Act.put, List.setIfInBounds_toArray, List.set_cons_zero, List.set_cons_succ]
          refine wpAnyH_take (i := 2) (oi := ⟨_, _, _, _, _, _⟩) (v := .pointer (some ⟨sb, so + a * 3, none⟩)) rfl (by kernel_rfl) (by kernel_rfl) (by kernel_rfl) (fun _ _ _ h => h) (Or.inl ⟨by rfl, fun w' _ => by go_simp⟩) hH ?_
          simp only [Act.put, List.setIfInBounds_toArray, List.set_cons_zero, List.set_cons_succ]
          refine wpAnyH_take (i := 3) (oi := ⟨_, _, _, _, _, _⟩) (v := .agg #[.int .i64 xk, .int .i64 xm, .string xs]) rfl (by kernel_rfl) (by kernel_rfl) (by kernel_rfl) (fun _ _ _ h => h) (Or.inl ⟨by rfl, fun w' h => by obtain ⟨q0, q1, q2⟩ := Hid.out HQ; have z := Hid.out HQz; have y0 := cell_step h z q0; have y1 := cell_step h z q1; have y2 := cell_step h z q2; clear q0 q1 q2; go_simp⟩) hH ?_
          simp only [Act.put, List.setIfInBounds_toArray, List.set_cons_zero, List.set_cons_succ]
          refine wpAnyH_take (i := 4) (oi := ⟨_, _, _, _, _, _⟩) (v := .slice (some ⟨sd, sq, none⟩) o2.length qc) rfl (by kernel_rfl) (by kernel_rfl) (by kernel_rfl) (fun _ _ _ h => h) (Or.inl ⟨by rfl, fun w' _ => by go_simp⟩) hH ?_
          simp only [Act.put, List.setIfInBounds_toArray, List.set_cons_zero, List.set_cons_succ]
          refine wpAnyH_take (i := 5) (oi := ⟨_, _, _, _, _, _⟩) (v := .int .i64 (c : Int)) rfl (by kernel_rfl) (by kernel_rfl) (by kernel_rfl) (fun _ _ _ h => h) (Or.inl ⟨by rfl, fun w' _ => by go_simp⟩) hH ?_
          simp only [Act.put, List.setIfInBounds_toArray, List.set_cons_zero, List.set_cons_succ]
          refine wpAnyH_take (i := 6) (oi := ⟨_, _, _, _, _, _⟩) (v := .pointer (some ⟨sd, sq + c * 3, none⟩)) rfl (by kernel_rfl) (by kernel_rfl) (by kernel_rfl) (fun _ _ _ h => h) (Or.inl ⟨by rfl, fun w' _ => by go_simp⟩) hH ?_
          simp only [Act.put, List.setIfInBounds_toArray, List.set_cons_zero, List.set_cons_succ]
          refine wpAnyH_take (i := 7) (oi := ⟨_, _, _, _, _, _⟩) (v := .agg #[.int .i64 yk, .int .i64 ym, .string ys]) rfl (by kernel_rfl) (by kernel_rfl) (by kernel_rfl) (fun _ _ _ h => h) (Or.inl ⟨by rfl, fun w' h => by obtain ⟨q0, q1, q2⟩ := Hid.out HR; have z := Hid.out HRz; have y0 := cell_step h z q0; have y1 := cell_step h z q1; have y2 := cell_step h z q2; clear q0 q1 q2; go_simp⟩) hH ?_
          simp only [Act.put, List.setIfInBounds_toArray, List.set_cons_zero, List.set_cons_succ]
          refine wpAnyH_ready (rs := [8]) (by kernel_rfl) (by simp) ?_
          refine (AllReadyH.cons (o := ⟨_, _, _, _, _, _⟩) rfl (fun K hK => ?_) AllReadyH.nil)
          go_simp
          refine (HCS.out _ hH).mono ?_
          rintro e V1 ⟨rfl, hb⟩
          refine hK.out _ _ (below_step hH hb) (fun hH => ?_)
          clear hK K hb
          refine wpAnyH_take (i := 9) (oi := ⟨_, _, _, _, _, _⟩) (v := .int .i64 0) rfl (by kernel_rfl) (by kernel_rfl) (by kernel_rfl) (fun _ _ _ h => h) (Or.inl ⟨by rfl, fun w' _ => by go_simp⟩) hH ?_
          simp only [Act.put, List.setIfInBounds_toArray, List.set_cons_zero, List.set_cons_succ]
          refine wpAnyH_done (by kernel_rfl) ?_ _
          have HBW : Hid (Below wr.heap.size wr V1) := hH
          clear hH
          clear HCS
          obtain ⟨p0, p1, p2⟩ := HQ.out
          have zz := HQz.out
          have p0 := cell_step HBW.out zz p0
          have p1 := cell_step HBW.out zz p1
          have p2 := cell_step HBW.out zz p2
          clear zz
          have HG : Hid (TsP (V1.alloc (.cells #[.int .i64 xk, .int .i64 xm, .string xs] 35)) (.slice (some ⟨V1.heap.size, 0, none⟩) 1 1) [⟨xk, xm, xs⟩]) := TsP.one (CBlk.new _ _ _)
          have HOA : Hid (OwnT (V1.alloc (.cells #[.int .i64 xk, .int .i64 xm, .string xs] 35)) w2.heap.size u5 T) := HOT.out.later (below_step HBW.out (below1 _ _))
          have HB3 : Hid (Below w2.heap.size w2 (V1.alloc (.cells #[.int .i64 xk, .int .i64 xm, .string xs] 35))) := below_step (below_step HB.out HBW.out) (below1 _ _)
          clear HBW
          go_wp2_with (at_builtin; refine app_terms rfl _ _ rfl w2.heap.size u5 T (by rfl) HOA.out _ [⟨xk, xm, xs⟩] (by rfl) HG.out (by simp only [List.length_singleton]; omega) HB3.out.size ?_; intro v4 w4 hown hb4 hg4; have HO4 : Hid (OwnT w4 w2.heap.size v4 (T ++ [⟨xk, xm, xs⟩])) := hown; have HB4 : Hid (Below w2.heap.size w2 w4) := HB3.out.trans hb4; clear hown hb4 hg4 HOA HG HB3)
          go_roundg (gk - 2)
          case measure => omega
          case rel => exact ⟨a + 1, c + 1, _, by go_num, by go_num, by omega, by omega, by omega, HO4.out, by simp only [List.length_append, List.length_singleton]; omega, HMG.out, HB4.out⟩
        · have HMG : Hid (MrgG Tm.cmp o1 o2 (T ++ [⟨yk, ym, ys⟩]) a (c + 1)) := Hid.out MR (by omega)
          clear ML MR MB hneg hzer
          go_upto_region 12 with fail
          refine wp_region_held_drew (S := fun w' => Below wr.heap.size wr w') (by kernel_rfl) (Below.refl _ _).drew (fun hH => ?_)
          revert hH
          generalize wr.drew = V
          intro hH
          refine wpAnyH_take (i := 0) (oi := ⟨_, _, _, _, _, _⟩) (v := .slice (some ⟨sb, so, none⟩) o1.length oc) rfl (by kernel_rfl) (by kernel_rfl) (by kernel_rfl) (fun _ _ _ h => h) (Or.inl ⟨by rfl, fun w' _ => by go_simp⟩) hH ?_
          simp only [Act.put, List.setIfInBounds_toArray, List.set_cons_zero, List.set_cons_succ]
          refine wpAnyH_take (i := 1) (oi := ⟨_, _, _, _, _, _⟩) (v := .int .i64 (a : Int)) rfl (by kernel_rfl) (by kernel_rfl) (by kernel_rfl) (fun _ _ _ h => h) (Or.inl ⟨by rfl, fun w' _ => by go_simp⟩) hH ?_
          simp only [Act.put, List.setIfInBounds_toArray, List.set_cons_zero, List.set_cons_succ]
          refine wpAnyH_take (i := 2) (oi := ⟨_, _, _, _, _, _⟩) (v := .pointer (some ⟨sb, so + a * 3, none⟩)) rfl (by kernel_rfl) (by kernel_rfl) (by kernel_rfl) (fun _ _ _ h => h) (Or.inl ⟨by rfl, fun w' _ => by go_simp⟩) hH ?_
          simp only [Act.put, List.setIfInBounds_toArray, List.set_cons_zero, List.set_cons_succ]
          refine wpAnyH_take (i := 3) (oi := ⟨_, _, _, _, _, _⟩) (v := .agg #[.int .i64 xk, .int .i64 xm, .string xs]) rfl (by kernel_rfl) (by kernel_rfl) (by kernel_rfl) (fun _ _ _ h => h) (Or.inl ⟨by rfl, fun w' h => by obtain ⟨q0, q1, q2⟩ := Hid.out HQ; have z := Hid.out HQz; have y0 := cell_step h z q0; have y1 := cell_step h z q1; have y2 := cell_step h z q2; clear q0 q1 q2; go_simp⟩) hH ?_
          simp only [Act.put, List.setIfInBounds_toArray, List.set_cons_zero, List.set_cons_succ]
          refine wpAnyH_take (i := 4) (oi := ⟨_, _, _, _, _, _⟩) (v := .slice (some ⟨sd, sq, none⟩) o2.length qc) rfl (by kernel_rfl) (by kernel_rfl) (by kernel_rfl) (fun _ _ _ h => h) (Or.inl ⟨by rfl, fun w' _ => by go_simp⟩) hH ?_
          simp only [Act.put, List.setIfInBounds_toArray, List.set_cons_zero, List.set_cons_succ]
          refine wpAnyH_take (i := 5) (oi := ⟨_, _, _, _, _, _⟩) (v := .int .i64 (c : Int)) rfl (by kernel_rfl) (by kernel_rfl) (by kernel_rfl) (fun _ _ _ h => h) (Or.inl ⟨by rfl, fun w' _ => by go_simp⟩) hH ?_
          simp only [Act.put, List.setIfInBounds_toArray, List.set_cons_zero, List.set_cons_succ]
          refine wpAnyH_take (i := 6) (oi := ⟨_, _, _, _, _, _⟩) (v := .pointer (some ⟨sd, sq + c * 3, none⟩)) rfl (by kernel_rfl) (by kernel_rfl) (by kernel_rfl) (fun _ _ _ h => h) (Or.inl ⟨by rfl, fun w' _ => by go_simp⟩) hH ?_
          simp only [Act.put, List.setIfInBounds_toArray, List.set_cons_zero, List.set_cons_succ]
          refine wpAnyH_take (i := 7) (oi := ⟨_, _, _, _, _, _⟩) (v := .agg #[.int .i64 yk, .int .i64 ym, .string ys]) rfl (by kernel_rfl) (by kernel_rfl) (by kernel_rfl) (fun _ _ _ h => h) (Or.inl ⟨by rfl, fun w' h => by obtain ⟨q0, q1, q2⟩ := Hid.out HR; have z := Hid.out HRz; have y0 := cell_step h z q0; have y1 := cell_step h z q1; have y2 := cell_step h z q2; clear q0 q1 q2; go_simp⟩) hH ?_
          simp only [Act.put, List.setIfInBounds_toArray, List.set_cons_zero, List.set_cons_succ]
          refine wpAnyH_ready (rs := [8]) (by kernel_rfl) (by simp) ?_
          refine (AllReadyH.cons (o := ⟨_, _, _, _, _, _⟩) rfl (fun K hK => ?_) AllReadyH.nil)
          go_simp
          refine (HCS.out _ hH).mono ?_
          rintro e V1 ⟨rfl, hb⟩
          refine hK.out _ _ (below_step hH hb) (fun hH => ?_)
          clear hK K hb
          refine wpAnyH_take (i := 9) (oi := ⟨_, _, _, _, _, _⟩) (v := .int .i64 1) rfl (by kernel_rfl) (by kernel_rfl) (by kernel_rfl) (fun _ _ _ h => h) (Or.inl ⟨by rfl, fun w' _ => by go_simp⟩) hH ?_
          simp only [Act.put, List.setIfInBounds_toArray, List.set_cons_zero, List.set_cons_succ]
          refine wpAnyH_done (by kernel_rfl) ?_ _
          have HBW : Hid (Below wr.heap.size wr V1) := hH
          clear hH
          clear HCS
          obtain ⟨p0, p1, p2⟩ := HR.out
          have zz := HRz.out
          have p0 := cell_step HBW.out zz p0
          have p1 := cell_step HBW.out zz p1
          have p2 := cell_step HBW.out zz p2
          clear zz
          have HG : Hid (TsP (V1.alloc (.cells #[.int .i64 yk, .int .i64 ym, .string ys] 35)) (.slice (some ⟨V1.heap.size, 0, none⟩) 1 1) [⟨yk, ym, ys⟩]) := TsP.one (CBlk.new _ _ _)
          have HOA : Hid (OwnT (V1.alloc (.cells #[.int .i64 yk, .int .i64 ym, .string ys] 35)) w2.heap.size u5 T) := HOT.out.later (below_step HBW.out (below1 _ _))
          have HB3 : Hid (Below w2.heap.size w2 (V1.alloc (.cells #[.int .i64 yk, .int .i64 ym, .string ys] 35))) := below_step (below_step HB.out HBW.out) (below1 _ _)
          clear HBW
          go_wp2_with (at_builtin; refine app_terms rfl _ _ rfl w2.heap.size u5 T (by rfl) HOA.out _ [⟨yk, ym, ys⟩] (by rfl) HG.out (by simp only [List.length_singleton]; omega) HB3.out.size ?_; intro v4 w4 hown hb4 hg4; have HO4 : Hid (OwnT w4 w2.heap.size v4 (T ++ [⟨yk, ym, ys⟩])) := hown; have HB4 : Hid (Below w2.heap.size w2 w4) := HB3.out.trans hb4; clear hown hb4 hg4 HOA HG HB3)
          go_roundg (gk - 1)
          case measure => omega
          case rel => exact ⟨a, c + 1, _, by go_num, by go_num, by omega, by omega, by omega, HO4.out, by simp only [List.length_append, List.length_singleton]; omega, HMG.out, HB4.out⟩
      · obtain rfl : c = o2.length := by omega
        have k4 : ¬ (o2.length : Int) < (o2.length : Int) := by omega
        have HMG0 : Hid (MrgG Tm.cmp o1 o2 (T ++ [x]) (a + 1) o2.length) := HM0.out.left ord_tm HK1.out.rise HK2.out.rise hx (fun z hz => by rw [List.getElem?_eq_none (Nat.le_refl _)] at hz; cases hz)
        clear hx mx hrwx HM0 hzx
        obtain ⟨xk, xm, xs⟩ := x
        obtain ⟨p0, p1, p2⟩ := hsvx
        have HMG : Hid (MrgG Tm.cmp o1 o2 (T ++ [⟨xk, xm, xs⟩]) (a + 1) o2.length) := HMG0.out
        have HBW : Hid (Below wr.heap.size wr wr) := Below.refl _ _
        clear HMG0
        have HG : Hid (TsP (wr.alloc (.cells #[.int .i64 xk, .int .i64 xm, .string xs] 35)) (.slice (some ⟨wr.heap.size, 0, none⟩) 1 1) [⟨xk, xm, xs⟩]) := TsP.one (CBlk.new _ _ _)
        have HOA : Hid (OwnT (wr.alloc (.cells #[.int .i64 xk, .int .i64 xm, .string xs] 35)) w2.heap.size u5 T) := HOT.out.later (below_step HBW.out (below1 _ _))
        have HB3 : Hid (Below w2.heap.size w2 (wr.alloc (.cells #[.int .i64 xk, .int .i64 xm, .string xs] 35))) := below_step (below_step HB.out HBW.out) (below1 _ _)
        clear HBW
        go_wp2_with (at_builtin; refine app_terms rfl _ _ rfl w2.heap.size u5 T (by rfl) HOA.out _ [⟨xk, xm, xs⟩] (by rfl) HG.out (by simp only [List.length_singleton]; omega) HB3.out.size ?_; intro v4 w4 hown hb4 hg4; have HO4 : Hid (OwnT w4 w2.heap.size v4 (T ++ [⟨xk, xm, xs⟩])) := hown; have HB4 : Hid (Below w2.heap.size w2 w4) := HB3.out.trans hb4; clear hown hb4 hg4 HOA HG HB3)
        go_roundg (gk - 1)
        case measure => omega
        case rel => exact ⟨a + 1, o2.length, _, by go_num, by go_num, by omega, by omega, by omega, HO4.out, by simp only [List.length_append, List.length_singleton]; omega, HMG.out, HB4.out⟩
    · obtain rfl : a = o1.length := by omega
      have k1 : ¬ (o1.length : Int) < (o1.length : Int) := by omega
      by_cases h3 : c < o2.length
      · have k4 : (c : Int) < (o2.length : Int) := by omega
        obtain ⟨y, hy⟩ : ∃ z, o2[c]? = some z := ⟨_, List.getElem?_eq_getElem (by omega)⟩
        have my : y.s.size ≤ maxLen := HZ.out y (List.mem_of_mem_drop ((HK2.out.mem y).1 (List.mem_of_getElem? hy)))
        obtain ⟨sd, sq, rfl, hrwy⟩ := TsP.get (HC2.out.later HB.out) hy
        have hzy := hrwy.1
        have hsvy := hrwy.2 _ _ hy
        have HMG0 : Hid (MrgG Tm.cmp o1 o2 (T ++ [y]) o1.length (c + 1)) := HM0.out.right ord_tm HK1.out.rise HK2.out.rise hy (fun z hz => by rw [List.getElem?_eq_none (Nat.le_refl _)] at hz; cases hz)
        clear hy my hrwy HM0 hzy
        obtain ⟨yk, ym, ys⟩ := y
        obtain ⟨p0, p1, p2⟩ := hsvy
        have HMG : Hid (MrgG Tm.cmp o1 o2 (T ++ [⟨yk, ym, ys⟩]) o1.length (c + 1)) := HMG0.out
        have HBW : Hid (Below wr.heap.size wr wr) := Below.refl _ _
        clear HMG0
        have HG : Hid (TsP (wr.alloc (.cells #[.int .i64 yk, .int .i64 ym, .string ys] 35)) (.slice (some ⟨wr.heap.size, 0, none⟩) 1 1) [⟨yk, ym, ys⟩]) := TsP.one (CBlk.new _ _ _)
        have HOA : Hid (OwnT (wr.alloc (.cells #[.int .i64 yk, .int .i64 ym, .string ys] 35)) w2.heap.size u5 T) := HOT.out.later (below_step HBW.out (below1 _ _))
        have HB3 : Hid (Below w2.heap.size w2 (wr.alloc (.cells #[.int .i64 yk, .int .i64 ym, .string ys] 35))) := below_step (below_step HB.out HBW.out) (below1 _ _)
        clear HBW
        go_wp2_with (at_builtin; refine app_terms rfl _ _ rfl w2.heap.size u5 T (by rfl) HOA.out _ [⟨yk, ym, ys⟩] (by rfl) HG.out (by simp only [List.length_singleton]; omega) HB3.out.size ?_; intro v4 w4 hown hb4 hg4; have HO4 : Hid (OwnT w4 w2.heap.size v4 (T ++ [⟨yk, ym, ys⟩])) := hown; have HB4 : Hid (Below w2.heap.size w2 w4) := HB3.out.trans hb4; clear hown hb4 hg4 HOA HG HB3)
        go_roundg (gk - 1)
        case measure => omega
        case rel => exact ⟨o1.length, c + 1, _, by go_num, by go_num, by omega, by omega, by omega, HO4.out, by simp only [List.length_append, List.length_singleton]; omega, HMG.out, HB4.out⟩
      · obtain rfl : c = o2.length := by omega
        have k4 : ¬ (o2.length : Int) < (o2.length : Int) := by omega
        have hd := HM0.out.rof (Nat.le_refl _) (Nat.le_refl _) HK1.out HK2.out
        rw [List.take_append_drop] at hd
        have HRS : Hid (RTS w l (.returned u5) wr) := rts_mk (HOT.out.mono HB2.out.size) (by have := HNL.out; omega) hd (below_step HB2.out HB.out)
        clear hd HM0
        go_wp2
        go_ret
        exact HRS.out
theorem rsorted_any : ∀ (N : Nat) (l : List Tm) (v : Value) (w : World), l.length ≤ N → TsP w v l → (∀ a n cap, v = .slice a n cap → n ≤ cap) → (∀ t ∈ l, t.s.size ≤ maxLen) → l.length ≤ 3000000000000 → Calls Tryz.prog 40 #[v] w (RTS w l)
  | N, [], v, w, _, h, _, _, _ => rsorted_few _ v w h (by simp)
  | N, [c], v, w, _, h, _, _, _ => rsorted_few _ v w h (by simp)
  | 0, c :: d :: l, v, w, hN, h, _, _, hl => by simp at hN
  | N + 1, c :: d :: l, v, w, hN, h, hc, hz, hl => by
    obtain ⟨va, vc, rfl⟩ := h.form7
    obtain ⟨b, o, rfl, hr⟩ := h.get (j := 0) (c := c) rfl
    have hcap := hc _ _ _ rfl
    have hl2 : (c :: d :: l).length = l.length + 2 := rfl
    refine rsorted_step b o vc (c :: d :: l) w (by omega) hl hcap hz (fun X hX => ?_) (fun X hX => ?_)
    · exact rsorted_any N _ _ X (by rw [List.length_take]; omega) ((h.later hX).take (by omega) vc) (fun a n cp e => by simp only [Value.slice.injEq] at e; omega) (fun x hx => hz x (List.mem_of_mem_take hx)) (by rw [List.length_take]; omega)
    · exact rsorted_any N _ _ X (by rw [List.length_drop]; omega) ((h.later hX).drop (by omega) _) (fun a n cp e => by simp only [Value.slice.injEq] at e; omega) (fun x hx => hz x (List.mem_of_mem_drop hx)) (by rw [List.length_drop]; omega)
end Go.Proofs.YtdfgijdededolabGreatDoor
