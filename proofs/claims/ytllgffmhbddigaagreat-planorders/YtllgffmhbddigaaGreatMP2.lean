import Derived.Test.YtllgffmhbddigaaGreatFC4
import Derived.Test.YtllgffmhbddigaaGreatMD14
import Derived.RegionTactic
import Derived.ChangeAlike
import Derived.Test.YtllgffmhbddigaaGreatMP1
import Derived.Test.YtllgffmhbddigaaGreatCL29
/-
  law 9: meet.
-/
namespace Go.Proofs.YtllgffmhbddigaaGreat
open Go.RowKit
attribute [local go_sem ↓] Go.wp_at_zero Go.wp_at_succ

def ms9 (M : List Bool) (t : Tm) : List Bool := if t.k = 3 ∧ 0 ≤ t.n ∧ t.n < 72 then M.set t.n.toNat true else M
def ml9 (M : List Bool) (l : List Tm) : List Bool := l.foldl ms9 M
theorem ms9_len (M : List Bool) (t : Tm) : (ms9 M t).length = M.length := by unfold ms9; split <;> simp
theorem ml9_len (M : List Bool) (l : List Tm) : (ml9 M l).length = M.length := by
  induction l generalizing M with
  | nil => rfl
  | cons t l ih => rw [show ml9 M (t :: l) = ml9 (ms9 M t) l from rfl, ih, ms9_len]
theorem ml9_take {M : List Bool} {l : List Tm} {j : Nat} {t : Tm} (h : l[j]? = some t) : ml9 M (l.take (j + 1)) = ms9 (ml9 M (l.take j)) t := by
  have hj : j < l.length := (List.getElem?_eq_some_iff.1 h).1
  have e : l[j] = t := by rw [List.getElem?_eq_getElem hj] at h; exact Option.some.inj h
  rw [List.take_add_one, h, Option.toList_some, ml9, List.foldl_append]; rfl
theorem mv9_set (M : List Bool) (i : Nat) : (mv9 M).setIfInBounds i (.bool true) = mv9 (M.set i true) := by
  simp [mv9, List.map_set]
/-- meet amid its work. -/
structure MT9 (w : World) (g B : Nat) (v : Value) (P : List Tm) (M : List Bool) (wr : World) : Prop where
  b : Bk wr g (mv9 M) 43
  o : OwnT wr B v P
  f : Fr (fun b => b = g) w wr
theorem MT9.set {w : World} {g B : Nat} {v : Value} {P : List Tm} {M : List Bool} {wr : World} (h : MT9 w g B v P M wr) (hg : g < B) (i : Nat) : MT9 w g B v P (M.set i true) (wr.setCell ⟨g, i, none⟩ (.bool true)) :=
  ⟨by rw [← mv9_set]; exact h.b.set i _, h.o.set hg, h.f.set (Or.inl rfl)⟩
set_option maxRecDepth 20000 in
set_option maxHeartbeats 2000000 in
theorem meet9_any (x : At) (v : Value) (g : Nat) (M : List Bool) (hM : M.length = 72) (w : World) (h : TsP w v x.args) (hl : x.args.length ≤ 1000000) (hg : Bk w g (mv9 M) 43) :
    Calls Tryz.prog 12 #[x.v v, .pointer (some ⟨g, 0, none⟩)] w fun e w' => e = .returned (.tuple #[]) ∧ Bk w' g (mv9 (ml9 M x.pl)) 43 ∧ Fr (fun b => b = g) w w' := by
  have hb2 := below2 w (.cells (At.cs x v) 26) (.cells #[.int .i64 x.by_.k, .int .i64 x.by_.n, .string x.by_.s] 23)
  have g1 := CBlk.new (w.alloc (.cells (At.cs x v) 26)) #[.int .i64 x.by_.k, .int .i64 x.by_.n, .string x.by_.s] 23
  rw [show (w.alloc (.cells (At.cs x v) 26)).heap.size = w.heap.size + 1 by simp] at g1
  have H1 : Hid _ := OwnT.one g1 (show w.heap.size ≤ w.heap.size + 1 by omega)
  have H2 : Hid _ := h.later hb2
  have HB : Hid _ := hb2
  have HG := hm7 hg
  have HGL := hm7 hg.lt
  clear hb2 g1 h hg
  obtain ⟨⟨k, n, ss⟩, nm, l⟩ := x
  simp only [At.cs] at H1 H2 HB hl
  simp only [At.pl]
  obtain ⟨P, hP⟩ : ∃ P : List Tm, (⟨k, n, ss⟩ :: l : List Tm) = P := ⟨_, rfl⟩
  rw [hP]
  have HP := hm7 hP
  clear hP
  go_enter Tryz.func12, Tryz.ntmps12
  go_wp2_with (at_builtin; refine app_terms rfl _ _ rfl w.heap.size (.slice (some ⟨w.heap.size + 1, 0, none⟩) 1 1) [⟨k, n, ss⟩] (by rfl) H1.out v l (by rfl) H2.out (by simp; omega) (by simp; omega) ?_; intro v' w1 hown hb hgr; have HO := hm7 hown; have HW1 := hm7 (HB.out.trans hb); clear hown hb hgr)
  rw [show [(⟨k, n, ss⟩ : Tm)] ++ l = P from HP.out] at HO
  have hPl : P.length ≤ 1000001 := by rw [← HP.out]; simp; omega
  have hPp : 0 < P.length := by rw [← HP.out]; simp
  clear HP H1 H2 HB
  obtain ⟨vb, vc, rfl, hvb, -⟩ := World.ownsRow.form HO.out hPp
  have HMT : Hid (MT9 w g w.heap.size (.slice (some ⟨vb, 0, none⟩) P.length vc) P M w1) := ⟨HG.out.below HW1.out, HO.out, Fr.of HW1.out⟩
  obtain ⟨pn, hpn⟩ : ∃ pn, P.length = pn := ⟨_, rfl⟩
  rw [hpn] at HMT hPl ⊢
  have HPN := hm7 hpn
  clear HO HW1 hpn hPp HG
  go_loopg [5] pn (fun gg i wr => ∃ j : Nat, j + gg = pn ∧ i = .int .i64 j ∧ MT9 w g w.heap.size (.slice (some ⟨vb, 0, none⟩) pn vc) P (ml9 M (P.take j)) wr)
  case atStart => exact ⟨0, by omega, rfl, HMT.out⟩
  case round =>
    obtain ⟨j, hj, rfl, hm⟩ := hrel
    have HM := hm7 hm
    clear hm HMT
    cases gk with
    | succ gg =>
      obtain ⟨t, ht⟩ : ∃ t, P[j]? = some t := ⟨P[j]'(by have := HPN.out; omega), List.getElem?_eq_getElem _⟩
      have HTK := hm7 (ml9_take (M := M) ht)
      have hml : (ml9 M (P.take j)).length = 72 := by rw [ml9_len]; exact hM
      have HML := hm7 hml
      obtain ⟨c0, c1, c2⟩ := ownT_cells HM.out.o j t ht
      have hvl := (HM.out.o.lt vb rfl).2
      have hlt : (j : Int) < (pn : Int) := by omega
      have hge := (HM.out.b).lt
      have hfz := HM.out.b.froz t.n.toNat
      obtain ⟨tk, tn, ts⟩ := t
      simp only at c0 c1 c2 hfz
      clear ht hml
      by_cases k1 : tk = 3
      · subst k1
        by_cases k2 : 0 ≤ tn
        · obtain ⟨m, rfl⟩ : ∃ m : Nat, tn = (m : Int) := ⟨tn.toNat, by omega⟩
          rw [Int.toNat_natCast] at hfz
          by_cases k3 : (m : Int) < 72
          · have e0 := HM.out.b.cell (i := m) (v := .bool (((ml9 M (P.take j))[m]?).getD false)) (mv9_at (by rw [List.getElem?_eq_getElem (by have := HML.out; omega)]; rfl))
            go_wp2
            go_region
            go_wp2
            go_roundg gg
            case measure => omega
            case rel =>
              refine ⟨j + 1, by omega, by go_num, ?_⟩
              rw [HTK.out, ms9, if_pos ⟨rfl, k2, k3⟩]
              have q := HM.out.set HGL.out m
              exact ⟨q.b, q.o, q.f.drew⟩
          · go_wp2
            go_roundg gg
            case measure => omega
            case rel =>
              refine ⟨j + 1, by omega, by go_num, ?_⟩
              rw [HTK.out, ms9, if_neg (by rintro ⟨-, -, h⟩; simp only at h; omega)]
              exact HM.out
        · go_wp2
          go_roundg gg
          case measure => omega
          case rel =>
            refine ⟨j + 1, by omega, by go_num, ?_⟩
            rw [HTK.out, ms9, if_neg (by rintro ⟨-, h, -⟩; simp only at h; omega)]
            exact HM.out
      · have k1' : (tk == 3) = false := by simp [k1]
        go_wp2
        go_roundg gg
        case measure => omega
        case rel =>
          refine ⟨j + 1, by omega, by go_num, ?_⟩
          rw [HTK.out, ms9, if_neg (by rintro ⟨h, -⟩; exact k1 h)]
          exact HM.out
    | zero =>
      have hlt : ¬ (j : Int) < (pn : Int) := by omega
      have e : P.take j = P := List.take_of_length_le (by have := HPN.out; omega)
      rw [e] at HM
      clear e
      go_wp2
      go_end0
      exact ⟨rfl, HM.out.b, HM.out.f⟩
end Go.Proofs.YtllgffmhbddigaaGreat
/-
  law 9: columns. (Written by FC6.py.)
-/
namespace Go.Proofs.YtllgffmhbddigaaGreat
open Go.RowKit
attribute [local go_sem ↓] Go.wp_at_zero Go.wp_at_succ

/-- The columns known below number j, as law 9 knows them. -/
def cl9 (M : List Bool) (P : List Tm) (j : Nat) : List Int := ((List.range j).filter fun i => match P[i]? with
  | some t => kl9L M t
  | none => false).map fun i : Nat => (i : Int)
theorem cl9_succ {M : List Bool} {P : List Tm} {j : Nat} {t : Tm} (h : P[j]? = some t) : cl9 M P (j + 1) = cl9 M P j ++ if kl9L M t then [(j : Int)] else [] := by
  unfold cl9
  rw [List.range_succ, List.filter_append, List.map_append]
  congr 1
  rw [List.filter_cons, List.filter_nil, h]
  show List.map _ (if kl9L M t = true then [j] else []) = _
  cases kl9L M t <;> rfl
theorem cl9_pre (M : List Bool) (P : List Tm) (j : Nat) : ∀ n, j ≤ n → cl9 M P j <+: cl9 M P n
  | 0, h => by rw [Nat.le_zero.1 h]; exact List.prefix_refl _
  | n + 1, h => by
    by_cases e : j = n + 1
    · rw [e]; exact List.prefix_refl _
    · refine (cl9_pre M P j n (by omega)).trans ?_
      unfold cl9
      rw [List.range_succ, List.filter_append, List.map_append]
      exact List.prefix_append _ _
theorem cl9_at {M : List Bool} {P : List Tm} {j n : Nat} {t : Tm} (hj : j < n) (ht : P[j]? = some t) (hk : kl9L M t = true) : (cl9 M P n)[(cl9 M P j).length]? = some (j : Int) := by
  obtain ⟨r, hr⟩ := cl9_pre M P (j + 1) n (by omega)
  rw [← hr, cl9_succ ht, if_pos hk]
  simp
theorem cl9_len (M : List Bool) (P : List Tm) (j : Nat) : (cl9 M P j).length ≤ j := by
  unfold cl9
  rw [List.length_map]
  exact Nat.le_trans (List.length_filter_le _ _) (by simp)
set_option maxRecDepth 20000 in
set_option maxHeartbeats 4000000 in
theorem columns9_law (x : At) (v lv : Value) (M : List Bool) (hM : M.length = 72) (w : World) (h : TsP w v x.args) (hl : x.args.length ≤ 1000000) (B : Nat) (hlv : OwI w B lv (cl9 M x.pl x.pl.length)) :
    Calls Tryz.prog 11 #[x.v v, lv, .agg (mv9 M)] w fun e w' => e = .returned (.bool true) ∧ Below w.heap.size w w' := by
  have hA := mv9_size M
  rw [hM] at hA
  have HKN : Hid (∀ (t : Tm) (w : World), Calls Tryz.prog 13 #[.agg #[.int .i64 t.k, .int .i64 t.n, .string t.s], .agg (mv9 M)] w fun e w' => e = .returned (.bool (kl9L M t)) ∧ Below w.heap.size w w') := fun t w => known9L_any t M hM w
  have hi : (Tryz.prog.info? 43).map (·.size) = some (mv9 M).toList.length := by rw [Array.length_toList, hA]; kernel_rfl
  have HI : Hid ((Tryz.prog.info? 43).map (·.size) = some (mv9 M).toList.length) := hi
  obtain ⟨A, hAe⟩ : ∃ A, mv9 M = A := ⟨_, rfl⟩
  rw [hAe] at HKN HI ⊢
  clear hA hi hAe
  obtain ⟨p1, p0, hb0⟩ := two8 w (At.cs x v) A 26 43
  have hb2 := hb0.trans ((below1 ((w.alloc (.cells (At.cs x v) 26)).alloc (.cells A 43)) (.cells #[.int .i64 x.by_.k, .int .i64 x.by_.n, .string x.by_.s] 23)).mono hb0.size)
  have g1 := CBlk.new ((w.alloc (.cells (At.cs x v) 26)).alloc (.cells A 43)) #[.int .i64 x.by_.k, .int .i64 x.by_.n, .string x.by_.s] 23
  rw [show ((w.alloc (.cells (At.cs x v) 26)).alloc (.cells A 43)).heap.size = w.heap.size + 1 + 1 by simp] at g1
  have HA2 := hm7 (p1.below (below1 _ (.cells #[.int .i64 x.by_.k, .int .i64 x.by_.n, .string x.by_.s] 23)))
  have H1 : Hid _ := OwnT.one g1 (show w.heap.size + 1 + 1 ≤ w.heap.size + 1 + 1 by omega)
  have H2 : Hid _ := h.later hb2
  have HB : Hid _ := hb2
  have HL := hm7 hlv
  clear hb2 g1 h hlv p1 p0 hb0
  obtain ⟨⟨k, n, ss⟩, nm, l⟩ := x
  simp only [At.cs] at H1 H2 HB hl HA2
  simp only [At.pl] at HL
  obtain ⟨P, hP⟩ : ∃ P : List Tm, (⟨k, n, ss⟩ :: l : List Tm) = P := ⟨_, rfl⟩
  rw [hP] at HL
  have HP := hm7 hP
  obtain ⟨pn, hpn⟩ : ∃ pn, P.length = pn := ⟨_, rfl⟩
  rw [hpn] at HL
  have HPN := hm7 hpn
  clear hP hpn
  obtain ⟨la, lc, hlf, -⟩ := row7_form HL.out
  obtain ⟨ln, hln⟩ : ∃ ln, (cl9 M P pn).length = ln := ⟨_, rfl⟩
  rw [hln] at hlf
  subst hlf
  have HLN := hm7 hln
  have hln2 : ln ≤ pn := by rw [← hln]; exact cl9_len _ _ _
  clear hln
  go_enter Tryz.func11, Tryz.ntmps11
  go_wp2_with (at_builtin; refine app_terms rfl _ _ rfl (w.heap.size + 1 + 1) (.slice (some ⟨w.heap.size + 1 + 1, 0, none⟩) 1 1) [⟨k, n, ss⟩] (by rfl) H1.out v l (by rfl) H2.out (by simp; omega) (by simp) ?_; intro v' w1 hown hb hgr; have HO := hm7 hown; have HW1 := hm7 (HB.out.trans (hb.mono (show w.heap.size ≤ w.heap.size + 1 + 1 by omega))); have HA1 : Hid (Bk w1 (w.heap.size + 1) A 43) := (hb.block _ (by omega)).trans HA2.out; clear hown hb hgr)
  rw [show [(⟨k, n, ss⟩ : Tm)] ++ l = P from HP.out] at HO
  have hPl : pn ≤ 1000001 := by rw [← HPN.out, ← HP.out]; simp; omega
  have hPp : 0 < P.length := by rw [← HP.out]; simp
  obtain ⟨vb, vc, rfl, hvb, hvl⟩ := World.ownsRow.form HO.out hPp
  rw [HPN.out] at HO ⊢
  clear hvb hPp HP H1 H2 HB HA2
  have HL1 : Hid (w1.ownsRow B 3 1 (.slice la ln lc) ln (ibs7 (cl9 M P pn))) := by have := row7_below HL.out HW1.out; rw [HLN.out] at this; exact this
  obtain ⟨q, hq⟩ : ∃ q, w.heap.size + 1 = q := ⟨_, rfl⟩
  rw [hq] at HA1 ⊢
  clear hq
  go_loopg [8, 9] pn (fun gg kk i wr => ∃ j : Nat, j + gg = pn ∧ i = .int .i64 j ∧ kk = .int .i64 ((cl9 M P j).length : Nat) ∧ Below w1.heap.size w1 wr)
  case atStart => exact ⟨0, by omega, rfl, rfl, Below.refl _ _⟩
  case round =>
    obtain ⟨j, hj, rfl, rfl, hb⟩ := hrel
    have HR := hm7 hb
    clear hb
    obtain ⟨m, hm⟩ : ∃ m, (cl9 M P j).length = m := ⟨_, rfl⟩
    rw [hm]
    have HM := hm7 hm
    have hmj : m ≤ j := by rw [← hm]; exact cl9_len _ _ _
    clear hm
    cases gk with
    | succ gg =>
      obtain ⟨t, ht⟩ : ∃ t, P[j]? = some t := ⟨P[j]'(by have := HPN.out; omega), List.getElem?_eq_getElem _⟩
      have HTS := hm7 (cl9_succ (M := M) ht)
      have HAT := hm7 (fun hk => cl9_at (M := M) (n := pn) (show j < pn by omega) ht hk)
      obtain ⟨c0, c1, c2⟩ := ownT_cells HO.out j t ht
      have HKT := hm7 (fun W => HKN.out t W)
      obtain ⟨b, hbt⟩ : ∃ b, kl9L M t = b := ⟨_, rfl⟩
      rw [hbt] at HTS HAT HKT
      have hlt : (j : Int) < (pn : Int) := by omega
      obtain ⟨tk, tn, ts⟩ := t
      simp only at c0 c1 c2 HKT
      have HC : Hid (∀ w' : World, Below w1.heap.size w1 w' → w'.cell? ⟨vb, j * 3, none⟩ = some (.int .i64 tk) ∧ w'.cell? ⟨vb, j * 3 + 1, none⟩ = some (.int .i64 tn) ∧ w'.cell? ⟨vb, j * 3 + 2, none⟩ = some (.string ts)) := fun w' h => ⟨cell_step h hvl c0, cell_step h hvl c1, cell_step h hvl c2⟩
      have HRA : Hid (∀ w' : World, Below w1.heap.size w1 w' → w'.rangeAt q 0 A.toList) := fun w' h i u hu => by
        have := (HA1.out.below h).cell (i := i) (v := u) (by simpa using hu)
        rw [Nat.zero_add]; exact this
      have hu9 : Tryz.prog.underlying 43 = some (.array 72 4) := by kernel_rfl
      have HU9 := hm7 hu9
      clear ht c0 c1 c2 hbt hu9
      go_upto_region 6 with fail
      have hR0 := HR.out
      refine wp_region_held_drew (S := fun w' => Below w1.heap.size w1 w') (by kernel_rfl) (by exact hR0.drew) (fun hH => ?_)
      revert hH
      generalize wr.drew = V
      intro hH
      refine wpAnyH_take (i := 0) (oi := ⟨_, _, _, _, _, _⟩) (v := .slice (some ⟨vb, 0, none⟩) pn vc) rfl (by kernel_rfl) (by kernel_rfl) (by kernel_rfl) (fun _ _ _ h => h) (Or.inl ⟨by rfl, fun w' h => by clear h; go_simp⟩) hH ?_
      simp only [Act.put, List.setIfInBounds_toArray, List.set_cons_zero, List.set_cons_succ]
      refine wpAnyH_take (i := 1) (oi := ⟨_, _, _, _, _, _⟩) (v := .int .i64 (j : Int)) rfl (by kernel_rfl) (by kernel_rfl) (by kernel_rfl) (fun _ _ _ h => h) (Or.inl ⟨by rfl, fun w' h => by clear h; go_simp⟩) hH ?_
      simp only [Act.put, List.setIfInBounds_toArray, List.set_cons_zero, List.set_cons_succ]
      refine wpAnyH_take (i := 2) (oi := ⟨_, _, _, _, _, _⟩) (v := .pointer (some ⟨vb, j * 3, none⟩)) rfl (by kernel_rfl) (by kernel_rfl) (by kernel_rfl) (fun _ _ _ h => h) (Or.inl ⟨by rfl, fun w' h => by clear h; go_simp⟩) hH ?_
      simp only [Act.put, List.setIfInBounds_toArray, List.set_cons_zero, List.set_cons_succ]
      refine wpAnyH_take (i := 3) (oi := ⟨_, _, _, _, _, _⟩) (v := .agg #[.int .i64 tk, .int .i64 tn, .string ts]) rfl (by kernel_rfl) (by kernel_rfl) (by kernel_rfl) (fun _ _ _ h => h) (Or.inl ⟨by rfl, fun w' h => by obtain ⟨o0, o1, o2⟩ := HC.out w' h; clear h; go_simp⟩) hH ?_
      simp only [Act.put, List.setIfInBounds_toArray, List.set_cons_zero, List.set_cons_succ]
      refine wpAnyH_take (i := 4) (oi := ⟨_, _, _, _, _, _⟩) (v := .agg A) rfl (by kernel_rfl) (by kernel_rfl) (by kernel_rfl) (fun _ _ _ h => h) (yieldsIf_load_mid (by rfl) _ _ rfl _ _ rfl A.toList _ (fun w' h => HRA.out w' h) HU9.out rfl HI.out) hH ?_
      simp only [Act.put, List.setIfInBounds_toArray, List.set_cons_zero, List.set_cons_succ]
      refine wpAnyH_ready (rs := [5]) (by kernel_rfl) (by simp) ?_
      refine (AllReadyH.cons (o := ⟨_, _, _, _, _, _⟩) rfl (fun K hK => ?_) AllReadyH.nil)
      go_simp
      refine (HKT.out _).mono ?_
      rintro e V1 ⟨rfl, hV1⟩
      refine hK.out _ _ (hH.trans (hV1.mono hH.size)) (fun hH => ?_)
      clear hK hV1
      try simp only [Act.put, List.setIfInBounds_toArray, List.set_cons_zero, List.set_cons_succ]
      refine wpAnyH_take (i := 6) (oi := ⟨_, _, _, _, _, _⟩) (v := .bool (!b)) rfl (by kernel_rfl) (by kernel_rfl) (by kernel_rfl) (fun _ _ _ h => h) (Or.inl ⟨by rfl, fun w' h => by clear h; go_simp⟩) hH ?_
      simp only [Act.put, List.setIfInBounds_toArray, List.set_cons_zero, List.set_cons_succ]
      refine wpAnyH_done (by kernel_rfl) ?_ _
      have HU := hm7 hH
      clear hH
      cases b with
      | true =>
        have hat := HAT.out rfl
        rw [HM.out] at hat
        obtain ⟨gl, hla, -, -, hcl, -⟩ := row7_at (i := m) (u := .int .i64 (j : Int)) (row7_below HL1.out HU.out) (show (ibs7 (cl9 M P pn))[m]? = _ by unfold ibs7; rw [List.getElem?_map, hat]; rfl)
        have hlm : m < ln := by rw [← HLN.out]; exact (List.getElem?_eq_some_iff.1 hat).1
        subst hla
        clear hat
        go_wp2
        go_roundg gg
        case measure => omega
        case rel =>
          refine ⟨j + 1, by omega, by go_num, ?_, HU.out⟩
          rw [HTS.out, List.length_append, HM.out]
          simp
      | false =>
        go_wp2
        go_roundg gg
        case measure => omega
        case rel =>
          refine ⟨j + 1, by omega, by go_num, ?_, HU.out⟩
          rw [HTS.out, List.length_append, HM.out]
          simp
    | zero =>
      have hlt : ¬ (j : Int) < (pn : Int) := by omega
      obtain rfl : j = pn := by omega
      have hmn : m = ln := by rw [← HM.out, HLN.out]
      subst hmn
      go_wp2
      go_ret
      exact ⟨rfl, HW1.out.trans (HR.out.mono HW1.out.size)⟩
end Go.Proofs.YtllgffmhbddigaaGreat
/-
  Numbers of variables; constants for variables. (Plain.)
-/
namespace Go.Proofs.YtllgffmhbddigaaGreat
open Go.RowKit

/-- The numbers below n. -/
def ints (n : Nat) : List Int := (List.range n).map fun i : Nat => (i : Int)
theorem mem_ints {n : Nat} {v : Int} : v ∈ ints n ↔ 0 ≤ v ∧ v < n := by
  simp only [ints, List.mem_map, List.mem_range]
  exact ⟨fun ⟨i, h, e⟩ => by omega, fun ⟨h1, h2⟩ => ⟨v.toNat, by omega, by omega⟩⟩
theorem ints_succ (n : Nat) : ints (n + 1) = ints n ++ [(n : Int)] := by simp [ints, List.range_succ]
theorem ints_len (n : Nat) : (ints n).length = n := by simp [ints]
theorem mis_ints : ∀ (l : List Int) (n : Nat), (∀ v ∈ l, 0 ≤ v) → mis n l = false → ∃ m, n ≤ m ∧ l.foldl dstep (ints n) = ints m ∧ ∀ v ∈ l, v < m
  | [], n, _, _ => ⟨n, Nat.le_refl _, rfl, fun v hv => by cases hv⟩
  | v :: l, n, h0, h => by
    rw [mis] at h
    by_cases h1 : (n : Int) < v
    · rw [if_pos h1] at h; cases h
    · rw [if_neg h1] at h
      have hv := h0 v (by simp)
      rw [List.foldl_cons]
      by_cases h2 : v = n
      · rw [if_pos h2] at h
        have e : dstep (ints n) v = ints (n + 1) := by
          unfold dstep; rw [if_neg (by rw [mem_ints]; omega), ints_succ, h2]
        obtain ⟨m, k1, k2, k3⟩ := mis_ints l (n + 1) (fun u hu => h0 u (by simp [hu])) (by exact_mod_cast h)
        rw [e]
        refine ⟨m, by omega, k2, fun u hu => ?_⟩
        rcases List.mem_cons.1 hu with rfl | hu
        · omega
        · exact k3 u hu
      · rw [if_neg h2] at h
        have e : dstep (ints n) v = ints n := by
          unfold dstep; rw [if_pos (by rw [mem_ints]; omega)]
        obtain ⟨m, k1, k2, k3⟩ := mis_ints l n (fun u hu => h0 u (by simp [hu])) h
        rw [e]
        refine ⟨m, k1, k2, fun u hu => ?_⟩
        rcases List.mem_cons.1 hu with rfl | hu
        · omega
        · exact k3 u hu
theorem ints_sub : ∀ {m : Nat} {L : List Int}, (∀ v ∈ ints m, v ∈ L) → m ≤ L.length
  | 0, _, _ => Nat.zero_le _
  | m + 1, L, h => by
    have hm : (m : Int) ∈ L := h _ (by rw [mem_ints]; omega)
    have := ints_sub (m := m) (L := L.erase (m : Int)) fun v hv => by
      have h2 := mem_ints.1 hv
      exact (List.mem_erase_of_ne (by omega)).2 (h v (by rw [mem_ints]; omega))
    rw [List.length_erase_of_mem hm] at this
    have := List.length_pos_of_mem hm
    omega
theorem var_nn {t : Tm} (h : t.var = true) : 0 ≤ t.n := by simp only [Tm.var, decide_eq_true_eq] at h; exact h.2.1
/-- A valid clause's variables: those below their number. -/
theorem num_vars {x : Ck} (hm : mis 0 (vrs (Ck.terms x)) = false) : ∃ m, dis (vrs (Ck.terms x)) = ints m ∧ ∀ t ∈ Ck.terms x, t.var = true → t.n < m := by
  obtain ⟨m, -, h2, h3⟩ := mis_ints (vrs (Ck.terms x)) 0 (fun v hv => by
    obtain ⟨t, ht, rfl⟩ := List.mem_map.1 hv
    exact var_nn (List.mem_filter.1 ht).2) hm
  exact ⟨m, h2, fun t ht hv => h3 _ (List.mem_map.2 ⟨t, List.mem_filter.2 ⟨ht, hv⟩, rfl⟩)⟩
theorem dis_mem {l : List Int} {v : Int} : v ∈ dis l ↔ v ∈ l := by
  unfold dis
  have : ∀ (l acc : List Int), v ∈ l.foldl dstep acc ↔ v ∈ acc ∨ v ∈ l := by
    intro l
    induction l with
    | nil => intro acc; simp
    | cons a l ih =>
      intro acc
      rw [List.foldl_cons, ih, List.mem_cons, dstep]
      by_cases h : a ∈ acc
      · rw [if_pos h]
        exact ⟨fun e => e.elim Or.inl fun e => Or.inr (Or.inr e), fun e => e.elim Or.inl fun e => e.elim (fun e => Or.inl (e ▸ h)) Or.inr⟩
      · rw [if_neg h, List.mem_append, List.mem_singleton, or_assoc]
  rw [this]; simp
theorem body_len {x : Ck} (h : Val0 x) : (x.2.1.flatMap At.pl).length ≤ 72 := by
  have hl := h.bl
  have he : ∀ a ∈ x.2.1, a.pl.length ≤ 9 := fun a ha => by
    have := (err_zero' (h.e a (by simp [ha]))).2.1
    simp [At.pl]; omega
  have : ∀ l : List At, (∀ a ∈ l, a.pl.length ≤ 9) → (l.flatMap At.pl).length ≤ l.length * 9 := by
    intro l
    induction l with
    | nil => intro _; simp
    | cons a l ih =>
      intro h
      rw [List.flatMap_cons, List.length_append, List.length_cons]
      have h1 := h a (by simp)
      have h2 := ih fun b hb => h b (by simp [hb])
      omega
  have := this _ he
  omega
theorem num_le {x : Ck} (h : Val0 x) {m : Nat} (hd : dis (vrs (Ck.terms x)) = ints m) : m ≤ 72 := by
  have h2 := body_len h
  have : m ≤ (vrs (x.2.1.flatMap At.pl)).length := ints_sub fun v hv => by
    rw [← hd, dis_mem] at hv
    obtain ⟨t, ht, rfl⟩ := List.mem_map.1 hv
    obtain ⟨ht, hvt⟩ := List.mem_filter.1 ht
    refine List.mem_map.2 ⟨t, List.mem_filter.2 ⟨?_, hvt⟩, rfl⟩
    unfold Ck.terms at ht
    rcases List.mem_append.1 ht with ht | ht
    · exact h.s t (by simp [ht]) hvt
    · rcases List.mem_append.1 ht with ht | ht
      · exact ht
      · exact h.s t (by simp [ht]) hvt
  have h3 : (vrs (x.2.1.flatMap At.pl)).length ≤ (x.2.1.flatMap At.pl).length := by
    unfold vrs; rw [List.length_map]; exact List.length_filter_le _ _
  omega
end Go.Proofs.YtllgffmhbddigaaGreat
