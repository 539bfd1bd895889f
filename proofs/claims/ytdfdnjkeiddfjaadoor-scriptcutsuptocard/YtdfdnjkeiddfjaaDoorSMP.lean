/-
  script (stage 25): the program's said: a row has the name.
-/
import Derived.Test.YtdfdnjkeiddfjaaDoorSMN
namespace Go.Proofs.YtdfdnjkeiddfjaaDoor
open Go.RowKit
attribute [local go_sem ↓] Go.wp_at_zero Go.wp_at_succ
attribute [local go_sem] run_store_funcA

theorem PkQ.yes {W : World} {B gd : Nat} {lv : Value} {L : List Tk} {len : Int} {n : Nat} {p : Int} {d : SdO} {v : Value} {e : Ending} {W' : World} {t : Tk} (h : PkQ W B gd lv L len n p d v e W') (ht : L[n]? = some t) (hf : ftS (letA p) t.k = true) :
    Fr (fun x => x = B + 2 ∨ x = gd) W W' ∧ e = .returned (.bool true) ∧ OvA W' B lv L len (n + 1) ∧ ∃ v', BlkK W' gd ((putS (letA p) d t).v0 v') 24 ∧ ((v' = v ∧ letA p ≠ 98) ∨ (letA p = 98 ∧ ∃ a' c', v' = .slice a' t.x.size c' ∧ OwY W' W.heap.size v' (blK t.x))) := by
  obtain ⟨h1, ⟨u, q1, q2, q3, q4, q5⟩ | ⟨q1, -, -⟩⟩ := h
  · rw [ht] at q1
    cases q1
    exact ⟨h1, q3, q4, q5⟩
  · rw [q1 t ht] at hf; cases hf
theorem PkQ.no {W : World} {B gd : Nat} {lv : Value} {L : List Tk} {len : Int} {n : Nat} {p : Int} {d : SdO} {v : Value} {e : Ending} {W' : World} (h : PkQ W B gd lv L len n p d v e W') (ht : ¬ ∃ t, L[n]? = some t ∧ ftS (letA p) t.k = true) :
    Fr (fun x => x = B + 2 ∨ x = gd) W W' ∧ e = .returned (.bool false) ∧ OvA W' B lv L len n := by
  obtain ⟨h1, ⟨u, q1, q2, -⟩ | ⟨-, q2, q3⟩⟩ := h
  · exact absurd ⟨u, q1, q2⟩ ht
  · exact ⟨h1, q2, q3⟩
theorem OwY.fr {P : Nat → Prop} {w w' : World} {base : Nat} {v : Value} {l : List Int} (h : OwY w base v l) (hf : Fr P w w') (hp : ∀ x, P x → x < base) : OwY w' base v l := by
  rcases h with h | ⟨g, cap, cur, fz, h1, h2, h3, h4⟩
  · exact Or.inl h
  · exact Or.inr ⟨g, cap, cur, fz, h1, h2, (hf.block g (Array.getElem?_eq_some_iff.1 h3).1 fun q => by have := hp g q; omega).trans h3, h4⟩
/-- One step of the parts. -/
theorem go_one {len : Int} {ps : List Int} {l : List Tk} {q : Nat} {p : Int} {t : Tk} (hp : ps[q]? = some p) (ht : l[q]? = some t) (hf : ftS (letA p) t.k = true) (d : SdO) (b : ByteArray) :
    goS len ((ps.drop q).map letA) (l.drop q) d b = goS len ((ps.drop (q + 1)).map letA) (l.drop (q + 1)) (putS (letA p) d t) (putB (letA p) b t) := by
  obtain ⟨h1, h2⟩ := List.getElem?_eq_some_iff.1 hp
  obtain ⟨h3, h4⟩ := List.getElem?_eq_some_iff.1 ht
  rw [List.drop_eq_getElem_cons h1, List.drop_eq_getElem_cons h3, h2, h4]
  exact go_yesS hf
theorem go_bad {len : Int} {ps : List Int} {t0 : Tk} {l : List Tk} {q : Nat} {p : Int} (hp : ps[q]? = some p) (ht : ¬ ∃ t, l[q]? = some t ∧ ftS (letA p) t.k = true) (d : SdO) (b : ByteArray) :
    goS len ((ps.drop q).map letA) (l.drop q) d b = noS 253 (plA (t0 :: l) len (q + 1)) := by
  obtain ⟨h1, h2⟩ := List.getElem?_eq_some_iff.1 hp
  rw [List.drop_eq_getElem_cons h1, h2]
  cases hl : l[q]? with
  | none =>
    rw [plA_end (by rw [List.getElem?_cons_succ]; exact hl), List.drop_eq_nil_of_le (List.getElem?_eq_none_iff.1 hl)]
    rfl
  | some t =>
    obtain ⟨h3, h4⟩ := List.getElem?_eq_some_iff.1 hl
    rw [plA_at (by rw [List.getElem?_cons_succ]; exact hl), List.drop_eq_getElem_cons h3, h4]
    exact go_nayS (by
      cases hq : ftS (letA p) t.k with
      | false => rfl
      | true => exact absurd ⟨t, hl, hq⟩ ht)
set_option maxRecDepth 20000 in
set_option maxHeartbeats 16000000 in
theorem said_some (j : Nat) (hj : j < 24) (t : Tk) (l : List Tk) (lv : Value) (len : Int) (w : World) (hk : Ks w lv (t :: l)) (hE : EnS w) (hL : (t :: l).length ≤ 9000000) (hx : ∀ u ∈ t :: l, u.x.size ≤ 9000000) (hpos : ∀ u ∈ t :: l, u.a < len)
    (htk : tkA (t :: l) 0 [1] = some t) (hf : rwA.find? (fun r => decide (r.x = t.x)) = some (rwA.getD j zrA)) : Calls Tryd.prog 21 #[lv, .int .i64 len] w (RdQ w (goS len ((rwA.getD j zrA).ps.map letA) l { zdS with k := (rwA.getD j zrA).k } ⟨#[]⟩)) := by
  obtain ⟨L, hLe⟩ : ∃ L, t :: l = L := ⟨_, rfl⟩
  have HLE := hm7 hLe
  rw [hLe] at hk hL hx hpos htk
  have HSZ : Hid (L.length ≤ 9000000) := hL
  have HKS := hm7 hk
  have HT := hm7 hE.tbl
  have HXS := hm7 hx
  have HPOS := hm7 hpos
  obtain ⟨a, cap, rfl, -⟩ := id hk
  obtain ⟨lv, hlv⟩ : ∃ v, Value.slice a L.length cap = v := ⟨_, rfl⟩
  rw [hlv] at HKS ⊢
  obtain ⟨T, hT⟩ : ∃ T, t = T := ⟨_, rfl⟩
  obtain ⟨ok, hok⟩ : ∃ ok, ok = true := ⟨_, rfl⟩
  have HOKT := hm7 hok
  have HTT : Hid ((tkA L 0 [1]).getD zTk = T) := by
    show _ = _
    rw [htk, ← hT]; rfl
  have HOK : Hid ((tkA L 0 [1]).isSome = ok) := by
    show _ = _
    rw [htk, hok]; rfl
  rw [hT] at hf
  have HF := hm7 hf
  obtain ⟨pl, hpl⟩ : ∃ p, plA L len 0 = p := ⟨_, rfl⟩
  have HPL := hm7 hpl
  have hl3 := rwA_l3 hj
  have hps : (rwA.getD j zrA).ps.length ≤ 3 := List.length_filter_le (fun p => p != 0) (rwA.getD j zrA).l3
  obtain ⟨r, hr⟩ : ∃ r, rwA.getD j zrA = r := ⟨_, rfl⟩
  rw [hr] at HF hl3 hps ⊢
  have HRP : Hid (∀ X, Calls Tryd.prog 24 #[r.v] X fun e w' => ∃ v l, e = .returned v ∧ PLA w' X.heap.size v r.ps l ∧ Below X.heap.size X w') := fun X => rpartsA_any r hl3 X
  obtain ⟨ps, hpse⟩ : ∃ ps, r.ps = ps := ⟨_, rfl⟩
  rw [hpse] at HRP hps ⊢
  obtain ⟨x, k, oa, ob, oc⟩ := r
  simp only [RoA.v] at HRP
  have HPS3 := hm7 hps
  obtain ⟨RR, hRR⟩ : ∃ R, goS len (ps.map letA) l { zdS with k := k } ⟨#[]⟩ = R := ⟨_, rfl⟩
  have HRR := hm7 hRR
  show Calls _ _ _ _ (RdQ w (goS len (ps.map letA) l { zdS with k := k } ⟨#[]⟩))
  rw [hRR]
  have hTL : L = T :: l := by rw [← hLe, hT]
  have HTL := hm7 hTL
  clear hk hE hL hx hpos hf hT hok hpl hlv hl3 hps hr hpse hRR htk hLe HLE hTL hj
  have hr0 : RtS w ((w.alloc (.cells z8S 24)).alloc (.cells #[.int .i64 0, .int .i64 0] 27)) := ⟨BlkK.old w _ _ _, BlkK.new2 w _ _ _, below2K w _ _⟩
  have hz0 : ((w.alloc (.cells z8S 24)).alloc (.cells #[.int .i64 0, .int .i64 0] 27)).heap.size = w.heap.size + 2 := by simp
  simp only [z8S] at hr0 hz0
  go_enter Tryd.func21, Tryd.ntmps21
  go_upto_region 1 with (fail)
  revert hr0 hz0
  generalize (w.alloc _).alloc _ = W0
  intro hr0 hz0
  have HR0 := hm7 hr0
  have HZ0 := hm7 hz0
  have HOV : Hid (Calls Tryd.prog 31 #[lv, .int .i64 len] W0 fun e w' => e = .returned (.tuple #[tkV W0.heap.size, plV W0.heap.size]) ∧ OvA w' W0.heap.size lv L len 0 ∧ Below W0.heap.size W0 w') := overA_any lv L len W0 (HKS.out.later hr0.b)
  obtain ⟨B, hB⟩ : ∃ B, W0.heap.size = B := ⟨_, rfl⟩
  rw [hB] at HOV
  simp only [tkV, plV] at HOV
  have HBB := hm7 hB
  clear hr0 hz0 hB
  go_upto_region 2 with (go_at_call 31; refine HOV.out.mono ?_; rintro e w1 ⟨rfl, hv1, hb1⟩; have HV1 := hm7 hv1; have HR1 := hm7 (HR0.out.later (by rw [HBB.out]; exact hb1)); clear hv1 hb1)
  have HP1 : Hid (Calls Tryd.prog 47 #[.pointer (some ⟨B + 2, 0, none⟩), .pointer (some ⟨B, 0, none⟩), .pointer (some ⟨B + 1, 0, none⟩)] w1 fun e w' => e = .returned (.int .i64 pl) ∧ w' = w1) := by rw [← HPL.out]; exact placeA_any HV1.out
  go_upto_region 3 with (go_at_call 47; refine HP1.out.mono ?_; rintro e wx ⟨rfl, e2⟩; rw [e2]; clear e2)
  have hb2 := below1K w1 (.cells #[.int .i64 1] 3)
  have hi2 : IntsA (w1.alloc (.cells #[.int .i64 1] 3)) w1.heap.size 0 [1] := by
    intro i y hi
    refine cell8 (BlkK.new w1 #[.int .i64 1] 3) (0 + i) _ ?_
    match i, hi with
    | 0, hi => cases hi; rfl
  obtain ⟨W2, hW2⟩ : ∃ W, w1.alloc (.cells #[.int .i64 1] 3) = W := ⟨_, rfl⟩
  rw [hW2] at hb2 hi2
  have HTK : Hid (Calls Tryd.prog 46 #[.slice (some ⟨w1.heap.size, 0, none⟩) 1 1, .pointer (some ⟨B + 2, 0, none⟩), .pointer (some ⟨B, 0, none⟩)] W2 fun e W' => e = .returned (.tuple #[T.v, .bool ok]) ∧ OvA W' B lv L len (0 + if ok = true then 1 else 0) ∧ Fr (fun b => b = B + 2) W2 W') := by
    have := takeA_any (HV1.out.later hb2) HSZ.out w1.heap.size 0 1 [1] hi2 (by simp)
    unfold TkQ at this
    rw [HTT.out, HOK.out] at this
    exact this
  have HR2 := hm7 (HR1.out.later hb2)
  clear hb2 hi2
  obtain ⟨tk, tx, tn, ta, te⟩ := T
  simp only [Tk.v] at HTK
  go_upto_region 4 with (go_at_call 46; refine HTK.out.mono ?_; rintro e w3 ⟨rfl, hv3, hf3⟩; have HV3 := hm7 hv3; have HR3 := hm7 (HR2.out.fr hf3 (fun x hx => by have := HZ0.out; have := HBB.out; omega)); clear hv3 hf3)
  have hb4 := below1K w3 (.cells #[.int .i64 tk, .string tx, .int .i64 tn, .int .i64 ta, .int .i64 te] 43)
  have hk4 := BlkK.new w3 #[.int .i64 tk, .string tx, .int .i64 tn, .int .i64 ta, .int .i64 te] 43
  revert hb4 hk4
  generalize w3.alloc _ = W4
  intro hb4 hk4
  have x1 := cell8 hk4 1 _ rfl
  have HV4 := hm7 (HV3.out.later hb4)
  have HR4 := hm7 (HR3.out.later hb4)
  have HRN : Hid (Calls Tryd.prog 32 #[.string tx] W4 fun e w' => e = .returned (.tuple #[((rwA.find? fun r => decide (r.x = tx)).getD zrA).v, .bool (rwA.find? fun r => decide (r.x = tx)).isSome]) ∧ Below W4.heap.size W4 w') := rowNamedA_any tx W4 (HT.out.later HR4.out.b)
  clear hb4 hk4
  have hfo : rwA.find? (fun r => decide (r.x = tx)) = some ⟨x, k, oa, ob, oc⟩ := HF.out
  rw [hfo] at HRN
  simp only [Option.getD_some, Option.isSome_some, RoA.v] at HRN
  rw [HOKT.out] at HV4
  have HV4' := hm7 (show OvA W4 B lv L len 1 from by have := HV4.out; simpa using this)
  clear hfo
  go_upto_region 5 with (go_at_call 32; refine HRN.out.mono ?_; rintro e w5 ⟨rfl, hb5⟩; have HR5 := hm7 (HR4.out.later hb5); have HV5 := hm7 (HV4'.out.later hb5); clear hb5)
  have hb6 := below1K w5 (.cells #[.string x, .int .i64 k, .int .i64 oa, .int .i64 ob, .int .i64 oc] 55)
  have hk6 := BlkK.new w5 #[.string x, .int .i64 k, .int .i64 oa, .int .i64 ob, .int .i64 oc] 55
  revert hb6 hk6
  generalize w5.alloc _ = W6
  intro hb6 hk6
  have HR6 := hm7 (HR5.out.later hb6)
  have HV6 := hm7 (HV5.out.later hb6)
  have c1 := cell8 hk6 1 _ rfl
  have HK6 := hm7 hk6
  clear hb6 hk6 x1
  go_upto_region 8 with (fail)
  have hb7 := below1K W6 (.cells #[.int .i64 k, .string ⟨#[]⟩, .string ⟨#[]⟩, .string ⟨#[]⟩, .slice none 0 0, .int .i64 0, .int .i64 0, .int .i64 0] 24)
  have hd7 := BlkK.new W6 #[.int .i64 k, .string ⟨#[]⟩, .string ⟨#[]⟩, .string ⟨#[]⟩, .slice none 0 0, .int .i64 0, .int .i64 0, .int .i64 0] 24
  obtain ⟨gd, hgd⟩ : ∃ g, W6.heap.size = g := ⟨_, rfl⟩
  have HGD : Hid (B + 3 ≤ gd) := by
    show B + 3 ≤ gd
    rw [← hgd]
    exact HV6.out.x.lt
  rw [hgd] at hd7 ⊢
  revert hb7 hd7
  generalize W6.alloc _ = W7
  intro hb7 hd7
  have HR7 := hm7 (HR6.out.later hb7)
  have HV7 := hm7 (HV6.out.later hb7)
  have hk7 := HK6.out.later hb7
  have c0 := cell8 hk7 0 _ rfl
  have c2 := cell8 hk7 2 _ rfl
  have c3 := cell8 hk7 3 _ rfl
  have c4 := cell8 hk7 4 _ rfl
  have c5 := cell8 hk7 1 _ rfl
  have HD7 := hm7 hd7
  clear hb7 hd7 hk7 hgd c1
  go_upto_region 9 with (go_at_call 24; refine (HRP.out _).mono ?_; rintro e w8 ⟨pv, pl3, rfl, hpl, hb8⟩; have HPA := hm7 hpl; have HR8 := hm7 (HR7.out.later hb8); have HV8 := hm7 (HV7.out.later hb8); have HD8 := hm7 (HD7.out.later hb8); obtain ⟨va, vc, hv, -⟩ := rowS_form hpl.r; subst hv; clear hpl hb8)
  obtain ⟨N, hN⟩ : ∃ N, ps.length = N := ⟨_, rfl⟩
  have HN := hm7 hN
  rw [hN]
  clear hN c0 c2 c3 c4 c5
  go_loopg [15, 47] N (fun gg _ i wr => ∃ (q : Nat) (d : SdO) (b : ByteArray) (va' : Option Addr) (vc' : Nat), q + gg = N ∧ i = .int .i64 q ∧ OvA wr B lv L len (q + 1) ∧ BlkK wr gd (d.v0 (.slice va' b.size vc')) 24 ∧ OwY wr (gd + 1) (.slice va' b.size vc') (blK b) ∧ goS len ((ps.drop q).map letA) (l.drop q) d b = RR ∧ Fr (fun x => x = B + 2 ∨ x = gd) w8 wr)
  case atStart => exact ⟨0, { zdS with k := k }, ⟨#[]⟩, none, 0, by omega, rfl, HV8.out, HD8.out, Or.inl ⟨rfl, rfl⟩, HRR.out, Fr.refl _ _⟩
  case round =>
    obtain ⟨q, d, b, va', vc', hq, rfl, hov, hbd, hoy, hgo, hfr⟩ := hrel
    have HOVR := hm7 hov
    have HBD := hm7 hbd
    have HOY := hm7 hoy
    have HGO := hm7 hgo
    have HFR := hm7 hfr
    have HQ := hm7 hq
    have HRW := hm7 (HR8.out.fr hfr fun x hx => by have := HZ0.out; have := HBB.out; have := HGD.out; omega)
    have HPLR := hm7 (HPA.out.fr hfr fun g hg => hg.elim (fun e => Or.inl ⟨_, e ▸ HV8.out.x⟩) fun e => Or.inr ⟨_, e ▸ HD8.out⟩)
    clear hov hbd hoy hgo hfr hq
    cases gk with
    | succ gg =>
      have hlt : q < N := by have := HQ.out; omega
      have hi1 : (q : Int) < (N : Int) := by omega
      have hi2 : (0 : Int) ≤ (q : Int) := by omega
      have hi3 : (q : Int) ≤ 3 := by have := HPS3.out; have := HN.out; omega
      obtain ⟨p, hp⟩ : ∃ p, ps[q]? = some p := ⟨_, List.getElem?_eq_getElem (by rw [HN.out]; exact hlt)⟩
      obtain ⟨g, cap', xx, hv, hpt, k0, k1, k2⟩ := HPLR.out.at_ hp
      have HPT := hm7 hpt
      have HP := hm7 hp
      cases hv
      obtain ⟨y1, y2, y3⟩ := xx
      obtain ⟨f1, q1, f2, q2, f3, q3, hxx, -, -⟩ := hpt.take HOVR.out HSZ.out HXS.out gd d _ HGD.out HBD.out
      simp only [v3A, Value.agg.injEq, Array.mk.injEq, List.cons.injEq, and_true] at hxx
      obtain ⟨rfl, rfl, rfl⟩ := hxx
      simp only [v3A] at HPT
      simp only at k0 k1 k2
      clear hp hpt hlt
      go_upto_region 11 with (fail)
      have hbx := below1K wr (.cells #[.func (.func f1) #[] q1, .func (.func f2) #[] q2, .func (.func f3) #[] q3] 64)
      have hpx := BlkK.new wr #[.func (.func f1) #[] q1, .func (.func f2) #[] q2, .func (.func f3) #[] q3] 64
      clear k0 k1 k2
      revert hbx hpx
      generalize wr.alloc _ = W10
      intro hbx hpx
      have x0 := cell8 hpx 0 _ rfl
      have HBX := hm7 hbx
      have hov := HOVR.out.later hbx
      have hbd := HBD.out.later hbx
      have hoy := HOY.out.later hbx
      have hfr := HFR.out.then hbx
      obtain ⟨f1', q1', f2', q2', f3', q3', hxx, hent, htk⟩ := (HPT.out.later hbx).take hov HSZ.out HXS.out gd d (.slice va' b.size vc') HGD.out hbd
      simp only [Value.agg.injEq, Array.mk.injEq, List.cons.injEq, and_true, Value.func.injEq, Fn.func.injEq, true_and] at hxx
      obtain ⟨⟨rfl, rfl⟩, ⟨rfl, rfl⟩, rfl, rfl⟩ := hxx
      simp only [tkV] at htk
      have HTKP := hm7 htk
      have HGDX := hm7 hbd.lt
      have HOYX := hm7 hoy
      have HFRX := hm7 hfr
      have HRX := hm7 (HRW.out.later hbx)
      clear hbx hpx hov hbd hoy hfr htk
      by_cases hm : ∃ t, l[q]? = some t ∧ ftS (letA p) t.k = true
      · obtain ⟨u, hu, hft⟩ := hm
        have hLu : L[q + 1]? = some u := by rw [HTL.out, List.getElem?_cons_succ]; exact hu
        have HGN := hm7 ((go_one (len := len) HP.out hu hft d b).symm.trans HGO.out)
        have HYES : Hid (Calls Tryd.prog f1 (#[.func (.func 46) #[] #[.pointer (some ⟨B + 2, 0, none⟩), .pointer (some ⟨B, 0, none⟩)], .pointer (some ⟨gd, 0, none⟩)] ++ q1) W10 fun e W' => Fr (fun x => x = B + 2 ∨ x = gd) W10 W' ∧ e = .returned (.bool true) ∧ OvA W' B lv L len (q + 1 + 1) ∧ ∃ v', BlkK W' gd ((putS (letA p) d u).v0 v') 24 ∧ ((v' = .slice va' b.size vc' ∧ letA p ≠ 98) ∨ (letA p = 98 ∧ ∃ a' c', v' = .slice a' u.x.size c' ∧ OwY W' W10.heap.size v' (blK u.x)))) := HTKP.out.mono fun e W' h => h.yes hLu hft
        clear hu hft hLu
        go_wp2_with (refine HYES.out.mono ?_; rintro e w11 ⟨hf11, rfl, hov11, v', hbd11, hvv⟩; have HF11 := hm7 hf11; have HOV11 := hm7 hov11; have HBD11 := hm7 hbd11; have HVV := hm7 hvv; clear hf11 hov11 hbd11 hvv)
        go_roundg gg
        case measure => omega
        case rel =>
          have hfr : Fr (fun x => x = B + 2 ∨ x = gd) w8 w11 := HFRX.out.tr HF11.out
          rcases HVV.out with ⟨rfl, hne⟩ | ⟨heq, a', c', rfl, hoy⟩
          · refine ⟨q + 1, putS (letA p) d u, b, va', vc', by have := HQ.out; omega, by go_num, HOV11.out, HBD11.out, HOYX.out.fr HF11.out fun x hx => by have := HGD.out; omega, ?_, hfr⟩
            have := HGN.out
            rwa [show putB (letA p) b u = b from if_neg hne] at this
          · refine ⟨q + 1, putS (letA p) d u, u.x, a', c', by have := HQ.out; omega, by go_num, HOV11.out, HBD11.out, hoy.mono HGDX.out, ?_, hfr⟩
            have := HGN.out
            rwa [show putB (letA p) b u = u.x from if_pos heq] at this
      · have hno : ¬ ∃ t, L[q + 1]? = some t ∧ ftS (letA p) t.k = true := by
          rintro ⟨u, hu, hft⟩
          rw [HTL.out, List.getElem?_cons_succ] at hu
          exact hm ⟨u, hu, hft⟩
        have hrr := go_bad (len := len) (t0 := ⟨tk, tx, tn, ta, te⟩) HP.out hm d b
        rw [← HTL.out] at hrr
        have HRN2 := hm7 (HGO.out.symm.trans hrr)
        have HNO : Hid (Calls Tryd.prog f1 (#[.func (.func 46) #[] #[.pointer (some ⟨B + 2, 0, none⟩), .pointer (some ⟨B, 0, none⟩)], .pointer (some ⟨gd, 0, none⟩)] ++ q1) W10 fun e W' => Fr (fun x => x = B + 2 ∨ x = gd) W10 W' ∧ e = .returned (.bool false) ∧ OvA W' B lv L len (q + 1)) := HTKP.out.mono fun e W' h => h.no hno
        clear hm hno hrr
        obtain ⟨pe, hpe⟩ : ∃ z, plA L len (q + 1) = z := ⟨_, rfl⟩
        have HPE := hm7 hpe
        rw [hpe] at HRN2
        clear hpe
        go_upto_region 12 with (refine HNO.out.mono ?_; rintro e w11 ⟨hf11, rfl, hov11⟩; have HR11 := hm7 (HRX.out.fr hf11 fun x hx => by have := HZ0.out; have := HBB.out; have := HGD.out; omega); have HOV11 := hm7 hov11; clear hf11 hov11)
        have HP11 : Hid (Calls Tryd.prog 47 #[.pointer (some ⟨B + 2, 0, none⟩), .pointer (some ⟨B, 0, none⟩), .pointer (some ⟨B + 1, 0, none⟩)] w11 fun e w' => e = .returned (.int .i64 pe) ∧ w' = w11) := by rw [← HPE.out]; exact placeA_any HOV11.out
        obtain ⟨⟨b0, b1, b2, b3, b4, b5, b6, b7⟩, bf, e0, e1, ef⟩ := HR11.out.cells
        go_wp2_with (go_at_call 47; refine HP11.out.mono ?_; rintro e wx ⟨rfl, e2⟩; rw [e2]; clear e2)
        rw [HRN2.out]
        obtain ⟨h1, h2, h3⟩ := rtE HR11.out 253 pe
        exact endE rfl rfl rfl rfl h1 h2 h3
    | zero =>
      have hi1 : ¬ (q : Int) < (N : Int) := by have := HQ.out; omega
      have hqN : ps.drop q = [] := List.drop_eq_nil_of_le (by have := HQ.out; have := HN.out; omega)
      have hgo := HGO.out
      rw [hqN] at hgo
      obtain ⟨pe, hpe⟩ : ∃ z, plA L len (q + 1) = z := ⟨_, rfl⟩
      have HPW : Hid (Calls Tryd.prog 47 #[.pointer (some ⟨B + 2, 0, none⟩), .pointer (some ⟨B, 0, none⟩), .pointer (some ⟨B + 1, 0, none⟩)] wr fun e w' => e = .returned (.int .i64 pe) ∧ w' = wr) := by rw [← hpe]; exact placeA_any HOVR.out
      obtain ⟨⟨b0, b1, b2, b3, b4, b5, b6, b7⟩, bf, e0, e1, ef⟩ := HRW.out.cells
      cases hl : l[q]? with
      | none =>
        have hpl : pe = len := by rw [← hpe]; exact plA_end (by rw [HTL.out, List.getElem?_cons_succ]; exact hl)
        have hrr : RR = ⟨d, b, 0, 0⟩ := by rw [← hgo, List.drop_eq_nil_of_le (List.getElem?_eq_none_iff.1 hl)]; rfl
        have HR2R := hm7 hrr
        have g1 : ¬ pe < len := by omega
        have k0 := cell8 HBD.out 0 _ rfl
        have k1 := cell8 HBD.out 1 _ rfl
        have k2 := cell8 HBD.out 2 _ rfl
        have k3 := cell8 HBD.out 3 _ rfl
        have k4 := cell8 HBD.out 4 _ rfl
        have k5 := cell8 HBD.out 5 _ rfl
        have k6 := cell8 HBD.out 6 _ rfl
        have k7 := cell8 HBD.out 7 _ rfl
        have HGW := hm7 (show w.heap.size + 2 ≤ gd + 1 by have := HZ0.out; have := HBB.out; have := HGD.out; omega)
        have n1 : gd ≠ w.heap.size := by have := HZ0.out; have := HBB.out; have := HGD.out; omega
        have n2 : gd ≠ w.heap.size + 1 := by have := HZ0.out; have := HBB.out; have := HGD.out; omega
        clear hl hpl hrr hgo hqN hpe
        go_wp2_with (go_at_call 47; refine HPW.out.mono ?_; rintro e wx ⟨rfl, e2⟩; rw [e2]; clear e2)
        rw [HR2R.out]
        obtain ⟨h1, h2, h3, h4⟩ := rtR HRW.out HGW.out d HOY.out
        exact endR rfl rfl rfl rfl h1 h2 h3 (by have := HGW.out; omega) h4
      | some u =>
        have hLu : L[q + 1]? = some u := by rw [HTL.out, List.getElem?_cons_succ]; exact hl
        have hpl : pe = u.a := by rw [← hpe]; exact plA_at hLu
        have hrr : RR = noS 253 pe := by
          obtain ⟨h3, h4⟩ := List.getElem?_eq_some_iff.1 hl
          rw [← hgo, List.drop_eq_getElem_cons h3, h4, hpl]
          rfl
        have HR2R := hm7 hrr
        have g1 : pe < len := by rw [hpl]; exact HPOS.out u (List.mem_of_getElem? hLu)
        clear hl hpl hrr hgo hqN hpe hLu
        go_wp2_with (go_at_call 47; refine HPW.out.mono ?_; rintro e wx ⟨rfl, e2⟩; rw [e2]; clear e2)
        rw [HR2R.out]
        obtain ⟨h1, h2, h3⟩ := rtE HRW.out 253 pe
        exact endE rfl rfl rfl rfl h1 h2 h3
end Go.Proofs.YtdfdnjkeiddfjaaDoor
