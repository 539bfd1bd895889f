/-
  Unify, given canSay.
-/
import Derived.Test.YtnaiecemmhioeaaDoorP5
namespace Go.Proofs.YtnaiecemmhioeaaDoor
open Go.RowKit
attribute [local go_sem ↓] Go.wp_at_zero Go.wp_at_succ

/-- Whether one can say something, by the classes. -/
def Say (T : List Tm) (rt : Nat → Nat) (t : Tm) (b : Bool) : Prop := (t.var = false ∧ b = true) ∨ (t.var = true ∧ ∃ (i : Nat) (x : Tm), T[i]? = some t ∧ T[rt i]? = some x ∧ b = (x.var || x.prin))
def YPost (w : World) (B C : Nat) (vt vu : Value) (T : List Tm) (rt dep : Nat → Nat) (t : Tm) (e : Ending) (w' : World) : Prop :=
  ∃ (b : Bool) (vt' vu' : Value) (T' : List Tm) (U' : List Int), e = .returned (.bool b) ∧ CL w' B C vt' vu' T' U' ∧ UF T'.length U' rt dep ∧ Stp w w' C vt vu vt' vu' ∧ (T' = T ∨ Ad T t T') ∧ Say T' rt t b
def SayOK : Prop := ∀ (t : Tm) (B C : Nat) (vt vu : Value) (T : List Tm) (U : List Int) (rt dep : Nat → Nat) (w : World), CL w B C vt vu T U → UF T.length U rt dep → B ≤ w.heap.size → T.length ≤ 1999999999999 →
  Calls Tryd.prog 34 #[.pointer (some ⟨C, 0, none⟩), t.v] w (YPost w B C vt vu T rt dep t)
theorem Say.ad {T T' : List Tm} {rt : Nat → Nat} {t u : Tm} {b : Bool} (h : Say T rt t b) (ha : T' = T ∨ Ad T u T') : Say T' rt t b := by
  rcases ha with rfl | ha
  · exact h
  · rcases h with h | ⟨h1, i, x, h2, h3, h4⟩
    · exact Or.inl h
    · exact Or.inr ⟨h1, i, x, ha.get h2, ha.get h3, h4⟩
theorem LJ.ad' {r : List (Tm × Tm)} {T T' : List Tm} {rt : Nat → Nat} {t : Tm} (h : LJ r T rt) (ha : T' = T ∨ Ad T t T') : LJ r T' rt := by
  rcases ha with rfl | ha
  · exact h
  · exact h.ad ha
def noU : Ending := .returned (.tuple #[.slice none 0 0, .bool false])
/-- What Unify answers. -/
def UPost (w : World) (a b : At) (e : Ending) (w' : World) : Prop := Below w.heap.size w w' ∧
  ((shB a b = false ∧ e = noU) ∨
   (shB a b = true ∧ ∃ (j : Nat) (t u : Tm) (T T' : List Tm) (rt rt' : Nat → Nat), (a.pl.zip b.pl)[j]? = some (t, u) ∧ LI ((a.pl.zip b.pl).take j) T rt ∧ Lk T rt t u false T' rt' ∧ e = noU) ∨
   (shB a b = true ∧ ∃ (T : List Tm) (rt : Nat → Nat), LJ (a.pl.zip b.pl) T rt ∧ (Say T rt a.by_ false ∨ Say T rt b.by_ false) ∧ e = noU) ∨
   (shB a b = true ∧ ∃ (T : List Tm) (rt : Nat → Nat) (v' : Value) (out : List Bd), LJ (a.pl.zip b.pl) T rt ∧ Say T rt a.by_ true ∧ Say T rt b.by_ true ∧ e = .returned (.tuple #[v', .bool true]) ∧ Own w' w.heap.size v' out ∧ out.Perm (bnd T rt T.length) ∧ srt out ∧ T.length ≤ 1000000000000))
theorem Stp.belowC {W wr : World} {C : Nat} {vt vu : Value} (h : Stp W wr C (.slice none 0 0) (.slice none 0 0) vt vu) (hC : C < W.heap.size) : Below C W wr :=
  ⟨h.os, h.tape, h.output, h.size, fun k hk => h.kept k (by omega) ⟨by omega, by simp [Value.ownBlock], by simp [Value.ownBlock]⟩⟩
theorem own_mono' {w : World} {b b' : Nat} {v : Value} {l : List Bd} (h : Own w b v l) (hb : b' ≤ b) : Own w b' v l := by
  refine ⟨h.1, ?_⟩
  rcases h.2 with hn | ⟨g, cap, cur, hv, hbb, rest⟩
  · exact Or.inl hn
  · exact Or.inr ⟨g, cap, cur, hv, Nat.le_trans hb hbb, rest⟩
set_option maxRecDepth 20000 in
set_option maxHeartbeats 1000000 in
theorem unify_any (hsay : SayOK) (a b : At) (x y : Value) (w : World) (hx : Ts w x a.args) (hy : Ts w y b.args) (hl : a.args.length ≤ 400000000000) :
    Calls Tryd.prog 14 #[a.v x, b.v y] w (UPost w a b) := by
  have ssh := fun (X : World) (h : Below w.heap.size w X) => sameShape_any a b x y X (hx.later h) (hy.later h)
  have hpls := fun (X : World) (h : Below w.heap.size w X) => places_any a x X (hx.later h)
  have hpa := fun (X : World) (h : Below w.heap.size w X) (i : Nat) (t : Tm) (ht : a.pl[i]? = some t) => place_any a x i t ht X (hx.later h)
  have hpb := fun (X : World) (h : Below w.heap.size w X) (i : Nat) (t : Tm) (ht : b.pl[i]? = some t) => place_any b y i t ht X (hy.later h)
  obtain ⟨A, hA⟩ : ∃ A, A = a := ⟨_, rfl⟩
  obtain ⟨D, hD⟩ : ∃ D, D = b := ⟨_, rfl⟩
  obtain ⟨pa, hpa'⟩ : ∃ p, p = a.pl := ⟨_, rfl⟩
  obtain ⟨pb, hpb'⟩ : ∃ p, p = b.pl := ⟨_, rfl⟩
  obtain ⟨sh, hsh⟩ : ∃ s, shB a b = s := ⟨_, rfl⟩
  rw [hsh] at ssh
  rw [← hpa'] at hpls hpa
  rw [← hpb'] at hpb
  have hpl : pa.length = a.args.length + 1 := by rw [hpa']; simp [At.pl]
  have hpbl : sh = true → pb.length = pa.length := fun h => by
    rw [h] at hsh
    simp only [shB, Bool.and_eq_true, beq_iff_eq] at hsh
    rw [hpa', hpb']; simp [At.pl, hsh.2]
  obtain ⟨⟨k, n, ss⟩, nm, l⟩ := a
  obtain ⟨⟨k', n', ss'⟩, nm', l'⟩ := b
  rw [show UPost w ⟨⟨k, n, ss⟩, nm, l⟩ ⟨⟨k', n', ss'⟩, nm', l'⟩ = UPost w A D by rw [hA, hD]]
  have HSH : Hid (shB A D = sh) := by show _ = _; rw [hA, hD]; exact hsh
  have HPA : Hid (A.pl = pa) := by show _ = _; rw [hA, hpa']
  have HPB : Hid (D.pl = pb) := by show _ = _; rw [hD, hpb']
  have HBA : Hid (A.by_ = ⟨k, n, ss⟩) := by show _ = _; rw [hA]
  have HBD : Hid (D.by_ = ⟨k', n', ss'⟩) := by show _ = _; rw [hD]
  have SSH : Hid _ := ssh
  have PLS : Hid _ := hpls
  have PA : Hid _ := hpa
  have PB : Hid _ := hpb
  have HSAY : Hid SayOK := hsay
  have hpn : pa.length ≤ 400000000001 := by rw [hpl]; simp only at hl ⊢; omega
  have HPL : Hid (sh = true → pb.length = pa.length) := hpbl
  clear ssh hpls hpa hpb hA hD hpa' hpb' hsh hpl hpbl hx hy hsay hl
  cases sh
  · go_enter Tryd.func14, Tryd.ntmps14
    go_wp2_with (go_at_call 25; refine (SSH.out _ (below2 _ _ _)).mono ?_; rintro e w1 ⟨rfl, hb1⟩)
    exact bodyPost_ret (v := .tuple #[.slice none 0 0, .bool false]) (by simp [results, Tryd.results14, go_sem]) rfl ⟨below_step (below2 _ _ _) hb1, Or.inl ⟨HSH.out, rfl⟩⟩
  · have hpb2 : pb.length = pa.length := HPL.out rfl
    have HPB2 : Hid (pb.length = pa.length) := hpb2
    clear hpb2 HPL
    go_enter Tryd.func14, Tryd.ntmps14
    go_upto_region 4 with (go_at_call 25; refine (SSH.out _ (below2 _ _ _)).mono ?_; rintro e w1 ⟨rfl, hb1⟩)
    have hb2 := below1 w1 (.cells #[.slice none 0 0, .slice none 0 0] 64)
    have bC := Blk.new w1 #[.slice none 0 0, .slice none 0 0] 64
    have hbw1 : Below w.heap.size w w1 := below_step (below2 _ _ _) hb1
    have BA1 : Blk w1 w.heap.size #[.int .i64 k, .int .i64 n, .string ss, .string nm, x] 26 := (Blk.old _ _ _ _).later hb1
    have BD1 : Blk w1 (w.heap.size + 1) #[.int .i64 k', .int .i64 n', .string ss', .string nm', y] 26 := (Blk.new2 _ _ _ _).later hb1
    revert hb2 bC
    generalize w1.alloc (.cells #[.slice none 0 0, .slice none 0 0] 64) = W
    obtain ⟨C, hC⟩ : ∃ C, C = w1.heap.size := ⟨_, rfl⟩
    rw [← hC]
    intro hb2 bC
    have hwC : w.heap.size + 1 < C := by rw [hC]; exact BD1.lt
    have BA : Hid (Blk W w.heap.size #[.int .i64 k, .int .i64 n, .string ss, .string nm, x] 26) := BA1.later (by rw [← hC]; exact hb2)
    have BD : Hid (Blk W (w.heap.size + 1) #[.int .i64 k', .int .i64 n', .string ss', .string nm', y] 26) := BD1.later (by rw [← hC]; exact hb2)
    have BW : Hid (Below w.heap.size w W) := hbw1.trans (hb2.mono (by omega))
    have hCW : C < W.heap.size := bC.lt
    have HC0 : Hid (CL W (C + 1) C (.slice none 0 0) (.slice none 0 0) [] []) := ⟨by omega, bC, World.ownsRow_nil _ _ _ _, ownI_nil _ _, fun k hk => by simp [Value.ownBlock] at hk⟩
    obtain ⟨p0, p1, p2, p3, p4⟩ := five (Hid.out BA)
    clear hb1 hb2 bC hbw1 BA1 BD1 hC
    go_upto_region 5 with (go_at_call 29; refine (PLS.out _ (Hid.out BW)).mono ?_; rintro e w2 ⟨rfl, hb2⟩)
    have HS2 : Hid (Stp W w2 C (.slice none 0 0) (.slice none 0 0) (.slice none 0 0) (.slice none 0 0)) := Stp.below _ _ _ hb2
    have HC2 : Hid (CL w2 (C + 1) C (.slice none 0 0) (.slice none 0 0) [] []) := HC0.out.later hb2
    clear p0 p1 p2 p3 p4 hb2 SSH PLS
    go_loopg [14] pa.length (fun g i wr => ∃ (j : Nat) (vt vu : Value) (T : List Tm) (U : List Int) (rt dep : Nat → Nat), j + g = pa.length ∧ i = .int .i64 j ∧ CL wr (C + 1) C vt vu T U ∧ UF T.length U rt dep ∧ LI ((pa.zip pb).take j) T rt ∧ Stp W wr C (.slice none 0 0) (.slice none 0 0) vt vu)
    case atStart =>
      refine ⟨0, _, _, [], [], fun i => i, fun _ => 0, by omega, rfl, HC2.out, ⟨rfl, fun i hi => by simp at hi, fun i hi => by simp at hi, fun i _ => rfl⟩, li_nil, Hid.out HS2⟩
    case round =>
      obtain ⟨j, vt, vu, T, U, rt, dep, hj, rfl, hc, hu, hli, hst⟩ := hrel
      clear HS2 HC2
      have hbr := hst.belowC hCW
      have hbw : Below w.heap.size w wr := (Hid.out BW).trans (hbr.mono (by omega))
      have hsz := hst.size
      have ba := hst.blk (Hid.out BA) (HC0.out.old (by omega))
      have bd := hst.blk (Hid.out BD) (HC0.out.old (by omega))
      have hTl : T.length ≤ 2 * pa.length := by have := hli.size; rw [List.length_take] at this; omega
      have apa := hc.old (k := w.heap.size) (by omega)
      have apd := hc.old (k := w.heap.size + 1) (by omega)
      cases gk with
      | succ g =>
        have hlt : j < pa.length := by omega
        have hlt' : j < pb.length := by have := HPB2.out; omega
        obtain ⟨t, ht⟩ : ∃ t, pa[j]? = some t := ⟨_, List.getElem?_eq_getElem hlt⟩
        obtain ⟨u, hu'⟩ : ∃ u, pb[j]? = some u := ⟨_, List.getElem?_eq_getElem hlt'⟩
        have HZ : Hid ((pa.zip pb)[j]? = some (t, u)) := by show _ = _; rw [List.getElem?_zip_eq_some]; exact ⟨ht, hu'⟩
        have HT : Hid (pa[j]? = some t) := ht
        have HU : Hid (pb[j]? = some u) := hu'
        obtain ⟨tk, tn, tz⟩ := t
        obtain ⟨uk, un, uz⟩ := u
        have HC : Hid (CL wr (C + 1) C vt vu T U) := hc
        have HUF : Hid (UF T.length U rt dep) := hu
        have HLI : Hid (LI ((pa.zip pb).take j) T rt) := hli
        have HST : Hid (Stp W wr C (.slice none 0 0) (.slice none 0 0) vt vu) := hst
        have HBW : Hid (Below w.heap.size w wr) := hbw
        have HAP : Hid (Apart C vt vu w.heap.size ∧ Apart C vt vu (w.heap.size + 1)) := ⟨apa, apd⟩
        have HBA2 : Hid (Blk wr _ _ _) := ba
        have HBD2 : Hid (Blk wr _ _ _) := bd
        clear hc hu hli hst hbr hbw ba bd apa apd ht hu'
        have i2 : (j : Int) < (pa.length : Int) := by omega
        go_upto_region 7 with fail
        refine wp_region_held_drew (S := fun w' => Blk w' w.heap.size #[.int .i64 k, .int .i64 n, .string ss, .string nm, x] 26 ∧ Blk w' (w.heap.size + 1) #[.int .i64 k', .int .i64 n', .string ss', .string nm', y] 26) (by kernel_rfl) ⟨Blk.later (Hid.out HBA2) (Below.refl _ _).drew, Blk.later (Hid.out HBD2) (Below.refl _ _).drew⟩ (fun hH => ?_)
        have bV : Below wr.heap.size wr wr.drew := (Below.refl _ _).drew
        revert hH bV
        generalize wr.drew = V
        intro hH bV
        refine wpAnyH_take (i := 0) (oi := ⟨_, _, _, _, _, _⟩) (v := .agg #[.int .i64 k, .int .i64 n, .string ss, .string nm, x]) rfl (by kernel_rfl) (by kernel_rfl) (by kernel_rfl) (fun _ _ _ h => h) (Or.inl ⟨by rfl, fun w' h => by obtain ⟨p0, p1, p2, p3, p4⟩ := five h.1; go_simp⟩) hH ?_
        simp only [Act.put, List.setIfInBounds_toArray, List.set_cons_zero, List.set_cons_succ]
        refine wpAnyH_take (i := 1) (oi := ⟨_, _, _, _, _, _⟩) (v := .int .i64 j) rfl (by kernel_rfl) (by kernel_rfl) (by kernel_rfl) (fun _ _ _ h => h) (Or.inl ⟨by rfl, fun w' _ => by go_simp⟩) hH ?_
        simp only [Act.put, List.setIfInBounds_toArray, List.set_cons_zero, List.set_cons_succ]
        refine wpAnyH_take (i := 3) (oi := ⟨_, _, _, _, _, _⟩) (v := .agg #[.int .i64 k', .int .i64 n', .string ss', .string nm', y]) rfl (by kernel_rfl) (by kernel_rfl) (by kernel_rfl) (fun _ _ _ h => h) (Or.inl ⟨by rfl, fun w' h => by obtain ⟨p0, p1, p2, p3, p4⟩ := five h.2; go_simp⟩) hH ?_
        simp only [Act.put, List.setIfInBounds_toArray, List.set_cons_zero, List.set_cons_succ]
        refine wpAnyH_take (i := 4) (oi := ⟨_, _, _, _, _, _⟩) (v := .int .i64 j) rfl (by kernel_rfl) (by kernel_rfl) (by kernel_rfl) (fun _ _ _ h => h) (Or.inl ⟨by rfl, fun w' _ => by go_simp⟩) hH ?_
        simp only [Act.put, List.setIfInBounds_toArray, List.set_cons_zero, List.set_cons_succ]
        refine wpAnyH_ready (rs := [2]) (by kernel_rfl) (by simp) ?_
        refine (AllReadyH.cons (o := ⟨_, _, _, _, _, _⟩) rfl (fun K hK => ?_) AllReadyH.nil)
        go_simp
        refine (PA.out _ (below_step (Hid.out HBW) bV) j _ HT.out).mono ?_
        rintro e V1 ⟨rfl, hb1⟩
        have bV1 := below_step bV hb1
        refine hK.out _ _ ⟨Blk.later hH.1 hb1, Blk.later hH.2 hb1⟩ (fun hH => ?_)
        clear hK K hb1
        refine wpAnyH_ready (rs := [5]) (by kernel_rfl) (by simp) ?_
        refine (AllReadyH.cons (o := ⟨_, _, _, _, _, _⟩) rfl (fun K hK => ?_) AllReadyH.nil)
        go_simp
        refine (PB.out _ (below_step (Hid.out HBW) bV1) j _ HU.out).mono ?_
        rintro e V2 ⟨rfl, hb2⟩
        have bV2 := below_step bV1 hb2
        refine hK.out _ _ ⟨Blk.later hH.1 hb2, Blk.later hH.2 hb2⟩ (fun hH => ?_)
        clear hK K hb2
        refine wpAnyH_ready (rs := [6]) (by kernel_rfl) (by simp) ?_
        refine (AllReadyH.cons (o := ⟨_, _, _, _, _, _⟩) rfl (fun K hK => ?_) AllReadyH.nil)
        go_simp
        refine (link_any ⟨tk, tn, tz⟩ ⟨uk, un, uz⟩ (C + 1) C vt vu T U rt dep _ (HC.out.later bV2) HUF.out (by have := bV2.size; omega) (by omega)).mono ?_
        rintro e V3 ⟨b, vt', vu', T', U', rt', dep', rfl, hc', hu', hs', hlk⟩
        have q1 := hs'.blk hH.1 HAP.out.1
        have q2 := hs'.blk hH.2 HAP.out.2
        refine hK.out _ _ ⟨q1, q2⟩ (fun hH => ?_)
        clear hK K q1 q2
        have hs3 : Stp W V3 C (.slice none 0 0) (.slice none 0 0) vt' vu' := (Hid.out HST).trans ((Stp.below _ _ _ bV2).trans hs')
        have HF : Hid (CL V3 (C + 1) C vt' vu' T' U' ∧ UF T'.length U' rt' dep' ∧ Stp W V3 C (.slice none 0 0) (.slice none 0 0) vt' vu') := ⟨hc', hu', hs3⟩
        have HLK : Hid (Lk T rt ⟨tk, tn, tz⟩ ⟨uk, un, uz⟩ b T' rt') := hlk
        clear hc' hu' hs' hs3 hlk bV bV1 bV2
        cases b
        · refine wpAnyH_take (i := 7) (oi := ⟨_, _, _, _, _, _⟩) (v := .bool true) rfl (by kernel_rfl) (by kernel_rfl) (by kernel_rfl) (fun _ _ _ h => h) (Or.inl ⟨by rfl, fun w' _ => by go_simp⟩) hH ?_
          simp only [Act.put, List.setIfInBounds_toArray, List.set_cons_zero, List.set_cons_succ]
          refine wpAnyH_done (by kernel_rfl) ?_ _
          clear hH
          go_wp2
          exact bodyPost_ret (v := .tuple #[.slice none 0 0, .bool false]) (by simp [results, Tryd.results14, go_sem]) rfl ⟨(Hid.out BW).trans ((HF.out.2.2.belowC hCW).mono (by omega)), Or.inr (Or.inl ⟨HSH.out, j, ⟨tk, tn, tz⟩, ⟨uk, un, uz⟩, T, T', rt, rt', by rw [HPA.out, HPB.out]; exact HZ.out, by rw [HPA.out, HPB.out]; exact HLI.out, HLK.out, rfl⟩)⟩
        · refine wpAnyH_take (i := 7) (oi := ⟨_, _, _, _, _, _⟩) (v := .bool false) rfl (by kernel_rfl) (by kernel_rfl) (by kernel_rfl) (fun _ _ _ h => h) (Or.inl ⟨by rfl, fun w' _ => by go_simp⟩) hH ?_
          simp only [Act.put, List.setIfInBounds_toArray, List.set_cons_zero, List.set_cons_succ]
          refine wpAnyH_done (by kernel_rfl) ?_ _
          clear hH
          go_wp2
          go_roundg g
          case measure => omega
          case rel =>
            refine ⟨j + 1, vt', vu', T', U', rt', dep', by omega, by go_num, HF.out.1, HF.out.2.1, ?_, HF.out.2.2⟩
            obtain ⟨hjz, hz⟩ := List.getElem?_eq_some_iff.1 HZ.out
            rw [List.take_succ_eq_append_getElem hjz, hz]
            exact lk_step HLI.out HLK.out
      | zero =>
        obtain rfl : j = pa.length := by omega
        have hz : ¬ ((pa.length : Int) < (pa.length : Int)) := by omega
        rw [List.take_of_length_le (by rw [List.length_zip]; omega)] at hli
        have HLJ : Hid (LJ (pa.zip pb) T rt) := hli.lj
        have HST : Hid (Stp W wr C (.slice none 0 0) (.slice none 0 0) vt vu) := hst
        have HBA2 : Hid (Blk wr _ _ _) := ba
        have HBD2 : Hid (Blk wr _ _ _) := bd
        have HAP : Hid (Apart C vt vu w.heap.size ∧ Apart C vt vu (w.heap.size + 1)) := ⟨apa, apd⟩
        have SA : Hid (Calls Tryd.prog 34 #[.pointer (some ⟨C, 0, none⟩), Tm.v ⟨k, n, ss⟩] wr (YPost wr (C + 1) C vt vu T rt dep ⟨k, n, ss⟩)) := HSAY.out ⟨k, n, ss⟩ (C + 1) C vt vu T U rt dep wr hc hu (by omega) (by omega)
        obtain ⟨p0, p1, p2, p3, p4⟩ := five ba
        clear hc hu hli hst hbr hbw ba bd apa apd PA PB
        go_upto_region 10 with fail
        go_cut [35] from 26 to 35 (fun s35 wx => ∃ (sab : Bool) (vt' vu' : Value) (T' : List Tm) (U' : List Int), s35 = .bool (!sab) ∧ CL wx (C + 1) C vt' vu' T' U' ∧ UF T'.length U' rt dep ∧ LJ (pa.zip pb) T' rt ∧ Stp W wx C (.slice none 0 0) (.slice none 0 0) vt' vu' ∧ T'.length ≤ T.length + 2 ∧ (sab = false → Say T' rt ⟨k, n, ss⟩ false ∨ Say T' rt ⟨k', n', ss'⟩ false) ∧ (sab = true → Say T' rt ⟨k, n, ss⟩ true ∧ Say T' rt ⟨k', n', ss'⟩ true))
        case first =>
          have hlen' : ∀ {A B : List Tm} {t : Tm}, (B = A ∨ Ad A t B) → B.length ≤ A.length + 1 := fun {A B t} h => by
            rcases h with rfl | h
            · omega
            · exact h.len
          go_wp2_with (first
            | (go_at_call 34; refine (SA.out).mono ?_; rintro e w3 ⟨sa, vt3, vu3, T3, U3, rfl, hc3, hu3, hs3, ha3, hy3⟩; clear SA p0 p1 p2 p3 p4; obtain ⟨p0, p1, p2, p3, p4⟩ := five (hs3.blk (Hid.out HBD2) HAP.out.2); have H3 : Hid (CL w3 (C + 1) C vt3 vu3 T3 U3 ∧ UF T3.length U3 rt dep ∧ Stp W w3 C (.slice none 0 0) (.slice none 0 0) vt3 vu3 ∧ LJ (pa.zip pb) T3 rt ∧ Say T3 rt ⟨k, n, ss⟩ sa ∧ T3.length ≤ T.length + 1) := ⟨hc3, hu3, (Hid.out HST).trans hs3, HLJ.out.ad' ha3, hy3, hlen' ha3⟩; clear hc3 hu3 hs3 ha3 hy3; cases sa)
            | (go_at_call 34; refine Calls.mono (show Calls Tryd.prog 34 #[.pointer (some ⟨C, 0, none⟩), Tm.v ⟨k', n', ss'⟩] w3 (YPost w3 (C + 1) C vt3 vu3 T3 rt dep ⟨k', n', ss'⟩) from HSAY.out ⟨k', n', ss'⟩ (C + 1) C vt3 vu3 T3 U3 rt dep w3 H3.out.1 H3.out.2.1 (by have := H3.out.2.2.1.size; omega) (by have := H3.out.2.2.2.2.2; omega)) ?_; rintro e w4 ⟨sb, vt4, vu4, T4, U4, rfl, hc4, hu4, hs4, ha4, hy4⟩; have H4 : Hid (CL w4 (C + 1) C vt4 vu4 T4 U4 ∧ UF T4.length U4 rt dep ∧ Stp W w4 C (.slice none 0 0) (.slice none 0 0) vt4 vu4 ∧ LJ (pa.zip pb) T4 rt ∧ Say T4 rt ⟨k, n, ss⟩ true ∧ Say T4 rt ⟨k', n', ss'⟩ sb ∧ T4.length ≤ T.length + 2) := ⟨hc4, hu4, H3.out.2.2.1.trans hs4, H3.out.2.2.2.1.ad' ha4, H3.out.2.2.2.2.1.ad ha4, hy4, by have := H3.out.2.2.2.2.2; have := hlen' ha4; omega⟩; clear hc4 hu4 hs4 ha4 hy4))
          · go_meet
            case rel => exact ⟨false, vt3, vu3, T3, U3, rfl, H3.out.1, H3.out.2.1, H3.out.2.2.2.1, H3.out.2.2.1, by have := H3.out.2.2.2.2.2; omega, fun _ => Or.inl H3.out.2.2.2.2.1, fun h => by cases h⟩
          · go_meet
            case rel => exact ⟨sb, vt4, vu4, T4, U4, by simp, H4.out.1, H4.out.2.1, H4.out.2.2.2.1, H4.out.2.2.1, H4.out.2.2.2.2.2.2, fun h => Or.inr (by rw [← h]; exact H4.out.2.2.2.2.2.1), fun h => ⟨H4.out.2.2.2.2.1, by rw [← h]; exact H4.out.2.2.2.2.2.1⟩⟩
        case rest =>
          obtain ⟨sab, vt5, vu5, T5, U5, rfl, hc5, hu5, hj5, hs5, hl5, hn5, hy5⟩ := hcut
          have hb5 : Below w.heap.size w wc := (Hid.out BW).trans ((hs5.belowC hCW).mono (by omega))
          cases sab
          · have HN5 : Hid (Say T5 rt ⟨k, n, ss⟩ false ∨ Say T5 rt ⟨k', n', ss'⟩ false) := hn5 rfl
            have HJ5 : Hid (LJ (pa.zip pb) T5 rt) := hj5
            clear hn5 hy5 hj5
            go_wp2
            exact bodyPost_ret (v := .tuple #[.slice none 0 0, .bool false]) (by simp [results, Tryd.results14, go_sem]) rfl ⟨hb5, Or.inr (Or.inr (Or.inl ⟨HSH.out, T5, rt, by rw [HPA.out, HPB.out]; exact HJ5.out, by rw [HBA.out, HBD.out]; exact HN5.out, rfl⟩))⟩
          · have HBn : Hid (Calls Tryd.prog 35 #[.pointer (some ⟨C, 0, none⟩)] wc (DPost wc C vt5 vu5 T5 rt)) := binding_any (C + 1) C vt5 vu5 T5 U5 rt dep wc hc5 hu5 hj5.nd (by have := hs5.size; omega) (by omega)
            have HF : Hid (LJ (pa.zip pb) T5 rt ∧ Stp W wc C (.slice none 0 0) (.slice none 0 0) vt5 vu5 ∧ (Say T5 rt ⟨k, n, ss⟩ true ∧ Say T5 rt ⟨k', n', ss'⟩ true) ∧ Below w.heap.size w wc) := ⟨hj5, hs5, hy5 rfl, hb5⟩
            have hwcs : w.heap.size ≤ wc.heap.size := hb5.size
            clear hc5 hu5 hj5 hs5 hn5 hy5 hb5
            go_wp2_with (go_at_call 35; refine (HBn.out).mono ?_; rintro e w6 ⟨v6, vt6, vu6, out6, rfl, ho6, hp6, hs6, hst6⟩)
            refine bodyPost_ret (v := .tuple #[v6, .bool true]) (by simp [results, Tryd.results14, go_sem]) rfl ⟨(Hid.out BW).trans (((HF.out.2.1.trans hst6).belowC hCW).mono (by omega)), Or.inr (Or.inr (Or.inr ⟨HSH.out, T5, rt, v6, out6, by rw [HPA.out, HPB.out]; exact HF.out.1, by rw [HBA.out]; exact HF.out.2.2.1.1, by rw [HBD.out]; exact HF.out.2.2.1.2, rfl, own_mono' ho6 hwcs, hp6, hs6, by omega⟩))⟩
end Go.Proofs.YtnaiecemmhioeaaDoor
