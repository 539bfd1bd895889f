/-
  (*classes).link.
-/
import Derived.Test.YtnaiecemmhioeaaDoorU3
namespace Go.Proofs.YtnaiecemmhioeaaDoor
open Go.RowKit
attribute [local go_sem ↓] Go.wp_at_zero Go.wp_at_succ

theorem UF.union {n : Nat} {U : List Int} {rt dep : Nat → Nat} (h : UF n U rt dep) {i k : Nat} (hi : i < n) (hk : k < n) (ri : rt i = i) (rk : rt k = k) (hne : ¬ i = k) :
    UF n (U.set k (i : Int)) (fun j => if rt j = k then i else rt j) (fun j => if rt j = k then dep j + dep i + 1 else dep j) := by
  have hik : ¬ rt i = k := by rw [ri]; exact hne
  refine ⟨by simp [h.len], fun j hj => ?_, fun j hj => ?_, fun j hj => ?_⟩
  · by_cases hjk : j = k
    · subst hjk
      refine ⟨i, by rw [List.getElem?_set_self (by rw [h.len]; exact hj)], hi, ?_, fun e => absurd e hne, fun _ => ?_⟩
      · simp only [if_neg hik, if_pos rk]; exact ri
      · simp only [if_neg hik, if_pos rk]; omega
    · obtain ⟨p, h1, h2, h3, h4, h5⟩ := h.up j hj
      refine ⟨p, by rw [List.getElem?_set_ne (fun e => hjk e.symm)]; exact h1, h2, by simp only [h3], fun e => ?_, fun e => ?_⟩
      · have := h4 e
        simp only [if_neg (show ¬ rt j = k by rw [this]; exact hjk)]; exact this
      · have := h5 e
        simp only [h3]
        split <;> omega
  · obtain ⟨h1, h2⟩ := h.root j hj
    by_cases hjk : rt j = k
    · simp only [if_pos hjk]
      refine ⟨hi, ?_⟩
      rw [List.getElem?_set_ne (fun e => hne e.symm)]
      have := (h.root i hi).2
      rwa [ri] at this
    · simp only [if_neg hjk]
      exact ⟨h1, by rw [List.getElem?_set_ne (fun e => hjk e.symm)]; exact h2⟩
  · have := h.out j hj
    simp only [this, if_neg (show ¬ j = k by omega)]
/-- t was added where it was missing. -/
def Ad (T : List Tm) (t : Tm) (T' : List Tm) : Prop := (T' = T ∧ ∃ i : Nat, T[i]? = some t) ∨ ((∀ (m : Nat) (e : Tm), T[m]? = some e → ¬ e = t) ∧ T' = T ++ [t])
theorem bpost_ad {w w' : World} {B C : Nat} {vt vu : Value} {T : List Tm} {rt dep : Nat → Nat} {t : Tm} {e : Ending} (h : BPost w B C vt vu T rt dep t e w') (hout : ∀ i, T.length ≤ i → rt i = i) :
    ∃ (r i : Nat) (vt' vu' : Value) (T' : List Tm) (U' : List Int), e = .returned (.int .i64 r) ∧ CL w' B C vt' vu' T' U' ∧ UF T'.length U' rt dep ∧ Stp w w' C vt vu vt' vu' ∧ Ad T t T' ∧ T'[i]? = some t ∧ r = rt i := by
  obtain ⟨r, vt', vu', T', U', h1, h2, h3, h4, h5⟩ := h
  rcases h5 with ⟨i, a1, rfl, a3, -⟩ | ⟨a1, rfl, a3⟩
  · exact ⟨r, i, vt', vu', _, U', h1, h2, h3, h4, Or.inl ⟨rfl, i, a1⟩, a1, a3⟩
  · exact ⟨r, T.length, vt', vu', _, U', h1, h2, h3, h4, Or.inr ⟨a1, rfl⟩, by simp, by rw [hout _ (Nat.le_refl _)]; exact a3⟩
theorem Stp.box {w w' : World} {C k i : Nat} {vt vu vt' vu' a : Value} (h : Stp w w' C vt vu vt' vu') (hk : w.heap.size ≤ k) : Stp w (w'.setCell ⟨k, i, none⟩ a) C vt vu vt' vu' :=
  ⟨h.os, h.tape, h.output, by simpa [World.setCell] using h.size, fun j hj ha => by rw [heap_setCell_other _ _ _ _ (show j ≠ k by omega)]; exact h.kept j hj ha, h.apart⟩
theorem CL.box {w : World} {B C k i : Nat} {vt vu a : Value} {T : List Tm} {U : List Int} (h : CL w B C vt vu T U) (ha : Apart C vt vu k) : CL (w.setCell ⟨k, i, none⟩ a) B C vt vu T U :=
  ⟨h.lt, by unfold Blk; rw [heap_setCell_other _ _ _ _ (show C ≠ k from fun e => ha.1 e.symm)]; exact h.blk, own_setOther h.ts ha.2.1, own_setOther h.us ha.2.2, h.dis⟩
theorem Ad.len {T T' : List Tm} {t : Tm} (h : Ad T t T') : T'.length ≤ T.length + 1 := by
  rcases h with ⟨rfl, -⟩ | ⟨-, rfl⟩ <;> simp
theorem Ad.get {T T' : List Tm} {t : Tm} (h : Ad T t T') {i : Nat} {e : Tm} (he : T[i]? = some e) : T'[i]? = some e := by
  rcases h with ⟨rfl, -⟩ | ⟨-, rfl⟩
  · exact he
  · rw [List.getElem?_append_left (List.getElem?_eq_some_iff.1 he).1]; exact he
/-- What linking t and u makes of the classes. -/
def Lk (T : List Tm) (rt : Nat → Nat) (t u : Tm) (b : Bool) (T' : List Tm) (rt' : Nat → Nat) : Prop :=
  (t = u ∧ b = true ∧ T' = T ∧ rt' = rt) ∨
  (¬ t = u ∧ ∃ (T1 : List Tm) (it iu : Nat), Ad T t T1 ∧ Ad T1 u T' ∧ T'[it]? = some t ∧ T'[iu]? = some u ∧
    ((rt it = rt iu ∧ b = true ∧ rt' = rt) ∨
     (¬ rt it = rt iu ∧ ∃ x y, T'[rt it]? = some x ∧ T'[rt iu]? = some y ∧
       (((y.var = true ∧ (x.var = false ∨ x.n < y.n)) ∧ b = true ∧ rt' = fun j => if rt j = rt iu then rt it else rt j) ∨
        (¬ (y.var = true ∧ (x.var = false ∨ x.n < y.n)) ∧ x.var = true ∧ b = true ∧ rt' = fun j => if rt j = rt it then rt iu else rt j) ∨
        (x.var = false ∧ y.var = false ∧ b = false ∧ rt' = rt)))))
def LPost (w : World) (B C : Nat) (vt vu : Value) (T : List Tm) (rt : Nat → Nat) (t u : Tm) (e : Ending) (w' : World) : Prop :=
  ∃ (b : Bool) (vt' vu' : Value) (T' : List Tm) (U' : List Int) (rt' dep' : Nat → Nat), e = .returned (.bool b) ∧ CL w' B C vt' vu' T' U' ∧ UF T'.length U' rt' dep' ∧ Stp w w' C vt vu vt' vu' ∧ Lk T rt t u b T' rt'
set_option maxRecDepth 20000 in
set_option maxHeartbeats 1000000 in
theorem link_any (t u : Tm) (B C : Nat) (vt vu : Value) (T : List Tm) (U : List Int) (rt dep : Nat → Nat) (w : World) (h : CL w B C vt vu T U) (hu : UF T.length U rt dep) (hB : B ≤ w.heap.size) (hl : T.length ≤ 1999999999999) :
    Calls Tryd.prog 33 #[.pointer (some ⟨C, 0, none⟩), t.v, u.v] w (LPost w B C vt vu T rt t u) := by
  have hCw := h.blk.lt
  have he := run_eql_tm t u
  have HU : Hid (UF T.length U rt dep) := hu
  have HC : Hid (CL w B C vt vu T U) := h
  have b1 := fun (X : World) (hb : Below w.heap.size w X) => best_any t B C vt vu T U rt dep X (h.later hb) hu (Nat.le_trans hB hb.size) (by omega)
  have HB1 : Hid _ := b1
  have b2 := fun (X : World) (vt1 vu1 : Value) (T1 : List Tm) (U1 : List Int) (h1 : CL X B C vt1 vu1 T1 U1) (h2 : UF T1.length U1 rt dep) (h3 : B ≤ X.heap.size) (h4 : T1.length ≤ 2000000000000) => best_any u B C vt1 vu1 T1 U1 rt dep X h1 h2 h3 h4
  have HB2 : Hid _ := b2
  obtain ⟨tt, htt⟩ : ∃ x, x = t := ⟨_, rfl⟩
  obtain ⟨uu, huu⟩ : ∃ x, x = u := ⟨_, rfl⟩
  obtain ⟨k, n, s⟩ := t
  obtain ⟨k', n', s'⟩ := u
  have HTT : Hid (tt = ⟨k, n, s⟩) := htt
  have HUU : Hid (uu = ⟨k', n', s'⟩) := huu
  clear h hu b1 b2 htt huu
  by_cases htu : Tm.mk k n s = ⟨k', n', s'⟩
  · have HQ : Hid (Tm.mk k n s = ⟨k', n', s'⟩) := htu
    rw [decide_eq_true htu] at he
    clear htu
    go_enter Tryd.func33, Tryd.ntmps33
    go_wp2
    exact bodyPost_ret (v := .bool true) (by simp [results, Tryd.results33, go_sem]) rfl ⟨true, vt, vu, T, U, rt, dep, rfl, HC.out.later (below2 _ _ _), HU.out, Stp.below _ _ _ (below2 _ _ _), Or.inl ⟨HQ.out, rfl, rfl, rfl⟩⟩
  · have HQ : Hid (¬ Tm.mk k n s = ⟨k', n', s'⟩) := htu
    rw [decide_eq_false htu] at he
    clear htu
    go_enter Tryd.func33, Tryd.ntmps33
    go_upto_region 3 with fail
    clear he
    have hb0 := below2 w (.cells #[.int .i64 k, .int .i64 n, .string s] 23) (.cells #[.int .i64 k', .int .i64 n', .string s'] 23)
    have BT := Blk.old w #[.int .i64 k, .int .i64 n, .string s] 23 (.cells #[.int .i64 k', .int .i64 n', .string s'] 23)
    have BU := Blk.new2 w #[.int .i64 k', .int .i64 n', .string s'] 23 (.cells #[.int .i64 k, .int .i64 n, .string s] 23)
    revert hb0 BT BU
    generalize (w.alloc (.cells #[.int .i64 k, .int .i64 n, .string s] 23)).alloc (.cells #[.int .i64 k', .int .i64 n', .string s'] 23) = W1
    intro hb0 BT BU
    have apT := HC.out.fresh (k := w.heap.size) (Nat.le_refl _)
    have apU := HC.out.fresh (k := w.heap.size + 1) (by omega)
    have HAp : Hid (Apart C vt vu w.heap.size ∧ Apart C vt vu (w.heap.size + 1)) := ⟨apT, apU⟩
    clear apT apU
    go_cut [7, 8] from 12 to 17 (fun s7 s8 wx => ∃ (r1 r2 it iu : Nat) (vt2 vu2 : Value) (T1 T2 : List Tm) (U2 : List Int), s7 = .int .i64 r1 ∧ s8 = .int .i64 r2 ∧ CL wx B C vt2 vu2 T2 U2 ∧ UF T2.length U2 rt dep ∧ Stp w wx C vt vu vt2 vu2 ∧ Ad T ⟨k, n, s⟩ T1 ∧ Ad T1 ⟨k', n', s'⟩ T2 ∧ T2[it]? = some ⟨k, n, s⟩ ∧ T2[iu]? = some ⟨k', n', s'⟩ ∧ r1 = rt it ∧ r2 = rt iu ∧ Apart C vt2 vu2 w.heap.size ∧ Apart C vt2 vu2 (w.heap.size + 1) ∧ Blk wx w.heap.size #[.int .i64 k, .int .i64 n, .string s] 23 ∧ Blk wx (w.heap.size + 1) #[.int .i64 k', .int .i64 n', .string s'] 23)
    case first =>
      refine wp_region_held_drew (S := fun w' => Blk w' w.heap.size #[.int .i64 k, .int .i64 n, .string s] 23 ∧ Blk w' (w.heap.size + 1) #[.int .i64 k', .int .i64 n', .string s'] 23) (by kernel_rfl) ⟨Blk.later BT (Below.refl _ _).drew, Blk.later BU (Below.refl _ _).drew⟩ (fun hH => ?_)
      have hbV : Below w.heap.size w W1.drew := hb0.drew
      have lV : w.heap.size + 1 < W1.drew.heap.size := BU.lt
      revert hH hbV lV
      generalize W1.drew = V
      intro hH hbV lV
      clear BT BU hb0
      refine wpAnyH_take (i := 0) (oi := ⟨_, _, _, _, _, _⟩) (v := .pointer (some ⟨C, 0, none⟩)) rfl (by kernel_rfl) (by kernel_rfl) (by kernel_rfl) (fun _ _ _ h => h) (Or.inl ⟨by rfl, fun w' _ => by go_simp⟩) hH ?_
      simp only [Act.put, List.setIfInBounds_toArray, List.set_cons_zero, List.set_cons_succ]
      refine wpAnyH_take (i := 1) (oi := ⟨_, _, _, _, _, _⟩) (v := Tm.v ⟨k, n, s⟩) rfl (by kernel_rfl) (by kernel_rfl) (by kernel_rfl) (fun _ _ _ h => h) (Or.inl ⟨by rfl, fun w' h => by obtain ⟨p0, p1, p2, -, -, -⟩ := three h.1; go_simp⟩) hH ?_
      simp only [Act.put, List.setIfInBounds_toArray, List.set_cons_zero, List.set_cons_succ]
      refine wpAnyH_take (i := 3) (oi := ⟨_, _, _, _, _, _⟩) (v := .pointer (some ⟨C, 0, none⟩)) rfl (by kernel_rfl) (by kernel_rfl) (by kernel_rfl) (fun _ _ _ h => h) (Or.inl ⟨by rfl, fun w' _ => by go_simp⟩) hH ?_
      simp only [Act.put, List.setIfInBounds_toArray, List.set_cons_zero, List.set_cons_succ]
      refine wpAnyH_take (i := 4) (oi := ⟨_, _, _, _, _, _⟩) (v := Tm.v ⟨k', n', s'⟩) rfl (by kernel_rfl) (by kernel_rfl) (by kernel_rfl) (fun _ _ _ h => h) (Or.inl ⟨by rfl, fun w' h => by obtain ⟨p0, p1, p2, -, -, -⟩ := three h.2; go_simp⟩) hH ?_
      simp only [Act.put, List.setIfInBounds_toArray, List.set_cons_zero, List.set_cons_succ]
      refine wpAnyH_ready (rs := [2]) (by kernel_rfl) (by simp) ?_
      refine (AllReadyH.cons (o := ⟨_, _, _, _, _, _⟩) rfl (fun K hK => ?_) AllReadyH.nil)
      go_simp
      refine (HB1.out _ hbV).mono ?_
      intro e V1 hbp
      obtain ⟨r1, it, vt1, vu1, T1, U1, rfl, hc1, hu1, hs1, ha1, hti, hr1⟩ := bpost_ad hbp HU.out.out
      have q1 := hs1.blk hH.1 HAp.out.1
      have q2 := hs1.blk hH.2 HAp.out.2
      have p1 := hs1.apart _ (by omega) HAp.out.1
      have p2 := hs1.apart _ lV HAp.out.2
      have z1 := hs1.size
      refine hK.out _ _ ⟨q1, q2⟩ (fun hH => ?_)
      clear hK K hbp q1 q2
      refine wpAnyH_ready (rs := [5]) (by kernel_rfl) (by simp) ?_
      refine (AllReadyH.cons (o := ⟨_, _, _, _, _, _⟩) rfl (fun K hK => ?_) AllReadyH.nil)
      go_simp
      refine (HB2.out _ _ _ _ _ hc1 hu1 (by omega) (by have := ha1.len; omega)).mono ?_
      intro e V2 hbp
      obtain ⟨r2, iu, vt2, vu2, T2, U2, rfl, hc2, hu2, hs2, ha2, hui, hr2⟩ := bpost_ad hbp hu1.out
      have q1 := hs2.blk hH.1 p1
      have q2 := hs2.blk hH.2 p2
      have p3 := hs2.apart _ (by omega) p1
      have p4 := hs2.apart _ (by omega) p2
      refine hK.out _ _ ⟨q1, q2⟩ (fun hH => ?_)
      clear hK K hbp q1 q2
      refine wpAnyH_take (i := 6) (oi := ⟨_, _, _, _, _, _⟩) (v := .int .i64 r1) rfl (by kernel_rfl) (by kernel_rfl) (by kernel_rfl) (fun _ _ _ h => h) (Or.inl ⟨by rfl, fun w' _ => by go_simp⟩) hH ?_
      simp only [Act.put, List.setIfInBounds_toArray, List.set_cons_zero, List.set_cons_succ]
      refine wpAnyH_take (i := 7) (oi := ⟨_, _, _, _, _, _⟩) (v := .int .i64 r2) rfl (by kernel_rfl) (by kernel_rfl) (by kernel_rfl) (fun _ _ _ h => h) (Or.inl ⟨by rfl, fun w' _ => by go_simp⟩) hH ?_
      simp only [Act.put, List.setIfInBounds_toArray, List.set_cons_zero, List.set_cons_succ]
      refine wpAnyH_done (by kernel_rfl) ?_ _
      have HFin : Hid (CL V2 B C vt2 vu2 T2 U2 ∧ UF T2.length U2 rt dep ∧ Stp w V2 C vt vu vt2 vu2 ∧ Ad T ⟨k, n, s⟩ T1 ∧ Ad T1 ⟨k', n', s'⟩ T2 ∧ T2[it]? = some ⟨k, n, s⟩ ∧ T2[iu]? = some ⟨k', n', s'⟩ ∧ r1 = rt it ∧ r2 = rt iu ∧ Apart C vt2 vu2 w.heap.size ∧ Apart C vt2 vu2 (w.heap.size + 1) ∧ Blk V2 w.heap.size #[.int .i64 k, .int .i64 n, .string s] 23 ∧ Blk V2 (w.heap.size + 1) #[.int .i64 k', .int .i64 n', .string s'] 23) := ⟨hc2, hu2, (Stp.below _ _ _ hbV).trans (hs1.trans hs2), ha1, ha2, ha2.get hti, hui, hr1, hr2, p3, p4, hH.1, hH.2⟩
      clear hc2 hu2 hs1 hs2 ha1 ha2 hti hui hr1 hr2 p1 p2 p3 p4 hH hc1 hu1
      go_wp2_with fail
      go_meet
      case rel => exact ⟨r1, r2, it, iu, vt2, vu2, T1, T2, U2, rfl, rfl, HFin.out⟩
    case rest =>
      obtain ⟨r1, r2, it, iu, vt2, vu2, T1, T2, U2, rfl, rfl, hc2, hu2, hs2, ha1, ha2, hti, hui, hr1, hr2, hp1, hp2, bt, bu⟩ := hcut
      have hitn : it < T2.length := (List.getElem?_eq_some_iff.1 hti).1
      have hiun : iu < T2.length := (List.getElem?_eq_some_iff.1 hui).1
      have hr1n : r1 < T2.length := by rw [hr1]; exact (hu2.root it hitn).1
      have hr2n : r2 < T2.length := by rw [hr2]; exact (hu2.root iu hiun).1
      have hT2 : T2.length ≤ 2000000000002 := by have := ha1.len; have := ha2.len; omega
      have HC2 : Hid (CL wc B C vt2 vu2 T2 U2) := hc2
      have HU2 : Hid (UF T2.length U2 rt dep) := hu2
      have HS2 : Hid (Stp w wc C vt vu vt2 vu2) := hs2
      have HAd : Hid (Ad T ⟨k, n, s⟩ T1 ∧ Ad T1 ⟨k', n', s'⟩ T2 ∧ T2[it]? = some ⟨k, n, s⟩ ∧ T2[iu]? = some ⟨k', n', s'⟩) := ⟨ha1, ha2, hti, hui⟩
      have HR1 : Hid (r1 = rt it) := hr1
      have HR2 : Hid (r2 = rt iu) := hr2
      have HP : Hid (Apart C vt2 vu2 w.heap.size ∧ Apart C vt2 vu2 (w.heap.size + 1)) := ⟨hp1, hp2⟩
      have BT2 : Hid (Blk wc w.heap.size #[.int .i64 k, .int .i64 n, .string s] 23) := bt
      have BU2 : Hid (Blk wc (w.heap.size + 1) #[.int .i64 k', .int .i64 n', .string s'] 23) := bu
      obtain ⟨gt, tc, hvt, -, -⟩ := World.ownsRow.form hc2.ts (by omega)
      obtain ⟨gu, uc, hvu, -, -⟩ := World.ownsRow.form hc2.us (by rw [hu2.len]; omega)
      subst hvt hvu
      clear hc2 hu2 hs2 ha1 ha2 hti hui hr1 hr2 hp1 hp2 bt bu hb0 BT BU
      obtain ⟨W3, hW3⟩ : ∃ W3, W3 = wc := ⟨_, rfl⟩
      subst hW3
      by_cases hrr : r1 = r2
      · have hq : ((r1 : Int) == (r2 : Int)) = true := by simp [hrr]
        have HRR : Hid (rt it = rt iu) := by show _ = _; rw [← HR1.out, ← HR2.out, hrr]
        clear hrr
        go_wp2
        exact bodyPost_ret (v := .bool true) (by simp [results, Tryd.results33, go_sem]) rfl ⟨true, _, _, T2, U2, rt, dep, rfl, HC2.out, HU2.out, Hid.out HS2, Or.inr ⟨HQ.out, T1, it, iu, HAd.out.1, HAd.out.2.1, HAd.out.2.2.1, HAd.out.2.2.2, Or.inl ⟨HRR.out, rfl, rfl⟩⟩⟩
      · have hq : ((r1 : Int) == (r2 : Int)) = false := beq_eq_false_iff_ne.2 (by omega)
        have HNE : Hid (¬ r1 = r2) := hrr
        clear hrr
        obtain ⟨⟨xk, xn, xs⟩, hx⟩ : ∃ x, T2[r1]? = some x := ⟨_, List.getElem?_eq_getElem hr1n⟩
        obtain ⟨⟨yk, yn, ys⟩, hy⟩ : ∃ x, T2[r2]? = some x := ⟨_, List.getElem?_eq_getElem hr2n⟩
        have HX : Hid (T2[r1]? = some ⟨xk, xn, xs⟩) := hx
        have HY : Hid (T2[r2]? = some ⟨yk, yn, ys⟩) := hy
        clear hx hy
        have i1 : (0 : Int) ≤ (r1 : Int) := by omega
        have i2 : (r1 : Int) < (T2.length : Int) := by omega
        have i3 : (0 : Int) ≤ (r2 : Int) := by omega
        have i4 : (r2 : Int) < (T2.length : Int) := by omega
        go_upto_region 6 with fail
        go_cut [] from 21 to 34 (fun wx => CL wx B C (.slice (some ⟨gt, 0, none⟩) T2.length tc) (.slice (some ⟨gu, 0, none⟩) U2.length uc) T2 U2 ∧ Stp w wx C vt vu (.slice (some ⟨gt, 0, none⟩) T2.length tc) (.slice (some ⟨gu, 0, none⟩) U2.length uc) ∧ Blk wx w.heap.size #[.int .i64 xk, .int .i64 xn, .string xs] 23 ∧ Blk wx (w.heap.size + 1) #[.int .i64 yk, .int .i64 yn, .string ys] 23)
        case first =>
          refine wp_region_held_drew (S := fun w' => CL w' B C (.slice (some ⟨gt, 0, none⟩) T2.length tc) (.slice (some ⟨gu, 0, none⟩) U2.length uc) T2 U2) (by kernel_rfl) (HC2.out.drew) (fun hH => ?_)
          have bt := Blk.later (Hid.out BT2) (Below.refl _ _).drew
          have bu := Blk.later (Hid.out BU2) (Below.refl _ _).drew
          have sV : Stp w W3.drew C vt vu (.slice (some ⟨gt, 0, none⟩) T2.length tc) (.slice (some ⟨gu, 0, none⟩) U2.length uc) := (Hid.out HS2).trans (Stp.below _ _ _ (Below.refl _ _).drew)
          revert hH bt bu sV
          generalize W3.drew = V
          intro hH bt bu sV
          refine wpAnyH_take (i := 0) (oi := ⟨_, _, _, _, _, _⟩) (v := .pointer (some ⟨C, 0, none⟩)) rfl (by kernel_rfl) (by kernel_rfl) (by kernel_rfl) (fun _ _ _ h => h) (Or.inl ⟨by rfl, fun w' _ => by go_simp⟩) hH ?_
          simp only [Act.put, List.setIfInBounds_toArray, List.set_cons_zero, List.set_cons_succ]
          refine wpAnyH_take (i := 1) (oi := ⟨_, _, _, _, _, _⟩) (v := .pointer (some ⟨C, 0, none⟩)) rfl (by kernel_rfl) (by kernel_rfl) (by kernel_rfl) (fun _ _ _ h => h) (Or.inl ⟨by rfl, fun w' _ => by go_simp⟩) hH ?_
          simp only [Act.put, List.setIfInBounds_toArray, List.set_cons_zero, List.set_cons_succ]
          refine wpAnyH_take (i := 2) (oi := ⟨_, _, _, _, _, _⟩) (v := .pointer (some ⟨C, 0, none⟩)) rfl (by kernel_rfl) (by kernel_rfl) (by kernel_rfl) (fun _ _ _ h => h) (Or.inl ⟨by rfl, fun w' _ => by go_simp⟩) hH ?_
          simp only [Act.put, List.setIfInBounds_toArray, List.set_cons_zero, List.set_cons_succ]
          refine wpAnyH_take (i := 3) (oi := ⟨_, _, _, _, _, _⟩) (v := .slice (some ⟨gt, 0, none⟩) T2.length tc) rfl (by kernel_rfl) (by kernel_rfl) (by kernel_rfl) (fun _ _ _ h => h) (Or.inl ⟨by rfl, fun w' h => by have a0 := (two h.blk).1; go_simp⟩) hH ?_
          simp only [Act.put, List.setIfInBounds_toArray, List.set_cons_zero, List.set_cons_succ]
          refine wpAnyH_take (i := 4) (oi := ⟨_, _, _, _, _, _⟩) (v := .int .i64 r1) rfl (by kernel_rfl) (by kernel_rfl) (by kernel_rfl) (fun _ _ _ h => h) (Or.inl ⟨by rfl, fun w' _ => by go_simp⟩) hH ?_
          simp only [Act.put, List.setIfInBounds_toArray, List.set_cons_zero, List.set_cons_succ]
          refine wpAnyH_take (i := 5) (oi := ⟨_, _, _, _, _, _⟩) (v := .pointer (some ⟨gt, r1 * 3, none⟩)) rfl (by kernel_rfl) (by kernel_rfl) (by kernel_rfl) (fun _ _ _ h => h) (Or.inl ⟨by rfl, fun w' _ => by go_simp⟩) hH ?_
          simp only [Act.put, List.setIfInBounds_toArray, List.set_cons_zero, List.set_cons_succ]
          refine wpAnyH_take (i := 6) (oi := ⟨_, _, _, _, _, _⟩) (v := Tm.v ⟨xk, xn, xs⟩) rfl (by kernel_rfl) (by kernel_rfl) (by kernel_rfl) (fun _ _ _ h => h) (Or.inl ⟨by rfl, fun w' h => by obtain ⟨a0, a1, a2⟩ := ownT_cells h.ts r1 _ HX.out; go_simp⟩) hH ?_
          simp only [Act.put, List.setIfInBounds_toArray, List.set_cons_zero, List.set_cons_succ]
          refine wpAnyH_take (i := 7) (oi := ⟨_, _, _, _, _, _⟩) (v := .pointer (some ⟨C, 0, none⟩)) rfl (by kernel_rfl) (by kernel_rfl) (by kernel_rfl) (fun _ _ _ h => h) (Or.inl ⟨by rfl, fun w' _ => by go_simp⟩) hH ?_
          simp only [Act.put, List.setIfInBounds_toArray, List.set_cons_zero, List.set_cons_succ]
          refine wpAnyH_take (i := 8) (oi := ⟨_, _, _, _, _, _⟩) (v := .pointer (some ⟨C, 0, none⟩)) rfl (by kernel_rfl) (by kernel_rfl) (by kernel_rfl) (fun _ _ _ h => h) (Or.inl ⟨by rfl, fun w' _ => by go_simp⟩) hH ?_
          simp only [Act.put, List.setIfInBounds_toArray, List.set_cons_zero, List.set_cons_succ]
          refine wpAnyH_take (i := 9) (oi := ⟨_, _, _, _, _, _⟩) (v := .pointer (some ⟨C, 0, none⟩)) rfl (by kernel_rfl) (by kernel_rfl) (by kernel_rfl) (fun _ _ _ h => h) (Or.inl ⟨by rfl, fun w' _ => by go_simp⟩) hH ?_
          simp only [Act.put, List.setIfInBounds_toArray, List.set_cons_zero, List.set_cons_succ]
          refine wpAnyH_take (i := 10) (oi := ⟨_, _, _, _, _, _⟩) (v := .slice (some ⟨gt, 0, none⟩) T2.length tc) rfl (by kernel_rfl) (by kernel_rfl) (by kernel_rfl) (fun _ _ _ h => h) (Or.inl ⟨by rfl, fun w' h => by have a0 := (two h.blk).1; go_simp⟩) hH ?_
          simp only [Act.put, List.setIfInBounds_toArray, List.set_cons_zero, List.set_cons_succ]
          refine wpAnyH_take (i := 11) (oi := ⟨_, _, _, _, _, _⟩) (v := .int .i64 r2) rfl (by kernel_rfl) (by kernel_rfl) (by kernel_rfl) (fun _ _ _ h => h) (Or.inl ⟨by rfl, fun w' _ => by go_simp⟩) hH ?_
          simp only [Act.put, List.setIfInBounds_toArray, List.set_cons_zero, List.set_cons_succ]
          refine wpAnyH_take (i := 12) (oi := ⟨_, _, _, _, _, _⟩) (v := .pointer (some ⟨gt, r2 * 3, none⟩)) rfl (by kernel_rfl) (by kernel_rfl) (by kernel_rfl) (fun _ _ _ h => h) (Or.inl ⟨by rfl, fun w' _ => by go_simp⟩) hH ?_
          simp only [Act.put, List.setIfInBounds_toArray, List.set_cons_zero, List.set_cons_succ]
          refine wpAnyH_take (i := 13) (oi := ⟨_, _, _, _, _, _⟩) (v := Tm.v ⟨yk, yn, ys⟩) rfl (by kernel_rfl) (by kernel_rfl) (by kernel_rfl) (fun _ _ _ h => h) (Or.inl ⟨by rfl, fun w' h => by obtain ⟨a0, a1, a2⟩ := ownT_cells h.ts r2 _ HY.out; go_simp⟩) hH ?_
          simp only [Act.put, List.setIfInBounds_toArray, List.set_cons_zero, List.set_cons_succ]
          refine wpAnyH_ready (rs := [14]) (by kernel_rfl) (by simp) ?_
          refine (AllReadyH.cons (o := ⟨_, _, _, _, _, _⟩) rfl (fun K hK => ?_) AllReadyH.nil)
          obtain ⟨d0, d1, d2, f0, f1, f2⟩ := three bt
          go_simp
          clear d0 d1 d2 f0 f1 f2
          have hC := CL.box (i := 2) (a := .string xs) (CL.box (i := 1) (a := .int .i64 xn) (CL.box (i := 0) (a := .int .i64 xk) hH HP.out.1) HP.out.1) HP.out.1
          refine hK.out _ _ hC (fun hH => ?_)
          clear hK K hC
          have bt2 := store3 (a' := .int .i64 xk) (b' := .int .i64 xn) (c' := .string xs) bt
          have bu2 : Blk (((V.setCell ⟨w.heap.size, 0, none⟩ (.int .i64 xk)).setCell ⟨w.heap.size, 1, none⟩ (.int .i64 xn)).setCell ⟨w.heap.size, 2, none⟩ (.string xs)) (w.heap.size + 1) #[.int .i64 k', .int .i64 n', .string s'] 23 := by unfold Blk; rw [heap_setCell_other _ _ _ _ (show w.heap.size + 1 ≠ w.heap.size by omega), heap_setCell_other _ _ _ _ (show w.heap.size + 1 ≠ w.heap.size by omega), heap_setCell_other _ _ _ _ (show w.heap.size + 1 ≠ w.heap.size by omega)]; exact bu
          have sV2 := Stp.box (i := 2) (a := .string xs) (Stp.box (i := 1) (a := .int .i64 xn) (Stp.box (i := 0) (a := .int .i64 xk) sV (Nat.le_refl _)) (Nat.le_refl _)) (Nat.le_refl _)
          revert hH bt2 bu2 sV2
          generalize (((V.setCell ⟨w.heap.size, 0, none⟩ (.int .i64 xk)).setCell ⟨w.heap.size, 1, none⟩ (.int .i64 xn)).setCell ⟨w.heap.size, 2, none⟩ (.string xs)) = Va
          intro hH bt2 bu2 sV2
          clear bt bu sV
          refine wpAnyH_ready (rs := [15]) (by kernel_rfl) (by simp) ?_
          refine (AllReadyH.cons (o := ⟨_, _, _, _, _, _⟩) rfl (fun K hK => ?_) AllReadyH.nil)
          obtain ⟨d0, d1, d2, f0, f1, f2⟩ := three bu2
          go_simp
          clear d0 d1 d2 f0 f1 f2
          have hC := CL.box (i := 2) (a := .string ys) (CL.box (i := 1) (a := .int .i64 yn) (CL.box (i := 0) (a := .int .i64 yk) hH HP.out.2) HP.out.2) HP.out.2
          refine hK.out _ _ hC (fun hH => ?_)
          clear hK K hC
          have bu3 := store3 (a' := .int .i64 yk) (b' := .int .i64 yn) (c' := .string ys) bu2
          have bt3 : Blk (((Va.setCell ⟨w.heap.size + 1, 0, none⟩ (.int .i64 yk)).setCell ⟨w.heap.size + 1, 1, none⟩ (.int .i64 yn)).setCell ⟨w.heap.size + 1, 2, none⟩ (.string ys)) w.heap.size #[.int .i64 xk, .int .i64 xn, .string xs] 23 := by unfold Blk; rw [heap_setCell_other _ _ _ _ (show w.heap.size ≠ w.heap.size + 1 by omega), heap_setCell_other _ _ _ _ (show w.heap.size ≠ w.heap.size + 1 by omega), heap_setCell_other _ _ _ _ (show w.heap.size ≠ w.heap.size + 1 by omega)]; exact bt2
          have sV3 := Stp.box (i := 2) (a := .string ys) (Stp.box (i := 1) (a := .int .i64 yn) (Stp.box (i := 0) (a := .int .i64 yk) sV2 (Nat.le_succ _)) (Nat.le_succ _)) (Nat.le_succ _)
          revert hH bu3 bt3 sV3
          generalize (((Va.setCell ⟨w.heap.size + 1, 0, none⟩ (.int .i64 yk)).setCell ⟨w.heap.size + 1, 1, none⟩ (.int .i64 yn)).setCell ⟨w.heap.size + 1, 2, none⟩ (.string ys)) = Vb
          intro hH bu3 bt3 sV3
          clear bt2 bu2 sV2
          refine wpAnyH_done (by kernel_rfl) ?_ _
          have HFin : Hid _ := And.intro hH (And.intro sV3 (And.intro bt3 bu3))
          clear hH bt3 bu3 sV3
          go_wp2_with fail
          go_meet
          case rel => exact HFin.out
        case rest =>
          obtain ⟨hcX, hsX, btX, buX⟩ := hcut
          obtain ⟨X, hX⟩ : ∃ X, X = wc := ⟨_, rfl⟩
          subst hX
          have HCX : Hid (CL X B C (.slice (some ⟨gt, 0, none⟩) T2.length tc) (.slice (some ⟨gu, 0, none⟩) U2.length uc) T2 U2) := hcX
          have HSX : Hid (Stp w X C vt vu (.slice (some ⟨gt, 0, none⟩) T2.length tc) (.slice (some ⟨gu, 0, none⟩) U2.length uc)) := hsX
          have BTX : Hid (Blk X w.heap.size #[.int .i64 xk, .int .i64 xn, .string xs] 23) := btX
          have BUX : Hid (Blk X (w.heap.size + 1) #[.int .i64 yk, .int .i64 yn, .string ys] 23) := buX
          have HUl : Hid (U2.length = T2.length) := HU2.out.len
          have j2 : (r1 : Int) < (U2.length : Int) := by have := HUl.out; omega
          have j4 : (r2 : Int) < (U2.length : Int) := by have := HUl.out; omega
          obtain ⟨e1, he1⟩ : ∃ e : Int, U2[r1]? = some e := ⟨_, List.getElem?_eq_getElem (by have := HUl.out; omega)⟩
          obtain ⟨e2, he2⟩ : ∃ e : Int, U2[r2]? = some e := ⟨_, List.getElem?_eq_getElem (by have := HUl.out; omega)⟩
          have HE1 : Hid (U2[r1]? = some e1) := he1
          have HE2 : Hid (U2[r2]? = some e2) := he2
          obtain ⟨t0, t1, t2, -, -, -⟩ := three btX
          obtain ⟨u0, u1, u2, -, -, -⟩ := three buX
          have HB : Hid (Below X.heap.size X X) := Below.refl _ _
          have hri : rt r1 = r1 := by rw [HR1.out]; exact HU2.out.idem it
          have hrk : rt r2 = r2 := by rw [HR2.out]; exact HU2.out.idem iu
          have HF1 : Hid (UF T2.length (U2.set r2 (r1 : Int)) (fun j => if rt j = r2 then r1 else rt j) (fun j => if rt j = r2 then dep j + dep r1 + 1 else dep j)) := HU2.out.union hr1n hr2n hri hrk HNE.out
          have HF2 : Hid (UF T2.length (U2.set r1 (r2 : Int)) (fun j => if rt j = r1 then r2 else rt j) (fun j => if rt j = r1 then dep j + dep r2 + 1 else dep j)) := HU2.out.union hr2n hr1n hrk hri (fun e => HNE.out e.symm)
          have HLk : Hid (∀ b rt', (((Tm.var ⟨yk, yn, ys⟩ = true ∧ (Tm.var ⟨xk, xn, xs⟩ = false ∨ xn < yn)) ∧ b = true ∧ rt' = fun j => if rt j = r2 then r1 else rt j) ∨ (¬ (Tm.var ⟨yk, yn, ys⟩ = true ∧ (Tm.var ⟨xk, xn, xs⟩ = false ∨ xn < yn)) ∧ Tm.var ⟨xk, xn, xs⟩ = true ∧ b = true ∧ rt' = fun j => if rt j = r1 then r2 else rt j) ∨ (Tm.var ⟨xk, xn, xs⟩ = false ∧ Tm.var ⟨yk, yn, ys⟩ = false ∧ b = false ∧ rt' = rt)) → Lk T rt ⟨k, n, s⟩ ⟨k', n', s'⟩ b T2 rt') := fun b rt' hh => by
            refine Or.inr ⟨HQ.out, T1, it, iu, HAd.out.1, HAd.out.2.1, HAd.out.2.2.1, HAd.out.2.2.2, Or.inr ⟨?_, ⟨xk, xn, xs⟩, ⟨yk, yn, ys⟩, ?_, ?_, ?_⟩⟩
            · rw [← HR1.out, ← HR2.out]; exact HNE.out
            · rw [← HR1.out]; exact HX.out
            · rw [← HR2.out]; exact HY.out
            · rw [← HR1.out, ← HR2.out]; exact hh
          clear hcX hsX btX buX he1 he2 hri hrk
          cases hvy : Tm.var ⟨yk, yn, ys⟩
          · have HVY : Hid (Tm.var ⟨yk, yn, ys⟩ = false) := hvy
            clear hvy
            cases hvx : Tm.var ⟨xk, xn, xs⟩
            · have HVX : Hid (Tm.var ⟨xk, xn, xs⟩ = false) := hvx
              clear hvx
              go_wp2_with (go_at_call 27; refine (var_any ⟨_, _, _⟩ _).mono ?_; (first | rw [HVY.out] | rw [HVX.out]); rintro e wv ⟨rfl, hbv⟩; have HBn := below_step (Hid.out HB) hbv; clear HB hbv t0 t1 t2 u0 u1 u2; have HB : Hid (Below X.heap.size X _) := HBn; clear HBn; obtain ⟨t0, t1, t2, -, -, -⟩ := three (Blk.later (Hid.out BTX) (Hid.out HB)); obtain ⟨u0, u1, u2, -, -, -⟩ := three (Blk.later (Hid.out BUX) (Hid.out HB)))
              exact bodyPost_ret (v := .bool false) (by simp [results, Tryd.results33, go_sem]) rfl ⟨false, _, _, T2, U2, rt, dep, rfl, HCX.out.later (Hid.out HB), HU2.out, (Hid.out HSX).trans (Stp.below _ _ _ (Hid.out HB)), HLk.out _ _ (Or.inr (Or.inr ⟨HVX.out, HVY.out, rfl, rfl⟩))⟩
            · have HVX : Hid (Tm.var ⟨xk, xn, xs⟩ = true) := hvx
              clear hvx
              go_upto_region 11 with (go_at_call 27; refine (var_any ⟨_, _, _⟩ _).mono ?_; (first | rw [HVY.out] | rw [HVX.out]); rintro e wv ⟨rfl, hbv⟩; have HBn := below_step (Hid.out HB) hbv; clear HB hbv t0 t1 t2 u0 u1 u2; have HB : Hid (Below X.heap.size X _) := HBn; clear HBn; obtain ⟨t0, t1, t2, -, -, -⟩ := three (Blk.later (Hid.out BTX) (Hid.out HB)); obtain ⟨u0, u1, u2, -, -, -⟩ := three (Blk.later (Hid.out BUX) (Hid.out HB)))
              have hcY := HCX.out.later (Hid.out HB)
              obtain ⟨c0, c1, -, -⟩ := two hcY.blk
              have a0 := ownI_cells hcY.us r1 _ HE1.out
              have f0 := World.ownsRow.frozenAt hcY.us r1
              have P := CL.setU (j := r1) (x := (r2 : Int)) hcY
              have HPP : Hid _ := P
              clear hcY P t0 t1 t2 u0 u1 u2
              go_wp2
              exact bodyPost_ret (v := .bool true) (by simp [results, Tryd.results33, go_sem]) rfl ⟨true, _, _, T2, _, _, _, rfl, (Hid.out HPP).1, HF2.out, (Hid.out HSX).trans ((Stp.below _ _ _ (Hid.out HB)).trans (Hid.out HPP).2), HLk.out _ _ (Or.inr (Or.inl ⟨(fun hh => by have h1 := hh.1; rw [HVY.out] at h1; cases h1), HVX.out, rfl, rfl⟩))⟩
          · have HVY : Hid (Tm.var ⟨yk, yn, ys⟩ = true) := hvy
            clear hvy
            cases hvx : Tm.var ⟨xk, xn, xs⟩
            · have HVX : Hid (Tm.var ⟨xk, xn, xs⟩ = false) := hvx
              clear hvx
              go_upto_region 9 with (go_at_call 27; refine (var_any ⟨_, _, _⟩ _).mono ?_; (first | rw [HVY.out] | rw [HVX.out]); rintro e wv ⟨rfl, hbv⟩; have HBn := below_step (Hid.out HB) hbv; clear HB hbv t0 t1 t2 u0 u1 u2; have HB : Hid (Below X.heap.size X _) := HBn; clear HBn; obtain ⟨t0, t1, t2, -, -, -⟩ := three (Blk.later (Hid.out BTX) (Hid.out HB)); obtain ⟨u0, u1, u2, -, -, -⟩ := three (Blk.later (Hid.out BUX) (Hid.out HB)))
              have hcY := HCX.out.later (Hid.out HB)
              obtain ⟨c0, c1, -, -⟩ := two hcY.blk
              have a0 := ownI_cells hcY.us r2 _ HE2.out
              have f0 := World.ownsRow.frozenAt hcY.us r2
              have P := CL.setU (j := r2) (x := (r1 : Int)) hcY
              have HPP : Hid _ := P
              clear hcY P t0 t1 t2 u0 u1 u2
              go_wp2
              exact bodyPost_ret (v := .bool true) (by simp [results, Tryd.results33, go_sem]) rfl ⟨true, _, _, T2, _, _, _, rfl, (Hid.out HPP).1, HF1.out, (Hid.out HSX).trans ((Stp.below _ _ _ (Hid.out HB)).trans (Hid.out HPP).2), HLk.out _ _ (Or.inl ⟨⟨HVY.out, Or.inl HVX.out⟩, rfl, rfl⟩)⟩
            · have HVX : Hid (Tm.var ⟨xk, xn, xs⟩ = true) := hvx
              clear hvx
              by_cases hlt : xn < yn
              · have HLT : Hid (xn < yn) := hlt
                go_upto_region 9 with (go_at_call 27; refine (var_any ⟨_, _, _⟩ _).mono ?_; (first | rw [HVY.out] | rw [HVX.out]); rintro e wv ⟨rfl, hbv⟩; have HBn := below_step (Hid.out HB) hbv; clear HB hbv t0 t1 t2 u0 u1 u2; have HB : Hid (Below X.heap.size X _) := HBn; clear HBn; obtain ⟨t0, t1, t2, -, -, -⟩ := three (Blk.later (Hid.out BTX) (Hid.out HB)); obtain ⟨u0, u1, u2, -, -, -⟩ := three (Blk.later (Hid.out BUX) (Hid.out HB)))
                have hcY := HCX.out.later (Hid.out HB)
                obtain ⟨c0, c1, -, -⟩ := two hcY.blk
                have a0 := ownI_cells hcY.us r2 _ HE2.out
                have f0 := World.ownsRow.frozenAt hcY.us r2
                have P := CL.setU (j := r2) (x := (r1 : Int)) hcY
                have HPP : Hid _ := P
                clear hcY P t0 t1 t2 u0 u1 u2
                go_wp2
                exact bodyPost_ret (v := .bool true) (by simp [results, Tryd.results33, go_sem]) rfl ⟨true, _, _, T2, _, _, _, rfl, (Hid.out HPP).1, HF1.out, (Hid.out HSX).trans ((Stp.below _ _ _ (Hid.out HB)).trans (Hid.out HPP).2), HLk.out _ _ (Or.inl ⟨⟨HVY.out, Or.inr HLT.out⟩, rfl, rfl⟩)⟩
              · have HLT : Hid (¬ xn < yn) := hlt
                go_upto_region 11 with (go_at_call 27; refine (var_any ⟨_, _, _⟩ _).mono ?_; (first | rw [HVY.out] | rw [HVX.out]); rintro e wv ⟨rfl, hbv⟩; have HBn := below_step (Hid.out HB) hbv; clear HB hbv t0 t1 t2 u0 u1 u2; have HB : Hid (Below X.heap.size X _) := HBn; clear HBn; obtain ⟨t0, t1, t2, -, -, -⟩ := three (Blk.later (Hid.out BTX) (Hid.out HB)); obtain ⟨u0, u1, u2, -, -, -⟩ := three (Blk.later (Hid.out BUX) (Hid.out HB)))
                have hcY := HCX.out.later (Hid.out HB)
                obtain ⟨c0, c1, -, -⟩ := two hcY.blk
                have a0 := ownI_cells hcY.us r1 _ HE1.out
                have f0 := World.ownsRow.frozenAt hcY.us r1
                have P := CL.setU (j := r1) (x := (r2 : Int)) hcY
                have HPP : Hid _ := P
                clear hcY P t0 t1 t2 u0 u1 u2
                go_wp2
                exact bodyPost_ret (v := .bool true) (by simp [results, Tryd.results33, go_sem]) rfl ⟨true, _, _, T2, _, _, _, rfl, (Hid.out HPP).1, HF2.out, (Hid.out HSX).trans ((Stp.below _ _ _ (Hid.out HB)).trans (Hid.out HPP).2), HLk.out _ _ (Or.inr (Or.inl ⟨(fun hh => by rcases hh.2 with h | h; (rw [HVX.out] at h; cases h); (have := HLT.out; omega)), HVX.out, rfl, rfl⟩))⟩
end Go.Proofs.YtnaiecemmhioeaaDoor
