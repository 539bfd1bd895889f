/-
  hearsaylaw04.TokensPlaces: the walk.
-/
import Derived.Test.YtkobpmekonaemaaDoorK21
namespace Go.Proofs.YtkobpmekonaemaaDoor
open Go.RowKit

theorem places_plain (s : ByteArray) (h : (cutL (bl s) s.size).2.1 = 0) : Pl (bl s) 0 (cutL (bl s) s.size).1 := by
  rw [cutL_all] at h ⊢
  obtain ⟨T, hT, hP⟩ := ct_places (bl s) (s.size + 1) 0 0 [] false (by rw [List.drop_zero, bl_len]; omega) (Nat.le_refl _) (Nat.zero_le _) rfl (fun h => by cases h) (by rw [List.drop_zero]; exact h)
  rw [List.drop_zero, List.nil_append] at hT
  rw [hT]; exact hP
theorem pl_len (l : List Int) : ∀ (T : List Tk) (off : Nat), Pl l off T → T.length + off ≤ l.length
  | [], off, h => by simpa using h.1
  | t :: T, off, ⟨a, len, _, _, h1, h2, _, _, _, h3⟩ => by
    have := pl_len l T (a + len) h3
    simp only [List.length_cons]; omega
theorem bl_seg (s : ByteArray) (i j : Nat) : bl (s.extract i j) = ((bl s).drop i).take (j - i) := by
  rw [extract_eq, bl_ofL (byt_take (byt_drop (bl_byt s) i) _)]
theorem ks_zero {w : World} {g cap : Nat} {t : Tk} (h : Ks w (.slice (some ⟨g, 0, none⟩) 1 cap) [t]) : g < w.heap.size ∧ w.cell? ⟨g, 0, none⟩ = some (.int .i64 t.k) ∧ w.cell? ⟨g, 1, none⟩ = some (.string t.x) ∧ w.cell? ⟨g, 2, none⟩ = some (.int .i64 t.n) ∧ w.cell? ⟨g, 3, none⟩ = some (.int .i64 t.a) ∧ w.cell? ⟨g, 4, none⟩ = some (.int .i64 t.e) := by
  obtain ⟨a, cap', hv, h⟩ := h
  simp only [Value.slice.injEq] at hv
  obtain ⟨rfl, -, rfl⟩ := hv
  rcases h with h | ⟨b, o, hbo, hlt, hm⟩
  · cases h
  · simp only [Option.some.injEq, Addr.mk.injEq, and_true] at hbo
    obtain ⟨rfl, rfl⟩ := hbo
    have := hm 0 t rfl
    exact ⟨hlt, this⟩
set_option maxRecDepth 20000 in
set_option maxHeartbeats 2000000 in
theorem places_any (s : ByteArray) (hs : s.size ≤ 2000000) (w : World) (hE : EnvOk w) :
    Calls Tryd.prog 5 #[.string s] w fun e w' => e = .returned (.bool true) ∧ Below w.heap.size w w' := by
  have HE : Hid (EnvOk w) := hE
  have ch := fun (X : World) (h : EnvOk X) => head_any X h
  have c1 := fun (X : World) (h : EnvOk X) => cut_any s s.size (by omega) X h
  have HP0 : Hid ((cutL (bl s) s.size).2.1 = 0 → Pl (bl s) 0 (cutL (bl s) s.size).1) := places_plain s
  obtain ⟨⟨T, E0, P0⟩, hR⟩ : ∃ R, cutL (bl s) s.size = R := ⟨_, rfl⟩
  rw [hR] at c1 HP0
  clear hR hE
  have c1' : ∀ (X : World), EnvOk X → Calls Tryd.prog 13 #[.string s, .int .i64 s.size] X fun e w' => ∃ v', e = .returned (.tuple #[v', .agg #[.int .i64 E0, .int .i64 P0]]) ∧ OwnK w' X.heap.size v' T ∧ Below X.heap.size X w' := fun X h => (c1 X h).mono fun e w' h => h
  clear c1
  go_enter Tryd.func5, Tryd.ntmps5
  go_upto_region 2 with (go_at_call 13; refine (c1' _ HE.out).mono ?_; rintro e w1 ⟨v, rfl, ho, hb1⟩)
  have bx := below1 w1 (.cells #[.int .i64 E0, .int .i64 P0] 27)
  have fx := Blk.new w1 #[.int .i64 E0, .int .i64 P0] 27
  have hks := (ho.later bx).ks
  revert bx fx hks
  generalize w1.alloc (.cells #[.int .i64 E0, .int .i64 P0] 27) = W0
  intro bx fx hks
  have HF0 : Hid (Blk W0 w1.heap.size #[.int .i64 E0, .int .i64 P0] 27) := fx
  have HB0 : Hid (Below w.heap.size w W0) := below_step hb1 bx
  have HE0 : Hid (EnvOk W0) := HE.out.later (below_step hb1 bx)
  have HKS0 : Hid (Ks W0 v T) := hks
  clear bx fx hb1 ho hks c1'
  go_upto_region 4 with (go_at_call 14; refine (ch _ HE0.out).mono ?_; rintro e W ⟨rfl, hb2⟩)
  have HB : Hid (Below w.heap.size w W) := below_step HB0.out hb2
  have HEW : Hid (EnvOk W) := HE0.out.later hb2
  have HKS : Hid (Ks W v T) := HKS0.out.later hb2
  obtain ⟨b0, b1, -, -⟩ := two (HF0.out.later hb2)
  clear hb2 ch
  by_cases hz : E0 = 0
  · have hP := HP0.out hz
    have hTl := pl_len _ _ _ hP
    rw [bl_len] at hTl
    have HP : Hid (Pl (bl s) 0 T) := hP
    subst hz
    obtain ⟨va, vc, hv, -⟩ := HKS.out
    subst hv
    clear hP HP0
    go_wp2
    clear b0 b1
    go_loopg [5, 6] T.length (fun g f i wr => ∃ (i' off : Nat), i' + g = T.length ∧ f = .int .i64 (off : Int) ∧ i = .int .i64 (i' : Int) ∧ Pl (bl s) off (T.drop i') ∧ Below W.heap.size W wr)
    case atStart => exact ⟨0, 0, by omega, rfl, rfl, HP.out, Below.refl _ _⟩
    case round =>
      obtain ⟨i, off, hi, rfl, rfl, hPl, hbr⟩ := hrel
      have HBr : Hid (Below W.heap.size W wr) := hbr
      have HEr : Hid (EnvOk wr) := HEW.out.later hbr
      cases gk with
      | succ g =>
        have hlt : i < T.length := by omega
        have i0 : (0 : Int) ≤ (i : Int) := by omega
        have i1 : (i : Int) < (T.length : Int) := by omega
        obtain ⟨t, ht⟩ : ∃ t, T[i]? = some t := ⟨_, List.getElem?_eq_getElem hlt⟩
        have hd : T.drop i = t :: T.drop (i + 1) := by rw [List.drop_eq_getElem_cons hlt, (List.getElem?_eq_some_iff.1 ht).2]
        rw [hd] at hPl
        obtain ⟨a, len, ha, hte, hoa, hlen, hal, hgp, hct, hPl2⟩ := hPl
        rw [bl_len] at hal
        have HPl : Hid (Pl (bl s) (a + len) (T.drop (i + 1))) := hPl2
        obtain ⟨a', cap', hva, hmem⟩ := HKS.out.later hbr
        simp only [Value.slice.injEq, true_and] at hva
        obtain ⟨rfl, rfl⟩ := hva
        rcases hmem with hmem | ⟨b, o, rfl, hblt, hmem⟩
        · rw [hmem] at hlt; simp at hlt
        obtain ⟨c0, c1, c2, c3, c4⟩ := hmem i t ht
        have hwl : T.length < 9000000000000 ∨ True := Or.inr trivial
        obtain ⟨tk, tx, tn, ta, te⟩ := t
        simp only at ha hte c0 c1 c2 c3 c4
        subst ha
        obtain ⟨E, hEE⟩ : ∃ E : Int, ((a + len : Nat) : Int) = E := ⟨_, rfl⟩
        rw [hEE] at hte
        subst hte
        have HEE : Hid (((a + len : Nat) : Int) = te) := hEE
        have hG := bl_seg s off a
        have hO := bl_seg s a (a + len)
        rw [show a + len - a = len by omega] at hO
        have cgap := fun (X : World) => gap_any (s.extract off a) false (by rw [ByteArray.size_extract]; omega) X
        rw [hG, hgp] at cgap
        have hOs : (s.extract a (a + len)).size = len := by rw [ByteArray.size_extract]; omega
        have ccut : ∀ (X : World), EnvOk X → Calls Tryd.prog 13 #[.string (s.extract a (a + len)), .int .i64 (len : Int)] X (KPost X ([⟨tk, tx, tn, 0, (len : Int)⟩], 0, 0)) := fun X h => by
          have := cut_any (s.extract a (a + len)) (s.extract a (a + len)).size (by omega) X h
          rw [cutL_all, hO, hOs, hct (len + 1) (by omega)] at this
          exact this
        have hxG : s.extract off a = s.extract off a := rfl
        obtain ⟨G, hGG⟩ : ∃ G, s.extract off a = G := ⟨_, rfl⟩
        obtain ⟨O, hOO⟩ : ∃ O, s.extract a (a + len) = O := ⟨_, rfl⟩
        rw [hGG] at cgap
        rw [hOO] at ccut hOs
        have eE : te.toNat = a + len := by rw [← hEE]; exact Int.toNat_natCast _
        have hx2 : s.extract a te.toNat = O := by rw [eE, hOO]
        have j0 : (0 : Int) ≤ (off : Int) := by omega
        have j1 : (off : Int) ≤ (a : Int) := by omega
        have j2 : (a : Int) ≤ (s.size : Int) := by omega
        have j3 : (a : Int) < te := by omega
        have j4 : te ≤ (s.size : Int) := by omega
        have j5 : (0 : Int) ≤ (a : Int) := by omega
        have j6 : ¬ (a : Int) < (off : Int) := by omega
        have j7 : ¬ te ≤ (a : Int) := by omega
        have j8 : ¬ (s.size : Int) < te := by omega
        have j9 : (a : Int) ≤ te := by omega
        clear hd hPl2 hmem ht hgp hct hG hO hxG hwl eE hEE hOO hbr
        go_upto_region 11 with fail
        have hbx := below1 wr (.cells #[.int .i64 tk, .string tx, .int .i64 tn, .int .i64 a, .int .i64 te] 33)
        have bx := Blk.new wr #[.int .i64 tk, .string tx, .int .i64 tn, .int .i64 a, .int .i64 te] 33
        revert hbx bx
        generalize wr.alloc (.cells #[.int .i64 tk, .string tx, .int .i64 tn, .int .i64 a, .int .i64 te] 33) = X
        intro hbx bx
        have HBX : Hid (Below wr.heap.size wr X) := hbx
        have BT0 : Hid (Blk X wr.heap.size #[.int .i64 tk, .string tx, .int .i64 tn, .int .i64 a, .int .i64 te] 33) := bx
        have HEX : Hid (EnvOk X) := HEr.out.later hbx
        clear c0 c1 c2 c3 c4
        obtain ⟨c0, c1, c2, c3, c4⟩ := five bx
        clear hbx bx
        go_upto_region 15 with (first | (go_at_call 15; refine (cgap _).mono ?_; rintro e w4 ⟨rfl, rfl⟩) | (go_at_call 13; refine (ccut _ HEX.out).mono ?_; rintro e w5 ⟨v5, rfl, ho5, hb5⟩))
        obtain ⟨g2, cap2, rfl, -, -⟩ := World.ownsRow.form ho5 (by simp)
        have bY := below1 w5 (.cells #[.int .i64 0, .int .i64 0] 27)
        have fY := Blk.new w5 #[.int .i64 0, .int .i64 0] 27
        have hk5 := ks_zero (ho5.later bY).ks
        simp only [List.length_cons, List.length_nil] at *
        revert bY fY hk5
        generalize w5.alloc (.cells #[.int .i64 0, .int .i64 0] 27) = Y
        intro bY fY hk5
        have hBY := below_step hb5 bY
        have HGz : Hid (g2 < Y.heap.size) := hk5.1
        have HGc : Hid (Y.cell? ⟨g2, 0, none⟩ = some (.int .i64 tk) ∧ Y.cell? ⟨g2, 1, none⟩ = some (.string tx) ∧ Y.cell? ⟨g2, 2, none⟩ = some (.int .i64 tn) ∧ Y.cell? ⟨g2, 3, none⟩ = some (.int .i64 0) ∧ Y.cell? ⟨g2, 4, none⟩ = some (.int .i64 len)) := hk5.2
        have bt := BT0.out.later hBY
        have HTz : Hid (wr.heap.size < Y.heap.size) := bt.lt
        have HTc : Hid (Y.cell? ⟨wr.heap.size, 0, none⟩ = some (.int .i64 tk) ∧ Y.cell? ⟨wr.heap.size, 1, none⟩ = some (.string tx) ∧ Y.cell? ⟨wr.heap.size, 2, none⟩ = some (.int .i64 tn) ∧ Y.cell? ⟨wr.heap.size, 3, none⟩ = some (.int .i64 a) ∧ Y.cell? ⟨wr.heap.size, 4, none⟩ = some (.int .i64 te)) := five bt
        have HFz : Hid (w5.heap.size < Y.heap.size) := fY.lt
        have HFc : Hid (Y.cell? ⟨w5.heap.size, 0, none⟩ = some (.int .i64 0) ∧ Y.cell? ⟨w5.heap.size, 1, none⟩ = some (.int .i64 0)) := ⟨(two fY).1, (two fY).2.1⟩
        have HBY : Hid (Below wr.heap.size wr Y) := below_step HBX.out hBY
        clear bY fY hk5 ho5 hb5 hBY bt c0 c1 c2 c3 c4 cgap ccut
        refine wp_region_held_drew (S := fun w' => Below Y.heap.size Y w') (by kernel_rfl) (Below.refl _ _).drew (fun hH => ?_)
        revert hH
        generalize Y.drew = V
        intro hH
        refine wpAnyH_take (i := 0) (oi := ⟨_, _, _, _, _, _⟩) (v := .pointer (some ⟨w5.heap.size, 0, none⟩)) rfl (by kernel_rfl) (by kernel_rfl) (by kernel_rfl) (fun _ _ _ h => h) (Or.inl ⟨by rfl, fun w' _ => by go_simp⟩) hH ?_
        simp only [Act.put, List.setIfInBounds_toArray, List.set_cons_zero, List.set_cons_succ]
        refine wpAnyH_take (i := 1) (oi := ⟨_, _, _, _, _, _⟩) (v := .int .i64 0) rfl (by kernel_rfl) (by kernel_rfl) (by kernel_rfl) (fun _ _ _ h => h) (Or.inl ⟨by rfl, fun w' h => by obtain ⟨p0, p1⟩ := HFc.out; have z := HFz.out; have a0 := cell_step h z p0; have a1 := cell_step h z p1; clear p0 p1; go_simp⟩) hH ?_
        simp only [Act.put, List.setIfInBounds_toArray, List.set_cons_zero, List.set_cons_succ]
        refine wpAnyH_take (i := 2) (oi := ⟨_, _, _, _, _, _⟩) (v := .bool false) rfl (by kernel_rfl) (by kernel_rfl) (by kernel_rfl) (fun _ _ _ h => h) (Or.inl ⟨by rfl, fun w' _ => by go_simp⟩) hH ?_
        simp only [Act.put, List.setIfInBounds_toArray, List.set_cons_zero, List.set_cons_succ]
        refine wpAnyH_take (i := 3) (oi := ⟨_, _, _, _, _, _⟩) (v := .bool false) rfl (by kernel_rfl) (by kernel_rfl) (by kernel_rfl) (fun _ _ _ h => h) (Or.inl ⟨by rfl, fun w' _ => by go_simp⟩) hH ?_
        simp only [Act.put, List.setIfInBounds_toArray, List.set_cons_zero, List.set_cons_succ]
        refine wpAnyH_take (i := 4) (oi := ⟨_, _, _, _, _, _⟩) (v := .slice (some ⟨g2, 0, none⟩) 1 cap2) rfl (by kernel_rfl) (by kernel_rfl) (by kernel_rfl) (fun _ _ _ h => h) (Or.inl ⟨by rfl, fun w' _ => by go_simp⟩) hH ?_
        simp only [Act.put, List.setIfInBounds_toArray, List.set_cons_zero, List.set_cons_succ]
        refine wpAnyH_take (i := 5) (oi := ⟨_, _, _, _, _, _⟩) (v := .int .i64 1) rfl (by kernel_rfl) (by kernel_rfl) (by kernel_rfl) (fun _ _ _ h => h) (Or.inl ⟨by rfl, fun w' _ => by go_simp⟩) hH ?_
        simp only [Act.put, List.setIfInBounds_toArray, List.set_cons_zero, List.set_cons_succ]
        refine wpAnyH_take (i := 6) (oi := ⟨_, _, _, _, _, _⟩) (v := .bool false) rfl (by kernel_rfl) (by kernel_rfl) (by kernel_rfl) (fun _ _ _ h => h) (Or.inl ⟨by rfl, fun w' _ => by go_simp⟩) hH ?_
        simp only [Act.put, List.setIfInBounds_toArray, List.set_cons_zero, List.set_cons_succ]
        refine wpAnyH_take (i := 7) (oi := ⟨_, _, _, _, _, _⟩) (v := .bool false) rfl (by kernel_rfl) (by kernel_rfl) (by kernel_rfl) (fun _ _ _ h => h) (Or.inl ⟨by rfl, fun w' _ => by go_simp⟩) hH ?_
        simp only [Act.put, List.setIfInBounds_toArray, List.set_cons_zero, List.set_cons_succ]
        refine wpAnyH_take (i := 8) (oi := ⟨_, _, _, _, _, _⟩) (v := .bool false) rfl (by kernel_rfl) (by kernel_rfl) (by kernel_rfl) (fun _ _ _ h => h) (Or.inl ⟨by rfl, fun w' _ => by go_simp⟩) hH ?_
        simp only [Act.put, List.setIfInBounds_toArray, List.set_cons_zero, List.set_cons_succ]
        refine wpAnyH_take (i := 9) (oi := ⟨_, _, _, _, _, _⟩) (v := .slice (some ⟨g2, 0, none⟩) 1 cap2) rfl (by kernel_rfl) (by kernel_rfl) (by kernel_rfl) (fun _ _ _ h => h) (Or.inl ⟨by rfl, fun w' _ => by go_simp⟩) hH ?_
        simp only [Act.put, List.setIfInBounds_toArray, List.set_cons_zero, List.set_cons_succ]
        refine wpAnyH_take (i := 10) (oi := ⟨_, _, _, _, _, _⟩) (v := .pointer (some ⟨g2, 0, none⟩)) rfl (by kernel_rfl) (by kernel_rfl) (by kernel_rfl) (fun _ _ _ h => h) (Or.inl ⟨by rfl, fun w' _ => by go_simp⟩) hH ?_
        simp only [Act.put, List.setIfInBounds_toArray, List.set_cons_zero, List.set_cons_succ]
        refine wpAnyH_take (i := 11) (oi := ⟨_, _, _, _, _, _⟩) (v := Tk.v ⟨tk, tx, tn, 0, len⟩) rfl (by kernel_rfl) (by kernel_rfl) (by kernel_rfl) (fun _ _ _ h => h) (Or.inl ⟨by rfl, fun w' h => by obtain ⟨p0, p1, p2, p3, p4⟩ := HGc.out; have z := HGz.out; have a0 := cell_step h z p0; have a1 := cell_step h z p1; have a2 := cell_step h z p2; have a3 := cell_step h z p3; have a4 := cell_step h z p4; clear p0 p1 p2 p3 p4; go_simp⟩) hH ?_
        simp only [Act.put, List.setIfInBounds_toArray, List.set_cons_zero, List.set_cons_succ]
        refine wpAnyH_take (i := 13) (oi := ⟨_, _, _, _, _, _⟩) (v := Tk.v ⟨tk, tx, tn, a, te⟩) rfl (by kernel_rfl) (by kernel_rfl) (by kernel_rfl) (fun _ _ _ h => h) (Or.inl ⟨by rfl, fun w' h => by obtain ⟨p0, p1, p2, p3, p4⟩ := HTc.out; have z := HTz.out; have a0 := cell_step h z p0; have a1 := cell_step h z p1; have a2 := cell_step h z p2; have a3 := cell_step h z p3; have a4 := cell_step h z p4; clear p0 p1 p2 p3 p4; go_simp⟩) hH ?_
        simp only [Act.put, List.setIfInBounds_toArray, List.set_cons_zero, List.set_cons_succ]
        refine wpAnyH_ready (rs := [12]) (by kernel_rfl) (by simp) ?_
        refine (AllReadyH.cons (o := ⟨_, _, _, _, _, _⟩) rfl (fun K hK => ?_) AllReadyH.nil)
        go_simp
        refine (bare_any ⟨tk, tx, tn, 0, len⟩ _).mono ?_
        rintro e V1 ⟨rfl, hb⟩
        refine hK.out _ _ (below_step hH hb) (fun hH => ?_)
        clear hK K
        refine wpAnyH_ready (rs := [14]) (by kernel_rfl) (by simp) ?_
        refine (AllReadyH.cons (o := ⟨_, _, _, _, _, _⟩) rfl (fun K hK => ?_) AllReadyH.nil)
        go_simp
        refine (bare_any ⟨tk, tx, tn, a, te⟩ _).mono ?_
        rintro e V2 ⟨rfl, hb⟩
        refine hK.out _ _ (below_step hH hb) (fun hH => ?_)
        clear hK K
        refine wpAnyH_take (i := 15) (oi := ⟨_, _, _, _, _, _⟩) (v := .bool false) rfl (by kernel_rfl) (by kernel_rfl) (by kernel_rfl) (fun _ _ _ h => h) (Or.inl ⟨by rfl, fun w' _ => by go_simp⟩) hH ?_
        simp only [Act.put, List.setIfInBounds_toArray, List.set_cons_zero, List.set_cons_succ]
        refine wpAnyH_take (i := 16) (oi := ⟨_, _, _, _, _, _⟩) (v := .bool false) rfl (by kernel_rfl) (by kernel_rfl) (by kernel_rfl) (fun _ _ _ h => h) (Or.inl ⟨by rfl, fun w' _ => by go_simp⟩) hH ?_
        simp only [Act.put, List.setIfInBounds_toArray, List.set_cons_zero, List.set_cons_succ]
        refine wpAnyH_take (i := 17) (oi := ⟨_, _, _, _, _, _⟩) (v := .bool false) rfl (by kernel_rfl) (by kernel_rfl) (by kernel_rfl) (fun _ _ _ h => h) (Or.inl ⟨by rfl, fun w' _ => by go_simp⟩) hH ?_
        simp only [Act.put, List.setIfInBounds_toArray, List.set_cons_zero, List.set_cons_succ]
        refine wpAnyH_take (i := 18) (oi := ⟨_, _, _, _, _, _⟩) (v := .slice (some ⟨g2, 0, none⟩) 1 cap2) rfl (by kernel_rfl) (by kernel_rfl) (by kernel_rfl) (fun _ _ _ h => h) (Or.inl ⟨by rfl, fun w' _ => by go_simp⟩) hH ?_
        simp only [Act.put, List.setIfInBounds_toArray, List.set_cons_zero, List.set_cons_succ]
        refine wpAnyH_take (i := 19) (oi := ⟨_, _, _, _, _, _⟩) (v := .pointer (some ⟨g2, 0, none⟩)) rfl (by kernel_rfl) (by kernel_rfl) (by kernel_rfl) (fun _ _ _ h => h) (Or.inl ⟨by rfl, fun w' _ => by go_simp⟩) hH ?_
        simp only [Act.put, List.setIfInBounds_toArray, List.set_cons_zero, List.set_cons_succ]
        refine wpAnyH_take (i := 20) (oi := ⟨_, _, _, _, _, _⟩) (v := .pointer (some ⟨g2, 3, none⟩)) rfl (by kernel_rfl) (by kernel_rfl) (by kernel_rfl) (fun _ _ _ h => h) (Or.inl ⟨by rfl, fun w' _ => by go_simp⟩) hH ?_
        simp only [Act.put, List.setIfInBounds_toArray, List.set_cons_zero, List.set_cons_succ]
        refine wpAnyH_take (i := 21) (oi := ⟨_, _, _, _, _, _⟩) (v := .int .i64 0) rfl (by kernel_rfl) (by kernel_rfl) (by kernel_rfl) (fun _ _ _ h => h) (Or.inl ⟨by rfl, fun w' h => by obtain ⟨p0, p1, p2, p3, p4⟩ := HGc.out; have z := HGz.out; have a0 := cell_step h z p0; have a1 := cell_step h z p1; have a2 := cell_step h z p2; have a3 := cell_step h z p3; have a4 := cell_step h z p4; clear p0 p1 p2 p3 p4; go_simp⟩) hH ?_
        simp only [Act.put, List.setIfInBounds_toArray, List.set_cons_zero, List.set_cons_succ]
        refine wpAnyH_take (i := 22) (oi := ⟨_, _, _, _, _, _⟩) (v := .bool false) rfl (by kernel_rfl) (by kernel_rfl) (by kernel_rfl) (fun _ _ _ h => h) (Or.inl ⟨by rfl, fun w' _ => by go_simp⟩) hH ?_
        simp only [Act.put, List.setIfInBounds_toArray, List.set_cons_zero, List.set_cons_succ]
        refine wpAnyH_take (i := 23) (oi := ⟨_, _, _, _, _, _⟩) (v := .bool false) rfl (by kernel_rfl) (by kernel_rfl) (by kernel_rfl) (fun _ _ _ h => h) (Or.inl ⟨by rfl, fun w' _ => by go_simp⟩) hH ?_
        simp only [Act.put, List.setIfInBounds_toArray, List.set_cons_zero, List.set_cons_succ]
        refine wpAnyH_take (i := 24) (oi := ⟨_, _, _, _, _, _⟩) (v := .bool false) rfl (by kernel_rfl) (by kernel_rfl) (by kernel_rfl) (fun _ _ _ h => h) (Or.inl ⟨by rfl, fun w' _ => by go_simp⟩) hH ?_
        simp only [Act.put, List.setIfInBounds_toArray, List.set_cons_zero, List.set_cons_succ]
        refine wpAnyH_take (i := 25) (oi := ⟨_, _, _, _, _, _⟩) (v := .slice (some ⟨g2, 0, none⟩) 1 cap2) rfl (by kernel_rfl) (by kernel_rfl) (by kernel_rfl) (fun _ _ _ h => h) (Or.inl ⟨by rfl, fun w' _ => by go_simp⟩) hH ?_
        simp only [Act.put, List.setIfInBounds_toArray, List.set_cons_zero, List.set_cons_succ]
        refine wpAnyH_take (i := 26) (oi := ⟨_, _, _, _, _, _⟩) (v := .pointer (some ⟨g2, 0, none⟩)) rfl (by kernel_rfl) (by kernel_rfl) (by kernel_rfl) (fun _ _ _ h => h) (Or.inl ⟨by rfl, fun w' _ => by go_simp⟩) hH ?_
        simp only [Act.put, List.setIfInBounds_toArray, List.set_cons_zero, List.set_cons_succ]
        refine wpAnyH_take (i := 27) (oi := ⟨_, _, _, _, _, _⟩) (v := .pointer (some ⟨g2, 4, none⟩)) rfl (by kernel_rfl) (by kernel_rfl) (by kernel_rfl) (fun _ _ _ h => h) (Or.inl ⟨by rfl, fun w' _ => by go_simp⟩) hH ?_
        simp only [Act.put, List.setIfInBounds_toArray, List.set_cons_zero, List.set_cons_succ]
        refine wpAnyH_take (i := 28) (oi := ⟨_, _, _, _, _, _⟩) (v := .int .i64 (len : Int)) rfl (by kernel_rfl) (by kernel_rfl) (by kernel_rfl) (fun _ _ _ h => h) (Or.inl ⟨by rfl, fun w' h => by obtain ⟨p0, p1, p2, p3, p4⟩ := HGc.out; have z := HGz.out; have a0 := cell_step h z p0; have a1 := cell_step h z p1; have a2 := cell_step h z p2; have a3 := cell_step h z p3; have a4 := cell_step h z p4; clear p0 p1 p2 p3 p4; go_simp⟩) hH ?_
        simp only [Act.put, List.setIfInBounds_toArray, List.set_cons_zero, List.set_cons_succ]
        refine wpAnyH_take (i := 29) (oi := ⟨_, _, _, _, _, _⟩) (v := .string O) rfl (by kernel_rfl) (by kernel_rfl) (by kernel_rfl) (fun _ _ _ h => h) (Or.inl ⟨by rfl, fun w' _ => by go_simp⟩) hH ?_
        simp only [Act.put, List.setIfInBounds_toArray, List.set_cons_zero, List.set_cons_succ]
        refine wpAnyH_take (i := 30) (oi := ⟨_, _, _, _, _, _⟩) (v := .int .i64 (len : Int)) rfl (by kernel_rfl) (by kernel_rfl) (by kernel_rfl) (fun _ _ _ h => h) (Or.inl ⟨by rfl, fun w' _ => by go_simp⟩) hH ?_
        simp only [Act.put, List.setIfInBounds_toArray, List.set_cons_zero, List.set_cons_succ]
        refine wpAnyH_take (i := 31) (oi := ⟨_, _, _, _, _, _⟩) (v := .bool false) rfl (by kernel_rfl) (by kernel_rfl) (by kernel_rfl) (fun _ _ _ h => h) (Or.inl ⟨by rfl, fun w' _ => by go_simp⟩) hH ?_
        simp only [Act.put, List.setIfInBounds_toArray, List.set_cons_zero, List.set_cons_succ]
        refine wpAnyH_take (i := 32) (oi := ⟨_, _, _, _, _, _⟩) (v := .bool false) rfl (by kernel_rfl) (by kernel_rfl) (by kernel_rfl) (fun _ _ _ h => h) (Or.inl ⟨by rfl, fun w' _ => by go_simp⟩) hH ?_
        simp only [Act.put, List.setIfInBounds_toArray, List.set_cons_zero, List.set_cons_succ]
        refine wpAnyH_done (by kernel_rfl) ?_ _
        obtain ⟨t0, t1, t2, t3, t4⟩ := HTc.out
        have c0 := cell_step hH HTz.out t0
        have c1 := cell_step hH HTz.out t1
        have c2 := cell_step hH HTz.out t2
        have c3 := cell_step hH HTz.out t3
        have c4 := cell_step hH HTz.out t4
        have HV : Hid (Below wr.heap.size wr V2) := below_step HBY.out hH
        clear t0 t1 t2 t3 t4 hH hb
        go_wp2
        go_roundg g
        case measure => omega
        case rel => exact ⟨i + 1, a + len, by omega, by rw [← HEE.out], by go_num, HPl.out, below_step HBr.out HV.out⟩
      | zero =>
        obtain rfl : i = T.length := by omega
        have hz : ¬ ((T.length : Int) < (T.length : Int)) := by omega
        rw [List.drop_length] at hPl
        obtain ⟨hol, hgp⟩ := hPl
        rw [bl_len] at hol
        have hG := bl_seg s off s.size
        have e0 : ((bl s).drop off).take (s.size - off) = (bl s).drop off := List.take_of_length_le (by rw [List.length_drop, bl_len]; omega)
        rw [e0] at hG
        have cgap := fun (X : World) => gap_any (s.extract off s.size) true (by rw [ByteArray.size_extract]; omega) X
        rw [hG, hgp] at cgap
        have j1 : (0 : Int) ≤ (off : Int) := by omega
        have j2 : (off : Int) ≤ (s.size : Int) := by omega
        clear hgp hG e0 hbr
        go_wp2_with (go_at_call 15; refine (cgap _).mono ?_; rintro e w4 ⟨rfl, rfl⟩)
        go_ret
        exact ⟨rfl, below_step HB.out HBr.out⟩
  · have n1 : (E0 == 0) = false := beq_eq_false_iff_ne.2 hz
    have n2 : (E0 != 0) = true := by rw [bne, n1]; rfl
    clear hz HP0
    go_wp2
    go_ret
    exact ⟨rfl, HB.out⟩
end Go.Proofs.YtkobpmekonaemaaDoor
