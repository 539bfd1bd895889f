/-
  (*classes).bestTerm, (*classes).binding.
-/
import Derived.Test.YtnaiecemmhioeaaDoorU4
import Derived.Test.YtnaiecemmhioeaaDoorS2
namespace Go.Proofs.YtnaiecemmhioeaaDoor
open Go.RowKit
attribute [local go_sem ↓] Go.wp_at_zero Go.wp_at_succ

theorem Stp.grown {w w' w'' : World} {C : Nat} {vt vu vt' vu' : Value} {row : Option Nat} (h : Stp w w' C vt vu vt' vu') (hg : w'.grownBy w'' row) (hr : ∀ k, row = some k → w.heap.size ≤ k) : Stp w w'' C vt vu vt' vu' :=
  ⟨hg.os.trans h.os, hg.tape.trans h.tape, hg.output.trans h.output, Nat.le_trans h.size hg.size, fun k hk ha => (hg.block k (Nat.lt_of_lt_of_le hk h.size) (fun e => by have := hr k e.symm; omega)).trans (h.kept k hk ha), h.apart⟩
theorem Stp.sorted {w w' w'' : World} {C : Nat} {vt vu vt' vu' : Value} (h : Stp w w' C vt vu vt' vu') (hb : Below w.heap.size w' w'') : Stp w w'' C vt vu vt' vu' :=
  ⟨hb.os.trans h.os, hb.tape.trans h.tape, hb.output.trans h.output, Nat.le_trans h.size hb.size, fun k hk ha => (hb.block k hk).trans (h.kept k hk ha), h.apart⟩
theorem CL.grown {w w' : World} {B C : Nat} {vt vu : Value} {T : List Tm} {U : List Int} {row : Option Nat} (h : CL w B C vt vu T U) (hg : w.grownBy w' row) (hr : ∀ k, row = some k → Apart C vt vu k) : CL w' B C vt vu T U := by
  have hne : ∀ v : Value, (∀ k, row = some k → v.ownBlock ≠ some k) → v.ownBlock = none ∨ v.ownBlock ≠ row := fun v hv => by
    cases e : v.ownBlock with
    | none => exact Or.inl rfl
    | some q => exact Or.inr fun e2 => hv q e2.symm e
  exact ⟨h.lt, (hg.block C h.blk.lt (fun e => (hr C e.symm).1 rfl)).trans h.blk, World.ownsRow.kept h.ts hg (hne vt fun k hk => (hr k hk).2.1), World.ownsRow.kept h.us hg (hne vu fun k hk => (hr k hk).2.2), h.dis⟩
def BTPost (w : World) (B C : Nat) (vt vu : Value) (T : List Tm) (rt dep : Nat → Nat) (t : Tm) (e : Ending) (w' : World) : Prop :=
  ∃ (x : Tm) (vt' vu' : Value) (T' : List Tm) (U' : List Int), e = .returned x.v ∧ CL w' B C vt' vu' T' U' ∧ UF T'.length U' rt dep ∧ Stp w w' C vt vu vt' vu' ∧ ((∃ i : Nat, T[i]? = some t ∧ T' = T ∧ T[rt i]? = some x ∧ vt' = vt) ∨ ((∀ (m : Nat) (e : Tm), T[m]? = some e → ¬ e = t) ∧ T' = T ++ [t] ∧ x = t))
set_option maxRecDepth 20000 in
set_option maxHeartbeats 1000000 in
theorem bestTerm_any (t : Tm) (B C : Nat) (vt vu : Value) (T : List Tm) (U : List Int) (rt dep : Nat → Nat) (w : World) (h : CL w B C vt vu T U) (hu : UF T.length U rt dep) (hB : B ≤ w.heap.size) (hl : T.length ≤ 2000000000000) :
    Calls Tryd.prog 46 #[.pointer (some ⟨C, 0, none⟩), t.v] w (BTPost w B C vt vu T rt dep t) := by
  have hCw := h.blk.lt
  have hf := fun (X : World) (hb : Below w.heap.size w X) => best_any t B C vt vu T U rt dep X (h.later hb) hu (Nat.le_trans hB hb.size) hl
  have HF : Hid _ := hf
  have HU : Hid (UF T.length U rt dep) := hu
  have ap : Apart C vt vu (w.heap.size + 1) := h.fresh (by omega)
  have HAp : Hid (Apart C vt vu (w.heap.size + 1)) := ap
  obtain ⟨k, n, s⟩ := t
  clear hf h hu ap
  go_enter Tryd.func46, Tryd.ntmps46
  go_upto_region 1 with fail
  have hb1 := below2 w (.cells #[.int .i64 k, .int .i64 n, .string s] 23) (.cells #[.int .i64 0, .int .i64 0, .string ⟨#[]⟩] 23)
  have B1 := Blk.old w #[.int .i64 k, .int .i64 n, .string s] 23 (.cells #[.int .i64 0, .int .i64 0, .string ⟨#[]⟩] 23)
  have B2 := Blk.new2 w #[.int .i64 0, .int .i64 0, .string ⟨#[]⟩] 23 (.cells #[.int .i64 k, .int .i64 n, .string s] 23)
  revert hb1 B1 B2
  generalize (w.alloc (.cells #[.int .i64 k, .int .i64 n, .string s] 23)).alloc (.cells #[.int .i64 0, .int .i64 0, .string ⟨#[]⟩] 23) = W1
  intro hb1 B1 B2
  have HB1 : Hid (Below w.heap.size w W1) := hb1
  have HB2 : Hid (Blk W1 (w.heap.size + 1) #[.int .i64 0, .int .i64 0, .string ⟨#[]⟩] 23) := B2
  obtain ⟨c0, c1, c2, -, -, -⟩ := three B1
  clear hb1 B1 B2
  go_upto_region 2 with (go_at_call 45; refine (HF.out _ (Hid.out HB1)).mono ?_; rintro e w1 ⟨r, vt1, vu1, T1, U1, rfl, hc1, hu1, hs1, hw1⟩)
  have hx : ∃ x, T1[r]? = some x ∧ ((∃ i : Nat, T[i]? = some ⟨k, n, s⟩ ∧ T1 = T ∧ T[rt i]? = some x ∧ vt1 = vt) ∨ ((∀ (m : Nat) (e : Tm), T[m]? = some e → ¬ e = ⟨k, n, s⟩) ∧ T1 = T ++ [⟨k, n, s⟩] ∧ x = ⟨k, n, s⟩)) := by
    rcases hw1 with ⟨i, a1, rfl, rfl, a4⟩ | ⟨a1, rfl, rfl⟩
    · have hi := (List.getElem?_eq_some_iff.1 a1).1
      have hr := (HU.out.root i hi).1
      exact ⟨_, List.getElem?_eq_getElem hr, Or.inl ⟨i, a1, rfl, List.getElem?_eq_getElem hr, a4⟩⟩
    · exact ⟨⟨k, n, s⟩, by simp, Or.inr ⟨a1, rfl, rfl⟩⟩
  obtain ⟨x, hx1, hx2⟩ := hx
  have hr := (List.getElem?_eq_some_iff.1 hx1).1
  obtain ⟨gt, tc, hvt, -, -⟩ := World.ownsRow.form hc1.ts (by omega)
  subst hvt
  obtain ⟨t0, t1, t2⟩ := ownT_cells hc1.ts r x hx1
  obtain ⟨e0, e1, -, -⟩ := two hc1.blk
  have fG := hs1.blk HB2.out HAp.out
  have apG := hs1.apart _ (Blk.lt HB2.out) HAp.out
  obtain ⟨d0, d1, d2, f0, f1, f2⟩ := three fG
  obtain ⟨xk, xn, xz⟩ := x
  simp only at t0 t1 t2
  have hsw : Stp w w1 C vt vu (.slice (some ⟨gt, 0, none⟩) T1.length tc) vu1 := (Stp.below _ _ _ HB1.out).trans hs1
  have HFin : Hid _ := And.intro (CL.box (i := 2) (a := .string xz) (CL.box (i := 1) (a := .int .i64 xn) (CL.box (i := 0) (a := .int .i64 xk) hc1 apG) apG) apG) (And.intro hu1 (And.intro (Stp.box (k := w.heap.size + 1) (i := 2) (a := .string xz) (Stp.box (k := w.heap.size + 1) (i := 1) (a := .int .i64 xn) (Stp.box (k := w.heap.size + 1) (i := 0) (a := .int .i64 xk) hsw (by omega)) (by omega)) (by omega)) hx2))
  have HG : Hid _ := store3 (a' := .int .i64 xk) (b' := .int .i64 xn) (c' := .string xz) fG
  have i1 : (0 : Int) ≤ (r : Int) := by omega
  have i2 : (r : Int) < (T1.length : Int) := by omega
  clear hx1 hx2 hw1 hc1 hu1 hs1 hsw fG apG c0 c1 c2 hr
  go_wp2
  obtain ⟨p0, p1, p2, -, -, -⟩ := three HG.out
  exact bodyPost_ret (v := Tm.v ⟨xk, xn, xz⟩) (by simp [results, Tryd.results46, go_sem, p0, p1, p2]) rfl ⟨⟨xk, xn, xz⟩, _, _, T1, U1, rfl, HFin.out.1, HFin.out.2.1, HFin.out.2.2.1, HFin.out.2.2.2⟩
/-- What a class's term says: one bind, or none. -/
def bnd1 (T : List Tm) (rt : Nat → Nat) (i : Nat) : List Bd := match T[i]?, T[rt i]? with
  | some t, some x => if t.var = true ∧ ¬ x = t then [⟨t.n, x⟩] else []
  | _, _ => []
def bnd (T : List Tm) (rt : Nat → Nat) (j : Nat) : List Bd := (List.range j).flatMap (bnd1 T rt)
theorem bnd_succ (T : List Tm) (rt : Nat → Nat) (j : Nat) : bnd T rt (j + 1) = bnd T rt j ++ bnd1 T rt j := by
  unfold bnd; rw [List.range_succ, List.flatMap_append]; simp
theorem bnd1_len (T : List Tm) (rt : Nat → Nat) (i : Nat) : (bnd1 T rt i).length ≤ 1 := by
  unfold bnd1; split
  · split <;> simp
  · simp
theorem bnd_len (T : List Tm) (rt : Nat → Nat) (j : Nat) : (bnd T rt j).length ≤ j := by
  induction j with
  | zero => simp [bnd]
  | succ j ih => rw [bnd_succ, List.length_append]; have := bnd1_len T rt j; omega
def DPost (w : World) (C : Nat) (vt vu : Value) (T : List Tm) (rt : Nat → Nat) (e : Ending) (w' : World) : Prop :=
  ∃ (v' vt' vu' : Value) (out : List Bd), e = .returned v' ∧ Own w' w.heap.size v' out ∧ out.Perm (bnd T rt T.length) ∧ srt out ∧ Stp w w' C vt vu vt' vu'
set_option maxRecDepth 20000 in
set_option maxHeartbeats 1000000 in
theorem binding_any (B C : Nat) (vt vu : Value) (T : List Tm) (U : List Int) (rt dep : Nat → Nat) (w : World) (h : CL w B C vt vu T U) (hu : UF T.length U rt dep) (hnd : ∀ (i j : Nat) (t : Tm), T[i]? = some t → T[j]? = some t → i = j) (hB : B ≤ w.heap.size) (hl : T.length ≤ 1000000000000) :
    Calls Tryd.prog 35 #[.pointer (some ⟨C, 0, none⟩)] w (DPost w C vt vu T rt) := by
  obtain ⟨i0, hi0, hz0, hz1, hz2⟩ := info_parts Tryd.infoBind
  obtain ⟨ta, tc, rfl⟩ := ownT_len h.ts
  have HC : Hid (CL w B C (.slice ta T.length tc) vu T U) := h
  have HU : Hid (UF T.length U rt dep) := hu
  have HND : Hid (∀ (i j : Nat) (t : Tm), T[i]? = some t → T[j]? = some t → i = j) := hnd
  obtain ⟨c0, c1, -, -⟩ := two h.blk
  have hCw := h.blk.lt
  clear h hu hnd
  go_enter Tryd.func35, Tryd.ntmps35
  go_wp2
  clear c0 c1
  go_loopg [3, 12] T.length (fun g u i wr => ∃ (j : Nat) (vu' : Value) (U' : List Int), j + g = T.length ∧ i = .int .i64 j ∧ CL wr B C (.slice ta T.length tc) vu' T U' ∧ UF T.length U' rt dep ∧ Stp w wr C (.slice ta T.length tc) vu (.slice ta T.length tc) vu' ∧ Own wr w.heap.size u (bnd T rt j) ∧ (∀ k, u.ownBlock = some k → Apart C (.slice ta T.length tc) vu' k))
  case atStart => exact ⟨0, vu, U, by omega, rfl, HC.out, HU.out, Stp.refl _ _ _ _, own_nil _ _, fun k hk => by simp [Value.ownBlock] at hk⟩
  case round =>
    obtain ⟨j, vu', U', hj, rfl, hc, hu, hs, ho, hap⟩ := hrel
    cases gk with
    | succ g =>
      have hlt : j < T.length := by omega
      obtain ⟨t, ht⟩ : ∃ t, T[j]? = some t := ⟨_, List.getElem?_eq_getElem hlt⟩
      have hrn := (hu.root j hlt).1
      obtain ⟨x, hx⟩ : ∃ x, T[rt j]? = some x := ⟨_, List.getElem?_eq_getElem hrn⟩
      obtain ⟨gt, tcc, hv, -, hgl⟩ := World.ownsRow.form hc.ts (by omega)
      simp only [Value.slice.injEq, true_and] at hv
      obtain ⟨rfl, rfl⟩ := hv
      obtain ⟨c0, c1, c2⟩ := ownT_cells hc.ts j t ht
      have HB1 : Hid (bnd1 T rt j = if t.var = true ∧ ¬ x = t then [⟨t.n, x⟩] else []) := by show _ = _; unfold bnd1; rw [ht, hx]
      have hbl := bnd_len T rt j
      obtain ⟨ua, uc, rfl⟩ := own_len ho
      have HT : Hid (T[j]? = some t) := ht
      have HX : Hid (T[rt j]? = some x) := hx
      obtain ⟨tk, tn, tz⟩ := t
      obtain ⟨xk, xn, xz⟩ := x
      simp only at c0 c1 c2
      have HCr : Hid (CL wr B C (.slice (some ⟨gt, 0, none⟩) T.length tc) vu' T U') := hc
      have HUr : Hid (UF T.length U' rt dep) := hu
      have HSr : Hid (Stp w wr C (.slice (some ⟨gt, 0, none⟩) T.length tc) vu (.slice (some ⟨gt, 0, none⟩) T.length tc) vu') := hs
      have hsz : w.heap.size ≤ wr.heap.size := hs.size
      generalize hOut : bnd T rt j = out at *
      have HOut : Hid (bnd T rt j = out) := hOut
      have HO : Hid (Own wr w.heap.size (.slice ua out.length uc) out) := ho
      have HAp : Hid (∀ k, (Value.slice ua out.length uc).ownBlock = some k → Apart C (.slice (some ⟨gt, 0, none⟩) T.length tc) vu' k) := hap
      have i3 : (0 : Int) ≤ ((rt j : Nat) : Int) := by omega
      have i4 : ((rt j : Nat) : Int) < (T.length : Int) := by omega
      clear ht hx hc hu hs ho hap hOut hrn
      have i1 : (0 : Int) ≤ (j : Int) := by omega
      have i2 : (j : Int) < (T.length : Int) := by omega
      go_upto_region 5 with fail
      have hbx := below1 wr (.cells #[.int .i64 tk, .int .i64 tn, .string tz] 23)
      have bx := Blk.new wr #[.int .i64 tk, .int .i64 tn, .string tz] 23
      have hapx := HCr.out.fresh (k := wr.heap.size) (Nat.le_refl _)
      revert hbx bx
      generalize wr.alloc (.cells #[.int .i64 tk, .int .i64 tn, .string tz] 23) = X
      intro hbx bx
      have HCX : Hid (CL X B C (.slice (some ⟨gt, 0, none⟩) T.length tc) vu' T U') := HCr.out.later hbx
      have HSX : Hid (Stp w X C (.slice (some ⟨gt, 0, none⟩) T.length tc) vu (.slice (some ⟨gt, 0, none⟩) T.length tc) vu') := (Hid.out HSr).trans (Stp.below _ _ _ hbx)
      have HOX : Hid (Own X w.heap.size (.slice ua out.length uc) out) := HO.out.later hbx
      have BTX : Hid (Blk X wr.heap.size #[.int .i64 tk, .int .i64 tn, .string tz] 23) := bx
      have HApx : Hid (Apart C (.slice (some ⟨gt, 0, none⟩) T.length tc) vu' wr.heap.size) := hapx
      have hXs : wr.heap.size < X.heap.size := bx.lt
      clear c0 c1 c2 hbx bx hapx HCr HSr HO
      obtain ⟨c0, c1, c2, -, -, -⟩ := three (Hid.out BTX)
      go_upto_region 6 with (go_at_call 46; refine (bestTerm_any ⟨tk, tn, tz⟩ B C (.slice (some ⟨gt, 0, none⟩) T.length tc) vu' T U' rt dep _ HCX.out HUr.out (by omega) (by omega)).mono ?_; rintro e V ⟨x2, vt2, vu2, T2, U2, rfl, hc2, hu2, hs2, hw2⟩; (have hr : Tm.mk xk xn xz = x2 ∧ T = T2 ∧ .slice (some ⟨gt, 0, none⟩) T.length tc = vt2 := (by rcases hw2 with ⟨i, a1, a2, a3, a4⟩ | ⟨a1, -, -⟩; (have ij := HND.out i j _ a1 HT.out; rw [ij, HX.out] at a3; exact ⟨Option.some.inj a3, a2.symm, a4.symm⟩); exact absurd rfl (a1 j _ HT.out))); obtain ⟨rfl, rfl, rfl⟩ := hr)
      · have bA := below1 V (.cells #[.int .i64 xk, .int .i64 xn, .string xz] 23)
        have bG := Blk.new V #[.int .i64 xk, .int .i64 xn, .string xz] 23
        have hs3 := hs2.trans (Stp.below _ _ _ bA)
        have hc3 := hc2.later bA
        clear hw2 hs2 hc2 c0 c1 c2 bA
        revert bG hs3 hc3
        generalize V.alloc (.cells #[.int .i64 xk, .int .i64 xn, .string xz] 23) = Y
        generalize V.heap.size = G
        intro bG hs2 hc2
        have HCY : Hid (CL Y B C (.slice (some ⟨gt, 0, none⟩) T.length tc) vu2 T U2) := hc2
        have HUY : Hid (UF T.length U2 rt dep) := hu2
        have HSY : Hid (Stp w Y C (.slice (some ⟨gt, 0, none⟩) T.length tc) vu (.slice (some ⟨gt, 0, none⟩) T.length tc) vu2) := (Hid.out HSX).trans hs2
        have BTY : Hid (Blk Y wr.heap.size #[.int .i64 tk, .int .i64 tn, .string tz] 23) := hs2.blk (Hid.out BTX) HApx.out
        have BGY : Hid (Blk Y G #[.int .i64 xk, .int .i64 xn, .string xz] 23) := bG
        have hblk : ∀ kk, (Value.slice ua out.length uc).ownBlock = some kk → kk < X.heap.size := fun kk hk => (HOX.out.lt kk hk).2
        have HApY : Hid (∀ kk, (Value.slice ua out.length uc).ownBlock = some kk → Apart C (.slice (some ⟨gt, 0, none⟩) T.length tc) vu2 kk) := fun kk hk => hs2.apart kk (hblk kk hk) (HAp.out kk hk)
        have HOY : Hid (Own Y w.heap.size (.slice ua out.length uc) out) := by
          have hoX := HOX.out
          refine ⟨hoX.1, ?_⟩
          rcases hoX.2 with hn | ⟨g', cap', cur, hv', hbb, hg', rest⟩
          · exact Or.inl hn
          · exact Or.inr ⟨g', cap', cur, hv', hbb, (hs2.kept g' (Array.getElem?_eq_some_iff.1 hg').1 (HAp.out g' (by rw [hv']; rfl))).trans hg', rest⟩
        have hYs : w.heap.size ≤ Y.heap.size := (Hid.out HSY).size
        clear hc2 hu2 hs2 bG hblk HCX HSX HOX BTX HApx HAp HUr
        obtain ⟨t0, t1, t2, -, -, -⟩ := three (Hid.out BTY)
        have he := run_neq_tm ⟨xk, xn, xz⟩ ⟨tk, tn, tz⟩
        cases hv : Tm.var ⟨tk, tn, tz⟩
        · have HV : Hid (Tm.var ⟨tk, tn, tz⟩ = false) := hv
          clear hv he
          go_wp2_with (go_at_call 27; refine (var_any ⟨tk, tn, tz⟩ _).mono ?_; rw [HV.out]; rintro e w6 ⟨rfl, hb6⟩)
          go_roundg g
          case measure => omega
          case rel =>
            refine ⟨j + 1, vu2, U2, by omega, by go_num, HCY.out.later hb6, HUY.out, (Hid.out HSY).trans (Stp.below _ _ _ hb6), ?_, HApY.out⟩
            rw [bnd_succ, HOut.out, HB1.out, HV.out, if_neg (fun hh => by cases hh.1), List.append_nil]
            exact HOY.out.later hb6
        · have HV : Hid (Tm.var ⟨tk, tn, tz⟩ = true) := hv
          clear hv
          by_cases hxt : Tm.mk xk xn xz = ⟨tk, tn, tz⟩
          · have HXT : Hid (Tm.mk xk xn xz = ⟨tk, tn, tz⟩) := hxt
            rw [decide_eq_true hxt] at he
            clear hxt
            go_wp2_with (go_at_call 27; refine (var_any ⟨tk, tn, tz⟩ _).mono ?_; rw [HV.out]; rintro e w6 ⟨rfl, hb6⟩; clear t0 t1 t2; obtain ⟨t0, t1, t2, -, -, -⟩ := three (Blk.later (Hid.out BTY) hb6); obtain ⟨x0, x1, x2, -, -, -⟩ := three (Blk.later (Hid.out BGY) hb6))
            go_roundg g
            case measure => omega
            case rel =>
              refine ⟨j + 1, vu2, U2, by omega, by go_num, HCY.out.later hb6, HUY.out, (Hid.out HSY).trans (Stp.below _ _ _ hb6), ?_, HApY.out⟩
              rw [bnd_succ, HOut.out, HB1.out, if_neg (fun hh => hh.2 HXT.out), List.append_nil]
              exact HOY.out.later hb6
          · have HXT : Hid (¬ Tm.mk xk xn xz = ⟨tk, tn, tz⟩) := hxt
            rw [decide_eq_false hxt] at he
            clear hxt
            go_upto_region 7 with (go_at_call 27; refine (var_any ⟨tk, tn, tz⟩ _).mono ?_; rw [HV.out]; rintro e w6 ⟨rfl, hb6⟩; clear t0 t1 t2; obtain ⟨t0, t1, t2, -, -, -⟩ := three (Blk.later (Hid.out BTY) hb6); obtain ⟨x0, x1, x2, -, -, -⟩ := three (Blk.later (Hid.out BGY) hb6))
            have HO6 : Hid (Own w6 w.heap.size (.slice ua out.length uc) out) := HOY.out.later hb6
            have HC6 : Hid (CL w6 B C (.slice (some ⟨gt, 0, none⟩) T.length tc) vu2 T U2) := HCY.out.later hb6
            have HS6 : Hid (Stp w w6 C (.slice (some ⟨gt, 0, none⟩) T.length tc) vu (.slice (some ⟨gt, 0, none⟩) T.length tc) vu2) := (Hid.out HSY).trans (Stp.below _ _ _ hb6)
            have hz6 : w.heap.size ≤ w6.heap.size := (Hid.out HS6).size
            clear hb6 he
            go_wp2_with (at_builtin; refine wpList_append_lies _ rfl _ _ _ rfl w.heap.size 43 i0 _ 4 40 Tryd.underlying28 hi0 hz0 hz1 hz2 rfl (by omega) (.slice ua out.length uc) out.length (bcs out) (by rfl) (HO6.out.later (below1 _ _)) ⟨w6.heap.size, 0, none⟩ 1 1 (Bd.cs ⟨tn, xk, xn, xz⟩) (by rfl) (by rfl) (World.news_of_block (cs := (Bd.cs ⟨tn, xk, xn, xz⟩).toArray) (t := 43) (fr := (0, 0)) (heap_alloc_new w6 _)) (by simp [Value.oneCell', Bd.cs]) (by omega) (by unfold maxLen; omega) (by omega) (by simp; omega) (w6.heap.size + 1) (by simp) ?_; intro gg cap1 w7 hown1 hgrow hat hlt1)
            have R : Own w7 w.heap.size (.slice (some ⟨gg, 0, none⟩) (out.length + 1) cap1) (out ++ [⟨tn, xk, xn, xz⟩]) := by
              unfold Own; rw [bcs_snoc, List.length_append]; exact hown1
            have bA := below1 w6 (.cells (Bd.cs ⟨tn, xk, xn, xz⟩).toArray 43)
            have hcA := HC6.out.later bA
            have hc7 := hcA.grown hgrow HApY.out
            have hs7 := Stp.grown ((Hid.out HS6).trans (Stp.below _ _ _ bA)) hgrow (fun kk hk => (HO6.out.lt kk hk).1)
            have hap7 : ∀ kk, (Value.slice (some ⟨gg, 0, none⟩) (out.length + 1) cap1).ownBlock = some kk → Apart C (.slice (some ⟨gt, 0, none⟩) T.length tc) vu2 kk := fun kk hk => by
              obtain rfl : gg = kk := Option.some.inj hk
              rcases hat with hat | hat
              · exact HApY.out _ hat
              · exact HC6.out.fresh (by rw [hat]; omega)
            have HFin : Hid (CL w7 B C (.slice (some ⟨gt, 0, none⟩) T.length tc) vu2 T U2 ∧ Stp w w7 C (.slice (some ⟨gt, 0, none⟩) T.length tc) vu (.slice (some ⟨gt, 0, none⟩) T.length tc) vu2 ∧ Own w7 w.heap.size (.slice (some ⟨gg, 0, none⟩) (out.length + 1) cap1) (out ++ [⟨tn, xk, xn, xz⟩]) ∧ ∀ kk, (Value.slice (some ⟨gg, 0, none⟩) (out.length + 1) cap1).ownBlock = some kk → Apart C (.slice (some ⟨gt, 0, none⟩) T.length tc) vu2 kk) := ⟨hc7, hs7, R, hap7⟩
            clear hown1 hgrow hat hlt1 R bA hcA hc7 hs7 hap7
            go_wp2
            go_roundg g
            case measure => omega
            case rel =>
              refine ⟨j + 1, vu2, U2, by omega, by go_num, HFin.out.1, HUY.out, HFin.out.2.1, ?_, HFin.out.2.2.2⟩
              rw [bnd_succ, HOut.out, HB1.out, if_pos ⟨HV.out, HXT.out⟩]
              exact HFin.out.2.2.1
    | zero =>
      obtain rfl : j = T.length := by omega
      have hz : ¬ ((T.length : Int) < (T.length : Int)) := by omega
      have hbl := bnd_len T rt T.length
      have HO : Hid (Own wr w.heap.size u3 (bnd T rt T.length)) := ho
      have HS : Hid (Stp w wr C (.slice ta T.length tc) vu (.slice ta T.length tc) vu') := hs
      clear hc hu ho hap hs
      go_wp2_with (go_at_call 32; refine (sort_all 1000000000000 (by omega) wr w.heap.size u3 _ HO.out (by omega)).mono ?_; rintro e w8 ⟨rfl, l', ho8, hp8, hs8, hb8⟩)
      exact bodyPost_ret (v := u3) (by simp [results, Tryd.results35, go_sem]) rfl ⟨u3, _, _, l', rfl, ho8, hp8, hs8, Stp.sorted (Hid.out HS) hb8⟩
end Go.Proofs.YtnaiecemmhioeaaDoor
