import Derived.Test.YtechceagghcipaaGreatEH1
/-
  law 8: items, place. (Written by EH2.py.)
-/
namespace Go.Proofs.YtechceagghcipaaGreat
open Go.RowKit
attribute [local go_sem ↓] Go.wp_at_zero Go.wp_at_succ

/-- A list of items in memory: each a fact with its arguments' value, and its part. -/
def IRow (w : World) (b o : Nat) (l : List ((At × Value) × Int)) : Prop :=
  b < w.heap.size ∧ ∀ (i : Nat) x, l[i]? = some x → (w.cell? ⟨b, o + i * 6, none⟩ = some (.int .i64 x.1.1.by_.k) ∧ w.cell? ⟨b, o + i * 6 + 1, none⟩ = some (.int .i64 x.1.1.by_.n) ∧ w.cell? ⟨b, o + i * 6 + 2, none⟩ = some (.string x.1.1.by_.s) ∧ w.cell? ⟨b, o + i * 6 + 3, none⟩ = some (.string x.1.1.name) ∧ w.cell? ⟨b, o + i * 6 + 4, none⟩ = some x.1.2) ∧ w.cell? ⟨b, o + i * 6 + 5, none⟩ = some (.int .i64 x.2)
def Is8 (w : World) (v : Value) (l : List ((At × Value) × Int)) : Prop :=
  ∃ a cap, v = .slice a l.length cap ∧ (l = [] ∨ ∃ b o, a = some ⟨b, o, none⟩ ∧ IRow w b o l) ∧ ∀ x ∈ l, Ts w x.1.2 x.1.1.args
theorem Is8.get {w : World} {la : Option Addr} {l : List ((At × Value) × Int)} {n cap k : Nat} {x : (At × Value) × Int} (h : Is8 w (.slice la n cap) l) (hx : l[k]? = some x) :
    ∃ lb lo xa xc, la = some ⟨lb, lo, none⟩ ∧ x.1.2 = .slice xa x.1.1.args.length xc ∧ ∀ Y : World, Below w.heap.size w Y → (Y.cell? ⟨lb, lo + k * 6, none⟩ = some (.int .i64 x.1.1.by_.k) ∧ Y.cell? ⟨lb, lo + k * 6 + 1, none⟩ = some (.int .i64 x.1.1.by_.n) ∧ Y.cell? ⟨lb, lo + k * 6 + 2, none⟩ = some (.string x.1.1.by_.s) ∧ Y.cell? ⟨lb, lo + k * 6 + 3, none⟩ = some (.string x.1.1.name) ∧ Y.cell? ⟨lb, lo + k * 6 + 4, none⟩ = some x.1.2) ∧ Y.cell? ⟨lb, lo + k * 6 + 5, none⟩ = some (.int .i64 x.2) := by
  obtain ⟨a, c, e, hr, ht⟩ := h
  cases e
  rcases hr with hr | ⟨lb, lo, rfl, hlr⟩
  · rw [hr] at hx; simp at hx
  obtain ⟨⟨a0, a1, a2, a3, a4⟩, a5⟩ := (hlr.2 k x hx)
  obtain ⟨xa, xc, hsh, -⟩ := ht x (List.mem_of_getElem? hx)
  exact ⟨lb, lo, xa, xc, rfl, hsh, fun Y hY => ⟨⟨cell_step hY hlr.1 a0, cell_step hY hlr.1 a1, cell_step hY hlr.1 a2, cell_step hY hlr.1 a3, cell_step hY hlr.1 a4⟩, cell_step hY hlr.1 a5⟩⟩
/-- Where a fact lies in the list of items. -/
def pl8 (l : List ((At × Value) × Int)) (f : At) : Int := match l.findIdx? (fun x => decide (x.1.1 = f)) with
  | some i => (i : Int)
  | none => -1
theorem pl8_at {l : List ((At × Value) × Int)} {f : At} {i : Nat} {x} (hi : l[i]? = some x) (hx : x.1.1 = f) (hb : ∀ j, j < i → ∀ y, l[j]? = some y → y.1.1 ≠ f) : pl8 l f = (i : Int) := by
  have hil := (List.getElem?_eq_some_iff.1 hi).1
  have : l.findIdx? (fun x => decide (x.1.1 = f)) = some i := by
    rw [List.findIdx?_eq_some_iff_getElem]
    refine ⟨hil, ?_, fun j hj => ?_⟩
    · rw [(List.getElem?_eq_some_iff.1 hi).2]; simpa using hx
    · have := hb j hj _ (List.getElem?_eq_getElem (by omega))
      simpa using this
  unfold pl8
  rw [this]
theorem pl8_no {l : List ((At × Value) × Int)} {f : At} (hb : ∀ (j : Nat) y, l[j]? = some y → y.1.1 ≠ f) : pl8 l f = -1 := by
  have : l.findIdx? (fun x => decide (x.1.1 = f)) = none := by
    rw [List.findIdx?_eq_none_iff]
    intro x hx
    obtain ⟨j, hj⟩ := List.mem_iff_getElem?.1 hx
    simpa using hb j x hj
  unfold pl8
  rw [this]
set_option maxRecDepth 20000 in
set_option maxHeartbeats 1000000 in
theorem place8_any (l : List ((At × Value) × Int)) (v : Value) (f : At) (fx : Value) (Y : World) (h : Is8 Y v l) (hf : Ts Y fx f.args) (hl : l.length ≤ 1000000000) : Calls Tryz.prog 11 #[v, f.v fx] Y fun e Y' => e = .returned (.int .i64 (pl8 l f)) ∧ Below Y.heap.size Y Y' := by
  have HA := hm7 h
  have HF := hm7 hf
  obtain ⟨la, cap, rfl, -, hts⟩ := h
  have HTS := hm7 hts
  obtain ⟨ay, cy, hay, -⟩ := hf
  obtain ⟨⟨ky, my, sy⟩, ny, ly⟩ := f
  simp only at hay
  subst hay
  clear hts
  obtain ⟨Y0, hY0⟩ : ∃ Y0, Y.alloc (.cells #[.int .i64 ky, .int .i64 my, .string sy, .string ny, .slice ay ly.length cy] 34) = Y0 := ⟨_, rfl⟩
  have hb0 : Below Y.heap.size Y Y0 := by rw [← hY0]; exact below1 _ _
  have HBX : Hid (Bk Y0 Y.heap.size #[.int .i64 ky, .int .i64 my, .string sy, .string ny, .slice ay ly.length cy] 34) := by show Bk _ _ _ _; rw [← hY0]; exact Bk.new _ _ _
  have HB0 := hm7 hb0
  clear hb0
  go_enter Tryz.func11, Tryz.ntmps11
  go_wp2
  go_loopg [5] l.length (fun g i wr => ∃ j : Nat, j + g = l.length ∧ i = .int .i64 j ∧ (∀ (k : Nat) y, k < j → l[k]? = some y → y.1.1 ≠ ⟨⟨ky, my, sy⟩, ny, ly⟩) ∧ Below Y0.heap.size Y0 wr)
  case atStart => exact ⟨0, by omega, rfl, fun k y hk => by omega, Below.refl _ _⟩
  case round =>
    obtain ⟨j, hj, rfl, hno, hw⟩ := hrel
    have HNO := hm7 hno
    have HW := hm7 hw
    have HB := hm7 (HB0.out.trans (hw.mono HB0.out.size))
    cases gk with
    | succ g =>
      have hlt : (j : Int) < (l.length : Int) := by omega
      have j0 : (0 : Int) ≤ (j : Int) := by omega
      obtain ⟨x, hx⟩ : ∃ x, l[j]? = some x := ⟨_, List.getElem?_eq_getElem (by omega)⟩
      have hb := HB.out
      have t1 := HTS.out x (List.mem_of_getElem? hx)
      have HC0 := fun (X : World) (hX : Below wr.heap.size wr X) => sameAtom_any x.1.1 ⟨⟨ky, my, sy⟩, ny, ly⟩ x.1.2 (.slice ay ly.length cy) X ((t1.later hb).later hX) ((HF.out.later hb).later hX)
      obtain ⟨lb, lo, ax, cx, rfl, hax, c1⟩ := HA.out.get hx
      have HNX := hm7 hx
      have HX2 : Hid (∀ (X : World), Below wr.heap.size wr X → X.cell? ⟨Y.heap.size, 0, none⟩ = some (.int .i64 ky) ∧ X.cell? ⟨Y.heap.size, 1, none⟩ = some (.int .i64 my) ∧ X.cell? ⟨Y.heap.size, 2, none⟩ = some (.string sy) ∧ X.cell? ⟨Y.heap.size, 3, none⟩ = some (.string ny) ∧ X.cell? ⟨Y.heap.size, 4, none⟩ = some (.slice ay ly.length cy)) := fun X hX => by
        obtain ⟨⟨q0, q1⟩, q2, q3, q4⟩ := five8 ((HBX.out.below HW.out).below hX)
        exact ⟨q0, q1, q2, q3, q4⟩
      obtain ⟨⟨⟨⟨kx, mx, sx⟩, nx, lx⟩, vx⟩, px⟩ := x
      simp only at hax c1 HC0
      subst hax
      have HX1 := hm7 (fun (X : World) (hX : Below wr.heap.size wr X) => (c1 X (hb.trans (hX.mono hb.size))).1)
      by_cases hxy : At.mk ⟨kx, mx, sx⟩ nx lx = ⟨⟨ky, my, sy⟩, ny, ly⟩
      · rw [decide_eq_true hxy] at HC0
        have HCM : Hid (∀ (X : World), Below wr.heap.size wr X → Calls Tryz.prog 30 #[.agg #[.int .i64 kx, .int .i64 mx, .string sx, .string nx, .slice ax lx.length cx], .agg #[.int .i64 ky, .int .i64 my, .string sy, .string ny, .slice ay ly.length cy]] X fun e w' => e = .returned (.bool true) ∧ Below X.heap.size X w') := HC0
        have HPL := hm7 (pl8_at (f := ⟨⟨ky, my, sy⟩, ny, ly⟩) hx hxy fun k hk y hy => HNO.out k y hk hy)
        clear hx t1 c1 HC0 hxy hb hno hw
        go_upto_region 4 with fail
        refine wp_region_held_drew (S := fun w' => Below wr.heap.size wr w') (by kernel_rfl) (by exact (Below.refl _ _).drew) (fun hH => ?_)
        revert hH
        generalize wr.drew = V
        intro hH
        refine wpAnyH_take (i := 0) (oi := ⟨_, _, _, _, _, _⟩) (v := .slice (some ⟨lb, lo, none⟩) l.length cap) rfl (by kernel_rfl) (by kernel_rfl) (by kernel_rfl) (fun _ _ _ h => h) (Or.inl ⟨by rfl, fun w' h => by clear h; go_simp⟩) hH ?_
        simp only [Act.put, List.setIfInBounds_toArray, List.set_cons_zero, List.set_cons_succ]
        refine wpAnyH_take (i := 1) (oi := ⟨_, _, _, _, _, _⟩) (v := .int .i64 (j : Int)) rfl (by kernel_rfl) (by kernel_rfl) (by kernel_rfl) (fun _ _ _ h => h) (Or.inl ⟨by rfl, fun w' h => by clear h; go_simp⟩) hH ?_
        simp only [Act.put, List.setIfInBounds_toArray, List.set_cons_zero, List.set_cons_succ]
        refine wpAnyH_take (i := 2) (oi := ⟨_, _, _, _, _, _⟩) (v := .pointer (some ⟨lb, lo + j * 6, none⟩)) rfl (by kernel_rfl) (by kernel_rfl) (by kernel_rfl) (fun _ _ _ h => h) (Or.inl ⟨by rfl, fun w' h => by clear h; go_simp⟩) hH ?_
        simp only [Act.put, List.setIfInBounds_toArray, List.set_cons_zero, List.set_cons_succ]
        refine wpAnyH_take (i := 3) (oi := ⟨_, _, _, _, _, _⟩) (v := .pointer (some ⟨lb, lo + j * 6, none⟩)) rfl (by kernel_rfl) (by kernel_rfl) (by kernel_rfl) (fun _ _ _ h => h) (Or.inl ⟨by rfl, fun w' h => by clear h; go_simp⟩) hH ?_
        simp only [Act.put, List.setIfInBounds_toArray, List.set_cons_zero, List.set_cons_succ]
        refine wpAnyH_take (i := 4) (oi := ⟨_, _, _, _, _, _⟩) (v := .agg #[.int .i64 kx, .int .i64 mx, .string sx, .string nx, .slice ax lx.length cx]) rfl (by kernel_rfl) (by kernel_rfl) (by kernel_rfl) (fun _ _ _ h => h) (Or.inl ⟨by rfl, fun w' h => by obtain ⟨p0, p1, p2, p3, p4⟩ := HX1.out w' h; clear h; go_simp⟩) hH ?_
        simp only [Act.put, List.setIfInBounds_toArray, List.set_cons_zero, List.set_cons_succ]
        refine wpAnyH_take (i := 5) (oi := ⟨_, _, _, _, _, _⟩) (v := .agg #[.int .i64 ky, .int .i64 my, .string sy, .string ny, .slice ay ly.length cy]) rfl (by kernel_rfl) (by kernel_rfl) (by kernel_rfl) (fun _ _ _ h => h) (Or.inl ⟨by rfl, fun w' h => by obtain ⟨p0, p1, p2, p3, p4⟩ := HX2.out w' h; clear h; go_simp⟩) hH ?_
        simp only [Act.put, List.setIfInBounds_toArray, List.set_cons_zero, List.set_cons_succ]
        refine wpAnyH_ready (rs := [6]) (by kernel_rfl) (by simp) ?_
        refine (AllReadyH.cons (o := ⟨_, _, _, _, _, _⟩) rfl (fun K hK => ?_) AllReadyH.nil)
        go_simp
        refine (HCM.out _ hH).mono ?_
        rintro e V1 ⟨rfl, hb⟩
        refine hK.out _ _ (hH.trans (hb.mono hH.size)) (fun hH => ?_)
        clear hK hb
        try simp only [Act.put, List.setIfInBounds_toArray, List.set_cons_zero, List.set_cons_succ]
        refine wpAnyH_done (by kernel_rfl) ?_ _
        have HV := hm7 hH
        clear hH
        go_wp2
        go_ret
        exact ⟨by rw [HPL.out]; rfl, HB.out.trans (HV.out.mono HB.out.size)⟩
      · rw [decide_eq_false hxy] at HC0
        have HCM : Hid (∀ (X : World), Below wr.heap.size wr X → Calls Tryz.prog 30 #[.agg #[.int .i64 kx, .int .i64 mx, .string sx, .string nx, .slice ax lx.length cx], .agg #[.int .i64 ky, .int .i64 my, .string sy, .string ny, .slice ay ly.length cy]] X fun e w' => e = .returned (.bool false) ∧ Below X.heap.size X w') := HC0
        have HXY := hm7 hxy
        clear hx t1 c1 HC0 hxy hb hno hw
        go_upto_region 4 with fail
        refine wp_region_held_drew (S := fun w' => Below wr.heap.size wr w') (by kernel_rfl) (by exact (Below.refl _ _).drew) (fun hH => ?_)
        revert hH
        generalize wr.drew = V
        intro hH
        refine wpAnyH_take (i := 0) (oi := ⟨_, _, _, _, _, _⟩) (v := .slice (some ⟨lb, lo, none⟩) l.length cap) rfl (by kernel_rfl) (by kernel_rfl) (by kernel_rfl) (fun _ _ _ h => h) (Or.inl ⟨by rfl, fun w' h => by clear h; go_simp⟩) hH ?_
        simp only [Act.put, List.setIfInBounds_toArray, List.set_cons_zero, List.set_cons_succ]
        refine wpAnyH_take (i := 1) (oi := ⟨_, _, _, _, _, _⟩) (v := .int .i64 (j : Int)) rfl (by kernel_rfl) (by kernel_rfl) (by kernel_rfl) (fun _ _ _ h => h) (Or.inl ⟨by rfl, fun w' h => by clear h; go_simp⟩) hH ?_
        simp only [Act.put, List.setIfInBounds_toArray, List.set_cons_zero, List.set_cons_succ]
        refine wpAnyH_take (i := 2) (oi := ⟨_, _, _, _, _, _⟩) (v := .pointer (some ⟨lb, lo + j * 6, none⟩)) rfl (by kernel_rfl) (by kernel_rfl) (by kernel_rfl) (fun _ _ _ h => h) (Or.inl ⟨by rfl, fun w' h => by clear h; go_simp⟩) hH ?_
        simp only [Act.put, List.setIfInBounds_toArray, List.set_cons_zero, List.set_cons_succ]
        refine wpAnyH_take (i := 3) (oi := ⟨_, _, _, _, _, _⟩) (v := .pointer (some ⟨lb, lo + j * 6, none⟩)) rfl (by kernel_rfl) (by kernel_rfl) (by kernel_rfl) (fun _ _ _ h => h) (Or.inl ⟨by rfl, fun w' h => by clear h; go_simp⟩) hH ?_
        simp only [Act.put, List.setIfInBounds_toArray, List.set_cons_zero, List.set_cons_succ]
        refine wpAnyH_take (i := 4) (oi := ⟨_, _, _, _, _, _⟩) (v := .agg #[.int .i64 kx, .int .i64 mx, .string sx, .string nx, .slice ax lx.length cx]) rfl (by kernel_rfl) (by kernel_rfl) (by kernel_rfl) (fun _ _ _ h => h) (Or.inl ⟨by rfl, fun w' h => by obtain ⟨p0, p1, p2, p3, p4⟩ := HX1.out w' h; clear h; go_simp⟩) hH ?_
        simp only [Act.put, List.setIfInBounds_toArray, List.set_cons_zero, List.set_cons_succ]
        refine wpAnyH_take (i := 5) (oi := ⟨_, _, _, _, _, _⟩) (v := .agg #[.int .i64 ky, .int .i64 my, .string sy, .string ny, .slice ay ly.length cy]) rfl (by kernel_rfl) (by kernel_rfl) (by kernel_rfl) (fun _ _ _ h => h) (Or.inl ⟨by rfl, fun w' h => by obtain ⟨p0, p1, p2, p3, p4⟩ := HX2.out w' h; clear h; go_simp⟩) hH ?_
        simp only [Act.put, List.setIfInBounds_toArray, List.set_cons_zero, List.set_cons_succ]
        refine wpAnyH_ready (rs := [6]) (by kernel_rfl) (by simp) ?_
        refine (AllReadyH.cons (o := ⟨_, _, _, _, _, _⟩) rfl (fun K hK => ?_) AllReadyH.nil)
        go_simp
        refine (HCM.out _ hH).mono ?_
        rintro e V1 ⟨rfl, hb⟩
        refine hK.out _ _ (hH.trans (hb.mono hH.size)) (fun hH => ?_)
        clear hK hb
        try simp only [Act.put, List.setIfInBounds_toArray, List.set_cons_zero, List.set_cons_succ]
        refine wpAnyH_done (by kernel_rfl) ?_ _
        have HV := hm7 hH
        clear hH
        go_wp2
        go_roundg g
        case measure => omega
        case rel =>
          refine ⟨j + 1, by omega, by go_num, fun k y hk hy => ?_, HW.out.trans (HV.out.mono HW.out.size)⟩
          rcases Nat.lt_or_ge k j with h1 | h1
          · exact HNO.out k y h1 hy
          · obtain rfl : k = j := by omega
            have e := HNX.out
            rw [hy] at e
            cases e
            exact HXY.out
    | zero =>
      have hlt : ¬ (j : Int) < (l.length : Int) := by omega
      have HPL := hm7 (pl8_no (l := l) (f := ⟨⟨ky, my, sy⟩, ny, ly⟩) fun k y hy => hno k y (by have := (List.getElem?_eq_some_iff.1 hy).1; omega) hy)
      clear hno hw
      go_wp2
      go_ret
      exact ⟨by rw [HPL.out]; rfl, HB.out⟩
end Go.Proofs.YtechceagghcipaaGreat
/-
  law 8: a list of items that a call owns. (Out of MD8.)
-/
namespace Go.Proofs.YtechceagghcipaaGreat
open Go.RowKit

abbrev It8 := (At × Value) × Int
def icell (x : It8) : List Value := acell x.1 ++ [.int .i64 x.2]
def ics (l : List It8) : List Value := l.flatMap icell
theorem ics_len (l : List It8) : (ics l).length = l.length * 6 := by
  induction l with
  | nil => rfl
  | cons d l ih => simp only [ics, List.flatMap_cons, List.length_append, List.length_cons] at *; rw [ih]; simp [icell, acell]; omega
theorem ics_app (l m : List It8) : ics (l ++ m) = ics l ++ ics m := by simp [ics]
theorem ics_get (l : List It8) (j : Nat) (d : It8) (h : l[j]? = some d) (i : Nat) (hi : i < 6) : (ics l)[j * 6 + i]? = (icell d)[i]? := by
  induction l generalizing j with
  | nil => simp at h
  | cons e l ih =>
    rw [ics, List.flatMap_cons]
    cases j with
    | zero =>
      simp only [List.getElem?_cons_zero, Option.some.injEq] at h
      subst h
      rw [List.getElem?_append_left (by simp [icell, acell]; omega)]
      simp
    | succ j =>
      simp only [List.getElem?_cons_succ] at h
      rw [List.getElem?_append_right (by simp [icell, acell]; omega)]
      have e1 : (j + 1) * 6 + i - (icell e).length = j * 6 + i := by simp [icell, acell]; omega
      rw [e1]
      exact ih j h
theorem Tryz.infoItem8 : (Tryz.prog.info? 36).map (fun i => (i.zero, i.size, i.bytes)) = some (some (.agg #[.int .i64 0, .int .i64 0, .string ⟨#[]⟩, .string ⟨#[]⟩, .slice none 0 0, .int .i64 0]), 6, 80) := by kernel_rfl
def OwnIt (w : World) (base : Nat) (v : Value) (l : List It8) : Prop := w.ownsRow base 36 6 v l.length (ics l)
theorem OwnIt.later {w w' : World} {base : Nat} {v : Value} {l : List It8} (h : OwnIt w base v l) (hb : Below w.heap.size w w') : OwnIt w' base v l := by
  refine ⟨h.1, ?_⟩
  rcases h.2 with hn | ⟨g, cap, cur, hv, hbb, hg, rest⟩
  · exact Or.inl hn
  · exact Or.inr ⟨g, cap, cur, hv, hbb, (hb.block g (Array.getElem?_eq_some_iff.1 hg).1).trans hg, rest⟩
theorem OwnIt.lt {w : World} {base : Nat} {v : Value} {l : List It8} (h : OwnIt w base v l) : ∀ k, v.ownBlock = some k → base ≤ k ∧ k < w.heap.size := World.ownsRow.lt h
theorem OwnIt.form {w : World} {base : Nat} {v : Value} {l : List It8} (h : OwnIt w base v l) : ∃ a cap, v = .slice a l.length cap := by
  rcases h.2 with ⟨rfl, hn⟩ | ⟨g, cap, cur, hv, -⟩
  · exact ⟨none, 0, by rw [hn]⟩
  · exact ⟨_, cap, hv⟩
theorem OwnIt.cells {w : World} {base g cap n : Nat} {l : List It8} (h : OwnIt w base (.slice (some ⟨g, 0, none⟩) n cap) l) (j : Nat) (d : It8) (hd : l[j]? = some d) (i : Nat) (hi : i < 6) : w.cell? ⟨g, j * 6 + i, none⟩ = (icell d)[i]? := by
  rcases h.2 with ⟨h, _⟩ | ⟨g', cap', cur, hv, hb, hg, hn, hc, hs, ht⟩
  · cases h
  · simp only [Value.slice.injEq, Option.some.injEq, Addr.mk.injEq] at hv
    obtain ⟨⟨rfl, -⟩, -, rfl⟩ := hv
    have hj := (List.getElem?_eq_some_iff.1 hd).1
    rw [cell_of_row _ _ _ _ _ _ hg, ← ics_get l j d hd i hi, ← ht, List.getElem?_take_of_lt (by omega)]
    simp
theorem iapp_one {ops : Array Oper} {rest : List Oper} {o : Oper} {a : Act} {Q : Exit → Act → World → Prop} {w : World} (hgd : o.guard = none) (s x : Operand)
    (ho : o.op = .call { callee := .builtin .append, args := #[s, x], argTypes := #[24, 24] }) (base : Nat) (v : Value) (l : List It8) (hs : a.eval s = v) (hown : OwnIt w base v l)
    (b : Nat) (y : It8) (hx : a.eval x = .slice (some ⟨b, 0, none⟩) 1 1) (hblk : CBlk w b (icell y).toArray 36) (h1c : ∀ u ∈ icell y, u.oneCell' = true) (hlen : l.length ≤ 1000000000000) (hbase : base ≤ w.heap.size)
    (h : ∀ v' w', OwnIt w' base v' (l ++ [y]) → Below base w w' → w.grownBy w' v.ownBlock → (∀ k, v'.ownBlock = some k → v.ownBlock = some k ∨ w.heap.size ≤ k) → wpList Tryz.prog ops Q rest (a.put o.dst v') w') : wpList Tryz.prog ops Q (o :: rest) a w := by
  obtain ⟨i0, hi0, hz0, hz1, hz2⟩ := info_parts Tryz.infoItem8
  refine wpList_append_lies _ hgd s x 24 ho base 36 i0 _ 6 80 Tryz.underlying24 hi0 hz0 hz1 hz2 rfl (by omega) v l.length (ics l) hs hown ⟨b, 0, none⟩ 1 1 (ics [y]) hx (by simp [ics, icell, acell]) ?_ (by simpa [ics] using h1c) (by omega) (by unfold maxLen; omega) (by omega) hbase _ rfl ?_
  · intro j u hj
    have := World.news_of_block (cs := (icell y).toArray) (t := 36) (fr := (0, 0)) hblk j u
    exact this (by simpa [ics] using hj)
  · intro g cap w' h1 h2 h3 h4
    refine h _ w' ?_ (grown_below3 h2 (fun k hk => (World.ownsRow.lt hown k hk).1) hbase) h2 (fun k hk => by cases hk; exact h3.imp id (fun e => Nat.le_of_eq e.symm))
    unfold OwnIt
    rw [List.length_append, ics_app]
    exact h1
theorem ics_set : ∀ (l : List It8) (j : Nat) (x : It8) (q : Int), l[j]? = some x → ics (l.set j (x.1, q)) = (ics l).set (j * 6 + 5) (.int .i64 q)
  | a :: l, 0, x, q, h => by simp at h; subst h; simp [ics, icell, acell]
  | a :: l, j + 1, x, q, h => by
    rw [List.getElem?_cons_succ] at h
    have ih := ics_set l j x q h
    have e : ∀ m : List It8, ics (a :: m) = icell a ++ ics m := fun m => by simp [ics]
    have hc : (icell a).length = 6 := rfl
    rw [List.set_cons_succ, e, e, ih, List.set_append_right _ _ (by omega), hc]
    rw [show (j + 1) * 6 + 5 - 6 = j * 6 + 5 by omega]
/-- One item's part. -/
theorem OwnIt.part {X : World} {base g n cap j : Nat} {L : List It8} {x : It8} (h : OwnIt X base (.slice (some ⟨g, 0, none⟩) n cap) L) (hx : L[j]? = some x) (q : Int) : OwnIt (X.setCell ⟨g, j * 6 + 5, none⟩ (.int .i64 q)) base (.slice (some ⟨g, 0, none⟩) n cap) (L.set j (x.1, q)) := by
  rcases h.2 with ⟨h, _⟩ | ⟨g', cap', cur, hv, hb, hg, hn, hc, hs, ht⟩
  · cases h
  · simp only [Value.slice.injEq, Option.some.injEq, Addr.mk.injEq] at hv
    obtain ⟨⟨rfl, -⟩, rfl, rfl⟩ := hv
    have k1 := heap_setCell_same _ _ (j * 6 + 5) _ _ (.int .i64 q) hg
    refine ⟨by rw [ics_len, List.length_set], Or.inr ⟨g, cap, _, by rw [List.length_set], hb, k1, by rw [List.length_set]; exact hn, hc, by simpa using hs, ?_⟩⟩
    rw [List.length_set, ics_set L j x q hx, ← ht]
    have hjl := (List.getElem?_eq_some_iff.1 hx).1
    rw [Array.toList_setIfInBounds, List.take_set]
end Go.Proofs.YtechceagghcipaaGreat
/-
  law 8: the list of items beside its base.
-/
namespace Go.Proofs.YtechceagghcipaaGreat
open Go.RowKit

theorem row8_same {X X' : World} {B K n : Nat} {ty : TypeId} {v : Value} {cs : List Value} (h : X.ownsRow B ty K v n cs) (hs : ∀ b, v.ownBlock = some b → X'.heap[b]? = X.heap[b]?) : X'.ownsRow B ty K v n cs := by
  refine ⟨h.1, ?_⟩
  rcases h.2 with hn | ⟨g, cap, cur, hv, hb, hg, rest⟩
  · exact Or.inl hn
  · exact Or.inr ⟨g, cap, cur, hv, hb, (hs g (by rw [hv]; rfl)).trans hg, rest⟩
/-- A list of items, all of it the call's own. -/
structure IL8 (V : World) (base : Nat) (fv : Value) (Q : List It8) : Prop where
  o : OwnIt V base fv Q
  t : ∀ x ∈ Q, OwnT V base x.1.2 x.1.1.args ∧ x.1.1.args.length ≤ 1000000000
  ne : ∀ x ∈ Q, ∀ b, x.1.2.ownBlock = some b → fv.ownBlock ≠ some b
def Ib (fv : Value) (Q : List It8) (b : Nat) : Prop := fv.ownBlock = some b ∨ ∃ x ∈ Q, x.1.2.ownBlock = some b
section
variable {V V' : World} {base : Nat} {fv : Value} {Q : List It8}
theorem IL8.nil (V : World) (base : Nat) : IL8 V base (.slice none 0 0) [] := ⟨World.ownsRow_nil _ _ _ _, nofun, nofun⟩
theorem IL8.lt (h : IL8 V base fv Q) {b : Nat} (hb : Ib fv Q b) : base ≤ b ∧ b < V.heap.size := by
  rcases hb with hb | ⟨x, hx, hb⟩
  · exact h.o.lt b hb
  · exact (h.t x hx).1.lt b hb
theorem IL8.same (h : IL8 V base fv Q) (hs : ∀ b, Ib fv Q b → V'.heap[b]? = V.heap[b]?) : IL8 V' base fv Q :=
  ⟨row8_same h.o fun b hb => hs b (Or.inl hb), fun x hx => ⟨row8_same (h.t x hx).1 fun b hb => hs b (Or.inr ⟨x, hx, hb⟩), (h.t x hx).2⟩, h.ne⟩
theorem IL8.below (h : IL8 V base fv Q) (hb : Below V.heap.size V V') : IL8 V' base fv Q := h.same fun b hq => hb.block b (h.lt hq).2
theorem IL8.is (h : IL8 V base fv Q) : Is8 V fv Q := by
  have hts : ∀ x ∈ Q, Ts V x.1.2 x.1.1.args := fun x hx => (h.t x hx).1.tsP.ts (by have := (h.t x hx).2; omega)
  obtain ⟨a, cap, rfl⟩ := h.o.form
  refine ⟨a, cap, rfl, ?_, hts⟩
  rcases h.o.2 with ⟨-, hn⟩ | ⟨g, cap', cur, hv, hb, hg, -⟩
  · exact Or.inl (List.length_eq_zero_iff.1 hn)
  · cases hv
    refine Or.inr ⟨g, 0, rfl, (Array.getElem?_eq_some_iff.1 hg).1, fun i x hx => ?_⟩
    have c := fun j hj => h.o.cells i x hx j hj
    refine ⟨⟨?_, ?_, ?_, ?_, ?_⟩, ?_⟩
    · rw [show 0 + i * 6 = i * 6 + 0 by omega, c 0 (by omega)]; rfl
    · rw [show 0 + i * 6 + 1 = i * 6 + 1 by omega, c 1 (by omega)]; rfl
    · rw [show 0 + i * 6 + 2 = i * 6 + 2 by omega, c 2 (by omega)]; rfl
    · rw [show 0 + i * 6 + 3 = i * 6 + 3 by omega, c 3 (by omega)]; rfl
    · rw [show 0 + i * 6 + 4 = i * 6 + 4 by omega, c 4 (by omega)]; rfl
    · rw [show 0 + i * 6 + 5 = i * 6 + 5 by omega, c 5 (by omega)]; rfl
/-- One item's part is stored to. -/
theorem IL8.part {g n cap j : Nat} {x : It8} (h : IL8 V base (.slice (some ⟨g, 0, none⟩) n cap) Q) (hx : Q[j]? = some x) (q : Int) : IL8 (V.setCell ⟨g, j * 6 + 5, none⟩ (.int .i64 q)) base (.slice (some ⟨g, 0, none⟩) n cap) (Q.set j (x.1, q)) := by
  have hm : ∀ y ∈ Q.set j (x.1, q), ∃ z ∈ Q, z.1 = y.1 := fun y hy => by
    rcases List.mem_or_eq_of_mem_set hy with hy | rfl
    · exact ⟨y, hy, rfl⟩
    · exact ⟨x, List.mem_of_getElem? hx, rfl⟩
  refine ⟨h.o.part hx q, fun y hy => ?_, fun y hy b hb => ?_⟩
  · obtain ⟨z, hz, e⟩ := hm y hy
    rw [← e]
    refine ⟨row8_same (h.t z hz).1 fun b hb => ?_, (h.t z hz).2⟩
    have hne := h.ne z hz b hb
    have : g ≠ b := fun e => hne (by rw [← e]; rfl)
    exact heap_setCell_other _ _ _ _ this.symm
  · obtain ⟨z, hz, e⟩ := hm y hy
    rw [← e] at hb
    exact h.ne z hz b hb
/-- One item more. -/
theorem IL8.snoc {fv' : Value} {x : It8} (h : IL8 V base fv Q) (ho : OwnIt V' base fv' (Q ++ [x])) (hf : V.grownBy V' fv.ownBlock) (hv : ∀ k, fv'.ownBlock = some k → fv.ownBlock = some k ∨ V.heap.size ≤ k) (hx : OwnT V base x.1.2 x.1.1.args) (hn : x.1.1.args.length ≤ 1000000000) (hne : ∀ b, x.1.2.ownBlock = some b → fv.ownBlock ≠ some b) : IL8 V' base fv' (Q ++ [x]) := by
  have hall : ∀ y ∈ Q ++ [x], OwnT V base y.1.2 y.1.1.args ∧ y.1.1.args.length ≤ 1000000000 ∧ ∀ b, y.1.2.ownBlock = some b → fv.ownBlock ≠ some b := fun y hy => by
    rcases List.mem_append.1 hy with hy | hy
    · exact ⟨(h.t y hy).1, (h.t y hy).2, h.ne y hy⟩
    · obtain rfl := List.mem_singleton.1 hy
      exact ⟨hx, hn, hne⟩
  refine ⟨ho, fun y hy => ?_, fun y hy b hb e => ?_⟩
  · obtain ⟨k1, k2, k3⟩ := hall y hy
    exact ⟨row8_same k1 fun b hb => hf.block b (k1.lt b hb).2 (k3 b hb).symm, k2⟩
  · obtain ⟨k1, -, k3⟩ := hall y hy
    rcases hv b e with h1 | h1
    · exact k3 b hb h1
    · have := (k1.lt b hb).2; omega
end
/-- What the items say. -/
def Ei (l : List It8) : List (At × Int) := l.map fun x => (x.1.1, x.2)
def tI8 (x : It8) : It8 := (x.1, tE8 x.2)
theorem Ei_turn (l : List It8) : (Ei l).map (fun x => (x.1, tE8 x.2)) = Ei (l.map tI8) := by simp [Ei, tI8, Function.comp_def]
theorem Ei_len (l : List It8) : (Ei l).length = l.length := by simp [Ei]
theorem Ei_app (l m : List It8) : Ei (l ++ m) = Ei l ++ Ei m := by simp [Ei]
theorem pl8_in {l : List It8} {f : At} : pl8 l f < 0 ↔ f ∉ (Ei l).map Prod.fst := by
  have hm : f ∈ (Ei l).map Prod.fst ↔ ∃ x ∈ l, x.1.1 = f := by simp [Ei]
  unfold pl8
  cases h : l.findIdx? (fun x => decide (x.1.1 = f)) with
  | some i =>
    obtain ⟨hi, h1, -⟩ := List.findIdx?_eq_some_iff_getElem.1 h
    simp only
    constructor
    · intro h; omega
    · intro hc; exact absurd (hm.2 ⟨_, List.getElem_mem hi, by simpa using h1⟩) hc
  | none =>
    rw [List.findIdx?_eq_none_iff] at h
    simp only
    constructor
    · intro _ hc
      obtain ⟨x, hx, e⟩ := hm.1 hc
      have := h x hx
      simp [e] at this
    · intro _; omega
/-- A base and its items. -/
def Bt8 (w : World) (g : Nat) (iv : Value) (l : List It8) (Y : World) : Prop :=
  ∃ A, BP8 w A g 0 (sz8 (Ei l)) (Ei l) Y ∧ IL8 Y w.heap.size iv l ∧ ∀ b, Ib iv l b → ¬ A b
end Go.Proofs.YtechceagghcipaaGreat
