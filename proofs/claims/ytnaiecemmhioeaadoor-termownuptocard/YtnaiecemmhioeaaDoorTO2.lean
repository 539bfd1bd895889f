/-
  marked. (Written by TO2.py.)
-/
import Derived.Test.YtnaiecemmhioeaaDoorTO1
namespace Go.Proofs.YtnaiecemmhioeaaDoor
open Go.RowKit
attribute [local go_sem ↓] Go.wp_at_zero Go.wp_at_succ

theorem wrap_m {j : Nat} (h : j ≤ 1000) : IntKind.i64.wrap (-1 - (j : Int)) = -1 - (j : Int) := by
  simp only [IntKind.wrap, IntKind.bits, IntKind.signed]
  simp
  omega
theorem wrap_k {j : Nat} (h : j ≤ 1000) : wrap64 (-1 - (j : Int)) = -1 - (j : Int) := by
  unfold wrap64
  omega
theorem three9 {w : World} {g : Nat} {a b c : Value} {t : TypeId} (h : Blk w g #[a, b, c] t) : w.cell? ⟨g, 0, none⟩ = some a ∧ w.cell? ⟨g, 1, none⟩ = some b ∧ w.cell? ⟨g, 2, none⟩ = some c :=
  ⟨cell_of_row _ _ _ _ _ _ h, cell_of_row _ _ _ _ _ _ h, cell_of_row _ _ _ _ _ _ h⟩
set_option maxRecDepth 20000 in
set_option maxHeartbeats 8000000 in
theorem marked_any (Lb : Nat) (vT vB vN : Value) (ts bs ns : List (Value × Nat)) (w : World) (hL : Blk w Lb #[vT, vB, vN] 36) (hT : RdT w vT ts) (hBd : RdB w vB bs) (hN : RdN w vN ns) (h1 : ts.length ≤ 1000) (h2 : bs.length ≤ 1000) (h3 : ns.length ≤ 1000) :
    Calls Tryd.prog 17 #[.pointer (some ⟨Lb, 0, none⟩)] w fun e w' => e = .returned (.bool true) ∧ Below w.heap.size w w' := by
  have HLB : Hid (Blk w Lb #[vT, vB, vN] 36) := hL
  have HT : Hid (RdT w vT ts) := hT
  have HB9 : Hid (RdB w vB bs) := hBd
  have HN : Hid (RdN w vN ns) := hN
  have HOW : Hid (∀ (n : Nat) (Y : World), Calls Tryd.prog 16 #[.int .i64 (n : Int)] Y fun e w' => e = .returned (.agg #[.int .i64 (-7), .int .i64 (n : Int), .string oB]) ∧ Below Y.heap.size Y w') := fun n Y => own_any n Y
  obtain ⟨ta, tc, e1⟩ := hT.o.form
  obtain ⟨ba, bc, e2⟩ := hBd.o.form
  obtain ⟨na, nc, e3⟩ := hN.o.form
  rw [List.length_map] at e1 e2 e3
  subst e1 e2 e3
  clear hL hT hBd hN
  go_enter Tryd.func17, Tryd.ntmps17
  go_wp2
  go_loopg [3] ts.length (fun g i wr => ∃ j : Nat, j + g = ts.length ∧ i = .int .i64 (j : Int) ∧ Below w.heap.size w wr)
  case atStart => exact ⟨0, by omega, rfl, Below.refl _ _⟩
  case round =>
    obtain ⟨j, hg, rfl, hb⟩ := hrel
    have HB : Hid (Below w.heap.size w wr) := hb
    have ij : (0 : Int) ≤ (j : Int) := by omega
    obtain ⟨y0, y1, y2⟩ := three9 (HLB.out.later hb)
    have hLz := (HLB.out.later hb).lt
    clear hb
    by_cases hjl : j < ts.length
    · have k1 : (j : Int) < (ts.length : Int) := by omega
      obtain ⟨G, rfl⟩ : ∃ G, gk = G + 1 := ⟨gk - 1, by omega⟩
      obtain ⟨x, hx⟩ : ∃ z, ts[j]? = some z := ⟨_, List.getElem?_eq_getElem hjl⟩
      obtain ⟨gb, rfl, hxz, hxc⟩ := (HT.out.later HB.out).o.get (j := j) (u := x.1) (by rw [List.getElem?_map, hx]; rfl)
      have HXI : Hid (∀ Y : World, Below w.heap.size w Y → Ts Y x.1 (List.replicate x.2 (oT j))) := fun Y hY => (HT.out.later hY).i j x hx
      have HXC : Hid (∀ Y : World, Below w.heap.size w Y → gb < Y.heap.size ∧ Y.cell? ⟨gb, j, none⟩ = some x.1) := fun Y hY => by
        obtain ⟨b, e, h1, h2⟩ := (HT.out.later hY).o.get (j := j) (u := x.1) (by rw [List.getElem?_map, hx]; rfl)
        cases e; exact ⟨h1, h2⟩
      obtain ⟨xv, xn⟩ := x
      obtain ⟨xa, xc, ex, hxl, -⟩ := HXI.out wr HB.out
      simp only [List.length_replicate] at ex hxl hxc HXI HXC
      subst ex
      have HQ : Hid (j + (G + 1) = ts.length ∧ j < ts.length) := ⟨hg, hjl⟩
      have HB0 : Hid (Below w.heap.size w wr) := HB.out
      clear hx
      go_wp2
      go_loopg [4] xn (fun g i wr => ∃ q : Nat, q + g = xn ∧ i = .int .i64 (q : Int) ∧ Below w.heap.size w wr)
      case atStart => exact ⟨0, by omega, rfl, HB0.out⟩
      case round =>
        obtain ⟨q, hgq, rfl, hb⟩ := hrel
        have HB : Hid (Below w.heap.size w wr) := hb
        have iq : (0 : Int) ≤ (q : Int) := by omega
        obtain ⟨y0, y1, y2⟩ := three9 (HLB.out.later hb)
        have hLz := (HLB.out.later hb).lt
        obtain ⟨hxz, hxc⟩ := HXC.out wr hb
        have hxi := HXI.out wr hb
        obtain ⟨hq1, hq2⟩ := HQ.out
        have k1 : (j : Int) < (ts.length : Int) := by omega
        have hwj : IntKind.i64.wrap (-1 - (j : Int)) = -1 - (j : Int) := wrap_m (by omega)
        have hwk : wrap64 (-1 - (j : Int)) = -1 - (j : Int) := wrap_k (by omega)
        clear hb
        by_cases hql : q < xn
        · have k2 : (q : Int) < (xn : Int) := by omega
          obtain ⟨a2, c2, e2, -, h2⟩ := hxi
          simp only [Value.slice.injEq] at e2
          obtain ⟨rfl, -, rfl⟩ := e2
          rcases h2 with h2 | ⟨xb, xo, rfl, h2⟩
          · rw [List.replicate_eq_nil_iff] at h2; omega
          have HRW : Hid (wr.cell? ⟨xb, xo + q * 3, none⟩ = some (.int .i64 (-7)) ∧ wr.cell? ⟨xb, xo + q * 3 + 1, none⟩ = some (.int .i64 (j : Int)) ∧ wr.cell? ⟨xb, xo + q * 3 + 2, none⟩ = some (.string oB)) := h2.2 q (oT j) (by rw [List.getElem?_replicate, if_pos hql])
          have hrz := h2.1
          clear h2
          go_upto_region 7 with fail
          refine wp_region_held_drew (S := fun w' => Below wr.heap.size wr w') (by kernel_rfl) (Below.refl _ _).drew (fun hH => ?_)
          revert hH
          generalize wr.drew = V
          intro hH
          refine wpAnyH_take (i := 0) (oi := ⟨_, _, _, _, _, _⟩) (v := .pointer (some ⟨Lb, 0, none⟩)) rfl (by kernel_rfl) (by kernel_rfl) (by kernel_rfl) (fun _ _ _ h => h) (Or.inl ⟨by rfl, fun w' _ => by go_simp⟩) hH ?_
          simp only [Act.put, List.setIfInBounds_toArray, List.set_cons_zero, List.set_cons_succ]
          refine wpAnyH_take (i := 1) (oi := ⟨_, _, _, _, _, _⟩) (v := .pointer (some ⟨Lb, 0, none⟩)) rfl (by kernel_rfl) (by kernel_rfl) (by kernel_rfl) (fun _ _ _ h => h) (Or.inl ⟨by rfl, fun w' _ => by go_simp⟩) hH ?_
          simp only [Act.put, List.setIfInBounds_toArray, List.set_cons_zero, List.set_cons_succ]
          refine wpAnyH_take (i := 2) (oi := ⟨_, _, _, _, _, _⟩) (v := .pointer (some ⟨Lb, 0, none⟩)) rfl (by kernel_rfl) (by kernel_rfl) (by kernel_rfl) (fun _ _ _ h => h) (Or.inl ⟨by rfl, fun w' _ => by go_simp⟩) hH ?_
          simp only [Act.put, List.setIfInBounds_toArray, List.set_cons_zero, List.set_cons_succ]
          refine wpAnyH_take (i := 3) (oi := ⟨_, _, _, _, _, _⟩) (v := .slice (some ⟨gb, 0, none⟩) ts.length tc) rfl (by kernel_rfl) (by kernel_rfl) (by kernel_rfl) (fun _ _ _ h => h) (Or.inl ⟨by rfl, fun w' h => by obtain ⟨y0, y1, y2⟩ := three9 (Blk.later (Hid.out HLB) (below_step (Hid.out HB) h)); clear h; go_simp⟩) hH ?_
          simp only [Act.put, List.setIfInBounds_toArray, List.set_cons_zero, List.set_cons_succ]
          refine wpAnyH_take (i := 4) (oi := ⟨_, _, _, _, _, _⟩) (v := .int .i64 (j : Int)) rfl (by kernel_rfl) (by kernel_rfl) (by kernel_rfl) (fun _ _ _ h => h) (Or.inl ⟨by rfl, fun w' _ => by go_simp⟩) hH ?_
          simp only [Act.put, List.setIfInBounds_toArray, List.set_cons_zero, List.set_cons_succ]
          refine wpAnyH_take (i := 5) (oi := ⟨_, _, _, _, _, _⟩) (v := .pointer (some ⟨gb, j, none⟩)) rfl (by kernel_rfl) (by kernel_rfl) (by kernel_rfl) (fun _ _ _ h => h) (Or.inl ⟨by rfl, fun w' _ => by go_simp⟩) hH ?_
          simp only [Act.put, List.setIfInBounds_toArray, List.set_cons_zero, List.set_cons_succ]
          refine wpAnyH_take (i := 6) (oi := ⟨_, _, _, _, _, _⟩) (v := .slice (some ⟨xb, xo, none⟩) xn xc) rfl (by kernel_rfl) (by kernel_rfl) (by kernel_rfl) (fun _ _ _ h => h) (Or.inl ⟨by rfl, fun w' h => by have y0 := cell_step h hxz hxc; clear h; go_simp⟩) hH ?_
          simp only [Act.put, List.setIfInBounds_toArray, List.set_cons_zero, List.set_cons_succ]
          refine wpAnyH_take (i := 7) (oi := ⟨_, _, _, _, _, _⟩) (v := .int .i64 (q : Int)) rfl (by kernel_rfl) (by kernel_rfl) (by kernel_rfl) (fun _ _ _ h => h) (Or.inl ⟨by rfl, fun w' _ => by go_simp⟩) hH ?_
          simp only [Act.put, List.setIfInBounds_toArray, List.set_cons_zero, List.set_cons_succ]
          refine wpAnyH_take (i := 8) (oi := ⟨_, _, _, _, _, _⟩) (v := .pointer (some ⟨xb, xo + q * 3, none⟩)) rfl (by kernel_rfl) (by kernel_rfl) (by kernel_rfl) (fun _ _ _ h => h) (Or.inl ⟨by rfl, fun w' _ => by go_simp⟩) hH ?_
          simp only [Act.put, List.setIfInBounds_toArray, List.set_cons_zero, List.set_cons_succ]
          refine wpAnyH_take (i := 9) (oi := ⟨_, _, _, _, _, _⟩) (v := .agg #[.int .i64 (-7), .int .i64 (j : Int), .string oB]) rfl (by kernel_rfl) (by kernel_rfl) (by kernel_rfl) (fun _ _ _ h => h) (Or.inl ⟨by rfl, fun w' h => by obtain ⟨y0, y1, y2⟩ := Hid.out HRW; have z := hrz; have a0 := cell_step h z y0; have a1 := cell_step h z y1; have a2 := cell_step h z y2; clear y0 y1 y2 h; go_simp⟩) hH ?_
          simp only [Act.put, List.setIfInBounds_toArray, List.set_cons_zero, List.set_cons_succ]
          refine wpAnyH_take (i := 10) (oi := ⟨_, _, _, _, _, _⟩) (v := .int .i64 (j : Int)) rfl (by kernel_rfl) (by kernel_rfl) (by kernel_rfl) (fun _ _ _ h => h) (Or.inl ⟨by rfl, fun w' _ => by go_simp⟩) hH ?_
          simp only [Act.put, List.setIfInBounds_toArray, List.set_cons_zero, List.set_cons_succ]
          refine wpAnyH_ready (rs := [11]) (by kernel_rfl) (by simp) ?_
          refine (AllReadyH.cons (o := ⟨_, _, _, _, _, _⟩) rfl (fun K hK => ?_) AllReadyH.nil)
          go_simp
          refine (HOW.out j _).mono ?_
          rintro e V1 ⟨rfl, hb⟩
          refine hK.out _ _ (below_step hH hb) (fun hH => ?_)
          clear hK K hb
          refine wpAnyH_take (i := 12) (oi := ⟨_, _, _, _, _, _⟩) (v := .bool false) rfl (by kernel_rfl) (by kernel_rfl) (by kernel_rfl) (fun _ _ _ h => h) (Or.inl ⟨by rfl, fun w' _ => by go_simp⟩) hH ?_
          simp only [Act.put, List.setIfInBounds_toArray, List.set_cons_zero, List.set_cons_succ]
          refine wpAnyH_done (by kernel_rfl) ?_ _
          have HW : Hid (Below wr.heap.size wr V1) := hH
          clear hH
          go_wp2
          go_roundg (gk - 1)
          case measure => omega
          case rel => exact ⟨q + 1, by omega, by go_num, below_step HB.out HW.out⟩
        · have k2 : ¬ (q : Int) < (xn : Int) := by omega
          clear hxi
          go_wp2
          go_roundg G
          case measure => omega
          case rel => exact ⟨j + 1, by omega, by go_num, HB.out⟩
    · have k1 : ¬ (j : Int) < (ts.length : Int) := by omega
      have HBS : Hid (Below w.heap.size w wr) := HB.out
      go_wp2
      go_loopg [5] bs.length (fun g i wr => ∃ j : Nat, j + g = bs.length ∧ i = .int .i64 (j : Int) ∧ Below w.heap.size w wr)
      case atStart => exact ⟨0, by omega, rfl, HBS.out⟩
      case round =>
        obtain ⟨j, hg, rfl, hb⟩ := hrel
        have HB : Hid (Below w.heap.size w wr) := hb
        have ij : (0 : Int) ≤ (j : Int) := by omega
        obtain ⟨y0, y1, y2⟩ := three9 (HLB.out.later hb)
        have hLz := (HLB.out.later hb).lt
        clear hb
        by_cases hjl : j < bs.length
        · have k1 : (j : Int) < (bs.length : Int) := by omega
          obtain ⟨G, rfl⟩ : ∃ G, gk = G + 1 := ⟨gk - 1, by omega⟩
          obtain ⟨x, hx⟩ : ∃ z, bs[j]? = some z := ⟨_, List.getElem?_eq_getElem hjl⟩
          obtain ⟨gb, rfl, hxz, hxc⟩ := (HB9.out.later HB.out).o.get (j := j) (u := x.1) (by rw [List.getElem?_map, hx]; rfl)
          have HXI : Hid (∀ Y : World, Below w.heap.size w Y → Bs Y x.1 (List.replicate x.2 (oD j))) := fun Y hY => (HB9.out.later hY).i j x hx
          have HXC : Hid (∀ Y : World, Below w.heap.size w Y → gb < Y.heap.size ∧ Y.cell? ⟨gb, j, none⟩ = some x.1) := fun Y hY => by
            obtain ⟨b, e, h1, h2⟩ := (HB9.out.later hY).o.get (j := j) (u := x.1) (by rw [List.getElem?_map, hx]; rfl)
            cases e; exact ⟨h1, h2⟩
          obtain ⟨xv, xn⟩ := x
          obtain ⟨xa, xc, ex, hxl, -⟩ := HXI.out wr HB.out
          simp only [List.length_replicate] at ex hxl hxc HXI HXC
          subst ex
          have HQ : Hid (j + (G + 1) = bs.length ∧ j < bs.length) := ⟨hg, hjl⟩
          have HB0 : Hid (Below w.heap.size w wr) := HB.out
          clear hx
          go_wp2
          go_loopg [6] xn (fun g i wr => ∃ q : Nat, q + g = xn ∧ i = .int .i64 (q : Int) ∧ Below w.heap.size w wr)
          case atStart => exact ⟨0, by omega, rfl, HB0.out⟩
          case round =>
            obtain ⟨q, hgq, rfl, hb⟩ := hrel
            have HB : Hid (Below w.heap.size w wr) := hb
            have iq : (0 : Int) ≤ (q : Int) := by omega
            obtain ⟨y0, y1, y2⟩ := three9 (HLB.out.later hb)
            have hLz := (HLB.out.later hb).lt
            obtain ⟨hxz, hxc⟩ := HXC.out wr hb
            have hxi := HXI.out wr hb
            obtain ⟨hq1, hq2⟩ := HQ.out
            have k1 : (j : Int) < (bs.length : Int) := by omega
            have hwj : IntKind.i64.wrap (-1 - (j : Int)) = -1 - (j : Int) := wrap_m (by omega)
            have hwk : wrap64 (-1 - (j : Int)) = -1 - (j : Int) := wrap_k (by omega)
            clear hb
            by_cases hql : q < xn
            · have k2 : (q : Int) < (xn : Int) := by omega
              obtain ⟨a2, c2, e2, -, h2⟩ := hxi
              simp only [Value.slice.injEq] at e2
              obtain ⟨rfl, -, rfl⟩ := e2
              rcases h2 with h2 | ⟨xb, xo, rfl, h2⟩
              · rw [List.replicate_eq_nil_iff] at h2; omega
              have HRW : Hid (wr.cell? ⟨xb, xo + q * 4, none⟩ = some (.int .i64 (-1 - (j : Int))) ∧ wr.cell? ⟨xb, xo + q * 4 + 1, none⟩ = some (.int .i64 (-7)) ∧ wr.cell? ⟨xb, xo + q * 4 + 2, none⟩ = some (.int .i64 (j : Int)) ∧ wr.cell? ⟨xb, xo + q * 4 + 3, none⟩ = some (.string oB)) := h2.2 q (oD j) (by rw [List.getElem?_replicate, if_pos hql])
              have hrz := h2.1
              clear h2
              go_upto_region 15 with fail
              refine wp_region_held_drew (S := fun w' => Below wr.heap.size wr w') (by kernel_rfl) (Below.refl _ _).drew (fun hH => ?_)
              revert hH
              generalize wr.drew = V
              intro hH
              refine wpAnyH_take (i := 0) (oi := ⟨_, _, _, _, _, _⟩) (v := .pointer (some ⟨Lb, 0, none⟩)) rfl (by kernel_rfl) (by kernel_rfl) (by kernel_rfl) (fun _ _ _ h => h) (Or.inl ⟨by rfl, fun w' _ => by go_simp⟩) hH ?_
              simp only [Act.put, List.setIfInBounds_toArray, List.set_cons_zero, List.set_cons_succ]
              refine wpAnyH_take (i := 1) (oi := ⟨_, _, _, _, _, _⟩) (v := .pointer (some ⟨Lb, 0, none⟩)) rfl (by kernel_rfl) (by kernel_rfl) (by kernel_rfl) (fun _ _ _ h => h) (Or.inl ⟨by rfl, fun w' _ => by go_simp⟩) hH ?_
              simp only [Act.put, List.setIfInBounds_toArray, List.set_cons_zero, List.set_cons_succ]
              refine wpAnyH_take (i := 2) (oi := ⟨_, _, _, _, _, _⟩) (v := .pointer (some ⟨Lb, 1, none⟩)) rfl (by kernel_rfl) (by kernel_rfl) (by kernel_rfl) (fun _ _ _ h => h) (Or.inl ⟨by rfl, fun w' _ => by go_simp⟩) hH ?_
              simp only [Act.put, List.setIfInBounds_toArray, List.set_cons_zero, List.set_cons_succ]
              refine wpAnyH_take (i := 3) (oi := ⟨_, _, _, _, _, _⟩) (v := .slice (some ⟨gb, 0, none⟩) bs.length bc) rfl (by kernel_rfl) (by kernel_rfl) (by kernel_rfl) (fun _ _ _ h => h) (Or.inl ⟨by rfl, fun w' h => by obtain ⟨y0, y1, y2⟩ := three9 (Blk.later (Hid.out HLB) (below_step (Hid.out HB) h)); clear h; go_simp⟩) hH ?_
              simp only [Act.put, List.setIfInBounds_toArray, List.set_cons_zero, List.set_cons_succ]
              refine wpAnyH_take (i := 4) (oi := ⟨_, _, _, _, _, _⟩) (v := .int .i64 (j : Int)) rfl (by kernel_rfl) (by kernel_rfl) (by kernel_rfl) (fun _ _ _ h => h) (Or.inl ⟨by rfl, fun w' _ => by go_simp⟩) hH ?_
              simp only [Act.put, List.setIfInBounds_toArray, List.set_cons_zero, List.set_cons_succ]
              refine wpAnyH_take (i := 5) (oi := ⟨_, _, _, _, _, _⟩) (v := .pointer (some ⟨gb, j, none⟩)) rfl (by kernel_rfl) (by kernel_rfl) (by kernel_rfl) (fun _ _ _ h => h) (Or.inl ⟨by rfl, fun w' _ => by go_simp⟩) hH ?_
              simp only [Act.put, List.setIfInBounds_toArray, List.set_cons_zero, List.set_cons_succ]
              refine wpAnyH_take (i := 6) (oi := ⟨_, _, _, _, _, _⟩) (v := .slice (some ⟨xb, xo, none⟩) xn xc) rfl (by kernel_rfl) (by kernel_rfl) (by kernel_rfl) (fun _ _ _ h => h) (Or.inl ⟨by rfl, fun w' h => by have y0 := cell_step h hxz hxc; clear h; go_simp⟩) hH ?_
              simp only [Act.put, List.setIfInBounds_toArray, List.set_cons_zero, List.set_cons_succ]
              refine wpAnyH_take (i := 7) (oi := ⟨_, _, _, _, _, _⟩) (v := .int .i64 (q : Int)) rfl (by kernel_rfl) (by kernel_rfl) (by kernel_rfl) (fun _ _ _ h => h) (Or.inl ⟨by rfl, fun w' _ => by go_simp⟩) hH ?_
              simp only [Act.put, List.setIfInBounds_toArray, List.set_cons_zero, List.set_cons_succ]
              refine wpAnyH_take (i := 8) (oi := ⟨_, _, _, _, _, _⟩) (v := .pointer (some ⟨xb, xo + q * 4, none⟩)) rfl (by kernel_rfl) (by kernel_rfl) (by kernel_rfl) (fun _ _ _ h => h) (Or.inl ⟨by rfl, fun w' _ => by go_simp⟩) hH ?_
              simp only [Act.put, List.setIfInBounds_toArray, List.set_cons_zero, List.set_cons_succ]
              refine wpAnyH_take (i := 9) (oi := ⟨_, _, _, _, _, _⟩) (v := .agg #[.int .i64 (-1 - (j : Int)), .int .i64 (-7), .int .i64 (j : Int), .string oB]) rfl (by kernel_rfl) (by kernel_rfl) (by kernel_rfl) (fun _ _ _ h => h) (Or.inl ⟨by rfl, fun w' h => by obtain ⟨y0, y1, y2, y3⟩ := Hid.out HRW; have z := hrz; have a0 := cell_step h z y0; have a1 := cell_step h z y1; have a2 := cell_step h z y2; have a3 := cell_step h z y3; clear y0 y1 y2 y3 h; go_simp⟩) hH ?_
              simp only [Act.put, List.setIfInBounds_toArray, List.set_cons_zero, List.set_cons_succ]
              refine wpAnyH_take (i := 10) (oi := ⟨_, _, _, _, _, _⟩) (v := .int .i64 (j : Int)) rfl (by kernel_rfl) (by kernel_rfl) (by kernel_rfl) (fun _ _ _ h => h) (Or.inl ⟨by rfl, fun w' _ => by go_simp⟩) hH ?_
              simp only [Act.put, List.setIfInBounds_toArray, List.set_cons_zero, List.set_cons_succ]
              refine wpAnyH_take (i := 11) (oi := ⟨_, _, _, _, _, _⟩) (v := .int .i64 (-1 - (j : Int))) rfl (by kernel_rfl) (by kernel_rfl) (by kernel_rfl) (fun _ _ _ h => h) (Or.inl ⟨by rfl, fun w' _ => by go_simp⟩) hH ?_
              simp only [Act.put, List.setIfInBounds_toArray, List.set_cons_zero, List.set_cons_succ]
              refine wpAnyH_take (i := 12) (oi := ⟨_, _, _, _, _, _⟩) (v := .int .i64 (j : Int)) rfl (by kernel_rfl) (by kernel_rfl) (by kernel_rfl) (fun _ _ _ h => h) (Or.inl ⟨by rfl, fun w' _ => by go_simp⟩) hH ?_
              simp only [Act.put, List.setIfInBounds_toArray, List.set_cons_zero, List.set_cons_succ]
              refine wpAnyH_ready (rs := [13]) (by kernel_rfl) (by simp) ?_
              refine (AllReadyH.cons (o := ⟨_, _, _, _, _, _⟩) rfl (fun K hK => ?_) AllReadyH.nil)
              go_simp
              refine (HOW.out j _).mono ?_
              rintro e V1 ⟨rfl, hb⟩
              refine hK.out _ _ (below_step hH hb) (fun hH => ?_)
              clear hK K hb
              refine wpAnyH_take (i := 14) (oi := ⟨_, _, _, _, _, _⟩) (v := .agg #[.int .i64 (-1 - (j : Int)), .int .i64 (-7), .int .i64 (j : Int), .string oB]) rfl (by kernel_rfl) (by kernel_rfl) (by kernel_rfl) (fun _ _ _ h => h) (Or.inl ⟨by rfl, fun w' _ => by go_simp⟩) hH ?_
              simp only [Act.put, List.setIfInBounds_toArray, List.set_cons_zero, List.set_cons_succ]
              refine wpAnyH_take (i := 15) (oi := ⟨_, _, _, _, _, _⟩) (v := .bool false) rfl (by kernel_rfl) (by kernel_rfl) (by kernel_rfl) (fun _ _ _ h => h) (Or.inl ⟨by rfl, fun w' _ => by go_simp⟩) hH ?_
              simp only [Act.put, List.setIfInBounds_toArray, List.set_cons_zero, List.set_cons_succ]
              refine wpAnyH_done (by kernel_rfl) ?_ _
              have HW : Hid (Below wr.heap.size wr V1) := hH
              clear hH
              go_wp2
              go_roundg (gk - 1)
              case measure => omega
              case rel => exact ⟨q + 1, by omega, by go_num, below_step HB.out HW.out⟩
            · have k2 : ¬ (q : Int) < (xn : Int) := by omega
              clear hxi
              go_wp2
              go_roundg G
              case measure => omega
              case rel => exact ⟨j + 1, by omega, by go_num, HB.out⟩
        · have k1 : ¬ (j : Int) < (bs.length : Int) := by omega
          have HBS : Hid (Below w.heap.size w wr) := HB.out
          go_wp2
          go_loopg [7] ns.length (fun g i wr => ∃ j : Nat, j + g = ns.length ∧ i = .int .i64 (j : Int) ∧ Below w.heap.size w wr)
          case atStart => exact ⟨0, by omega, rfl, HBS.out⟩
          case round =>
            obtain ⟨j, hg, rfl, hb⟩ := hrel
            have HB : Hid (Below w.heap.size w wr) := hb
            have ij : (0 : Int) ≤ (j : Int) := by omega
            obtain ⟨y0, y1, y2⟩ := three9 (HLB.out.later hb)
            have hLz := (HLB.out.later hb).lt
            clear hb
            by_cases hjl : j < ns.length
            · have k1 : (j : Int) < (ns.length : Int) := by omega
              obtain ⟨G, rfl⟩ : ∃ G, gk = G + 1 := ⟨gk - 1, by omega⟩
              obtain ⟨x, hx⟩ : ∃ z, ns[j]? = some z := ⟨_, List.getElem?_eq_getElem hjl⟩
              obtain ⟨gb, rfl, hxz, hxc⟩ := (HN.out.later HB.out).o.get (j := j) (u := x.1) (by rw [List.getElem?_map, hx]; rfl)
              have HXI : Hid (∀ Y : World, Below w.heap.size w Y → Ns Y x.1 (List.replicate x.2 (oI j))) := fun Y hY => (HN.out.later hY).i j x hx
              have HXC : Hid (∀ Y : World, Below w.heap.size w Y → gb < Y.heap.size ∧ Y.cell? ⟨gb, j, none⟩ = some x.1) := fun Y hY => by
                obtain ⟨b, e, h1, h2⟩ := (HN.out.later hY).o.get (j := j) (u := x.1) (by rw [List.getElem?_map, hx]; rfl)
                cases e; exact ⟨h1, h2⟩
              obtain ⟨xv, xn⟩ := x
              obtain ⟨xa, xc, ex, hxl, -⟩ := HXI.out wr HB.out
              simp only [List.length_replicate] at ex hxl hxc HXI HXC
              subst ex
              have HQ : Hid (j + (G + 1) = ns.length ∧ j < ns.length) := ⟨hg, hjl⟩
              have HB0 : Hid (Below w.heap.size w wr) := HB.out
              clear hx
              go_wp2
              go_loopg [8] xn (fun g i wr => ∃ q : Nat, q + g = xn ∧ i = .int .i64 (q : Int) ∧ Below w.heap.size w wr)
              case atStart => exact ⟨0, by omega, rfl, HB0.out⟩
              case round =>
                obtain ⟨q, hgq, rfl, hb⟩ := hrel
                have HB : Hid (Below w.heap.size w wr) := hb
                have iq : (0 : Int) ≤ (q : Int) := by omega
                obtain ⟨y0, y1, y2⟩ := three9 (HLB.out.later hb)
                have hLz := (HLB.out.later hb).lt
                obtain ⟨hxz, hxc⟩ := HXC.out wr hb
                have hxi := HXI.out wr hb
                obtain ⟨hq1, hq2⟩ := HQ.out
                have k1 : (j : Int) < (ns.length : Int) := by omega
                have hwj : IntKind.i64.wrap (-1 - (j : Int)) = -1 - (j : Int) := wrap_m (by omega)
                have hwk : wrap64 (-1 - (j : Int)) = -1 - (j : Int) := wrap_k (by omega)
                clear hb
                by_cases hql : q < xn
                · have k2 : (q : Int) < (xn : Int) := by omega
                  obtain ⟨a2, c2, e2, -, h2⟩ := hxi
                  simp only [Value.slice.injEq] at e2
                  obtain ⟨rfl, -, rfl⟩ := e2
                  rcases h2 with h2 | ⟨xb, xo, rfl, h2⟩
                  · rw [List.replicate_eq_nil_iff] at h2; omega
                  have hrw0 : wr.cell? ⟨xb, xo + q, none⟩ = some (.int .i64 (oI j)) := h2.2 q (oI j) (by rw [List.getElem?_replicate, if_pos hql])
                  have hrz := h2.1
                  have hrw : wr.cell? ⟨xb, xo + q, none⟩ = some (.int .i64 (-1 - (j : Int))) := hrw0
                  clear h2 hrw0
                  go_wp2
                  go_roundg (gk - 1)
                  case measure => omega
                  case rel => exact ⟨q + 1, by omega, by go_num, HB.out⟩
                · have k2 : ¬ (q : Int) < (xn : Int) := by omega
                  clear hxi
                  go_wp2
                  go_roundg G
                  case measure => omega
                  case rel => exact ⟨j + 1, by omega, by go_num, HB.out⟩
            · have k1 : ¬ (j : Int) < (ns.length : Int) := by omega
              have HBS : Hid (Below w.heap.size w wr) := HB.out
              go_wp2
              go_ret
              exact ⟨rfl, HBS.out⟩
end Go.Proofs.YtnaiecemmhioeaaDoor
