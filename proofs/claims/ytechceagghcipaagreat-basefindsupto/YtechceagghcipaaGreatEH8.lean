import Derived.Test.YtechceagghcipaaGreatEH6
/-
  law 8: what is in order and has no fact twice rises.
-/
namespace Go.Proofs.YtechceagghcipaaGreat
open Go.RowKit

theorem srtC8_rises {Q : List (At × Nat)} (h : srtC8 Q) (hn : (Q.map Prod.fst).Nodup) : ∀ (i : Nat) x y, (Q.map enc8)[i]? = some x → (Q.map enc8)[i + 1]? = some y → x.1.cmp y.1 < 0 := fun i x y hx hy => by
  rw [List.getElem?_map] at hx hy
  obtain ⟨a, ha, rfl⟩ := Option.map_eq_some_iff.1 hx
  obtain ⟨b, hb, rfl⟩ := Option.map_eq_some_iff.1 hy
  obtain ⟨hi, rfl⟩ := List.getElem?_eq_some_iff.1 ha
  obtain ⟨hj, rfl⟩ := List.getElem?_eq_some_iff.1 hb
  have h1 := List.pairwise_iff_getElem.1 h i (i + 1) hi hj (by omega)
  have h2 : Q[i].1 ≠ Q[i + 1].1 := by
    rw [List.nodup_iff_pairwise_ne, List.pairwise_map] at hn
    exact List.pairwise_iff_getElem.1 hn i (i + 1) hi hj (by omega)
  have h3 : Q[i].1.cmp Q[i + 1].1 ≠ 0 := fun e => h2 (ord_at.zero _ _ e)
  show Q[i].1.cmp Q[i + 1].1 < 0
  omega
/-- What a call that gathers facts answers, seen as a list in memory that rises. -/
theorem AL8.rises {V : World} {base : Nat} {fv : Value} {Q : List (At × Nat)} (h : AL8 V base fv Q) (hs : srtC8 Q) (hn : (Q.map Prod.fst).Nodup) (hl : Q.length ≤ 1000000000) : Calls Tryz.prog 10 #[fv] V fun e Y' => e = .returned (.bool true) ∧ Below V.heap.size V Y' :=
  rises8_yes (Q.map enc8) fv V (h.as hl) (srtC8_rises hs hn) (by rw [List.length_map]; exact hl)
theorem filter_fst_nd {E : List (At × Int)} (h : (E.map Prod.fst).Nodup) (p : At × Int → Bool) : ((E.filter p).map Prod.fst).Nodup := by
  rw [List.nodup_iff_pairwise_ne, List.pairwise_map] at h ⊢
  exact h.filter p
/-- Where a fact of the items lies. -/
theorem pl8_get {l : List It8} {f : At} {q : Int} (h : (f, q) ∈ Ei l) (hn : ((Ei l).map Prod.fst).Nodup) : ∃ (i : Nat) (x : It8), l[i]? = some x ∧ x.1.1 = f ∧ x.2 = q ∧ pl8 l f = (i : Int) := by
  obtain ⟨x, hx, e⟩ := List.mem_map.1 (show (f, q) ∈ l.map fun x => (x.1.1, x.2) from h)
  obtain ⟨i, hi, rfl⟩ := List.getElem_of_mem hx
  simp only [Prod.mk.injEq] at e
  refine ⟨i, l[i], List.getElem?_eq_getElem hi, e.1, e.2, pl8_at (List.getElem?_eq_getElem hi) e.1 fun j hj y hy he => ?_⟩
  obtain ⟨hjl, rfl⟩ := List.getElem?_eq_some_iff.1 hy
  unfold Ei at hn
  rw [List.map_map, List.nodup_iff_pairwise_ne, List.pairwise_map] at hn
  exact List.pairwise_iff_getElem.1 hn j i hjl hi hj (he.trans e.1.symm)
end Go.Proofs.YtechceagghcipaaGreat
/-
  law 8: BaseFinds. (Written by EH8.py.)
-/
namespace Go.Proofs.YtechceagghcipaaGreat
open Go.RowKit
attribute [local go_sem ↓] Go.wp_at_zero Go.wp_at_succ

theorem lmatch8_any (p f : At) (x y : Value) (X : World) (hx : Ts X x p.args) (hy : Ts X y f.args) (hl : p.args.length ≤ 1000000000) : Calls Tryz.prog 15 #[p.v x, f.v y, .slice none 0 0] X fun e X' => ∃ m, e = .returned (.tuple #[m, .bool (mt8 p f)]) ∧ Below X.heap.size X X' := by
  refine (match_all p f [] x y (.slice none 0 0) X hx hy ⟨none, 0, rfl, by simp, Or.inl rfl⟩ (by simp; omega)).mono ?_
  rintro e X' ⟨hb, h⟩
  unfold mt8
  cases hr : mRes p f [] with
  | none =>
    rw [hr] at h
    exact ⟨_, h, hb⟩
  | some out =>
    rw [hr] at h
    obtain ⟨v', out', rfl, -⟩ := h
    exact ⟨v', rfl, hb⟩
theorem Sc8.later {w w' : World} {v : Value} {Os : List Op8} (h : Sc8 w v Os) (hb : Below w.heap.size w w') : Sc8 w' v Os := by
  obtain ⟨a, cap, rfl, h1, h2⟩ := h
  refine ⟨a, cap, rfl, ?_, fun p hp => ⟨(h2 p hp).ts.later hb, (h2 p hp).k, (h2 p hp).nm⟩⟩
  rcases h1 with h1 | ⟨b, o, rfl, k1, k2⟩
  · exact Or.inl h1
  · exact Or.inr ⟨b, o, rfl, Nat.lt_of_lt_of_le k1 hb.size, fun i p hp j c hc => cell_step hb k1 (k2 i p hp j c hc)⟩
/-- How many of the first k items found must tell. -/
def fc8 (l : List It8) (parts : Int) (a : At) (k : Nat) : Nat := ((Ei (l.take k)).filter fun x => hp7 parts x.2 && mt8 a x.1).length
theorem fc8_step {l : List It8} {parts : Int} {a : At} {k : Nat} {x : It8} (h : l[k]? = some x) : fc8 l parts a (k + 1) = fc8 l parts a k + if (hp7 parts x.2 && mt8 a x.1.1) = true then 1 else 0 := by
  unfold fc8
  rw [List.take_add_one, h, Ei_app, List.filter_append, List.length_append]
  congr 1
  by_cases hp : (hp7 parts x.2 && mt8 a x.1.1) = true
  · have : (hp7 parts x.2 = true ∧ mt8 a x.1.1 = true) := by simpa using hp
    simp [Ei, this]
  · rw [if_neg hp]
    have : (hp7 parts x.2 && mt8 a x.1.1) = false := by simpa using hp
    simp [Ei, this]
set_option maxRecDepth 20000 in
set_option maxHeartbeats 2000000 in
theorem baseFinds8_any (w : World) (sv : Value) (Os : List Op8) (parts : Int) (a : At) (x : Value) (hS : Sc8 w sv Os) (hl : Os.length ≤ 1048576) (hz : zo8 Os ≤ 1048576) (hx : TsP w x a.args) (hk : ∀ t ∈ a.pl, KeyT t) (hkp : KeyP a.pd8) (hal : a.pl.length ≤ 1048576) :
    Calls Tryz.prog 4 #[sv, .int .i64 parts, a.v x] w fun e w' => e = .returned (.bool true) ∧ Below w.heap.size w w' := by
  obtain ⟨xa, xc, rfl⟩ := hx.shape
  have hsh := hS
  obtain ⟨sa, sc, rfl, -⟩ := hsh
  obtain ⟨a0, ha0⟩ : ∃ a0 : At, a0 = a := ⟨_, rfl⟩
  have HAL := hm7 (show a0.args.length ≤ 1048576 by rw [ha0]; simp [At.pl] at hal; omega)
  have HKA := hm7 (show (∀ t ∈ a0.pl, KeyT t) ∧ KeyP a0.pd8 ∧ a0.pl.length ≤ 1048576 by rw [ha0]; exact ⟨hk, hkp, hal⟩)
  have HTX := hm7 (show TsP w (.slice xa a.args.length xc) a0.args by rw [ha0]; exact hx)
  have HSC0 := hm7 hS
  have HZ := hm7 (And.intro hl hz)
  clear hx hk hkp hal hS hl hz
  obtain ⟨⟨ak, an, as_⟩, nm, al⟩ := a
  simp only at HTX
  have hbx := Bk.new w #[.int .i64 ak, .int .i64 an, .string as_, .string nm, .slice xa al.length xc] 34
  have hb0 := below1 w (.cells #[.int .i64 ak, .int .i64 an, .string as_, .string nm, .slice xa al.length xc] 34)
  obtain ⟨w1, hw1⟩ : ∃ w1, w.alloc (.cells #[.int .i64 ak, .int .i64 an, .string as_, .string nm, .slice xa al.length xc] 34) = w1 := ⟨_, rfl⟩
  rw [hw1] at hbx hb0
  have HBX := hm7 hbx
  have HB0 := hm7 hb0
  have HSC := hm7 (HSC0.out.later hb0)
  have HA0 := hm7 ha0
  clear hbx hb0 HSC0 ha0
  go_enter Tryz.func4, Tryz.ntmps4
  go_upto_region 2 with (go_at_call 6; first | rw [hw1] | skip; refine (built8_any w1 _ Os HSC.out HZ.out.1 HZ.out.2).mono ?_; rintro e W2 ⟨g, iv, l, rfl, ⟨A, h1, h2, h3⟩, h4, h5⟩; have HA2 := hm7 h1; have HI2 := hm7 h2; have HD2 := hm7 h3; have HE := hm7 h4; have HK := hm7 h5; clear h1 h2 h3 h4 h5 HSC)
  have hbA : ¬ A w.heap.size := fun h => by have h1 := (HA2.out.lt h).1; have h2 := HBX.out.lt; omega
  have HBA := hm7 hbA
  have HB2 := hm7 (HBX.out.below HA2.out.bl)
  have HLN := hm7 (show (Ei l).length ≤ 1048576 by have := sz8_len (Ei l); have := HE.out; omega)
  have HND := hm7 HA2.out.nd
  obtain ⟨⟨q0, q1⟩, q2, q3, q4⟩ := five8 HB2.out
  have HFO : Hid (Calls Tryz.prog 14 #[.pointer (some ⟨g, 0, none⟩), .int .i64 parts, .agg #[.int .i64 ak, .int .i64 an, .string as_, .string nm, .slice xa al.length xc]] W2 (FW8 w1 A g 1 (sz8 (Ei l)) (Ei l) (((Ei l).filter fun x => hp7 parts x.2 && mt8 a0 x.1).map Prod.fst) W2)) := by
    have := bp_lfound HA2.out parts a0 (.slice xa al.length xc) ((HTX.out.later HB0.out).later HA2.out.bl) (fun t ht _ => HKA.out.1 t ht) HKA.out.2.1 (by have := HKA.out.2.2; omega) (by have := HLN.out; omega) (by omega)
    rw [HA0.out] at this ⊢
    exact this
  clear hbA
  go_upto_region 5 with (go_at_call 14; refine HFO.out.mono ?_; rintro e W3 ⟨fv, Q, A3, rfl, k1, k2, k3, k4, k5, k6, -⟩; have HAL3 := hm7 k1; have HSRT := hm7 k2; have HPM := hm7 k3; have HBL := hm7 k4.bl; have HFR := hm7 k5; have HN3 := hm7 k6; clear k1 k2 k3 k4 k5 k6 HFO q0 q1 q2 q3 q4)
  obtain ⟨hi3, -⟩ := bt_fr HI2.out HD2.out HFR.out HN3.out
  have HI3 := hm7 hi3
  have HB3 := hm7 (HB2.out.fr HFR.out HBA.out)
  have HQN := hm7 (show (Q.map Prod.fst).Nodup from HPM.out.nodup_iff.2 (filter_fst_nd HND.out _))
  have HQL := hm7 (show Q.length = ((Ei l).filter fun x => hp7 parts x.2 && mt8 a0 x.1).length by have := HPM.out.length_eq; simpa using this)
  have HQ1 := hm7 (show Q.length ≤ 1048576 by have h1 := HQL.out; have h2 := List.length_filter_le (fun x : At × Int => hp7 parts x.2 && mt8 a0 x.1) (Ei l); have := HLN.out; omega)
  have HBW := hm7 (HB0.out.trans (HBL.out.mono HB0.out.size))
  clear hi3 HI2 HD2 HFR HN3 HB2 HA2 HBA HBL
  go_upto_region 7 with (go_at_call 10; refine (HAL3.out.rises HSRT.out HQN.out (by have := HQ1.out; omega)).mono ?_; rintro e W4 ⟨rfl, hb⟩; have HAL4 := hm7 (HAL3.out.below hb); have HI4 := hm7 (HI3.out.below hb); have HB4 := hm7 (HB3.out.below hb); have HBW4 := hm7 (HBW.out.trans (hb.mono HBW.out.size)); clear hb HAL3 HI3 HB3 HBW)
  obtain ⟨ia, ic, rfl⟩ := HI4.out.o.form
  have hll : l.length ≤ 1048576 := by have h1 := HLN.out; rw [Ei_len] at h1; exact h1
  go_wp2
  go_loopg [12, 11, 13, 14] l.length (fun g1 i nn _ _ wr => ∃ k : Nat, k + g1 = l.length ∧ i = .int .i64 k ∧ nn = .int .i64 (fc8 l parts a0 k : Int) ∧ fc8 l parts a0 k ≤ k ∧ Below W4.heap.size W4 wr)
  case atStart => exact ⟨0, by omega, rfl, rfl, by simp [fc8, Ei], Below.refl _ _⟩
  case round =>
    obtain ⟨k, hk, rfl, rfl, hfc, hb⟩ := hrel
    have HB := hm7 hb
    cases gk with
    | succ g1 =>
      have hlt : (k : Int) < (l.length : Int) := by omega
      have k0 : (0 : Int) ≤ (k : Int) := by omega
      obtain ⟨x, hx⟩ : ∃ x, l[k]? = some x := ⟨_, List.getElem?_eq_getElem (by omega)⟩
      have his := HI4.out.is
      obtain ⟨lb, lo, fa, fc, rfl, hsh, hc⟩ := his.get hx
      have hts : Ts W4 x.1.2 x.1.1.args := by
        obtain ⟨_, _, _, _, h⟩ := his
        exact h x (List.mem_of_getElem? hx)
      have HST := hm7 (fc8_step (parts := parts) (a := a0) hx)
      have HFC := hm7 hfc
      have HHK := hm7 hk
      have HXP : Hid (∀ X : World, Below wr.heap.size wr X → X.cell? ⟨w.heap.size, 0, none⟩ = some (.int .i64 ak) ∧ X.cell? ⟨w.heap.size, 1, none⟩ = some (.int .i64 an) ∧ X.cell? ⟨w.heap.size, 2, none⟩ = some (.string as_) ∧ X.cell? ⟨w.heap.size, 3, none⟩ = some (.string nm) ∧ X.cell? ⟨w.heap.size, 4, none⟩ = some (.slice xa al.length xc)) := fun X hX => by
        obtain ⟨⟨q0, q1⟩, q2, q3, q4⟩ := five8 ((HB4.out.below HB.out).below hX)
        exact ⟨q0, q1, q2, q3, q4⟩
      have HM0 := fun (X : World) (hX : Below wr.heap.size wr X) => lmatch8_any a0 x.1.1 (.slice xa al.length xc) x.1.2 X ((HTX.out.later (HBW4.out.trans ((hb.trans (hX.mono hb.size)).mono HBW4.out.size))).ts (by have := HAL.out; omega)) ((hts.later hb).later hX) (by have := HAL.out; omega)
      obtain ⟨⟨⟨⟨fk, fn, fs⟩, fnm, fl⟩, fv7⟩, px⟩ := x
      simp only at hsh hc HM0 HST
      subst hsh
      have HXF := hm7 (fun (X : World) (hX : Below wr.heap.size wr X) => (hc X (hb.trans (hX.mono hb.size))).1)
      have HC5 := hm7 (fun (X : World) (hX : Below wr.heap.size wr X) => (hc X (hb.trans (hX.mono hb.size))).2)
      obtain ⟨b, hbm⟩ : ∃ b, mt8 a0 ⟨⟨fk, fn, fs⟩, fnm, fl⟩ = b := ⟨_, rfl⟩
      rw [hbm] at HST
      have HMT : Hid (∀ X : World, Below wr.heap.size wr X → Calls Tryz.prog 15 #[.agg #[.int .i64 ak, .int .i64 an, .string as_, .string nm, .slice xa al.length xc], .agg #[.int .i64 fk, .int .i64 fn, .string fs, .string fnm, .slice fa fl.length fc], .slice none 0 0] X fun e X' => ∃ m, e = .returned (.tuple #[m, .bool b]) ∧ Below X.heap.size X X') := fun X hX => by
        have := HM0 X hX
        rw [hbm, HA0.out] at this
        exact this
      clear hx his hc hts HM0 hbm hfc hk hb
      go_upto_region 11 with fail
      refine wp_region_held_drew (S := fun w' => Below wr.heap.size wr w') (by kernel_rfl) (by exact (Below.refl _ _).drew) (fun hH => ?_)
      revert hH
      generalize wr.drew = V
      intro hH
      refine wpAnyH_take (i := 0) (oi := ⟨_, _, _, _, _, _⟩) (v := .agg #[.int .i64 ak, .int .i64 an, .string as_, .string nm, .slice xa al.length xc]) rfl (by kernel_rfl) (by kernel_rfl) (by kernel_rfl) (fun _ _ _ h => h) (Or.inl ⟨by rfl, fun w' h => by obtain ⟨p0, p1, p2, p3, p4⟩ := HXP.out w' h; clear h; go_simp⟩) hH ?_
      simp only [Act.put, List.setIfInBounds_toArray, List.set_cons_zero, List.set_cons_succ]
      refine wpAnyH_take (i := 1) (oi := ⟨_, _, _, _, _, _⟩) (v := .slice (some ⟨lb, lo, none⟩) l.length ic) rfl (by kernel_rfl) (by kernel_rfl) (by kernel_rfl) (fun _ _ _ h => h) (Or.inl ⟨by rfl, fun w' h => by clear h; go_simp⟩) hH ?_
      simp only [Act.put, List.setIfInBounds_toArray, List.set_cons_zero, List.set_cons_succ]
      refine wpAnyH_take (i := 2) (oi := ⟨_, _, _, _, _, _⟩) (v := .int .i64 (k : Int)) rfl (by kernel_rfl) (by kernel_rfl) (by kernel_rfl) (fun _ _ _ h => h) (Or.inl ⟨by rfl, fun w' h => by clear h; go_simp⟩) hH ?_
      simp only [Act.put, List.setIfInBounds_toArray, List.set_cons_zero, List.set_cons_succ]
      refine wpAnyH_take (i := 3) (oi := ⟨_, _, _, _, _, _⟩) (v := .pointer (some ⟨lb, lo + k * 6, none⟩)) rfl (by kernel_rfl) (by kernel_rfl) (by kernel_rfl) (fun _ _ _ h => h) (Or.inl ⟨by rfl, fun w' h => by clear h; go_simp⟩) hH ?_
      simp only [Act.put, List.setIfInBounds_toArray, List.set_cons_zero, List.set_cons_succ]
      refine wpAnyH_take (i := 4) (oi := ⟨_, _, _, _, _, _⟩) (v := .pointer (some ⟨lb, lo + k * 6, none⟩)) rfl (by kernel_rfl) (by kernel_rfl) (by kernel_rfl) (fun _ _ _ h => h) (Or.inl ⟨by rfl, fun w' h => by clear h; go_simp⟩) hH ?_
      simp only [Act.put, List.setIfInBounds_toArray, List.set_cons_zero, List.set_cons_succ]
      refine wpAnyH_take (i := 5) (oi := ⟨_, _, _, _, _, _⟩) (v := .agg #[.int .i64 fk, .int .i64 fn, .string fs, .string fnm, .slice fa fl.length fc]) rfl (by kernel_rfl) (by kernel_rfl) (by kernel_rfl) (fun _ _ _ h => h) (Or.inl ⟨by rfl, fun w' h => by obtain ⟨p0, p1, p2, p3, p4⟩ := HXF.out w' h; clear h; go_simp⟩) hH ?_
      simp only [Act.put, List.setIfInBounds_toArray, List.set_cons_zero, List.set_cons_succ]
      refine wpAnyH_ready (rs := [6]) (by kernel_rfl) (by simp) ?_
      refine (AllReadyH.cons (o := ⟨_, _, _, _, _, _⟩) rfl (fun K hK => ?_) AllReadyH.nil)
      go_simp
      refine (HMT.out _ hH).mono ?_
      rintro e V1 ⟨mv, rfl, hb⟩
      refine hK.out _ _ (hH.trans (hb.mono hH.size)) (fun hH => ?_)
      clear hK hb
      try simp only [Act.put, List.setIfInBounds_toArray, List.set_cons_zero, List.set_cons_succ]
      refine wpAnyH_take (i := 7) (oi := ⟨_, _, _, _, _, _⟩) (v := .tuple #[mv, .bool b]) rfl (by kernel_rfl) (by kernel_rfl) (by kernel_rfl) (fun _ _ _ h => h) (Or.inl ⟨by rfl, fun w' h => by clear h; go_simp⟩) hH ?_
      simp only [Act.put, List.setIfInBounds_toArray, List.set_cons_zero, List.set_cons_succ]
      refine wpAnyH_take (i := 8) (oi := ⟨_, _, _, _, _, _⟩) (v := mv) rfl (by kernel_rfl) (by kernel_rfl) (by kernel_rfl) (fun _ _ _ h => h) (Or.inl ⟨by rfl, fun w' h => by clear h; go_simp⟩) hH ?_
      simp only [Act.put, List.setIfInBounds_toArray, List.set_cons_zero, List.set_cons_succ]
      refine wpAnyH_take (i := 9) (oi := ⟨_, _, _, _, _, _⟩) (v := .bool b) rfl (by kernel_rfl) (by kernel_rfl) (by kernel_rfl) (fun _ _ _ h => h) (Or.inl ⟨by rfl, fun w' h => by clear h; go_simp⟩) hH ?_
      simp only [Act.put, List.setIfInBounds_toArray, List.set_cons_zero, List.set_cons_succ]
      refine wpAnyH_take (i := 10) (oi := ⟨_, _, _, _, _, _⟩) (v := mv) rfl (by kernel_rfl) (by kernel_rfl) (by kernel_rfl) (fun _ _ _ h => h) (Or.inl ⟨by rfl, fun w' h => by clear h; go_simp⟩) hH ?_
      simp only [Act.put, List.setIfInBounds_toArray, List.set_cons_zero, List.set_cons_succ]
      refine wpAnyH_take (i := 11) (oi := ⟨_, _, _, _, _, _⟩) (v := .bool b) rfl (by kernel_rfl) (by kernel_rfl) (by kernel_rfl) (fun _ _ _ h => h) (Or.inl ⟨by rfl, fun w' h => by clear h; go_simp⟩) hH ?_
      simp only [Act.put, List.setIfInBounds_toArray, List.set_cons_zero, List.set_cons_succ]
      refine wpAnyH_done (by kernel_rfl) ?_ _
      have HV := hm7 hH
      clear hH
      have HBV := hm7 (HB.out.trans (HV.out.mono HB.out.size))
      have c5 := HC5.out _ HV.out
      clear HMT HXP HXF HC5 HV
      cases b with
      | false =>
        go_wp2
        go_roundg g1
        case measure => omega
        case rel => exact ⟨k + 1, by have := HHK.out; omega, by go_num, by rw [HST.out, if_neg (by simp)]; rfl, by rw [HST.out, if_neg (by simp)]; have := HFC.out; omega, HBV.out⟩
      | true =>
        by_cases hp : bits BinOp.and IntKind.i64 parts px = 0
        · have hp7n : ¬ (hp7 parts px && true) = true := by simp [hp7, hp]
          go_wp2
          go_roundg g1
          case measure => omega
          case rel => exact ⟨k + 1, by have := HHK.out; omega, by go_num, by rw [HST.out, if_neg hp7n]; rfl, by rw [HST.out, if_neg hp7n]; have := HFC.out; omega, HBV.out⟩
        · have hp7n : (hp7 parts px && true) = true := by simp [hp7, hp]
          have hcw : (fc8 l parts a0 k : Int) ≤ 1048576 := by have := HFC.out; have := HHK.out; omega
          go_wp2
          go_roundg g1
          case measure => omega
          case rel => exact ⟨k + 1, by have := HHK.out; omega, by go_num, by rw [HST.out, if_pos hp7n]; go_num, by rw [HST.out, if_pos hp7n]; have := HFC.out; omega, HBV.out⟩
    | zero =>
      have hlt : ¬ (k : Int) < (l.length : Int) := by omega
      obtain rfl : k = l.length := by omega
      obtain ⟨W5, rfl⟩ : ∃ W5, W5 = wr := ⟨_, rfl⟩
      have hfq : (fc8 l parts a0 l.length : Int) = (Q.length : Int) := by
        have := HQL.out
        unfold fc8
        rw [List.take_length]
        omega
      rw [hfq]
      have HAL5 := hm7 (HAL4.out.below hb)
      have HI5 := hm7 (HI4.out.below hb)
      have HB5 := hm7 (HB4.out.below hb)
      have HBW5 := hm7 (HBW4.out.trans (hb.mono HBW4.out.size))
      clear hfq hfc hk hb HAL4 HI4 HB4 HBW4 HB
      have HAS := hm7 (HAL5.out.as (by have := HQ1.out; omega))
      obtain ⟨qa, qc, hqv, -⟩ := HAS.out
      subst hqv
      rw [List.length_map] at *
      go_wp2
      go_loopg [15, 16, 17, 18] Q.length (fun g2 i _ _ _ wr => ∃ k : Nat, k + g2 = Q.length ∧ i = .int .i64 k ∧ Below W5.heap.size W5 wr)
      case atStart => exact ⟨0, by omega, rfl, Below.refl _ _⟩
      case round =>
        obtain ⟨k, hk, rfl, hb⟩ := hrel
        have HB := hm7 hb
        cases gk with
        | succ g2 =>
          have hlt2 : (k : Int) < (Q.length : Int) := by omega
          have hq1 : Q.length ≤ 1048576 := HQ1.out
          have k0 : (0 : Int) ≤ (k : Int) := by omega
          obtain ⟨y, hy⟩ : ∃ y, Q[k]? = some y := ⟨_, List.getElem?_eq_getElem (by omega)⟩
          have hy2 : (Q.map enc8)[k]? = some (enc8 y) := by rw [List.getElem?_map, hy]; rfl
          obtain ⟨⟨f, q⟩, hfq, hfe⟩ := List.mem_map.1 (HPM.out.mem_iff.1 (List.mem_map.2 ⟨y, List.mem_of_getElem? hy, rfl⟩))
          obtain ⟨hfm, hfp⟩ := List.mem_filter.1 hfq
          simp only [Bool.and_eq_true] at hfp hfe
          subst hfe
          obtain ⟨i, x', hi, hx1, hx2, hpl⟩ := pl8_get hfm HND.out
          obtain ⟨qb, qo, fa, fc, rfl, hsh, hc⟩ := As.get8 HAS.out hy2
          have his := HI5.out.is
          obtain ⟨lb, lo, ga, gc, rfl, -, hci⟩ := his.get hi
          have hts : Ts W5 (enc8 y).2 y.1.args := by
            obtain ⟨_, _, _, _, _, h⟩ := HAS.out
            exact h _ (List.mem_of_getElem? hy2)
          have HPL := fun (X : World) (hX : Below W5.heap.size W5 X) => place8_any l (.slice (some ⟨lb, lo, none⟩) l.length ic) y.1 (enc8 y).2 X (HI5.out.below hX).is (hts.later hX) (by omega)
          have HM0 := fun (X : World) (hX : Below W5.heap.size W5 X) => lmatch8_any a0 y.1 (.slice xa al.length xc) (enc8 y).2 X ((HTX.out.later (HBW5.out.trans (hX.mono HBW5.out.size))).ts (by have := HAL.out; omega)) (hts.later hX) (by have := HAL.out; omega)
          have hil : i < l.length := (List.getElem?_eq_some_iff.1 hi).1
          have hnz : ¬ bits BinOp.and IntKind.i64 parts q = 0 := by have := hfp.1; simpa [hp7] using this
          rw [hfp.2] at HM0
          rw [hpl] at HPL
          rw [hx2] at hci
          obtain ⟨⟨⟨fk, fn, fs⟩, fnm, fl⟩, yb⟩ := y
          have hsh2 : (enc8 (⟨⟨fk, fn, fs⟩, fnm, fl⟩, yb)).2 = .slice fa fl.length fc := hsh
          rw [hsh2] at HPL HM0 hc
          have HXF0 : Hid (∀ X : World, Below W5.heap.size W5 X → X.cell? ⟨qb, qo + k * 5, none⟩ = some (.int .i64 fk) ∧ X.cell? ⟨qb, qo + k * 5 + 1, none⟩ = some (.int .i64 fn) ∧ X.cell? ⟨qb, qo + k * 5 + 2, none⟩ = some (.string fs) ∧ X.cell? ⟨qb, qo + k * 5 + 3, none⟩ = some (.string fnm) ∧ X.cell? ⟨qb, qo + k * 5 + 4, none⟩ = some (.slice fa fl.length fc)) := fun X hX => hc X hX
          have HCI := hm7 (fun (X : World) (hX : Below W5.heap.size W5 X) => (hci X hX).2)
          have HPLC : Hid (∀ X : World, Below W5.heap.size W5 X → Calls Tryz.prog 11 #[.slice (some ⟨lb, lo, none⟩) l.length ic, .agg #[.int .i64 fk, .int .i64 fn, .string fs, .string fnm, .slice fa fl.length fc]] X fun e X' => e = .returned (.int .i64 (i : Int)) ∧ Below X.heap.size X X') := HPL
          have HMTC : Hid (∀ X : World, Below W5.heap.size W5 X → Calls Tryz.prog 15 #[.agg #[.int .i64 ak, .int .i64 an, .string as_, .string nm, .slice xa al.length xc], .agg #[.int .i64 fk, .int .i64 fn, .string fs, .string fnm, .slice fa fl.length fc], .slice none 0 0] X fun e X' => ∃ m, e = .returned (.tuple #[m, .bool true]) ∧ Below X.heap.size X X') := fun X hX => by
            have := HM0 X hX
            rw [HA0.out] at this
            exact this
          have i0 : (0 : Int) ≤ (i : Int) := by omega
          have i1 : ¬ (i : Int) < 0 := by omega
          have i2 : (i : Int) < (l.length : Int) := by omega
          obtain ⟨a0', a1', a2', a3', a4'⟩ := HXF0.out wr hb
          have HHK := hm7 hk
          clear hy hy2 hfq hfm hfp hi hx1 hx2 hpl hsh hsh2 hc hci his hts HPL HM0 hil hb hk
          go_upto_region 18 with (go_at_call 11; refine (HPLC.out _ HB.out).mono ?_; rintro e W6 ⟨rfl, hb⟩; have HB6 := hm7 (HB.out.trans (hb.mono HB.out.size)); clear hb HPLC)
          have HXP : Hid (∀ X : World, Below W6.heap.size W6 X → X.cell? ⟨w.heap.size, 0, none⟩ = some (.int .i64 ak) ∧ X.cell? ⟨w.heap.size, 1, none⟩ = some (.int .i64 an) ∧ X.cell? ⟨w.heap.size, 2, none⟩ = some (.string as_) ∧ X.cell? ⟨w.heap.size, 3, none⟩ = some (.string nm) ∧ X.cell? ⟨w.heap.size, 4, none⟩ = some (.slice xa al.length xc)) := fun X hX => by
            obtain ⟨⟨q0, q1⟩, q2, q3, q4⟩ := five8 ((HB5.out.below HB6.out).below hX)
            exact ⟨q0, q1, q2, q3, q4⟩
          have HXF := hm7 (fun (X : World) (hX : Below W6.heap.size W6 X) => HXF0.out X (HB6.out.trans (hX.mono HB6.out.size)))
          have HMT := hm7 (fun (X : World) (hX : Below W6.heap.size W6 X) => HMTC.out X (HB6.out.trans (hX.mono HB6.out.size)))
          clear a0' a1' a2' a3' a4' HXF0 HMTC
          refine wp_region_held_drew (S := fun w' => Below W6.heap.size W6 w') (by kernel_rfl) (by exact (Below.refl _ _).drew) (fun hH => ?_)
          revert hH
          generalize W6.drew = V
          intro hH
          refine wpAnyH_take (i := 0) (oi := ⟨_, _, _, _, _, _⟩) (v := .agg #[.int .i64 ak, .int .i64 an, .string as_, .string nm, .slice xa al.length xc]) rfl (by kernel_rfl) (by kernel_rfl) (by kernel_rfl) (fun _ _ _ h => h) (Or.inl ⟨by rfl, fun w' h => by obtain ⟨p0, p1, p2, p3, p4⟩ := HXP.out w' h; clear h; go_simp⟩) hH ?_
          simp only [Act.put, List.setIfInBounds_toArray, List.set_cons_zero, List.set_cons_succ]
          refine wpAnyH_take (i := 1) (oi := ⟨_, _, _, _, _, _⟩) (v := .slice (some ⟨qb, qo, none⟩) Q.length qc) rfl (by kernel_rfl) (by kernel_rfl) (by kernel_rfl) (fun _ _ _ h => h) (Or.inl ⟨by rfl, fun w' h => by clear h; go_simp⟩) hH ?_
          simp only [Act.put, List.setIfInBounds_toArray, List.set_cons_zero, List.set_cons_succ]
          refine wpAnyH_take (i := 2) (oi := ⟨_, _, _, _, _, _⟩) (v := .int .i64 (k : Int)) rfl (by kernel_rfl) (by kernel_rfl) (by kernel_rfl) (fun _ _ _ h => h) (Or.inl ⟨by rfl, fun w' h => by clear h; go_simp⟩) hH ?_
          simp only [Act.put, List.setIfInBounds_toArray, List.set_cons_zero, List.set_cons_succ]
          refine wpAnyH_take (i := 3) (oi := ⟨_, _, _, _, _, _⟩) (v := .pointer (some ⟨qb, qo + k * 5, none⟩)) rfl (by kernel_rfl) (by kernel_rfl) (by kernel_rfl) (fun _ _ _ h => h) (Or.inl ⟨by rfl, fun w' h => by clear h; go_simp⟩) hH ?_
          simp only [Act.put, List.setIfInBounds_toArray, List.set_cons_zero, List.set_cons_succ]
          refine wpAnyH_take (i := 4) (oi := ⟨_, _, _, _, _, _⟩) (v := .agg #[.int .i64 fk, .int .i64 fn, .string fs, .string fnm, .slice fa fl.length fc]) rfl (by kernel_rfl) (by kernel_rfl) (by kernel_rfl) (fun _ _ _ h => h) (Or.inl ⟨by rfl, fun w' h => by obtain ⟨p0, p1, p2, p3, p4⟩ := HXF.out w' h; clear h; go_simp⟩) hH ?_
          simp only [Act.put, List.setIfInBounds_toArray, List.set_cons_zero, List.set_cons_succ]
          refine wpAnyH_ready (rs := [5]) (by kernel_rfl) (by simp) ?_
          refine (AllReadyH.cons (o := ⟨_, _, _, _, _, _⟩) rfl (fun K hK => ?_) AllReadyH.nil)
          go_simp
          refine (HMT.out _ hH).mono ?_
          rintro e V1 ⟨mv, rfl, hb⟩
          refine hK.out _ _ (hH.trans (hb.mono hH.size)) (fun hH => ?_)
          clear hK hb
          try simp only [Act.put, List.setIfInBounds_toArray, List.set_cons_zero, List.set_cons_succ]
          refine wpAnyH_take (i := 6) (oi := ⟨_, _, _, _, _, _⟩) (v := .tuple #[mv, .bool true]) rfl (by kernel_rfl) (by kernel_rfl) (by kernel_rfl) (fun _ _ _ h => h) (Or.inl ⟨by rfl, fun w' h => by clear h; go_simp⟩) hH ?_
          simp only [Act.put, List.setIfInBounds_toArray, List.set_cons_zero, List.set_cons_succ]
          refine wpAnyH_take (i := 7) (oi := ⟨_, _, _, _, _, _⟩) (v := mv) rfl (by kernel_rfl) (by kernel_rfl) (by kernel_rfl) (fun _ _ _ h => h) (Or.inl ⟨by rfl, fun w' h => by clear h; go_simp⟩) hH ?_
          simp only [Act.put, List.setIfInBounds_toArray, List.set_cons_zero, List.set_cons_succ]
          refine wpAnyH_take (i := 8) (oi := ⟨_, _, _, _, _, _⟩) (v := .bool true) rfl (by kernel_rfl) (by kernel_rfl) (by kernel_rfl) (fun _ _ _ h => h) (Or.inl ⟨by rfl, fun w' h => by clear h; go_simp⟩) hH ?_
          simp only [Act.put, List.setIfInBounds_toArray, List.set_cons_zero, List.set_cons_succ]
          refine wpAnyH_take (i := 9) (oi := ⟨_, _, _, _, _, _⟩) (v := mv) rfl (by kernel_rfl) (by kernel_rfl) (by kernel_rfl) (fun _ _ _ h => h) (Or.inl ⟨by rfl, fun w' h => by clear h; go_simp⟩) hH ?_
          simp only [Act.put, List.setIfInBounds_toArray, List.set_cons_zero, List.set_cons_succ]
          refine wpAnyH_take (i := 10) (oi := ⟨_, _, _, _, _, _⟩) (v := .bool true) rfl (by kernel_rfl) (by kernel_rfl) (by kernel_rfl) (fun _ _ _ h => h) (Or.inl ⟨by rfl, fun w' h => by clear h; go_simp⟩) hH ?_
          simp only [Act.put, List.setIfInBounds_toArray, List.set_cons_zero, List.set_cons_succ]
          refine wpAnyH_done (by kernel_rfl) ?_ _
          have HV := hm7 hH
          clear hH
          have HBV := hm7 (HB6.out.trans (HV.out.mono HB6.out.size))
          have c5 := HCI.out _ HBV.out
          clear HMT HXP HXF HCI HV
          have hne : (bits BinOp.and IntKind.i64 parts q == 0) = false := by simpa using hnz
          go_wp2
          go_roundg g2
          case measure => omega
          case rel => exact ⟨k + 1, by have := HHK.out; omega, by go_num, HBV.out⟩
        | zero =>
          have hlt2 : ¬ (k : Int) < (Q.length : Int) := by omega
          have HBF := hm7 (HBW5.out.trans (hb.mono HBW5.out.size))
          clear hb hk
          go_wp2_with (go_at_call 13; refine (first8_any _).mono ?_; rintro e W8 ⟨rfl, hb⟩; have H8 := hm7 (HBF.out.trans (hb.mono HBF.out.size)); clear hb HBF)
          go_ret
          exact ⟨rfl, H8.out⟩
end Go.Proofs.YtechceagghcipaaGreat
