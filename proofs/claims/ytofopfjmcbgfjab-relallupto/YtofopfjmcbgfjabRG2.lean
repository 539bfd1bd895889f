/-
  law 7: finds' walk. (Written by RG2.py.)
-/
import Derived.Test.YtofopfjmcbgfjabRG1
import Derived.Stop.RegionWithIn
namespace Go.Proofs.Ytofopfjmcbgfjab
open Go.RowKit Go.Shelf
attribute [local go_sem] Oper.semAt_some

set_option maxRecDepth 100000 in
set_option maxHeartbeats 4000000 in
theorem finds7_any (w : World) (T R : Nat → Prop) (g h m : Nat) (s : St7) (Y : World) (k parts stop : Int) (two : Bool) (row cols keys : List Int) (rv cv kv : Value) (H : BO w T R g h m s Y) (ho : OpM w Y ⟨k, parts, stop, two, row, cols, keys⟩ rv cv kv) (hm : m ≤ 10000000000000) :
    Calls Try.prog 25 #[.agg #[.pointer (some ⟨g, 0, none⟩), .pointer (some ⟨h, 0, none⟩)], opv ⟨k, parts, stop, two, row, cols, keys⟩ rv cv kv] Y (PyQ w T R g h m s Y) := by
  unfold opv
  simp only
  obtain ⟨n, -⟩ : ∃ n : Nat, True := ⟨0, trivial⟩
  refine (callsIn_wide (n := n)).1 ?_
  refine callsIn_of_wp_marks Try.func25 rfl trivial ?_ rfl
  simp only [Try.ntmps25, List.size_toArray, List.length_cons, List.length_nil, Nat.reduceAdd, Nat.reduceSub, Array.replicate_succ, Array.replicate_zero, List.push_toArray, List.append_toArray, List.nil_append, List.cons_append]
  have hf1 : ∀ i, Fence.wide.fn i := fun _ => trivial
  have hf2 : Fence.wide.depth = none := rfl
  have HBO := hm7 H
  have HM := hm7 hm
  have HC := hm7 ho.c
  have HK := hm7 ho.k
  have HW : Hid (w64 keys ∧ w64 cols) := ⟨by obtain ⟨a, c, -, -, -, h, -⟩ := ho.k; exact h, by obtain ⟨a, c, -, -, -, h, -⟩ := ho.c; exact h⟩
  obtain ⟨ca, cc, hcv⟩ : ∃ a c, cv = .slice a cols.length c := by obtain ⟨a, c, e, -⟩ := ho.c; exact ⟨_, _, e⟩
  obtain ⟨ka, kc, hkv⟩ : ∃ a c, kv = .slice a keys.length c := by obtain ⟨a, c, e, -⟩ := ho.k; exact ⟨_, _, e⟩
  have hcl : cols.length ≤ 1000000000 := ho.cl
  have hkl : keys.length ≤ 1000000000 := ho.kl
  obtain ⟨cn, hcn⟩ : ∃ n, cols.length = n := ⟨_, rfl⟩
  obtain ⟨kn, hkn⟩ : ∃ n, keys.length = n := ⟨_, rfl⟩
  rw [hcn] at hcv hcl
  rw [hkn] at hkv hkl
  subst hcv hkv
  have Hcn := hm7 hcn
  have Hkn := hm7 hkn
  have hyw := H.p.b.size
  clear H ho hm hcn hkn
  obtain ⟨W0, hW0⟩ : ∃ W0, ((Y.alloc (.cells #[.pointer (some ⟨g, 0, none⟩), .pointer (some ⟨h, 0, none⟩)] 28)).alloc (.cells #[.int .i64 k, .int .i64 parts, .int .i64 stop, .bool two, rv, .slice ca cn cc, .slice ka kn kc] 34)).alloc (.cells #[.bool false] 4) = W0 := ⟨_, rfl⟩
  have hz0 : W0.heap.size = Y.heap.size + 3 := by rw [← hW0]; simp
  have HW0 : Hid (Below Y.heap.size Y W0 ∧ Bk W0 Y.heap.size #[.pointer (some ⟨g, 0, none⟩), .pointer (some ⟨h, 0, none⟩)] 28 ∧ Bk W0 (Y.heap.size + 1) #[.int .i64 k, .int .i64 parts, .int .i64 stop, .bool two, rv, .slice ca cn cc, .slice ka kn kc] 34 ∧ Bk W0 (Y.heap.size + 2) #[.bool false] 4) := by
    show _ ∧ _
    rw [← hW0]
    have e1 := Bk.new Y #[.pointer (some ⟨g, 0, none⟩), .pointer (some ⟨h, 0, none⟩)] 28
    have e2 := Bk.new (Y.alloc (.cells #[.pointer (some ⟨g, 0, none⟩), .pointer (some ⟨h, 0, none⟩)] 28)) #[.int .i64 k, .int .i64 parts, .int .i64 stop, .bool two, rv, .slice ca cn cc, .slice ka kn kc] 34
    have e3 := Bk.new ((Y.alloc (.cells #[.pointer (some ⟨g, 0, none⟩), .pointer (some ⟨h, 0, none⟩)] 28)).alloc (.cells #[.int .i64 k, .int .i64 parts, .int .i64 stop, .bool two, rv, .slice ca cn cc, .slice ka kn kc] 34)) #[.bool false] 4
    rw [World.size_alloc] at e2
    rw [World.size_alloc, World.size_alloc] at e3
    exact ⟨(below2 _ _ _).trans ((below1 _ _).mono (by simp; omega)), (e1.below (below1 _ _)).below (below1 _ _), e2.below (below1 _ _), e3⟩
  have a1 : W0.cell? ⟨Y.heap.size, 1, none⟩ = some (.pointer (some ⟨h, 0, none⟩)) := HW0.out.2.1.cell (i := 1) rfl
  have o1 : W0.cell? ⟨Y.heap.size + 1, 1, none⟩ = some (.int .i64 parts) := HW0.out.2.2.1.cell (i := 1) rfl
  have o5 : W0.cell? ⟨Y.heap.size + 1, 5, none⟩ = some (.slice ca cn cc) := HW0.out.2.2.1.cell (i := 5) rfl
  have o6 : W0.cell? ⟨Y.heap.size + 1, 6, none⟩ = some (.slice ka kn kc) := HW0.out.2.2.1.cell (i := 6) rfl
  have HRF := hm7 (rfind7_any w R _ _ h s parts cols keys (.slice ca cn cc) (.slice ka kn kc) W0 (HBO.out.r.below HW0.out.1) (HC.out.below HW0.out.1) (HK.out.below HW0.out.1))
  gi_wp2
  refine (callsIn_wide.2 HRF.out).mono ?_
  clear HRF a1 o1 o5 o6 hW0
  rintro e W1 ⟨u, rfl, Q, hol, hqm, hb1⟩
  obtain ⟨ua, uc, hu, -⟩ := row7_form hol.o
  obtain ⟨un, hun⟩ : ∃ un, Q.length = un := ⟨_, rfl⟩
  rw [hun] at hu
  subst hu
  have HUN := hm7 hun
  have HQM := hm7 hqm
  have HLX : Hid (LX (fun b => W0.heap.size ≤ b ∧ b < W1.heap.size) W1 (.slice ua un uc) Q) := hol.lx
  have hs1 := hb1.size
  have HB1 : Hid (Below Y.heap.size Y W1 ∧ Bk W1 Y.heap.size #[.pointer (some ⟨g, 0, none⟩), .pointer (some ⟨h, 0, none⟩)] 28 ∧ Bk W1 (Y.heap.size + 1) #[.int .i64 k, .int .i64 parts, .int .i64 stop, .bool two, rv, .slice ca cn cc, .slice ka kn kc] 34 ∧ Bk W1 (Y.heap.size + 2) #[.bool false] 4) := ⟨belt HW0.out.1 hb1, HW0.out.2.1.below hb1, HW0.out.2.2.1.below hb1, HW0.out.2.2.2.below hb1⟩
  clear hol hqm hb1 hun HW0
  obtain ⟨W2, hW2⟩ : ∃ W2, W1.alloc (.cells #[.slice ua un uc] 48) = W2 := ⟨_, rfl⟩
  have hz2 : W2.heap.size = W1.heap.size + 1 := by rw [← hW2]; simp
  have HB2 : Hid (Below W1.heap.size W1 W2 ∧ Bk W2 W1.heap.size #[.slice ua un uc] 48) := by
    show _ ∧ _
    rw [← hW2]; exact ⟨below1 _ _, Bk.new _ _ _⟩
  have HW2 := hm7 hW2
  clear hW2
  have o5 : W1.cell? ⟨Y.heap.size + 1, 5, none⟩ = some (.slice ca cn cc) := HB1.out.2.2.1.cell (i := 5) rfl
  have p2 : Y.heap.size + 1 < W1.heap.size := by omega
  have HY2 : Hid (Below Y.heap.size Y W2) := belt HB1.out.1 HB2.out.1
  have HRO := hm7 (roomy7_any _ (.slice ca cn cc) cols W2 (HC.out.below HY2.out) (by have := Hcn.out; omega))
  gi_wp2
  rw [HW2.out]
  refine (callsIn_wide.2 HRO.out).mono ?_
  clear HRO o5 HW2
  rintro e W3 ⟨qv, rfl, ho3, hb3⟩
  obtain ⟨qa, qc, hqv, hqc⟩ := row7_form ho3
  have e1 : (cols ++ [71, 72, 73]).length = cn + 3 := by rw [List.length_append, Hcn.out]; rfl
  rw [e1] at hqv hqc
  subst hqv
  have HQ3 := hm7 ho3
  have HB3 := hm7 hb3
  have hs3 := hb3.size
  have HY3 : Hid (Below Y.heap.size Y W3) := belt HY2.out hb3
  clear ho3 hb3 e1
  have o6 : W3.cell? ⟨Y.heap.size + 1, 6, none⟩ = some (.slice ka kn kc) := ((HB1.out.2.2.1.below HB2.out.1).below HB3.out).cell (i := 6) rfl
  have HRO := hm7 (roomy7_any _ (.slice ka kn kc) keys W3 (HK.out.below HY3.out) (by have := Hkn.out; omega))
  gi_wp2
  refine (callsIn_wide.2 HRO.out).mono ?_
  clear HRO o6
  rintro e W4 ⟨pv, rfl, ho4, hb4⟩
  obtain ⟨pa, pc, hpv, hpc⟩ := row7_form ho4
  have e1 : (keys ++ [71, 72, 73]).length = kn + 3 := by rw [List.length_append, Hkn.out]; rfl
  rw [e1] at hpv hpc
  subst hpv
  have HP4 := hm7 ho4
  have HQ2 : Hid (∀ b, (Value.slice qa (cn + 3) qc).ownBlock = some b → W2.heap.size ≤ b ∧ b < W3.heap.size) := fun b hb => World.ownsRow.lt HQ3.out b hb
  have HP2 : Hid (∀ b, (Value.slice pa (kn + 3) pc).ownBlock = some b → W3.heap.size ≤ b ∧ b < W4.heap.size) := fun b hb => World.ownsRow.lt ho4 b hb
  have HQ4 : Hid (OwI W4 W2.heap.size (.slice qa (cn + 3) qc) (cols ++ [71, 72, 73])) := row7_below HQ3.out hb4
  have hs4 := hb4.size
  have HY4 : Hid (Below Y.heap.size Y W4) := belt HY3.out hb4
  have HB14 : Hid (Below W1.heap.size W1 W4) := belt (belt HB2.out.1 HB3.out) hb4
  have HB24 : Hid (Below W2.heap.size W2 W4) := belt HB3.out hb4
  clear ho4 hb4 e1 HQ3 HY2 HY3 HB3
  have a0 : W4.cell? ⟨Y.heap.size, 0, none⟩ = some (.pointer (some ⟨g, 0, none⟩)) := (HB1.out.2.1.below HB14.out).cell (i := 0) rfl
  have o1 : W4.cell? ⟨Y.heap.size + 1, 1, none⟩ = some (.int .i64 parts) := (HB1.out.2.2.1.below HB14.out).cell (i := 1) rfl
  have o5 : W4.cell? ⟨Y.heap.size + 1, 5, none⟩ = some (.slice ca cn cc) := (HB1.out.2.2.1.below HB14.out).cell (i := 5) rfl
  have o6 : W4.cell? ⟨Y.heap.size + 1, 6, none⟩ = some (.slice ka kn kc) := (HB1.out.2.2.1.below HB14.out).cell (i := 6) rfl
  have hq1 : cn ≤ qc := by omega
  have hp1 : kn ≤ pc := by omega
  obtain ⟨X4, hX4⟩ : ∃ X4 : Nat → Prop, (fun b => w.heap.size ≤ b ∧ ¬ T b ∧ b < W4.heap.size) = X4 := ⟨_, rfl⟩
  have HX4 : Hid (∀ b, X4 b ↔ w.heap.size ≤ b ∧ ¬ T b ∧ b < W4.heap.size) := by rw [← hX4]; exact fun _ => Iff.rfl
  clear hX4
  have HFD : Hid (∀ V, Below W4.heap.size W4 V → Calls Try.prog 12 #[.pointer (some ⟨g, 0, none⟩), .int .i64 parts, .slice qa cn qc, .slice pa kn pc] V fun e W' => ∃ b1 b2 b3 b4 b5, e = .returned (fnd7 b1 b2 b3 b4 b5) ∧ KF2 w X4 g m s parts cols keys b1 b2 b3 b4 b5 W' ∧ Below W4.heap.size W4 W') := fun V hV => by
    have hvs := hV.size
    have hkr : KR w X4 g m s V := HBO.out.p.kr.more (belt HY4.out hV) fun b hb => by
      have := (HX4.out b).1 hb
      by_cases hl : b < Y.heap.size
      · exact Or.inl ⟨hl, this.2.1⟩
      · exact Or.inr (by omega)
    have hli1 : Li (fun b => W2.heap.size ≤ b) V (.slice qa cn qc) cols := by have := OwI.front (show OwI V W2.heap.size (.slice qa (cn + 3) qc) (cols ++ [71, 72, 73]) from row7_below HQ4.out hV) (w64_marks HW.out.2); rw [Hcn.out] at this; exact this
    have hli2 : Li (fun b => W3.heap.size ≤ b) V (.slice pa kn pc) keys := by have := OwI.front (show OwI V W3.heap.size (.slice pa (kn + 3) pc) (keys ++ [71, 72, 73]) from row7_below HP4.out hV) (w64_marks HW.out.1); rw [Hkn.out] at this; exact this
    refine (hkr.find parts hli1 hli2 (by have := Hcn.out; omega)).mono ?_
    intro e W' hfi
    obtain ⟨b1, b2, b3, b4, b5, he, hkf, hb⟩ := KF2.mk hkr (fun b hb => by have := ((HX4.out b).1 hb).2.2; omega) hfi HW.out.1 HW.out.2
    exact ⟨b1, b2, b3, b4, b5, he, hkf, belt hV hb⟩
  gi_wp2
  refine wpIn_mono (Q := NQ fun a' W' => ∃ b1 b2 b3 b4 b5, (a'.tmps.size = 124 ∧ a'.tmps[2]? = some (.pointer (some ⟨Y.heap.size, 0, none⟩)) ∧ a'.tmps[3]? = some (.pointer (some ⟨Y.heap.size + 1, 0, none⟩)) ∧ a'.tmps[4]? = some (.pointer (some ⟨Y.heap.size + 1 + 1, 0, none⟩)) ∧ a'.tmps[5]? = some (.pointer (some ⟨W1.heap.size, 0, none⟩)) ∧ a'.tmps[6]? = some (.slice qa (cn + 3) qc) ∧ a'.tmps[7]? = some (.slice pa (kn + 3) pc) ∧ a'.tmps[8]? = some (fnd7 b1 b2 b3 b4 b5) ∧ a'.defers = []) ∧ KF2 w X4 g m s parts cols keys b1 b2 b3 b4 b5 W' ∧ Below W4.heap.size W4 W') ?_ ?_
  · refine wpIn_wide.2 ?_
    refine wp_region_held_drew (S := fun w' => Below W4.heap.size W4 w') (by kernel_rfl) (by exact (Below.refl _ _).drew) (fun hH => ?_)
    revert hH
    generalize W4.drew = V4
    intro hH
    refine wpAnyH_take (i := 0) (oi := ⟨_, _, _, _, _, _⟩) (v := .pointer (some ⟨Y.heap.size, 0, none⟩)) rfl (by kernel_rfl) (by kernel_rfl) (by kernel_rfl) (fun _ _ _ h => h) (Or.inl ⟨by rfl, fun w' h => by clear h; go_simp⟩) hH ?_
    simp only [Act.put, List.setIfInBounds_toArray, List.set_cons_zero, List.set_cons_succ]
    refine wpAnyH_take (i := 1) (oi := ⟨_, _, _, _, _, _⟩) (v := .pointer (some ⟨g, 0, none⟩)) rfl (by kernel_rfl) (by kernel_rfl) (by kernel_rfl) (fun _ _ _ h => h) (Or.inl ⟨by rfl, fun w' h => by have q := ((HB1.out.2.1.below HB14.out).below h).cell (i := 0) rfl; clear h; go_simp⟩) hH ?_
    simp only [Act.put, List.setIfInBounds_toArray, List.set_cons_zero, List.set_cons_succ]
    refine wpAnyH_take (i := 2) (oi := ⟨_, _, _, _, _, _⟩) (v := .pointer (some ⟨Y.heap.size + 1, 1, none⟩)) rfl (by kernel_rfl) (by kernel_rfl) (by kernel_rfl) (fun _ _ _ h => h) (Or.inl ⟨by rfl, fun w' h => by clear h; go_simp⟩) hH ?_
    simp only [Act.put, List.setIfInBounds_toArray, List.set_cons_zero, List.set_cons_succ]
    refine wpAnyH_take (i := 3) (oi := ⟨_, _, _, _, _, _⟩) (v := .int .i64 parts) rfl (by kernel_rfl) (by kernel_rfl) (by kernel_rfl) (fun _ _ _ h => h) (Or.inl ⟨by rfl, fun w' h => by have q := ((HB1.out.2.2.1.below HB14.out).below h).cell (i := 1) rfl; clear h; go_simp⟩) hH ?_
    simp only [Act.put, List.setIfInBounds_toArray, List.set_cons_zero, List.set_cons_succ]
    refine wpAnyH_take (i := 4) (oi := ⟨_, _, _, _, _, _⟩) (v := .slice qa (cn + 3) qc) rfl (by kernel_rfl) (by kernel_rfl) (by kernel_rfl) (fun _ _ _ h => h) (Or.inl ⟨by rfl, fun w' h => by clear h; go_simp⟩) hH ?_
    simp only [Act.put, List.setIfInBounds_toArray, List.set_cons_zero, List.set_cons_succ]
    refine wpAnyH_take (i := 5) (oi := ⟨_, _, _, _, _, _⟩) (v := .pointer (some ⟨Y.heap.size + 1, 5, none⟩)) rfl (by kernel_rfl) (by kernel_rfl) (by kernel_rfl) (fun _ _ _ h => h) (Or.inl ⟨by rfl, fun w' h => by clear h; go_simp⟩) hH ?_
    simp only [Act.put, List.setIfInBounds_toArray, List.set_cons_zero, List.set_cons_succ]
    refine wpAnyH_take (i := 6) (oi := ⟨_, _, _, _, _, _⟩) (v := .slice ca cn cc) rfl (by kernel_rfl) (by kernel_rfl) (by kernel_rfl) (fun _ _ _ h => h) (Or.inl ⟨by rfl, fun w' h => by have q := ((HB1.out.2.2.1.below HB14.out).below h).cell (i := 5) rfl; clear h; go_simp⟩) hH ?_
    simp only [Act.put, List.setIfInBounds_toArray, List.set_cons_zero, List.set_cons_succ]
    refine wpAnyH_take (i := 7) (oi := ⟨_, _, _, _, _, _⟩) (v := .int .i64 (cn : Int)) rfl (by kernel_rfl) (by kernel_rfl) (by kernel_rfl) (fun _ _ _ h => h) (Or.inl ⟨by rfl, fun w' h => by clear h; go_simp⟩) hH ?_
    simp only [Act.put, List.setIfInBounds_toArray, List.set_cons_zero, List.set_cons_succ]
    refine wpAnyH_take (i := 8) (oi := ⟨_, _, _, _, _, _⟩) (v := .slice qa cn qc) rfl (by kernel_rfl) (by kernel_rfl) (by kernel_rfl) (fun _ _ _ h => h) (Or.inl ⟨by rfl, fun w' h => by clear h; go_simp⟩) hH ?_
    simp only [Act.put, List.setIfInBounds_toArray, List.set_cons_zero, List.set_cons_succ]
    refine wpAnyH_take (i := 9) (oi := ⟨_, _, _, _, _, _⟩) (v := .slice pa (kn + 3) pc) rfl (by kernel_rfl) (by kernel_rfl) (by kernel_rfl) (fun _ _ _ h => h) (Or.inl ⟨by rfl, fun w' h => by clear h; go_simp⟩) hH ?_
    simp only [Act.put, List.setIfInBounds_toArray, List.set_cons_zero, List.set_cons_succ]
    refine wpAnyH_take (i := 10) (oi := ⟨_, _, _, _, _, _⟩) (v := .pointer (some ⟨Y.heap.size + 1, 6, none⟩)) rfl (by kernel_rfl) (by kernel_rfl) (by kernel_rfl) (fun _ _ _ h => h) (Or.inl ⟨by rfl, fun w' h => by clear h; go_simp⟩) hH ?_
    simp only [Act.put, List.setIfInBounds_toArray, List.set_cons_zero, List.set_cons_succ]
    refine wpAnyH_take (i := 11) (oi := ⟨_, _, _, _, _, _⟩) (v := .slice ka kn kc) rfl (by kernel_rfl) (by kernel_rfl) (by kernel_rfl) (fun _ _ _ h => h) (Or.inl ⟨by rfl, fun w' h => by have q := ((HB1.out.2.2.1.below HB14.out).below h).cell (i := 6) rfl; clear h; go_simp⟩) hH ?_
    simp only [Act.put, List.setIfInBounds_toArray, List.set_cons_zero, List.set_cons_succ]
    refine wpAnyH_take (i := 12) (oi := ⟨_, _, _, _, _, _⟩) (v := .int .i64 (kn : Int)) rfl (by kernel_rfl) (by kernel_rfl) (by kernel_rfl) (fun _ _ _ h => h) (Or.inl ⟨by rfl, fun w' h => by clear h; go_simp⟩) hH ?_
    simp only [Act.put, List.setIfInBounds_toArray, List.set_cons_zero, List.set_cons_succ]
    refine wpAnyH_take (i := 13) (oi := ⟨_, _, _, _, _, _⟩) (v := .slice pa kn pc) rfl (by kernel_rfl) (by kernel_rfl) (by kernel_rfl) (fun _ _ _ h => h) (Or.inl ⟨by rfl, fun w' h => by clear h; go_simp⟩) hH ?_
    simp only [Act.put, List.setIfInBounds_toArray, List.set_cons_zero, List.set_cons_succ]
    refine wpAnyH_ready (rs := [14]) (by kernel_rfl) (by simp) ?_
    refine (AllReadyH.cons (o := ⟨_, _, _, _, _, _⟩) rfl (fun K hK => ?_) AllReadyH.nil)
    go_simp
    refine (HFD.out _ hH).mono ?_
    rintro e W5 ⟨b1, b2, b3, b4, b5, rfl, k1, k2⟩
    refine hK.out _ _ k2 (fun hH => ?_)
    clear hK K
    refine wpAnyH_take (i := 15) (oi := ⟨_, _, _, _, _, _⟩) (v := fnd7 b1 b2 b3 b4 b5) rfl (by kernel_rfl) (by kernel_rfl) (by kernel_rfl) (fun _ _ _ h => h) (Or.inl ⟨by rfl, fun w' h => by clear h; go_simp⟩) hH ?_
    simp only [Act.put, List.setIfInBounds_toArray, List.set_cons_zero, List.set_cons_succ]
    refine wpAnyH_done (by kernel_rfl) ?_ _
    exact ⟨b1, b2, b3, b4, b5, (by first | exact ⟨rfl, rfl, rfl, rfl, rfl, rfl, rfl, rfl, rfl⟩ | ((repeat' apply And.intro) <;> rfl)), k1, k2⟩
  clear HFD a0 o1 o5 o6 hq1 hp1
  intro e a5 W5 hq5
  cases e <;> first | exact hq5.elim | skip
  obtain ⟨b1, b2, b3, b4, b5, hac, hkf, hb5⟩ := hq5
  obtain ⟨tmps, defers⟩ := a5
  obtain ⟨f, hf⟩ : ∃ f : Nat → Value, tmps = #[f 0, f 1, .pointer (some ⟨Y.heap.size, 0, none⟩), .pointer (some ⟨Y.heap.size + 1, 0, none⟩), .pointer (some ⟨Y.heap.size + 1 + 1, 0, none⟩), .pointer (some ⟨W1.heap.size, 0, none⟩), .slice qa (cn + 3) qc, .slice pa (kn + 3) pc, fnd7 b1 b2 b3 b4 b5, f 9, f 10, f 11, f 12, f 13, f 14, f 15, f 16, f 17, f 18, f 19, f 20, f 21, f 22, f 23, f 24, f 25, f 26, f 27, f 28, f 29, f 30, f 31, f 32, f 33, f 34, f 35, f 36, f 37, f 38, f 39, f 40, f 41, f 42, f 43, f 44, f 45, f 46, f 47, f 48, f 49, f 50, f 51, f 52, f 53, f 54, f 55, f 56, f 57, f 58, f 59, f 60, f 61, f 62, f 63, f 64, f 65, f 66, f 67, f 68, f 69, f 70, f 71, f 72, f 73, f 74, f 75, f 76, f 77, f 78, f 79, f 80, f 81, f 82, f 83, f 84, f 85, f 86, f 87, f 88, f 89, f 90, f 91, f 92, f 93, f 94, f 95, f 96, f 97, f 98, f 99, f 100, f 101, f 102, f 103, f 104, f 105, f 106, f 107, f 108, f 109, f 110, f 111, f 112, f 113, f 114, f 115, f 116, f 117, f 118, f 119, f 120, f 121, f 122, f 123] := by
    obtain ⟨hn, t2, t3, t4, t5, t6, t7, t8, -⟩ := hac
    obtain ⟨f, hf, hi⟩ := arr_of 124 tmps hn
    refine ⟨f, ?_⟩
    have e : ∀ (i : Nat) (v : Value), i < 124 → tmps[i]? = some v → f i = v := fun i v h1 h2 => Option.some.inj ((hi i h1).symm.trans h2)
    rw [hf, show (List.range 124).map f = [f 0, f 1, f 2, f 3, f 4, f 5, f 6, f 7, f 8, f 9, f 10, f 11, f 12, f 13, f 14, f 15, f 16, f 17, f 18, f 19, f 20, f 21, f 22, f 23, f 24, f 25, f 26, f 27, f 28, f 29, f 30, f 31, f 32, f 33, f 34, f 35, f 36, f 37, f 38, f 39, f 40, f 41, f 42, f 43, f 44, f 45, f 46, f 47, f 48, f 49, f 50, f 51, f 52, f 53, f 54, f 55, f 56, f 57, f 58, f 59, f 60, f 61, f 62, f 63, f 64, f 65, f 66, f 67, f 68, f 69, f 70, f 71, f 72, f 73, f 74, f 75, f 76, f 77, f 78, f 79, f 80, f 81, f 82, f 83, f 84, f 85, f 86, f 87, f 88, f 89, f 90, f 91, f 92, f 93, f 94, f 95, f 96, f 97, f 98, f 99, f 100, f 101, f 102, f 103, f 104, f 105, f 106, f 107, f 108, f 109, f 110, f 111, f 112, f 113, f 114, f 115, f 116, f 117, f 118, f 119, f 120, f 121, f 122, f 123] from rfl, e 2 _ (by decide) t2, e 3 _ (by decide) t3, e 4 _ (by decide) t4, e 5 _ (by decide) t5, e 6 _ (by decide) t6, e 7 _ (by decide) t7, e 8 _ (by decide) t8]
  obtain rfl : defers = [] := by have := hac; simp only at this; exact this.2.2.2.2.2.2.2.2
  clear hac
  subst hf
  have HKF5 := hm7 hkf
  have HB5 := hm7 hb5
  have hs5 := hb5.size
  have HY5 : Hid (Below Y.heap.size Y W5) := belt HY4.out hb5
  have HQ5 : Hid (OwI W5 W2.heap.size (.slice qa (cn + 3) qc) (cols ++ [71, 72, 73])) := row7_below HQ4.out hb5
  have HP5 : Hid (OwI W5 W3.heap.size (.slice pa (kn + 3) pc) (keys ++ [71, 72, 73])) := row7_below HP4.out hb5
  clear hkf hb5 HQ4 HP4
  have o5 : W5.cell? ⟨Y.heap.size + 1, 5, none⟩ = some (.slice ca cn cc) := ((HB1.out.2.2.1.below HB14.out).below HB5.out).cell (i := 5) rfl
  have HRO := hm7 (roomy7_any _ (.slice ca cn cc) cols W5 (HC.out.below HY5.out) (by have := Hcn.out; omega))
  have qF : ∀ (w : World), (binOp .eql 42 (fnd7 b1 b2 b3 b4 b5) .nilFunc).run Try.prog w = .ok (.bool false) w := by intro w; rfl
  have qG : ∀ (w : World) (x y : Operand), (eqGuard .eql 42 x y (fnd7 b1 b2 b3 b4 b5) .nilFunc).run Try.prog w = .ok () w := by intro w x y; rfl
  gi_wp2
  clear qF qG
  refine (callsIn_wide.2 HRO.out).mono ?_
  clear HRO o5
  rintro e W6 ⟨rv6, rfl, ho6, hb6⟩
  have HSM := hm7 (same7_any _ _ (cols ++ [71, 72, 73]) (cols ++ [71, 72, 73]) (.slice qa (cn + 3) qc) rv6 W6 (OwI.li (show OwI W6 W2.heap.size (.slice qa (cn + 3) qc) (cols ++ [71, 72, 73]) from row7_below HQ5.out hb6) (w64_marks HW.out.2)) (OwI.li ho6 (w64_marks HW.out.2)))
  rw [decide_eq_true rfl] at HSM
  have HB6 := hm7 hb6
  have hs6 := hb6.size
  clear ho6 hb6
  gi_wp2
  refine (callsIn_wide.2 HSM.out).mono ?_
  clear HSM
  rintro e W7 ⟨rfl, n7, rfl⟩
  have HB7 : Hid (Below W5.heap.size W5 (W6.drewN n7)) := belt HB6.out (below_dn7 W6 n7)
  clear HB6
  generalize W6.drewN n7 = W7 at *
  have hs7 := HB7.out.size
  have o6 : W7.cell? ⟨Y.heap.size + 1, 6, none⟩ = some (.slice ka kn kc) := (((HB1.out.2.2.1.below HB14.out).below HB5.out).below HB7.out).cell (i := 6) rfl
  have HRO := hm7 (roomy7_any _ (.slice ka kn kc) keys W7 ((HK.out.below HY5.out).below HB7.out) (by have := Hkn.out; omega))
  gi_wp2
  refine (callsIn_wide.2 HRO.out).mono ?_
  clear HRO o6
  rintro e W8 ⟨rv8, rfl, ho8, hb8⟩
  have HSM := hm7 (same7_any _ _ (keys ++ [71, 72, 73]) (keys ++ [71, 72, 73]) (.slice pa (kn + 3) pc) rv8 W8 (OwI.li (show OwI W8 W3.heap.size (.slice pa (kn + 3) pc) (keys ++ [71, 72, 73]) from row7_below HP5.out (belt HB7.out hb8)) (w64_marks HW.out.1)) (OwI.li ho8 (w64_marks HW.out.1)))
  rw [decide_eq_true rfl] at HSM
  have HB8 := hm7 (belt HB7.out hb8)
  have hs8 := hb8.size
  clear ho8 hb8 HB7
  gi_wp2
  refine (callsIn_wide.2 HSM.out).mono ?_
  clear HSM
  rintro e W9 ⟨rfl, n9, rfl⟩
  have HB9 : Hid (Below W5.heap.size W5 (W8.drewN n9)) := belt HB8.out (below_dn7 W8 n9)
  clear HB8
  generalize W8.drewN n9 = W9 at *
  have hs9 := HB9.out.size
  have HQ9 : Hid (OwI W9 W2.heap.size (.slice qa (cn + 3) qc) (cols ++ [71, 72, 73])) := row7_below HQ5.out HB9.out
  gi_wp2
  gi_loopw [9] (fun i wr => ∃ (j : Nat) (l : List Int), i = .int .i64 (j : Int) ∧ j ≤ cn + 3 ∧ l.length = cn + 3 ∧ OwI wr W2.heap.size (.slice qa (cn + 3) qc) l ∧ Fr (fun b => (Value.slice qa (cn + 3) qc).ownBlock = some b) W9 wr) (fun i _ => cn + 3 - (intOf i).toNat)
  case atStart => exact ⟨0, _, rfl, Nat.zero_le _, by simp; exact Hcn.out, HQ9.out, Fr.refl _ _⟩
  case round =>
    obtain ⟨j, l, rfl, hj, hll, hol, hfl⟩ := hrel
    have HOL := hm7 hol
    have HFL := hm7 hfl
    have HLL := hm7 hll
    clear hol hfl hll
    by_cases hjn : j < cn + 3
    · have hlt : (j : Int) < ((cn + 3 : Nat) : Int) := by omega
      have hlt' : (j : Int) < (cn : Int) + 3 := by omega
      have j0 : (0 : Int) ≤ (j : Int) := by omega
      obtain ⟨x, hx⟩ : ∃ x, l[j]? = some x := ⟨_, List.getElem?_eq_getElem (by have := HLL.out; omega)⟩
      have ho' : wr.ownsRow W2.heap.size 3 1 (.slice qa (cn + 3) qc) (cn + 3) (ibs7 l) := by have := HOL.out; unfold OwI at this; rw [HLL.out] at this; exact this
      obtain ⟨bq, rfl, -, -, p0, p1⟩ := row7_at ho' (i := j) (u := .int .i64 x) (by simp only [ibs7, List.getElem?_map, hx]; rfl)
      have HPU := hm7 (row7_put (i := j) ho' (.int .i64 0))
      clear hx ho'
      gi_wp2
      go_roundw
      case rel =>
        refine ⟨j + 1, l.set j 0, by go_num, by omega, by rw [List.length_set]; exact HLL.out, ?_, HFL.out.set (Or.inl rfl)⟩
        unfold OwI
        rw [List.length_set, HLL.out, ibs7, List.map_set]
        exact HPU.out
      case measure => simp [intOf]; omega
    · have hlt : ¬ (j : Int) < ((cn + 3 : Nat) : Int) := by omega
      have hlt' : ¬ (j : Int) < (cn : Int) + 3 := by omega
      gi_wp2
      have hsa := HFL.out.size
      generalize wr = WA at *
      have HFA := hm7 HFL.out
      have HQB : Hid (∀ b, (Value.slice qa (cn + 3) qc).ownBlock = some b → W2.heap.size ≤ b ∧ b < W3.heap.size) := fun b hb => HQ2.out b hb
      have HPA : Hid (OwI WA W3.heap.size (.slice pa (kn + 3) pc) (keys ++ [71, 72, 73])) := row7_fr (show OwI W9 W3.heap.size (.slice pa (kn + 3) pc) (keys ++ [71, 72, 73]) from row7_below HP5.out HB9.out) HFA.out fun b hb hc => by have h1 := (World.ownsRow.lt HP5.out b hb).1; have h2 := (HQB.out b hc).2; omega
      clear HFL HOL HLL hlt hlt' hjn hj
      gi_loopw [10] (fun i wr => ∃ (j : Nat) (l : List Int), i = .int .i64 (j : Int) ∧ j ≤ kn + 3 ∧ l.length = kn + 3 ∧ OwI wr W3.heap.size (.slice pa (kn + 3) pc) l ∧ Fr (fun b => (Value.slice pa (kn + 3) pc).ownBlock = some b) WA wr) (fun i _ => kn + 3 - (intOf i).toNat)
      case atStart => exact ⟨0, _, rfl, Nat.zero_le _, by simp; exact Hkn.out, HPA.out, Fr.refl _ _⟩
      case round =>
        obtain ⟨j, l, rfl, hj, hll, hol, hfl⟩ := hrel
        have HOL := hm7 hol
        have HFL := hm7 hfl
        have HLL := hm7 hll
        clear hol hfl hll
        by_cases hjn : j < kn + 3
        · have hlt : (j : Int) < ((kn + 3 : Nat) : Int) := by omega
          have hlt' : (j : Int) < (kn : Int) + 3 := by omega
          have j0 : (0 : Int) ≤ (j : Int) := by omega
          obtain ⟨x, hx⟩ : ∃ x, l[j]? = some x := ⟨_, List.getElem?_eq_getElem (by have := HLL.out; omega)⟩
          have ho' : wr.ownsRow W3.heap.size 3 1 (.slice pa (kn + 3) pc) (kn + 3) (ibs7 l) := by have := HOL.out; unfold OwI at this; rw [HLL.out] at this; exact this
          obtain ⟨bq, rfl, -, -, p0, p1⟩ := row7_at ho' (i := j) (u := .int .i64 x) (by simp only [ibs7, List.getElem?_map, hx]; rfl)
          have HPU := hm7 (row7_put (i := j) ho' (.int .i64 1))
          clear hx ho'
          gi_wp2
          go_roundw
          case rel =>
            refine ⟨j + 1, l.set j 1, by go_num, by omega, by rw [List.length_set]; exact HLL.out, ?_, HFL.out.set (Or.inl rfl)⟩
            unfold OwI
            rw [List.length_set, HLL.out, ibs7, List.map_set]
            exact HPU.out
          case measure => simp [intOf]; omega
        · have hlt : ¬ (j : Int) < ((kn + 3 : Nat) : Int) := by omega
          have hlt' : ¬ (j : Int) < (kn : Int) + 3 := by omega
          gi_wp2
          generalize wr = Ws at *
          have HFB := hm7 HFL.out
          have hsb := HFB.out.size
          have HPB : Hid (∀ b, (Value.slice pa (kn + 3) pc).ownBlock = some b → W3.heap.size ≤ b ∧ b < W4.heap.size) := fun b hb => HP2.out b hb
          clear HFL HOL HLL hlt hlt' hjn hj
          have HF9 : Hid (Fr (fun b => W2.heap.size ≤ b ∧ b < W4.heap.size) W5 Ws) := ((Fr.of HB9.out).trans HFA.out fun b _ hb => by have := HQB.out b hb; omega).trans HFB.out fun b _ hb => by have := HPB.out b hb; omega
          obtain ⟨X0, hX0⟩ : ∃ X0 : Nat → Prop, (fun b => w.heap.size ≤ b ∧ ¬ T b ∧ (b < W4.heap.size ∨ (W5.heap.size ≤ b ∧ b < Ws.heap.size))) = X0 := ⟨_, rfl⟩
          have HXX : Hid (∀ b, X0 b ↔ w.heap.size ≤ b ∧ ¬ T b ∧ (b < W4.heap.size ∨ (W5.heap.size ≤ b ∧ b < Ws.heap.size))) := by rw [← hX0]; exact fun _ => Iff.rfl
          have hTY : ∀ b, T b → b < Y.heap.size := fun b hb => (HBO.out.p.t b hb).2
          have HX0 : Hid (∀ b, X0 b → w.heap.size ≤ b ∧ b < Ws.heap.size) := fun b hb => by have := (HXX.out b).1 hb; omega
          clear hX0
          have HXA : Hid (X0 Y.heap.size ∧ X0 (Y.heap.size + 1) ∧ X0 (Y.heap.size + 2) ∧ X0 W1.heap.size) := by
            have q : ∀ b, Y.heap.size ≤ b → b < W4.heap.size → X0 b := fun b h1 h2 => (HXX.out b).2 ⟨by omega, fun hc => by have := hTY b hc; omega, Or.inl h2⟩
            exact ⟨q _ (by omega) (by omega), q _ (by omega) (by omega), q _ (by omega) (by omega), q _ (by omega) (by omega)⟩
          have HKS : Hid (KF2 w X0 g m s parts cols keys b1 b2 b3 b4 b5 Ws) := HKF5.out.fr HF9.out (fun b hb _ => ⟨(HX4.out b).2 ⟨by omega, fun hc => by have := hTY b hc; omega, by omega⟩, by omega⟩) fun b hb => by
            have := (HXX.out b).1 hb
            rcases this.2.2 with hc | hc
            · exact Or.inl ((HX4.out b).2 ⟨this.1, this.2.1, hc⟩)
            · exact Or.inr hc.1
          have HOP : Hid (Bk Ws (Y.heap.size + 1) #[.int .i64 k, .int .i64 parts, .int .i64 stop, .bool two, rv, .slice ca cn cc, .slice ka kn kc] 34) := ((HB1.out.2.2.1.below HB14.out).below HB5.out).fr HF9.out (by omega)
          have HRS : Hid (Bk Ws (Y.heap.size + 2) #[.bool false] 4) := ((HB1.out.2.2.2.below HB14.out).below HB5.out).fr HF9.out (by omega)
          have HWT : Hid (Bk Ws W1.heap.size #[.slice ua un uc] 48) := ((HB2.out.2.below HB24.out).below HB5.out).fr HF9.out (by omega)
          have HLS : Hid (LX X0 Ws (.slice ua un uc) Q) := ((HLX.out.same (by omega) fun b hb hl => ((HF9.out.block b (by omega) (by omega)).trans (HB5.out.block b (by omega))).trans (HB14.out.block b hl)) : LX (fun b => W0.heap.size ≤ b ∧ b < W1.heap.size) Ws (.slice ua un uc) Q).mono fun b hl hb => (HXX.out b).2 ⟨by omega, fun hc => by have := hTY b hc; omega, Or.inl (by omega)⟩
          have HYS : Hid (∀ b, w.heap.size ≤ b → b < Y.heap.size → ¬ T b → X0 b ∧ Ws.heap[b]? = Y.heap[b]?) := fun b h1 h2 h3 => ⟨(HXX.out b).2 ⟨h1, h3, Or.inl (by omega)⟩, (HF9.out.block b (by omega) (by omega)).trans (HY5.out.block b h2)⟩
          have hsy : Y.heap.size + 4 ≤ Ws.heap.size := by omega
          have HF8 : Hid (fnd8 s parts cols keys = Q.map Prod.fst) := by show _ = _; rw [HQM.out]; exact rfnd_eq HBO.out.p.ok parts cols keys
          have HQL : Hid (un ≤ 100000000000) := by
            have h1 := congrArg List.length HF8.out
            rw [List.length_map, HUN.out] at h1
            have h2 := HBO.out.p.ok
            show un ≤ _
            rw [← h1]
            unfold fnd8
            refine Nat.le_trans (List.length_filter_le ..) ?_
            rw [(srt7_perm _).length_eq]
            have h1' := sel_len s.rows (pls7 s [] []) (sts7 s parts)
            have h2' := pls7_len h2 [] []
            have h3' := sts7_len s parts
            have h4' := h2.c
            have := Nat.mul_le_mul h3' h2'
            unfold sel7
            omega
          have HFV0 : Hid (FV w Ws X0 g m s parts cols keys b1 b2 b3 b4 b5 0 Ws.heap.size [] (Ws.alloc (.cells #[.int .i64 0] 3))) := by
            refine ⟨HKS.out.fr (P := fun _ => False) (Fr.of (below1 _ _)) (fun _ h => h.elim) (fun b hb => ?_), fun b hb => (below1 Ws _).block b (HX0.out b hb).2, by simp, Bk.new _ _ _, Nat.le_refl _, by simp, ⟨List.nodup_nil, by simp⟩, by simp, by omega⟩
            rcases hb with hb | hb | hb
            · exact Or.inl hb
            · simp at hb
            · exact Or.inr (by omega)
          clear HF9 HFA HFB HKS HB1 HB14 HB24 HB2 HLX HY4 HY5 HKF5 HB5 HB9 HQ9 HQ5 HP5 HPA HQB HPB HQ2 HP2 HX4 HXX HC HK hTY
          clear hs1 hs3 hs4 hs5 hs6 hs7 hs8 hs9 hsa hsb hz2 p2 hqc hpc
          refine wpIn_loop (fun ac X => ∃ (rd rb : Nat) (Es : List Nat), (ac.tmps.size = 124 ∧ ac.tmps[2]? = some (.pointer (some ⟨Y.heap.size, 0, none⟩)) ∧ ac.tmps[3]? = some (.pointer (some ⟨Y.heap.size + 1, 0, none⟩)) ∧ ac.tmps[4]? = some (.pointer (some ⟨Y.heap.size + 1 + 1, 0, none⟩)) ∧ ac.tmps[5]? = some (.pointer (some ⟨W1.heap.size, 0, none⟩)) ∧ ac.tmps[6]? = some (.slice qa (cn + 3) qc) ∧ ac.tmps[7]? = some (.slice pa (kn + 3) pc) ∧ ac.tmps[8]? = some (fnd7 b1 b2 b3 b4 b5) ∧ ac.tmps[11]? = some (.pointer (some ⟨rb, 0, none⟩)) ∧ ac.defers = mk7 Es) ∧ FV w Ws X0 g m s parts cols keys b1 b2 b3 b4 b5 rd rb Es X) (fun ac X => mu11 ac X) ?_ (fun ac W hI => ?_)
          · exact ⟨0, Ws.heap.size, [], (by first | exact ⟨rfl, rfl, rfl, rfl, rfl, rfl, rfl, rfl, rfl, rfl⟩ | ((repeat' apply And.intro) <;> rfl)), HFV0.out⟩
          clear HFV0
          obtain ⟨rd, rb, Es, hac, hfv⟩ := hI
          obtain ⟨tmps, defers⟩ := ac
          obtain ⟨f2, hf⟩ : ∃ f2 : Nat → Value, tmps = #[f2 0, f2 1, .pointer (some ⟨Y.heap.size, 0, none⟩), .pointer (some ⟨Y.heap.size + 1, 0, none⟩), .pointer (some ⟨Y.heap.size + 1 + 1, 0, none⟩), .pointer (some ⟨W1.heap.size, 0, none⟩), .slice qa (cn + 3) qc, .slice pa (kn + 3) pc, fnd7 b1 b2 b3 b4 b5, f2 9, f2 10, .pointer (some ⟨rb, 0, none⟩), f2 12, f2 13, f2 14, f2 15, f2 16, f2 17, f2 18, f2 19, f2 20, f2 21, f2 22, f2 23, f2 24, f2 25, f2 26, f2 27, f2 28, f2 29, f2 30, f2 31, f2 32, f2 33, f2 34, f2 35, f2 36, f2 37, f2 38, f2 39, f2 40, f2 41, f2 42, f2 43, f2 44, f2 45, f2 46, f2 47, f2 48, f2 49, f2 50, f2 51, f2 52, f2 53, f2 54, f2 55, f2 56, f2 57, f2 58, f2 59, f2 60, f2 61, f2 62, f2 63, f2 64, f2 65, f2 66, f2 67, f2 68, f2 69, f2 70, f2 71, f2 72, f2 73, f2 74, f2 75, f2 76, f2 77, f2 78, f2 79, f2 80, f2 81, f2 82, f2 83, f2 84, f2 85, f2 86, f2 87, f2 88, f2 89, f2 90, f2 91, f2 92, f2 93, f2 94, f2 95, f2 96, f2 97, f2 98, f2 99, f2 100, f2 101, f2 102, f2 103, f2 104, f2 105, f2 106, f2 107, f2 108, f2 109, f2 110, f2 111, f2 112, f2 113, f2 114, f2 115, f2 116, f2 117, f2 118, f2 119, f2 120, f2 121, f2 122, f2 123] := by
            obtain ⟨hn, t2, t3, t4, t5, t6, t7, t8, t11, -⟩ := hac
            obtain ⟨f, hf, hi⟩ := arr_of 124 tmps hn
            refine ⟨f, ?_⟩
            have e : ∀ (i : Nat) (v : Value), i < 124 → tmps[i]? = some v → f i = v := fun i v h1 h2 => Option.some.inj ((hi i h1).symm.trans h2)
            rw [hf, show (List.range 124).map f = [f 0, f 1, f 2, f 3, f 4, f 5, f 6, f 7, f 8, f 9, f 10, f 11, f 12, f 13, f 14, f 15, f 16, f 17, f 18, f 19, f 20, f 21, f 22, f 23, f 24, f 25, f 26, f 27, f 28, f 29, f 30, f 31, f 32, f 33, f 34, f 35, f 36, f 37, f 38, f 39, f 40, f 41, f 42, f 43, f 44, f 45, f 46, f 47, f 48, f 49, f 50, f 51, f 52, f 53, f 54, f 55, f 56, f 57, f 58, f 59, f 60, f 61, f 62, f 63, f 64, f 65, f 66, f 67, f 68, f 69, f 70, f 71, f 72, f 73, f 74, f 75, f 76, f 77, f 78, f 79, f 80, f 81, f 82, f 83, f 84, f 85, f 86, f 87, f 88, f 89, f 90, f 91, f 92, f 93, f 94, f 95, f 96, f 97, f 98, f 99, f 100, f 101, f 102, f 103, f 104, f 105, f 106, f 107, f 108, f 109, f 110, f 111, f 112, f 113, f 114, f 115, f 116, f 117, f 118, f 119, f 120, f 121, f 122, f 123] from rfl, e 2 _ (by decide) t2, e 3 _ (by decide) t3, e 4 _ (by decide) t4, e 5 _ (by decide) t5, e 6 _ (by decide) t6, e 7 _ (by decide) t7, e 8 _ (by decide) t8, e 11 _ (by decide) t11]
          obtain rfl : defers = mk7 Es := by have := hac; simp only at this; exact this.2.2.2.2.2.2.2.2.2
          clear hac
          subst hf
          have HFV := hm7 hfv
          clear hfv
          have r0 : W.cell? ⟨rb, 0, none⟩ = some (.int .i64 (rd : Int)) := HFV.out.rc.cell (i := 0) rfl
          have hrr := HFV.out.rr
          have hwz := HFV.out.z
          have hrb := HFV.out.rc.lt
          by_cases hrd : rd < 2
          · have q1 : (rd : Int) < 2 := by omega
            obtain ⟨W', hW'⟩ : ∃ W', W.alloc (.cells #[.int .i64 0] 3) = W' := ⟨_, rfl⟩
            have hw' : W'.heap.size = W.heap.size + 1 := by rw [← hW']; simp
            have HVZ := hm7 hw'
            have HVK : Hid (Below W.heap.size W W' ∧ Bk W' W.heap.size #[.int .i64 0] 3) := by
              show _ ∧ _
              rw [← hW']; exact ⟨below1 _ _, Bk.new _ _ _⟩
            have HW' := hm7 hW'
            clear hW'
            gi_wp2
            rw [HW'.out]
            clear HW' r0
            have HX1l : Hid (∀ b, (X0 b ∨ b ∈ Es ∨ b = rb) → w.heap.size ≤ b ∧ b < W.heap.size) := fun b hb => by
              have hww := HFV.out.k.b.size
              rcases hb with hb | hb | hb
              · have := HX0.out b hb; omega
              · have h1 := HFV.out.e b hb; have h2 := HFV.out.mks.lt b hb; omega
              · have h1 := HFV.out.rn; omega
            have HVB : Hid (∀ b, (X0 b ∨ b ∈ Es ∨ b = rb) → W'.heap[b]? = W.heap[b]?) := fun b hb => HVK.out.1.block b (HX1l.out b hb).2
            have HKW : Hid (KF2 w (fun b => (X0 b ∨ b ∈ Es ∨ b = rb) ∨ b = W.heap.size) g (m + rd) s parts cols keys b1 b2 b3 b4 b5 W') := HFV.out.k.fr (P := fun _ => False) (Fr.of HVK.out.1) (fun _ h => h.elim) fun b hb => hb.imp id fun h => by omega
            have hXl : ∀ b, ((X0 b ∨ b ∈ Es ∨ b = rb) ∨ b = W.heap.size) → w.heap.size ≤ b ∧ b < W'.heap.size := fun b hb => by
              have hww := HFV.out.k.b.size
              rcases hb with hb | hb
              · have := HX1l.out b hb; omega
              · omega
            have HI0 : Hid (FI7 (fun b => X0 b ∨ b ∈ Es ∨ b = rb) W.heap.size W' 0 W') := ⟨HVK.out.2, Nat.le_refl _, fun _ _ => rfl⟩
            refine range_find2 (b1 := b1) (b2 := b2) (b3 := b3) (b4 := b4) (b5 := b5) rfl rfl HKW.out hXl HW.out.1 (by have := Hcn.out; omega) (by have := HM.out; omega)
              (fun pre => FI7 (fun b => X0 b ∨ b ∈ Es ∨ b = rb) W.heap.size W' pre.length) (fun pre => FI7.only) HI0.out (fun c pre V => c = .exit 6 ∧ (pre.length : Int) = stop ∧ rd = 0 ∧ FI7 (fun b => X0 b ∨ b ∈ Es ∨ b = rb) W.heap.size W' pre.length V) (fun c pre V V' hx hs hb => ⟨hx.1, hx.2.1, hx.2.2.1, FI7.only V V' hx.2.2.2 hs hb⟩)
              (fun z => { tmps := #[f2 0, f2 1, .pointer (some ⟨Y.heap.size, 0, none⟩), .pointer (some ⟨Y.heap.size + 1, 0, none⟩), .pointer (some ⟨Y.heap.size + 1 + 1, 0, none⟩), .pointer (some ⟨W1.heap.size, 0, none⟩), .slice qa (cn + 3) qc, .slice pa (kn + 3) pc, fnd7 b1 b2 b3 b4 b5, f2 9, f2 10, .pointer (some ⟨rb, 0, none⟩), .pointer (some ⟨W.heap.size, 0, none⟩), z, f2 14, f2 15, f2 16, f2 17, f2 18, f2 19, f2 20, f2 21, f2 22, f2 23, f2 24, f2 25, f2 26, f2 27, f2 28, f2 29, f2 30, f2 31, f2 32, f2 33, f2 34, f2 35, f2 36, f2 37, f2 38, f2 39, f2 40, f2 41, f2 42, f2 43, f2 44, f2 45, f2 46, f2 47, f2 48, f2 49, f2 50, f2 51, f2 52, f2 53, f2 54, f2 55, f2 56, f2 57, f2 58, f2 59, f2 60, f2 61, f2 62, f2 63, f2 64, f2 65, f2 66, f2 67, f2 68, f2 69, f2 70, f2 71, f2 72, f2 73, f2 74, f2 75, f2 76, f2 77, f2 78, f2 79, .int .i64 (rd : Int), .bool true, f2 82, f2 83, fnd7 b1 b2 b3 b4 b5, z, f2 86, f2 87, f2 88, f2 89, f2 90, f2 91, f2 92, f2 93, f2 94, f2 95, f2 96, f2 97, f2 98, f2 99, f2 100, f2 101, f2 102, f2 103, f2 104, f2 105, f2 106, f2 107, f2 108, f2 109, f2 110, f2 111, f2 112, f2 113, f2 114, f2 115, f2 116, f2 117, f2 118, f2 119, f2 120, f2 121, f2 122, f2 123], defers := [] }) ?assign ?body ?done ?stop
            case assign =>
              rintro l mm z V K ⟨za, zn, zc, rfl⟩ hK
              gi_wp2
              exact hK
            case body =>
              rintro l mm pre xr z V hpre hi hli hkr hVl
              have HI := hm7 hi
              have HLI := hm7 hli
              rw [HF8.out] at hpre
              obtain ⟨p, hp, hpx⟩ : ∃ p, Q[pre.length]? = some p ∧ p.1 = xr := by
                obtain ⟨t, ht⟩ := hpre
                have h1 : (Q.map Prod.fst)[pre.length]? = some xr := by rw [← ht]; simp
                rw [List.getElem?_map] at h1
                cases hq : Q[pre.length]? with
                | none => simp [hq] at h1
                | some p => exact ⟨p, rfl, by simpa [hq] using h1⟩
              have hnu : pre.length < un := by rw [← HUN.out]; exact (List.getElem?_eq_some_iff.1 hp).1
              have hvz := hi.2.1
              have HLV : Hid (LX X0 V (.slice ua un uc) Q) := HLS.out.same (by omega) fun b hb _ => (hi.2.2 b (Or.inl hb)).trans ((HVB.out b (Or.inl hb)).trans (HFV.out.st b hb))
              obtain ⟨ub, uo, hua, hubl, c4, hlp⟩ := HLV.out.rn.get hp
              have HLP := hm7 hlp
              obtain ⟨pva, pvc, hpv, -⟩ := hlp
              generalize p.1.length = pn at hpv
              rw [hpv] at c4 HLP
              obtain ⟨za, zn, zc, rfl⟩ : ∃ a n c, z = .slice a n c := by obtain ⟨a, c, e, -⟩ := hli; exact ⟨_, _, _, e⟩
              have n0 : V.cell? ⟨W.heap.size, 0, none⟩ = some (.int .i64 (pre.length : Int)) := hi.1.cell (i := 0) rfl
              have n1 : V.cell? ⟨W1.heap.size, 0, none⟩ = some (.slice ua un uc) := (HWT.out.same ((hi.2.2 _ (Or.inl HXA.out.2.2.2)).trans ((HVB.out _ (Or.inl HXA.out.2.2.2)).trans (HFV.out.st _ HXA.out.2.2.2)))).cell (i := 0) rfl
              have n2 : V.cell? ⟨rb, 0, none⟩ = some (.int .i64 (rd : Int)) := (HFV.out.rc.same ((hi.2.2 _ (Or.inr (Or.inr rfl))).trans (HVB.out _ (Or.inr (Or.inr rfl))))).cell (i := 0) rfl
              have n3 : V.cell? ⟨Y.heap.size + 1, 2, none⟩ = some (.int .i64 stop) := (HOP.out.same ((hi.2.2 _ (Or.inl HXA.out.2.1)).trans ((HVB.out _ (Or.inl HXA.out.2.1)).trans (HFV.out.st _ HXA.out.2.1)))).cell (i := 2) rfl
              have d0 := hi.1.froz 0
              have d1 := hi.1.lt
              have l1 : (pre.length : Int) < (un : Int) := by omega
              have l2 : (0 : Int) ≤ (pre.length : Int) := by omega
              have l3 : decide (pre.length < un) = true := decide_eq_true hnu
              have l4 : decide (un ≤ pre.length) = false := decide_eq_false (by omega)
              have l5 : ¬ (un : Int) ≤ (pre.length : Int) := by omega
              have l6 : pre.length ≤ 9000000000000000 := by have := HQL.out; omega
              subst hua
              have HSM := hm7 (same7_any _ _ xr p.1 (.slice za zn zc) (.slice pva pn pvc) V HLI.out HLP.out)
              rw [decide_eq_true hpx.symm] at HSM
              obtain ⟨pl, hpl⟩ : ∃ pl, pre.length = pl := ⟨_, rfl⟩
              rw [hpl] at HI n0 c4 l1 l2 l3 l4 l5 l6
              have HPL := hm7 hpl
              clear hi hli hkr hpre hp hpx hpv hnu hpl
              have hk1 : ∀ i, (Fence.wide.inRound l).fn i := fun _ => trivial
              have hk2 : (Fence.wide.inRound l).depth = none := rfl
              gi_wp2
              first
                | refine (CallsIn.inRound l (callsIn_wide.2 HSM.out)).mono ?_
                | refine ⟨trivial, fun h => (by cases h), (CallsIn.inRound l (callsIn_wide.2 HSM.out)).mono ?_⟩
              clear HSM
              rintro e V5 ⟨rfl, n5, rfl⟩
              have HI5 : Hid (FI7 (fun b => X0 b ∨ b ∈ Es ∨ b = rb) W.heap.size W' (pl + 1) ((V.drewN n5).setCell ⟨W.heap.size, 0, none⟩ (.int .i64 ((pl : Int) + 1)))) := by
                refine ⟨?_, by have := HI.out.2.1; simpa using this, fun b hb => ?_⟩
                · have := Bk.set (w := V.drewN n5) HI.out.1 0 (.int .i64 ((pl : Int) + 1))
                  rw [show ((pl + 1 : Nat) : Int) = (pl : Int) + 1 by omega]
                  exact this
                · rw [heap_setCell_other _ _ _ _ (show b ≠ W.heap.size from fun e => by have := (HX1l.out b hb).2; omega)]
                  exact HI.out.2.2 b hb
              have HFR : Hid (Fr (fun b => (X0 b ∨ b ∈ Es ∨ b = rb) ∨ b = W.heap.size) V ((V.drewN n5).setCell ⟨W.heap.size, 0, none⟩ (.int .i64 ((pl : Int) + 1)))) := Fr.set ((Fr.refl _ _).then (below_dn7 _ _)) (Or.inl (Or.inr rfl))
              have e0 : rb ≠ W.heap.size := by omega
              have e2 : Y.heap.size + 1 ≠ W.heap.size := by omega
              have HE : Hid ((pre ++ [xr]).length = pl + 1) := by show _ = _; rw [List.length_append, HPL.out]; rfl
              by_cases h0 : rd = 0
              · subst h0
                by_cases hst : ((pl : Int) + 1) = stop
                · have hs1 : (((pl : Int) + 1) == stop) = true := by simpa using hst
                  have HST := hm7 hst
                  clear hst
                  gi_wp2
                  refine ⟨HFR.out, rfl, ?_, ?_⟩
                  · rw [HE.out, ← HST.out]; omega
                  · show FI7 _ _ _ (pre ++ [xr]).length _; rw [HE.out]; exact HI5.out
                · have hs1 : (((pl : Int) + 1) == stop) = false := by simpa using hst
                  gi_wp2
                  refine ⟨HFR.out, ?_⟩
                  show FI7 _ _ _ (pre ++ [xr]).length _
                  rw [HE.out]; exact HI5.out
              · have h1 : ((rd : Int) == 0) = false := by simp; omega
                gi_wp2
                refine ⟨HFR.out, ?_⟩
                show FI7 _ _ _ (pre ++ [xr]).length _
                rw [HE.out]; exact HI5.out
            case done =>
              rintro D V hD hi hkv hdf
              have HDD := hm7 hD
              have HDF := hm7 hdf
              have HKV := hm7 hkv
              have hql : (fnd8 s parts cols keys).length = un := by rw [HF8.out, List.length_map]; exact HUN.out
              rw [hql] at hi
              have HI := hm7 hi
              clear hi hkv hdf hD hql HI0 HKW
              generalize hnn : un = nn at HI
              have hvz := HI.out.2.1
              have n0 : V.cell? ⟨W.heap.size, 0, none⟩ = some (.int .i64 (nn : Int)) := HI.out.1.cell (i := 0) rfl
              have n1 : V.cell? ⟨W1.heap.size, 0, none⟩ = some (.slice ua un uc) := (HWT.out.same ((HI.out.2.2 _ (Or.inl HXA.out.2.2.2)).trans ((HVB.out _ (Or.inl HXA.out.2.2.2)).trans (HFV.out.st _ HXA.out.2.2.2)))).cell (i := 0) rfl
              have n2 : V.cell? ⟨rb, 0, none⟩ = some (.int .i64 (rd : Int)) := (HFV.out.rc.same ((HI.out.2.2 _ (Or.inr (Or.inr rfl))).trans (HVB.out _ (Or.inr (Or.inr rfl))))).cell (i := 0) rfl
              have n3 : V.cell? ⟨Y.heap.size + 1, 2, none⟩ = some (.int .i64 stop) := (HOP.out.same ((HI.out.2.2 _ (Or.inl HXA.out.2.1)).trans ((HVB.out _ (Or.inl HXA.out.2.1)).trans (HFV.out.st _ HXA.out.2.1)))).cell (i := 2) rfl
              have v1 : rb < V.heap.size := by have := HFV.out.rc.lt; omega
              have e1 : ((nn : Int) == (un : Int)) = true := by simp; omega
              subst hnn
              gi_wp2
              refine ⟨⟨rd + 1, V.heap.size, D :: Es, (by first | exact ⟨rfl, rfl, rfl, rfl, rfl, rfl, rfl, rfl, rfl, rfl⟩ | ((repeat' apply And.intro) <;> rfl)), ?_⟩, ?_⟩
              · exact FV.next HX0.out HFV.out HVB.out HVZ.out HI.out HKV.out HDD.out HDF.out (by omega) (by exact fr_copy2 V rd) (by exact bk_copy2 V rd)
              · rw [mu11_of rfl (bk_copy2 V rd), mu11_of rfl HFV.out.rc]
                omega
            case stop =>
              rintro D c pre V hD hpre ⟨rfl, hst, h0, hi⟩ hdf hkv
              have HDD := hm7 hD
              have HDF := hm7 hdf
              have HKV := hm7 hkv
              have HI := hm7 hi
              obtain ⟨nn, hnn⟩ : ∃ nn, pre.length = nn := ⟨_, rfl⟩
              rw [hnn] at HI hst
              subst h0
              clear hi hkv hdf hD HI0 HKW hpre hnn
              have hvz := HI.out.2.1
              have n0 : V.cell? ⟨W.heap.size, 0, none⟩ = some (.int .i64 (nn : Int)) := HI.out.1.cell (i := 0) rfl
              have n1 : V.cell? ⟨W1.heap.size, 0, none⟩ = some (.slice ua un uc) := (HWT.out.same ((HI.out.2.2 _ (Or.inl HXA.out.2.2.2)).trans ((HVB.out _ (Or.inl HXA.out.2.2.2)).trans (HFV.out.st _ HXA.out.2.2.2)))).cell (i := 0) rfl
              have n2 : V.cell? ⟨rb, 0, none⟩ = some (.int .i64 0) := (HFV.out.rc.same ((HI.out.2.2 _ (Or.inr (Or.inr rfl))).trans (HVB.out _ (Or.inr (Or.inr rfl))))).cell (i := 0) rfl
              have n3 : V.cell? ⟨Y.heap.size + 1, 2, none⟩ = some (.int .i64 stop) := (HOP.out.same ((HI.out.2.2 _ (Or.inl HXA.out.2.1)).trans ((HVB.out _ (Or.inl HXA.out.2.1)).trans (HFV.out.st _ HXA.out.2.1)))).cell (i := 2) rfl
              have v1 : rb < V.heap.size := by have := HFV.out.rc.lt; omega
              have s1 : ((nn : Int) == stop) = true := by simpa using hst
              have s2 : ((nn : Int) != stop) = false := by simpa using hst
              clear hst
              by_cases hne : nn = un
              · have e1 : ((nn : Int) == (un : Int)) = true := by simp; omega
                have e2 : ((nn : Int) != (un : Int)) = false := by simp; omega
                clear hne
                gi_wp2
                refine ⟨⟨0 + 1, V.heap.size, D :: Es, (by first | exact ⟨rfl, rfl, rfl, rfl, rfl, rfl, rfl, rfl, rfl, rfl⟩ | ((repeat' apply And.intro) <;> rfl)), ?_⟩, ?_⟩
                · exact FV.next HX0.out HFV.out HVB.out HVZ.out HI.out HKV.out HDD.out HDF.out (by omega) (by exact fr_one V) (by exact bk_one V)
                · rw [mu11_of rfl (bk_one V), mu11_of rfl HFV.out.rc]
                  omega
              · have e1 : ((nn : Int) == (un : Int)) = false := by simp; omega
                have e2 : ((nn : Int) != (un : Int)) = true := by simp; omega
                gi_wp2
                refine ⟨⟨0 + 1, V.heap.size, D :: Es, (by first | exact ⟨rfl, rfl, rfl, rfl, rfl, rfl, rfl, rfl, rfl, rfl⟩ | ((repeat' apply And.intro) <;> rfl)), ?_⟩, ?_⟩
                · exact FV.next HX0.out HFV.out HVB.out HVZ.out HI.out HKV.out HDD.out HDF.out (by omega) (by exact fr_one V) (by exact bk_one V)
                · rw [mu11_of rfl (bk_one V), mu11_of rfl HFV.out.rc]
                  omega
          · have q1 : ¬ (rd : Int) < 2 := by omega
            have hrs : Bk W (Y.heap.size + 2) #[.bool false] 4 := HRS.out.same (HFV.out.st _ HXA.out.2.2.1)
            have o1 := hrs.froz 0
            have o2 := hrs.lt
            have o3 := hrs.cell (i := 0) rfl
            have HFE : Hid (FE w Y T (fun b => X0 b ∨ b ∈ Es ∨ b = rb) g (m + rd) s parts cols keys b1 b2 b3 b4 b5 false W) := ⟨HFV.out.k, hrs, fun b h1 h2 h3 => (HFV.out.st b (HYS.out b h1 h2 h3).1).trans (HYS.out b h1 h2 h3).2, by omega⟩
            have HMK : Hid (Mk7 (W.setCell ⟨Y.heap.size + 2, 0, none⟩ (.bool true)) Es) := HFV.out.mks.same fun E hE => heap_setCell_other _ _ _ _ (show E ≠ Y.heap.size + 2 from fun e => by have := HFV.out.e E hE; omega)
            clear hrs
            gi_wp2
            refine leaves8 (B := fun E => (X0 E ∨ E ∈ Es ∨ E = rb) ∧ Y.heap.size + 3 ≤ E) (fun Z => FE w Y T (fun b => X0 b ∨ b ∈ Es ∨ b = rb) g (m + rd) s parts cols keys b1 b2 b3 b4 b5 true Z) (fun Z E hZ hE _ => hZ.put hE hyw _) (fun Z hZ => ?_) Es _ HMK.out (fun E hE => ⟨Or.inr (Or.inl hE), by have := HFV.out.e E hE; omega⟩) (HFE.out.set (Or.inl HXA.out.2.2.1) hyw true)
            exact ⟨_, ret_bc7 Try.results25 _ _ (Y.heap.size + 2) true rfl (hZ.o.cell (i := 0) rfl), rfl, m + rd, by omega, hZ.k.bx HBO.out (fun b h1 h2 h3 => Or.inl (HYS.out b h1 h2 h3).1) hZ.y hZ.z⟩
theorem finds7_ok : FindsOk := fun w T R g h m s Y o rv cv kv H ho hm => by obtain ⟨k, parts, stop, two, row, cols, key⟩ := o; exact finds7_any w T R g h m s Y k parts stop two row cols key rv cv kv H ho hm
end Go.Proofs.Ytofopfjmcbgfjab
