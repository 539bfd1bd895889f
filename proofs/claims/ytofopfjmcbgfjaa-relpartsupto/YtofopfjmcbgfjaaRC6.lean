/-
  law 7: RelParts' walk. (Written by RC6.py.)
-/
import Derived.Test.YtofopfjmcbgfjaaRC5
namespace Go.Proofs.Ytofopfjmcbgfjaa
open Go.RowKit Go.Shelf
attribute [local go_sem] Oper.semAt_some

def mu12 (n : Nat) (ac : Act) : Nat := match ac.tmps[12]? with | some (Value.int _ k) => n - k.toNat | _ => 0
theorem cls7_snoc (j : Nat) : cls7 (j + 1) = cls7 j ++ [(j : Int)] := by simp [cls7, nat7, List.range_succ]
theorem cls7_w (j : Nat) (hj : j ≤ 5) : w64 (cls7 j) := by
  intro y hy
  simp only [cls7, nat7, List.mem_map, List.mem_range] at hy
  obtain ⟨i, hi, rfl⟩ := hy
  have h5 : i = 0 ∨ i = 1 ∨ i = 2 ∨ i = 3 ∨ i = 4 := by omega
  rcases h5 with rfl | rfl | rfl | rfl | rfl <;> rfl
/-- What RelParts carries from batch to batch. -/
structure ZQ (w : World) (k g : Nat) (Bs : List (List (List Int × Value) × Value)) (q m : Nat) (s : St7) (T R : Nat → Prop) (ov fv cv : Value) (O F : List (List Int × Value)) (Es : List Nat) (Y : World) : Prop where
  z : ZL w k g m s T R ov fv (.slice none 0 0) (.slice none 0 0) cv O F [] [] Es Y
  wd : s.wd = k
  x : s.xf = s.rows.length
  o : O.map Prod.fst = s.rows.take s.nf
  f : F.map Prod.fst = (s.rows.take s.xf).drop s.nf
  l : s.rows.length ≤ tot7 (Bs.take q)
  mm : m ≤ 8 * q + 8 * tot7 (Bs.take q)
set_option maxRecDepth 100000 in
set_option maxHeartbeats 4000000 in
theorem relParts7_any (x : Int) (Bs : List (List (List Int × Value) × Value)) (v : Value) (w : World) (h : Bt7 w v Bs) (hB : tot7 Bs ≤ 1048576) (hBl : Bs.length ≤ 1048576) :
    Calls Try.prog 7 #[.int .i64 x, v] w fun e w' => e = .returned (.bool true) ∧ Below w.heap.size w w' := by
  obtain ⟨n, -⟩ : ∃ n : Nat, True := ⟨0, trivial⟩
  refine (callsIn_wide (n := n)).1 ?_
  refine callsIn_of_wp_marks Try.func7 rfl trivial ?_ rfl
  simp only [Try.ntmps7, List.size_toArray, List.length_cons, List.length_nil, Nat.reduceAdd, Nat.reduceSub, Array.replicate_succ, Array.replicate_zero, List.push_toArray, List.append_toArray, List.nil_append, List.cons_append]
  have hf1 : ∀ i, Fence.wide.fn i := fun _ => trivial
  have hf2 : Fence.wide.depth = none := rfl
  have HBT := hm7 h
  obtain ⟨va, vn, vc, rfl⟩ : ∃ a n c, v = .slice a n c := by obtain ⟨a, c, e, -⟩ := h; exact ⟨_, _, _, e⟩
  have hvn : Bs.length = vn := by obtain ⟨a, c, e, -⟩ := h; simp at e; exact e.2.1.symm
  have HVN := hm7 hvn
  have hvnb : vn ≤ 1048576 := by omega
  clear h hvn
  obtain ⟨W0, hW0⟩ : ∃ W0, w.alloc (.cells #[.bool false] 4) = W0 := ⟨_, rfl⟩
  have hz0 : W0.heap.size = w.heap.size + 1 := by rw [← hW0]; simp
  have HW0 : Hid (Below w.heap.size w W0 ∧ Bk W0 w.heap.size #[.bool false] 4) := by
    show _ ∧ _
    rw [← hW0]
    exact ⟨below1 _ _, Bk.new _ _ _⟩
  gi_wp2
  refine (callsIn_wide.2 (small7_any x W0)).mono ?_
  rintro e W1 ⟨rfl, h1⟩
  rw [h1]
  clear h1 hW0 W1
  have hk5 := sm7_le x
  gi_wp2
  refine (callsIn_wide.2 (new8_any (sm7 x) (by omega) W0)).mono ?_
  rintro e W2 ⟨g, rfl, hh⟩
  have HN2 := hm7 hh
  clear hh
  have qP := eqP7
  gi_wp2
  refine (callsIn_wide.2 (head7_any W2)).mono ?_
  rintro e W3 ⟨rfl, hb3⟩
  have HN3 := hm7 (HN2.out.below hb3)
  clear HN2 hb3 qP W2
  gi_wp2
  gi_loopw [10, 11] (fun c i wr => ∃ j : Nat, i = .int .i64 (j : Int) ∧ j ≤ sm7 x ∧ OwI wr W3.heap.size c (cls7 j) ∧ Below W3.heap.size W3 wr) (fun _ i _ => sm7 x - (intOf i).toNat)
  case atStart => exact ⟨0, rfl, Nat.zero_le _, OwI.nil _ _, Below.refl _ _⟩
  case round =>
    obtain ⟨j, rfl, hjk, ho, hb⟩ := hrel
    obtain ⟨ca, cc, hc, -⟩ := row7_form ho
    have hcl : (cls7 j).length = j := by simp [cls7, nat7]
    rw [hcl] at hc
    subst hc
    have HO : Hid (wr.ownsRow W3.heap.size 3 1 (.slice ca j cc) j (ibs7 (cls7 j))) := by have := ho; unfold OwI at this; rw [hcl] at this; exact this
    clear hcl
    have HB := hm7 hb
    clear ho hb
    by_cases hj : j < sm7 x
    · have i1 : (j : Int) < (sm7 x : Int) := by omega
      have hs := HB.out.size
      gi_wp2_with (gi_at_builtin; refine gappIn Try.underlying23 Try.infoInt7 rfl (by omega) rfl _ _ rfl W3.heap.size (.slice ca j cc) j (ibs7 (cls7 j)) rfl (row7_below HO.out (below1 _ _)) wr.heap.size (.int .i64 (j : Int)) rfl (Bk.new _ _ _) rfl (by omega) (by simp; omega) ?_; intro g2 c2 w5 ho5 hg5 hv5 hl5; have HH5 := hm7 (And.intro ho5 hg5); clear ho5 hg5 hv5)
      go_roundw
      case rel =>
        refine ⟨j + 1, by go_num, by omega, ?_, ?_⟩
        · unfold OwI
          rw [cls7_snoc, List.length_append, show (cls7 j).length = j by simp [cls7, nat7]]
          have := HH5.out.1
          simpa [ibs7] using this
        · have hfr : Fr (fun b => W3.heap.size ≤ b) wr w5 := (Fr.of (below1 _ _)).trans (Fr.grown HH5.out.2 fun b hb => (HO.out.lt b hb).1) fun _ _ h => h
          exact HB.out.trans (hfr.low hs)
      case measure => simp [intOf]; omega
    · have i1 : ¬ (j : Int) < (sm7 x : Int) := by omega
      obtain rfl : j = sm7 x := by omega
      have HZ0 : Hid (∃ (T R : Nat → Prop), ZQ w (sm7 x) g Bs 0 0 (New7 (sm7 x)) T R (.slice none 0 0) (.slice none 0 0) (.slice ca (sm7 x) cc) [] [] [] wr) := by
        obtain ⟨F, S, k1, k2, k3⟩ := HN3.out
        have hs3 := k3.size
        have hsw := HB.out.size
        have hw3 : Below w.heap.size w W3 := HW0.out.1.trans (k3.mono (by omega))
        have hlt : ∀ b, F b ∨ S b → b < W3.heap.size := fun b hb => hb.elim (fun h => (k1.q b h).2) (k1.q2 b)
        refine ⟨fun b => F b ∨ S b, fun b => W3.heap.size ≤ b ∧ b < wr.heap.size, ⟨⟨⟨F, S, k1.below HB.out, fun b hb => hb, fun b hb => ⟨by have := k2 b hb; omega, by have := hlt b hb; omega⟩, hw3.trans (HB.out.mono (by omega))⟩, fun b hb => ⟨fun hc => by have := hlt b hc; omega, by omega, hb.2⟩, PL.nil _ _ _ _, PL.nil _ _ _ _, PL.nil _ _ _ _, PL.nil _ _ _ _, (fun b hb => by cases hb), (fun b hb => by cases hb), ?_, (HW0.out.2.below k3).below HB.out, fun b hb => by have := k2 b hb; omega, ⟨List.nodup_nil, by simp⟩, by simp⟩, rfl, rfl, rfl, rfl, by simp [New7], by omega⟩⟩
        have ho : OwI wr W3.heap.size (.slice ca (sm7 x) cc) (cls7 (sm7 x)) := by
          unfold OwI
          rw [show (cls7 (sm7 x)).length = sm7 x by simp [cls7, nat7]]
          exact HO.out
        exact (ho.li (cls7_w _ hk5)).mono fun b hl hb => ⟨hb.1, hl⟩
      clear HN3 HW0 HO
      gi_wp2
      refine wpIn_loop (fun ac Y => ∃ (q m : Nat) (s : St7) (T R : Nat → Prop) (ov fv cv : Value) (O F : List (List Int × Value)) (Es : List Nat), (ac.tmps.size = 227 ∧ ac.tmps[0]? = some (.int .i64 x) ∧ ac.tmps[1]? = some (.slice va vn vc) ∧ ac.tmps[4]? = some (.pointer (some ⟨w.heap.size, 0, none⟩)) ∧ ac.tmps[5]? = some (.int .i64 (sm7 x : Int)) ∧ ac.tmps[6]? = some (.pointer (some ⟨g, 0, none⟩)) ∧ ac.tmps[7]? = some (.int .i64 0) ∧ ac.tmps[8]? = some (ov) ∧ ac.tmps[9]? = some (fv) ∧ ac.tmps[10]? = some (cv) ∧ ac.tmps[12]? = some (.int .i64 (q : Int)) ∧ ac.defers = mk7 Es) ∧ q ≤ vn ∧ ZQ w (sm7 x) g Bs q m s T R ov fv cv O F Es Y) (fun ac _ => mu12 vn ac) ?_ (fun ac Y hI => ?_)
      · obtain ⟨T, R, hz⟩ := HZ0.out
        exact ⟨0, 0, _, T, R, _, _, _, [], [], [], ⟨rfl, rfl, rfl, rfl, rfl, rfl, rfl, rfl, rfl, rfl, rfl, rfl⟩, Nat.zero_le _, hz⟩
      clear HZ0 HB hz0 W0
      obtain ⟨q, m, s, T, R, ov, fv, cv, O, F, Es, hac, hqn, hzq⟩ := hI
      have HZ := hm7 hzq
      clear hzq
      obtain ⟨tmps, defers⟩ := ac
      obtain ⟨f, hf⟩ : ∃ f : Nat → Value, tmps = #[.int .i64 x, .slice va vn vc, f 2, f 3, .pointer (some ⟨w.heap.size, 0, none⟩), .int .i64 (sm7 x : Int), .pointer (some ⟨g, 0, none⟩), .int .i64 0, ov, fv, cv, f 11, .int .i64 (q : Int), f 13, f 14, f 15, f 16, f 17, f 18, f 19, f 20, f 21, f 22, f 23, f 24, f 25, f 26, f 27, f 28, f 29, f 30, f 31, f 32, f 33, f 34, f 35, f 36, f 37, f 38, f 39, f 40, f 41, f 42, f 43, f 44, f 45, f 46, f 47, f 48, f 49, f 50, f 51, f 52, f 53, f 54, f 55, f 56, f 57, f 58, f 59, f 60, f 61, f 62, f 63, f 64, f 65, f 66, f 67, f 68, f 69, f 70, f 71, f 72, f 73, f 74, f 75, f 76, f 77, f 78, f 79, f 80, f 81, f 82, f 83, f 84, f 85, f 86, f 87, f 88, f 89, f 90, f 91, f 92, f 93, f 94, f 95, f 96, f 97, f 98, f 99, f 100, f 101, f 102, f 103, f 104, f 105, f 106, f 107, f 108, f 109, f 110, f 111, f 112, f 113, f 114, f 115, f 116, f 117, f 118, f 119, f 120, f 121, f 122, f 123, f 124, f 125, f 126, f 127, f 128, f 129, f 130, f 131, f 132, f 133, f 134, f 135, f 136, f 137, f 138, f 139, f 140, f 141, f 142, f 143, f 144, f 145, f 146, f 147, f 148, f 149, f 150, f 151, f 152, f 153, f 154, f 155, f 156, f 157, f 158, f 159, f 160, f 161, f 162, f 163, f 164, f 165, f 166, f 167, f 168, f 169, f 170, f 171, f 172, f 173, f 174, f 175, f 176, f 177, f 178, f 179, f 180, f 181, f 182, f 183, f 184, f 185, f 186, f 187, f 188, f 189, f 190, f 191, f 192, f 193, f 194, f 195, f 196, f 197, f 198, f 199, f 200, f 201, f 202, f 203, f 204, f 205, f 206, f 207, f 208, f 209, f 210, f 211, f 212, f 213, f 214, f 215, f 216, f 217, f 218, f 219, f 220, f 221, f 222, f 223, f 224, f 225, f 226] := by
        obtain ⟨hn, t0, t1, t4, t5, t6, t7, t8, t9, t10, t12, -⟩ := hac
        obtain ⟨f, hf, hi⟩ := arr_of 227 tmps hn
        refine ⟨f, ?_⟩
        have e : ∀ (i : Nat) (v : Value), i < 227 → tmps[i]? = some v → f i = v := fun i v h1 h2 => Option.some.inj ((hi i h1).symm.trans h2)
        rw [hf, show (List.range 227).map f = [f 0, f 1, f 2, f 3, f 4, f 5, f 6, f 7, f 8, f 9, f 10, f 11, f 12, f 13, f 14, f 15, f 16, f 17, f 18, f 19, f 20, f 21, f 22, f 23, f 24, f 25, f 26, f 27, f 28, f 29, f 30, f 31, f 32, f 33, f 34, f 35, f 36, f 37, f 38, f 39, f 40, f 41, f 42, f 43, f 44, f 45, f 46, f 47, f 48, f 49, f 50, f 51, f 52, f 53, f 54, f 55, f 56, f 57, f 58, f 59, f 60, f 61, f 62, f 63, f 64, f 65, f 66, f 67, f 68, f 69, f 70, f 71, f 72, f 73, f 74, f 75, f 76, f 77, f 78, f 79, f 80, f 81, f 82, f 83, f 84, f 85, f 86, f 87, f 88, f 89, f 90, f 91, f 92, f 93, f 94, f 95, f 96, f 97, f 98, f 99, f 100, f 101, f 102, f 103, f 104, f 105, f 106, f 107, f 108, f 109, f 110, f 111, f 112, f 113, f 114, f 115, f 116, f 117, f 118, f 119, f 120, f 121, f 122, f 123, f 124, f 125, f 126, f 127, f 128, f 129, f 130, f 131, f 132, f 133, f 134, f 135, f 136, f 137, f 138, f 139, f 140, f 141, f 142, f 143, f 144, f 145, f 146, f 147, f 148, f 149, f 150, f 151, f 152, f 153, f 154, f 155, f 156, f 157, f 158, f 159, f 160, f 161, f 162, f 163, f 164, f 165, f 166, f 167, f 168, f 169, f 170, f 171, f 172, f 173, f 174, f 175, f 176, f 177, f 178, f 179, f 180, f 181, f 182, f 183, f 184, f 185, f 186, f 187, f 188, f 189, f 190, f 191, f 192, f 193, f 194, f 195, f 196, f 197, f 198, f 199, f 200, f 201, f 202, f 203, f 204, f 205, f 206, f 207, f 208, f 209, f 210, f 211, f 212, f 213, f 214, f 215, f 216, f 217, f 218, f 219, f 220, f 221, f 222, f 223, f 224, f 225, f 226] from rfl, e 0 _ (by decide) t0, e 1 _ (by decide) t1, e 4 _ (by decide) t4, e 5 _ (by decide) t5, e 6 _ (by decide) t6, e 7 _ (by decide) t7, e 8 _ (by decide) t8, e 9 _ (by decide) t9, e 10 _ (by decide) t10, e 12 _ (by decide) t12]
      obtain rfl : defers = mk7 Es := by have := hac; simp only at this; exact this.2.2.2.2.2.2.2.2.2.2.2
      clear hac
      subst hf
      have iq : (0 : Int) ≤ (q : Int) := by omega
      by_cases hql : q < vn
      · have k1 : (q : Int) < (vn : Int) := by omega
        have k2 : (q : Int) < 2147483648 := by omega
        obtain ⟨bt, hbt⟩ : ∃ q', Bs[q]? = some q' := ⟨_, List.getElem?_eq_getElem (by rw [HVN.out]; exact hql)⟩
        obtain ⟨oa, oc, hov, -⟩ := row7_form HZ.out.z.o.o
        obtain ⟨fa, fc, hfv, -⟩ := row7_form HZ.out.z.f.o
        obtain ⟨on, hon⟩ : ∃ n, O.length = n := ⟨_, rfl⟩
        obtain ⟨fn, hfn⟩ : ∃ n, F.length = n := ⟨_, rfl⟩
        rw [hon] at hov
        rw [hfn] at hfv
        subst hov hfv
        have HON := hm7 (And.intro hon hfn)
        obtain ⟨ca2, cn2, cc2, rfl⟩ : ∃ a n c, cv = .slice a n c := by obtain ⟨a, c, e, -⟩ := HZ.out.z.c; exact ⟨_, _, _, e⟩
        have hbY := HZ.out.z.p.b
        have hbt9 : Bt7 Y (.slice va vn vc) Bs := HBT.out.below hbY
        obtain ⟨a', cap', hv', hc', hl'⟩ := hbt9
        rw [HVN.out] at hv'
        simp only [Value.slice.injEq, true_and] at hv'
        obtain ⟨rfl, rfl⟩ := hv'
        rcases hc' with hc' | ⟨bb, bo, rfl, -, hc'⟩
        · rw [hc'] at hbt; simp at hbt
        have q0 := hc' q bt hbt
        have hrn := hl' bt (List.mem_of_getElem? hbt)
        have hqt := tot7_get hbt
        have HBR := hm7 (brought7_any bt.1 bt.2 (sm7 x) Y hrn (by omega) (by omega))
        obtain ⟨ba, bc, hbv, -, -⟩ := hrn
        have HBTL := hm7 (And.intro hbt hqt)
        generalize bt.1.length = btn at hbv
        rw [hbv] at q0 HBR
        clear hon hfn hbt hc' hl' hbv hqt hbY
        gi_wp2
        refine (callsIn_wide.2 HBR.out).mono ?_
        clear HBR q0
        rintro e Y1 ⟨u, rfl, Qb, hol, hqm, hb1⟩
        obtain ⟨ua, uc, hu, -⟩ := row7_form hol.o
        obtain ⟨un, hun⟩ : ∃ un, Qb.length = un := ⟨_, rfl⟩
        rw [hun] at hu
        subst hu
        have HQM := hm7 hqm
        have HUN := hm7 hun
        have hunb : un = bt.1.length := by have h1 := congrArg List.length hqm; simp at h1; omega
        have HUB := hm7 hunb
        have hunc : un ≤ 1048576 := by have := HBTL.out.2; omega
        obtain ⟨Y2, hY2⟩ : ∃ Y2, Y1.alloc (.cells #[.slice ua un uc] 29) = Y2 := ⟨_, rfl⟩
        have hb2 : Below Y1.heap.size Y1 Y2 := by rw [← hY2]; exact below1 _ _
        have hz1 := hb1.size
        have HZB : Hid (ZL w (sm7 x) g m s T (RB5 R Y Y1 (.slice ua un uc)) (.slice oa on oc) (.slice fa fn fc) (.slice none 0 0) (.slice ua un uc) (.slice ca2 cn2 cc2) O F [] Qb Es Y2) := (HZ.out.z.batch hol hb1).below hb2
        have HB2 : Hid (Bk Y2 Y1.heap.size #[.slice ua un uc] 29 ∧ ¬ T Y1.heap.size) := ⟨by rw [← hY2]; exact Bk.new _ _ _, fun hc => by have := (HZ.out.z.p.t _ hc).2; omega⟩
        have HY1w : Hid (w.heap.size < Y1.heap.size) := by have := HZ.out.z.res.lt; show _ < _; omega
        have HZP0 : Hid (ZP s s O F [] (Qb.map Prod.fst) 0) := ⟨rfl, HZ.out.x, HZ.out.o, HZ.out.f, by simp⟩
        have HY2 := hm7 hY2
        clear hol hqm hun hunb hY2 hb1 hb2
        gi_wp2
        rw [HY2.out]
        clear HY2
        gi_loopw [13, 15, 16, 17, 18] (fun nv i _ _ _ wr => ∃ (j : Nat) (T' : Nat → Prop) (s' : St7) (Nx : List (List Int × Value)), i = .int .i64 (j : Int) ∧ j ≤ un ∧ ZL w (sm7 x) g m s' T' (RB5 R Y Y1 (.slice ua un uc)) (.slice oa on oc) (.slice fa fn fc) nv (.slice ua un uc) (.slice ca2 cn2 cc2) O F Nx Qb Es wr ∧ ZP s s' O F Nx (Qb.map Prod.fst) j ∧ (Bk wr Y1.heap.size #[.slice ua un uc] 29 ∧ ¬ T' Y1.heap.size) ∧ s'.wd = sm7 x ∧ s'.rows.length ≤ tot7 (Bs.take q) + j) (fun _ i _ _ _ _ => un - (intOf i).toNat)
        case atStart => exact ⟨0, T, s, [], rfl, Nat.zero_le _, HZB.out, HZP0.out, HB2.out, HZ.out.wd, by have := HZ.out.l; omega⟩
        case round =>
          obtain ⟨j, T', s', Nx, rfl, hju, hzl, hzp, hbx, hsw, hsl⟩ := hrel
          obtain ⟨na, nc, hnv, -⟩ := row7_form hzl.n.o
          obtain ⟨nn, hnn⟩ : ∃ n, Nx.length = n := ⟨_, rfl⟩
          rw [hnn] at hnv
          subst hnv
          have HZL := hm7 hzl
          have HZP := hm7 hzp
          have HBX := hm7 hbx
          have HSW := hm7 (And.intro hsw (show s'.rows.length ≤ 2097152 by have := HBTL.out.2; have := HUB.out; omega))
          have HSL := hm7 hsl
          have HNN := hm7 hnn
          have c14 : wr.cell? ⟨Y1.heap.size, 0, none⟩ = some (.slice ua un uc) := hbx.1.cell (i := 0) rfl
          have i0 : (0 : Int) ≤ (j : Int) := by omega
          clear hzl hzp hbx hsw hsl hnn
          by_cases hjl : j < un
          · have i1 : (j : Int) < (un : Int) := by omega
            obtain ⟨p, hp⟩ : ∃ p, Qb[j]? = some p := ⟨_, List.getElem?_eq_getElem (by rw [HUN.out]; exact hjl)⟩
            obtain ⟨ub, uo, hua, -, c4, hlp⟩ := (HZL.out.u.rn HZL.out.rt).get hp
            have HLR := hm7 (HZL.out.u.r p (List.mem_of_getElem? hp))
            have HPJ := hm7 hp
            have HLP := hm7 hlp
            have HLJ : Hid ((Qb.map Prod.fst)[j]? = some p.1) := by show _ = _; rw [List.getElem?_map, hp]; rfl
            have HPL : Hid (p.1.length = sm7 x) := by
              have h1 : p.1 ∈ Qb.map Prod.fst := List.mem_map_of_mem (List.mem_of_getElem? hp)
              rw [HQM.out, List.mem_map] at h1
              obtain ⟨t, -, ht⟩ := h1
              show _ = _
              rw [← ht]; exact wd7_len _ _
            have HH1 := hm7 (fun k => has7_any Any O p.1 (.slice oa on oc) p.2 (wr.drewN k) ((HZL.out.o.rn HZL.out.rt).drew k) (hlp.drewN k) (by have := HON.out.1; have h1 := congrArg List.length HZP.out.o; simp at h1; have h2 := HZ.out.z.p.ok.c; omega))
            have HH2 := hm7 (fun k => has7_any Any F p.1 (.slice fa fn fc) p.2 (wr.drewN k) ((HZL.out.f.rn HZL.out.rt).drew k) (hlp.drewN k) (by have := HON.out.2; have h1 := congrArg List.length HZP.out.f; simp at h1; have h2 := HZ.out.z.p.ok.c; omega))
            have HH3 := hm7 (fun k => has7_any Any Nx p.1 (.slice na nn nc) p.2 (wr.drewN k) ((HZL.out.n.rn HZL.out.rt).drew k) (hlp.drewN k) (by have h1 := congrArg List.length HZP.out.n; simp at h1; have h2 := HSW.out.2; omega))
            obtain ⟨pa, pc, hpv, -⟩ := hlp
            generalize p.1.length = pn at hpv
            have HPV := hm7 hpv
            rw [hpv] at c4 HH1 HH2 HH3 HLP HLR
            have hmem := HZP.out.mem HZ.out.z.p.ok p.1
            subst hua
            clear hp hpv
            by_cases m1 : p.1 ∈ O.map Prod.fst
            · have HM : Hid (p.1 ∈ s'.rows) := hmem.2 (Or.inl m1)
              rw [decide_eq_true m1] at HH1
              gi_wp2
              refine (callsIn_wide.2 (HH1.out 0)).mono ?_
              rintro e V1 ⟨rfl, n1, rfl⟩
              clear hmem HH1 HH2 HH3
              have HAD := hm7 ((HZL.out.below (below_dn7 wr n1)).p.add ((HLP.out.drewN n1)) (by rw [HPL.out, HSW.out.1]) (by rw [HPL.out]; omega) (by have := HSW.out.2; omega))
              rw [decide_eq_false (by simpa using HM.out)] at HAD
              gi_wp2
              refine (callsIn_wide.2 HAD.out).mono ?_
              clear HAD
              rintro e V4 ⟨rfl, hpx⟩
              obtain ⟨T4, hz4, hf4, ht4⟩ := (HZL.out.below (below_dn7 wr n1)).px hpx
              have HZ4 := hm7 hz4
              have HB4 := hm7 (And.intro (HBX.out.1.same (w' := V4) (hf4.block _ HBX.out.1.lt HBX.out.2)) (show ¬ T4 Y1.heap.size from fun hc => (ht4 _ hc).elim HBX.out.2 fun h => by have h1 := HBX.out.1.lt; have h2 : wr.heap.size ≤ Y1.heap.size := h; omega))
              have HLI4 := hm7 (HLR.out.same (w' := V4) hf4.size fun b hb hl => hf4.block b hl ((HZL.out.rt b hb).1))
              clear hpx hz4 hf4 ht4
              gi_wp2
              go_roundw
              case rel => exact ⟨j + 1, T4, _, Nx, by go_num, by omega, HZ4.out, HZP.out.yes HLJ.out HM.out, HB4.out, by rw [(ad7_wd _ _).1]; exact HSW.out.1, by have h1 := ad7_len s' p.1; have h2 := HSL.out; omega⟩
              case measure => simp [intOf]; omega
            · by_cases m2 : p.1 ∈ F.map Prod.fst
              · have HM : Hid (p.1 ∈ s'.rows) := hmem.2 (Or.inr (Or.inl m2))
                rw [decide_eq_false m1] at HH1
                rw [decide_eq_true m2] at HH2
                gi_wp2
                refine (callsIn_wide.2 (HH1.out 0)).mono ?_
                rintro e V1 ⟨rfl, n1, rfl⟩
                gi_wp2
                refine (callsIn_wide.2 (HH2.out n1)).mono ?_
                rintro e V2 ⟨rfl, n2, rfl⟩
                clear hmem HH1 HH2 HH3
                have HAD := hm7 ((HZL.out.below (below_dn7 wr (n1 + n2))).p.add ((HLP.out.drewN (n1 + n2))) (by rw [HPL.out, HSW.out.1]) (by rw [HPL.out]; omega) (by have := HSW.out.2; omega))
                rw [decide_eq_false (by simpa using HM.out)] at HAD
                gi_wp2
                refine (callsIn_wide.2 HAD.out).mono ?_
                clear HAD
                rintro e V4 ⟨rfl, hpx⟩
                obtain ⟨T4, hz4, hf4, ht4⟩ := (HZL.out.below (below_dn7 wr (n1 + n2))).px hpx
                have HZ4 := hm7 hz4
                have HB4 := hm7 (And.intro (HBX.out.1.same (w' := V4) (hf4.block _ HBX.out.1.lt HBX.out.2)) (show ¬ T4 Y1.heap.size from fun hc => (ht4 _ hc).elim HBX.out.2 fun h => by have h1 := HBX.out.1.lt; have h2 : wr.heap.size ≤ Y1.heap.size := h; omega))
                have HLI4 := hm7 (HLR.out.same (w' := V4) hf4.size fun b hb hl => hf4.block b hl ((HZL.out.rt b hb).1))
                clear hpx hz4 hf4 ht4
                gi_wp2
                go_roundw
                case rel => exact ⟨j + 1, T4, _, Nx, by go_num, by omega, HZ4.out, HZP.out.yes HLJ.out HM.out, HB4.out, by rw [(ad7_wd _ _).1]; exact HSW.out.1, by have h1 := ad7_len s' p.1; have h2 := HSL.out; omega⟩
                case measure => simp [intOf]; omega

              · by_cases m3 : p.1 ∈ Nx.map Prod.fst
                · have HM : Hid (p.1 ∈ s'.rows) := hmem.2 (Or.inr (Or.inr m3))
                  rw [decide_eq_false m1] at HH1
                  rw [decide_eq_false m2] at HH2
                  rw [decide_eq_true m3] at HH3
                  gi_wp2
                  refine (callsIn_wide.2 (HH1.out 0)).mono ?_
                  rintro e V1 ⟨rfl, n1, rfl⟩
                  gi_wp2
                  refine (callsIn_wide.2 (HH2.out n1)).mono ?_
                  rintro e V2 ⟨rfl, n2, rfl⟩
                  gi_wp2
                  refine (callsIn_wide.2 (HH3.out (n1 + n2))).mono ?_
                  rintro e V3 ⟨rfl, n3, rfl⟩
                  clear hmem HH1 HH2 HH3
                  have HAD := hm7 ((HZL.out.below (below_dn7 wr (n1 + n2 + n3))).p.add ((HLP.out.drewN (n1 + n2 + n3))) (by rw [HPL.out, HSW.out.1]) (by rw [HPL.out]; omega) (by have := HSW.out.2; omega))
                  rw [decide_eq_false (by simpa using HM.out)] at HAD
                  gi_wp2
                  refine (callsIn_wide.2 HAD.out).mono ?_
                  clear HAD
                  rintro e V4 ⟨rfl, hpx⟩
                  obtain ⟨T4, hz4, hf4, ht4⟩ := (HZL.out.below (below_dn7 wr (n1 + n2 + n3))).px hpx
                  have HZ4 := hm7 hz4
                  have HB4 := hm7 (And.intro (HBX.out.1.same (w' := V4) (hf4.block _ HBX.out.1.lt HBX.out.2)) (show ¬ T4 Y1.heap.size from fun hc => (ht4 _ hc).elim HBX.out.2 fun h => by have h1 := HBX.out.1.lt; have h2 : wr.heap.size ≤ Y1.heap.size := h; omega))
                  have HLI4 := hm7 (HLR.out.same (w' := V4) hf4.size fun b hb hl => hf4.block b hl ((HZL.out.rt b hb).1))
                  clear hpx hz4 hf4 ht4
                  gi_wp2
                  go_roundw
                  case rel => exact ⟨j + 1, T4, _, Nx, by go_num, by omega, HZ4.out, HZP.out.yes HLJ.out HM.out, HB4.out, by rw [(ad7_wd _ _).1]; exact HSW.out.1, by have h1 := ad7_len s' p.1; have h2 := HSL.out; omega⟩
                  case measure => simp [intOf]; omega
                · have HM : Hid (p.1 ∉ s'.rows) := fun h => (hmem.1 h).elim m1 fun h => h.elim m2 m3
                  rw [decide_eq_false m1] at HH1
                  rw [decide_eq_false m2] at HH2
                  rw [decide_eq_false m3] at HH3
                  gi_wp2
                  refine (callsIn_wide.2 (HH1.out 0)).mono ?_
                  rintro e V1 ⟨rfl, n1, rfl⟩
                  gi_wp2
                  refine (callsIn_wide.2 (HH2.out n1)).mono ?_
                  rintro e V2 ⟨rfl, n2, rfl⟩
                  gi_wp2
                  refine (callsIn_wide.2 (HH3.out (n1 + n2))).mono ?_
                  rintro e V3 ⟨rfl, n3, rfl⟩
                  clear hmem HH1 HH2 HH3
                  have HAD := hm7 ((HZL.out.below (below_dn7 wr (n1 + n2 + n3))).p.add ((HLP.out.drewN (n1 + n2 + n3))) (by rw [HPL.out, HSW.out.1]) (by rw [HPL.out]; omega) (by have := HSW.out.2; omega))
                  rw [decide_eq_true HM.out] at HAD
                  gi_wp2
                  refine (callsIn_wide.2 HAD.out).mono ?_
                  clear HAD
                  rintro e V4 ⟨rfl, hpx⟩
                  obtain ⟨T4, hz4, hf4, ht4⟩ := (HZL.out.below (below_dn7 wr (n1 + n2 + n3))).px hpx
                  have HZ4 := hm7 hz4
                  have HB4 := hm7 (And.intro (HBX.out.1.same (w' := V4) (hf4.block _ HBX.out.1.lt HBX.out.2)) (show ¬ T4 Y1.heap.size from fun hc => (ht4 _ hc).elim HBX.out.2 fun h => by have h1 := HBX.out.1.lt; have h2 : wr.heap.size ≤ Y1.heap.size := h; omega))
                  have HLI4 := hm7 (HLR.out.same (w' := V4) hf4.size fun b hb hl => hf4.block b hl ((HZL.out.rt b hb).1))
                  clear hpx hz4 hf4 ht4
                  have d14 := HB4.out.1.cell (i := 0) rfl
                  have c44 : V4.cell? ⟨ub, uo + j, none⟩ = some (.slice pa pn pc) := by
                    obtain ⟨ub', uo', e', -, c', -⟩ := (HZ4.out.u.rn HZ4.out.rt).get HPJ.out
                    cases e'
                    rw [← HPV.out]; exact c'
                  have HNO : Hid (V4.ownsRow (w.heap.size + 1) 23 1 (.slice na nn nc) nn (Nx.map Prod.snd)) := by have := HZ4.out.n.o; rw [HNN.out] at this; exact this
                  have hzs := HZ4.out.res.lt
                  have hnnb : nn ≤ 1000000000 := by have h1 := congrArg List.length HZP.out.n; simp at h1; have h2 := HSW.out.2; have h3 := HNN.out; omega
                  gi_wp2_with (gi_at_builtin; refine gappIn Try.underlying29 Try.infoInts7 rfl (by omega) rfl _ _ rfl (w.heap.size + 1) (.slice na nn nc) nn (Nx.map Prod.snd) rfl (row7_below HNO.out (below1 _ _)) V4.heap.size (.slice pa pn pc) rfl (Bk.new _ _ _) rfl (by omega) (by simp; omega) ?_; intro g2 c2 w5 ho5 hg5 hv5 hl5; have HH5 := hm7 (And.intro ho5 (And.intro hg5 hv5)); clear ho5 hg5 hv5)
                  have hnx := HZ4.out.next (x := p.1) (v' := .slice (some ⟨g2, 0, none⟩) (nn + 1) c2) HLI4.out (below1 _ _) (by rw [HNN.out]; exact HH5.out.1) HH5.out.2.1 (fun b hb => HH5.out.2.2.elim (fun h => Or.inl (h.trans (by simpa [Value.ownBlock] using hb))) fun h => Or.inr (by simp [Value.ownBlock] at hb h; omega))
                  go_roundw
                  case rel => exact ⟨j + 1, T4, _, _, by go_num, by omega, hnx.1, HZP.out.no HLJ.out HM.out, ⟨HB4.out.1.fr hnx.2 fun hc => (HZ4.out.n.ne HB4.out.1 (by decide)) hc, HB4.out.2⟩, by rw [(ad7_wd _ _).1]; exact HSW.out.1, by have h1 := ad7_len s' p.1; have h2 := HSL.out; omega⟩
                  case measure => simp [intOf]; omega
          · have i1 : ¬ (j : Int) < (un : Int) := by omega
            obtain rfl : un = j := by omega
            have hpt := HZP.out.parts HZ.out.z.p.ok HZL.out.p.ok
            have HPT := hm7 hpt
            have hmb : m ≤ 20000000 := by have h1 := HZ.out.mm; have h2 := tot7_le Bs q; omega
            have hnn := HNN.out
            have hon := HON.out
            have hsum : on + (fn + nn) = s'.rows.length := by
              have h1 := congrArg List.length hpt.2.2.1
              have h2 := congrArg List.length hpt.2.2.2.1
              have h3 := congrArg List.length hpt.2.2.2.2
              rw [sel_one HZL.out.p.ok] at h1
              rw [sel_two HZL.out.p.ok] at h2
              rw [sel_four HZL.out.p.ok] at h3
              simp at h1 h2 h3
              have h4 := HZL.out.p.ok.a
              have h5 := HZL.out.p.ok.b
              omega
            have hsb := HSW.out.2
            have HNB : Hid (O.length ≤ 2097152 ∧ F.length ≤ 2097152 ∧ Nx.length ≤ 2097152) := by show _ ∧ _ ∧ _; omega
            obtain ⟨l1, l2, l3⟩ := HNB.out
            have HJ := hm7 (just7_any w _ g (m) s' 1 O (.slice oa on oc) wr HZL.out.p (Or.inl rfl) (HZL.out.o.lx HZL.out.rt) (fun y => by rw [HPT.out.2.2.1]) (by omega) (by omega))
            gi_wp2
            refine (callsIn_wide.2 HJ.out).mono ?_
            clear HJ
            rintro e X11 ⟨rfl, hpx⟩
            obtain ⟨T11, hzx, hfx, htx⟩ := HZL.out.px hpx
            have HZ11 := hm7 hzx
            have HB11 := hm7 (And.intro (HBX.out.1.same (w' := X11) (hfx.block _ HBX.out.1.lt HBX.out.2)) (show ¬ T11 Y1.heap.size from fun hc => (htx _ hc).elim HBX.out.2 fun h => by have h1 := HBX.out.1.lt; omega))
            clear hpx hzx hfx htx
            have HJ := hm7 (just7_any w _ g (m + 1) s' 2 F (.slice fa fn fc) X11 HZ11.out.p (Or.inr (Or.inl rfl)) (HZ11.out.f.lx HZ11.out.rt) (fun y => by rw [HPT.out.2.2.2.1]) (by omega) (by omega))
            gi_wp2
            refine (callsIn_wide.2 HJ.out).mono ?_
            clear HJ
            rintro e X12 ⟨rfl, hpx⟩
            obtain ⟨T12, hzx, hfx, htx⟩ := HZ11.out.px hpx
            have HZ12 := hm7 hzx
            have HB12 := hm7 (And.intro (HB11.out.1.same (w' := X12) (hfx.block _ HB11.out.1.lt HB11.out.2)) (show ¬ T12 Y1.heap.size from fun hc => (htx _ hc).elim HB11.out.2 fun h => by have h1 := HB11.out.1.lt; omega))
            clear hpx hzx hfx htx
            have HJ := hm7 (just7_any w _ g (m + 1 + 1) s' 4 Nx (.slice na nn nc) X12 HZ12.out.p (Or.inr (Or.inr rfl)) (HZ12.out.n.lx HZ12.out.rt) (fun y => by rw [HPT.out.2.2.2.2]) (by omega) (by omega))
            gi_wp2
            refine (callsIn_wide.2 HJ.out).mono ?_
            clear HJ
            rintro e X13 ⟨rfl, hpx⟩
            obtain ⟨T13, hzx, hfx, htx⟩ := HZ12.out.px hpx
            have HZ13 := hm7 hzx
            have HB13 := hm7 (And.intro (HB12.out.1.same (w' := X13) (hfx.block _ HB12.out.1.lt HB12.out.2)) (show ¬ T13 Y1.heap.size from fun hc => (htx _ hc).elim HB12.out.2 fun h => by have h1 := HB12.out.1.lt; omega))
            clear hpx hzx hfx htx
            have HLN := hm7 (HZ13.out.p.kr.len 7)
            rw [len7_seven, show (s'.rows.length : Int) = (on : Int) + (fn : Int) + (nn : Int) by omega] at HLN
            clear hpt hsum hnn hon l1 l2 l3
            have b1 : on ≤ 2097152 := by have := HNB.out.1; have := HON.out.1; omega
            have b2 : fn ≤ 2097152 := by have := HNB.out.2.1; have := HON.out.2; omega
            have b3 : nn ≤ 2097152 := by have := HNB.out.2.2; have := HNN.out; omega
            gi_wp2
            refine (callsIn_wide.2 HLN.out).mono ?_
            rintro e X4 ⟨rfl, hb4⟩
            have HZ14 := hm7 (HZ13.out.below hb4)
            have HB14 := hm7 (And.intro (HB13.out.1.below hb4) HB13.out.2)
            clear HLN hb4
            gi_wp2
            have HZK0 : Hid (ZK w (sm7 x) g s' (RB5 R Y Y1 (.slice ua un uc)) (.slice oa on oc) (.slice fa fn fc) (.slice na nn nc) (.slice ua un uc) (.slice ca2 cn2 cc2) O F Nx Qb Y1.heap.size X4.heap.size 0 (m + 1 + 1 + 1) T13 Es (X4.alloc (.cells #[.int .i64 0] 3))) := by
              have hb := below1 X4 (.cells #[.int .i64 0] 3)
              have h1 := HB14.out.1.lt
              have h2 := HZL.out.res.lt
              exact ⟨HZ14.out.below hb, ⟨HB14.out.1.below hb, HB14.out.2⟩, ⟨Bk.new _ _ _, fun hc => by have := (HZ14.out.p.t _ hc).2; omega, fun hc => by have := (HZ14.out.rt _ hc).2.2; omega, HZ14.out.res.lt⟩, HY1w.out⟩
            refine wpIn_loop (fun ac Z => ∃ (jj m4 kb : Nat) (T4 : Nat → Prop) (Es4 : List Nat), (ac.tmps.size = 227 ∧ ac.tmps[0]? = some (.int .i64 x) ∧ ac.tmps[1]? = some (.slice (some ⟨bb, bo, none⟩) vn vc) ∧ ac.tmps[4]? = some (.pointer (some ⟨w.heap.size, 0, none⟩)) ∧ ac.tmps[5]? = some (.int .i64 (sm7 x : Int)) ∧ ac.tmps[6]? = some (.pointer (some ⟨g, 0, none⟩)) ∧ ac.tmps[7]? = some (.int .i64 0) ∧ ac.tmps[8]? = some (.slice oa on oc) ∧ ac.tmps[9]? = some (.slice fa fn fc) ∧ ac.tmps[10]? = some (.slice ca2 cn2 cc2) ∧ ac.tmps[12]? = some (.int .i64 (q : Int)) ∧ ac.tmps[13]? = some (.slice na nn nc) ∧ ac.tmps[14]? = some (.pointer (some ⟨Y1.heap.size, 0, none⟩)) ∧ ac.tmps[19]? = some (.pointer (some ⟨kb, 0, none⟩)) ∧ ac.defers = mk7 Es4) ∧ jj ≤ un ∧ ZK w (sm7 x) g s' (RB5 R Y Y1 (.slice ua un uc)) (.slice oa on oc) (.slice fa fn fc) (.slice na nn nc) (.slice ua un uc) (.slice ca2 cn2 cc2) O F Nx Qb Y1.heap.size kb jj m4 T4 Es4 Z ∧ m4 ≤ m + 3 + 8 * jj) (fun ac Z => mu19 un ac Z) ?_ (fun ac Z hI => ?_)
            · exact ⟨0, m + 1 + 1 + 1, X4.heap.size, T13, Es, ⟨rfl, rfl, rfl, rfl, rfl, rfl, rfl, rfl, rfl, rfl, rfl, rfl, rfl, rfl, rfl⟩, Nat.zero_le _, HZK0.out, by omega⟩
            clear HZK0 HZ14 HB14 HZ13 HB13 HZ12 HB12 HZ11 HB11 HZL HBX c14
            obtain ⟨jj, m4, kb, T4, Es4, hac, hjj, hzk, hm4⟩ := hI
            have HZK := hm7 hzk
            clear hzk
            obtain ⟨tmps, defers⟩ := ac
            obtain ⟨f4, hf⟩ : ∃ f4 : Nat → Value, tmps = #[.int .i64 x, .slice (some ⟨bb, bo, none⟩) vn vc, f4 2, f4 3, .pointer (some ⟨w.heap.size, 0, none⟩), .int .i64 (sm7 x : Int), .pointer (some ⟨g, 0, none⟩), .int .i64 0, .slice oa on oc, .slice fa fn fc, .slice ca2 cn2 cc2, f4 11, .int .i64 (q : Int), .slice na nn nc, .pointer (some ⟨Y1.heap.size, 0, none⟩), f4 15, f4 16, f4 17, f4 18, .pointer (some ⟨kb, 0, none⟩), f4 20, f4 21, f4 22, f4 23, f4 24, f4 25, f4 26, f4 27, f4 28, f4 29, f4 30, f4 31, f4 32, f4 33, f4 34, f4 35, f4 36, f4 37, f4 38, f4 39, f4 40, f4 41, f4 42, f4 43, f4 44, f4 45, f4 46, f4 47, f4 48, f4 49, f4 50, f4 51, f4 52, f4 53, f4 54, f4 55, f4 56, f4 57, f4 58, f4 59, f4 60, f4 61, f4 62, f4 63, f4 64, f4 65, f4 66, f4 67, f4 68, f4 69, f4 70, f4 71, f4 72, f4 73, f4 74, f4 75, f4 76, f4 77, f4 78, f4 79, f4 80, f4 81, f4 82, f4 83, f4 84, f4 85, f4 86, f4 87, f4 88, f4 89, f4 90, f4 91, f4 92, f4 93, f4 94, f4 95, f4 96, f4 97, f4 98, f4 99, f4 100, f4 101, f4 102, f4 103, f4 104, f4 105, f4 106, f4 107, f4 108, f4 109, f4 110, f4 111, f4 112, f4 113, f4 114, f4 115, f4 116, f4 117, f4 118, f4 119, f4 120, f4 121, f4 122, f4 123, f4 124, f4 125, f4 126, f4 127, f4 128, f4 129, f4 130, f4 131, f4 132, f4 133, f4 134, f4 135, f4 136, f4 137, f4 138, f4 139, f4 140, f4 141, f4 142, f4 143, f4 144, f4 145, f4 146, f4 147, f4 148, f4 149, f4 150, f4 151, f4 152, f4 153, f4 154, f4 155, f4 156, f4 157, f4 158, f4 159, f4 160, f4 161, f4 162, f4 163, f4 164, f4 165, f4 166, f4 167, f4 168, f4 169, f4 170, f4 171, f4 172, f4 173, f4 174, f4 175, f4 176, f4 177, f4 178, f4 179, f4 180, f4 181, f4 182, f4 183, f4 184, f4 185, f4 186, f4 187, f4 188, f4 189, f4 190, f4 191, f4 192, f4 193, f4 194, f4 195, f4 196, f4 197, f4 198, f4 199, f4 200, f4 201, f4 202, f4 203, f4 204, f4 205, f4 206, f4 207, f4 208, f4 209, f4 210, f4 211, f4 212, f4 213, f4 214, f4 215, f4 216, f4 217, f4 218, f4 219, f4 220, f4 221, f4 222, f4 223, f4 224, f4 225, f4 226] := by
              obtain ⟨hn, t0, t1, t4, t5, t6, t7, t8, t9, t10, t12, t13, t14, t19, -⟩ := hac
              obtain ⟨f, hf, hi⟩ := arr_of 227 tmps hn
              refine ⟨f, ?_⟩
              have e : ∀ (i : Nat) (v : Value), i < 227 → tmps[i]? = some v → f i = v := fun i v h1 h2 => Option.some.inj ((hi i h1).symm.trans h2)
              rw [hf, show (List.range 227).map f = [f 0, f 1, f 2, f 3, f 4, f 5, f 6, f 7, f 8, f 9, f 10, f 11, f 12, f 13, f 14, f 15, f 16, f 17, f 18, f 19, f 20, f 21, f 22, f 23, f 24, f 25, f 26, f 27, f 28, f 29, f 30, f 31, f 32, f 33, f 34, f 35, f 36, f 37, f 38, f 39, f 40, f 41, f 42, f 43, f 44, f 45, f 46, f 47, f 48, f 49, f 50, f 51, f 52, f 53, f 54, f 55, f 56, f 57, f 58, f 59, f 60, f 61, f 62, f 63, f 64, f 65, f 66, f 67, f 68, f 69, f 70, f 71, f 72, f 73, f 74, f 75, f 76, f 77, f 78, f 79, f 80, f 81, f 82, f 83, f 84, f 85, f 86, f 87, f 88, f 89, f 90, f 91, f 92, f 93, f 94, f 95, f 96, f 97, f 98, f 99, f 100, f 101, f 102, f 103, f 104, f 105, f 106, f 107, f 108, f 109, f 110, f 111, f 112, f 113, f 114, f 115, f 116, f 117, f 118, f 119, f 120, f 121, f 122, f 123, f 124, f 125, f 126, f 127, f 128, f 129, f 130, f 131, f 132, f 133, f 134, f 135, f 136, f 137, f 138, f 139, f 140, f 141, f 142, f 143, f 144, f 145, f 146, f 147, f 148, f 149, f 150, f 151, f 152, f 153, f 154, f 155, f 156, f 157, f 158, f 159, f 160, f 161, f 162, f 163, f 164, f 165, f 166, f 167, f 168, f 169, f 170, f 171, f 172, f 173, f 174, f 175, f 176, f 177, f 178, f 179, f 180, f 181, f 182, f 183, f 184, f 185, f 186, f 187, f 188, f 189, f 190, f 191, f 192, f 193, f 194, f 195, f 196, f 197, f 198, f 199, f 200, f 201, f 202, f 203, f 204, f 205, f 206, f 207, f 208, f 209, f 210, f 211, f 212, f 213, f 214, f 215, f 216, f 217, f 218, f 219, f 220, f 221, f 222, f 223, f 224, f 225, f 226] from rfl, e 0 _ (by decide) t0, e 1 _ (by decide) t1, e 4 _ (by decide) t4, e 5 _ (by decide) t5, e 6 _ (by decide) t6, e 7 _ (by decide) t7, e 8 _ (by decide) t8, e 9 _ (by decide) t9, e 10 _ (by decide) t10, e 12 _ (by decide) t12, e 13 _ (by decide) t13, e 14 _ (by decide) t14, e 19 _ (by decide) t19]
            obtain rfl : defers = mk7 Es4 := by have := hac; simp only at this; exact this.2.2.2.2.2.2.2.2.2.2.2.2.2.2
            clear hac
            subst hf
            have c19 : Z.cell? ⟨kb, 0, none⟩ = some (.int .i64 (jj : Int)) := HZK.out.2.2.1.1.cell (i := 0) rfl
            have c14 : Z.cell? ⟨Y1.heap.size, 0, none⟩ = some (.slice ua un uc) := HZK.out.2.1.1.cell (i := 0) rfl
            have ij0 : (0 : Int) ≤ (jj : Int) := by omega
            by_cases hjl : jj < un
            · have ij1 : (jj : Int) < (un : Int) := by omega
              obtain ⟨p, hp⟩ : ∃ p, Qb[jj]? = some p := ⟨_, List.getElem?_eq_getElem (by rw [HUN.out]; exact hjl)⟩
              have HPJ := hm7 hp
              have HPL : Hid (p.1.length = sm7 x) := by
                have h1 : p.1 ∈ Qb.map Prod.fst := List.mem_map_of_mem (List.mem_of_getElem? hp)
                rw [HQM.out, List.mem_map] at h1
                obtain ⟨t, -, ht⟩ := h1
                show _ = _
                rw [← ht]; exact wd7_len _ _
              obtain ⟨ri, hri⟩ : ∃ i, s'.rows[i]? = some p.1 := List.getElem?_of_mem (HZP.out.all (by rw [List.length_map, HUN.out]; omega) p.1 (List.mem_map_of_mem (List.mem_of_getElem? hp)))
              have HRI := hm7 hri
              obtain ⟨ub, uo, hua, -, c4, hlp⟩ := (HZK.out.1.u.rn HZK.out.1.rt).get hp
              have HUA := hm7 hua
              have HPA := hm7 (HZK.out.1.p.kr.part hlp (by rw [HPL.out]; omega))
              obtain ⟨pa, pc, hpv, -⟩ := hlp
              have HPV := hm7 hpv
              generalize p.1.length = pn at hpv HPV
              rw [hpv] at c4 HPA
              rw [hua] at c14
              clear hp hri hpv hua
              gi_wp2
              refine (callsIn_wide.2 HPA.out).mono ?_
              clear HPA c4 c14 c19
              rintro e Z1 ⟨rfl, hb1⟩
              have HZK1 := hm7 (HZK.out.below hb1)
              clear hb1
              gi_wp2
              refine wpIn_loop (fun ac V => ∃ (pr : Int) (m5 : Nat) (T5 : Nat → Prop) (Es5 : List Nat), (ac.tmps.size = 227 ∧ ac.tmps[0]? = some (.int .i64 x) ∧ ac.tmps[1]? = some (.slice (some ⟨bb, bo, none⟩) vn vc) ∧ ac.tmps[4]? = some (.pointer (some ⟨w.heap.size, 0, none⟩)) ∧ ac.tmps[5]? = some (.int .i64 (sm7 x : Int)) ∧ ac.tmps[6]? = some (.pointer (some ⟨g, 0, none⟩)) ∧ ac.tmps[7]? = some (.int .i64 0) ∧ ac.tmps[8]? = some (.slice oa on oc) ∧ ac.tmps[9]? = some (.slice fa fn fc) ∧ ac.tmps[10]? = some (.slice ca2 cn2 cc2) ∧ ac.tmps[12]? = some (.int .i64 (q : Int)) ∧ ac.tmps[13]? = some (.slice na nn nc) ∧ ac.tmps[14]? = some (.pointer (some ⟨Y1.heap.size, 0, none⟩)) ∧ ac.tmps[19]? = some (.pointer (some ⟨kb, 0, none⟩)) ∧ ac.tmps[20]? = some (.int .i64 (part7 s' p.1)) ∧ ac.tmps[21]? = some (.int .i64 pr) ∧ ac.defers = mk7 Es5) ∧ (pr = 1 ∨ pr = 2 ∨ pr = 4 ∨ pr = 8) ∧ ZK w (sm7 x) g s' (RB5 R Y Y1 (.slice ua un uc)) (.slice oa on oc) (.slice fa fn fc) (.slice na nn nc) (.slice ua un uc) (.slice ca2 cn2 cc2) O F Nx Qb Y1.heap.size kb jj m5 T5 Es5 V ∧ m5 + 1 ≤ m4 + pr.toNat) (fun ac _ => mu21 ac) ?_ (fun ac Z2 hI => ?_)
              · exact ⟨1, m4, T4, Es4, ⟨rfl, rfl, rfl, rfl, rfl, rfl, rfl, rfl, rfl, rfl, rfl, rfl, rfl, rfl, rfl, rfl, rfl⟩, Or.inl rfl, HZK1.out, by simp⟩
              have HCN : Hid (cn7 kb Z = jj) := cn7_of HZK.out.2.2.1.1
              clear HZK1 HZK
              obtain ⟨pr, m5, T5, Es5, hac, hpr, hzk, hm5⟩ := hI
              have HZK := hm7 hzk
              clear hzk
              obtain ⟨tmps, defers⟩ := ac
              obtain ⟨f5, hf⟩ : ∃ f5 : Nat → Value, tmps = #[.int .i64 x, .slice (some ⟨bb, bo, none⟩) vn vc, f5 2, f5 3, .pointer (some ⟨w.heap.size, 0, none⟩), .int .i64 (sm7 x : Int), .pointer (some ⟨g, 0, none⟩), .int .i64 0, .slice oa on oc, .slice fa fn fc, .slice ca2 cn2 cc2, f5 11, .int .i64 (q : Int), .slice na nn nc, .pointer (some ⟨Y1.heap.size, 0, none⟩), f5 15, f5 16, f5 17, f5 18, .pointer (some ⟨kb, 0, none⟩), .int .i64 (part7 s' p.1), .int .i64 pr, f5 22, f5 23, f5 24, f5 25, f5 26, f5 27, f5 28, f5 29, f5 30, f5 31, f5 32, f5 33, f5 34, f5 35, f5 36, f5 37, f5 38, f5 39, f5 40, f5 41, f5 42, f5 43, f5 44, f5 45, f5 46, f5 47, f5 48, f5 49, f5 50, f5 51, f5 52, f5 53, f5 54, f5 55, f5 56, f5 57, f5 58, f5 59, f5 60, f5 61, f5 62, f5 63, f5 64, f5 65, f5 66, f5 67, f5 68, f5 69, f5 70, f5 71, f5 72, f5 73, f5 74, f5 75, f5 76, f5 77, f5 78, f5 79, f5 80, f5 81, f5 82, f5 83, f5 84, f5 85, f5 86, f5 87, f5 88, f5 89, f5 90, f5 91, f5 92, f5 93, f5 94, f5 95, f5 96, f5 97, f5 98, f5 99, f5 100, f5 101, f5 102, f5 103, f5 104, f5 105, f5 106, f5 107, f5 108, f5 109, f5 110, f5 111, f5 112, f5 113, f5 114, f5 115, f5 116, f5 117, f5 118, f5 119, f5 120, f5 121, f5 122, f5 123, f5 124, f5 125, f5 126, f5 127, f5 128, f5 129, f5 130, f5 131, f5 132, f5 133, f5 134, f5 135, f5 136, f5 137, f5 138, f5 139, f5 140, f5 141, f5 142, f5 143, f5 144, f5 145, f5 146, f5 147, f5 148, f5 149, f5 150, f5 151, f5 152, f5 153, f5 154, f5 155, f5 156, f5 157, f5 158, f5 159, f5 160, f5 161, f5 162, f5 163, f5 164, f5 165, f5 166, f5 167, f5 168, f5 169, f5 170, f5 171, f5 172, f5 173, f5 174, f5 175, f5 176, f5 177, f5 178, f5 179, f5 180, f5 181, f5 182, f5 183, f5 184, f5 185, f5 186, f5 187, f5 188, f5 189, f5 190, f5 191, f5 192, f5 193, f5 194, f5 195, f5 196, f5 197, f5 198, f5 199, f5 200, f5 201, f5 202, f5 203, f5 204, f5 205, f5 206, f5 207, f5 208, f5 209, f5 210, f5 211, f5 212, f5 213, f5 214, f5 215, f5 216, f5 217, f5 218, f5 219, f5 220, f5 221, f5 222, f5 223, f5 224, f5 225, f5 226] := by
                obtain ⟨hn, t0, t1, t4, t5, t6, t7, t8, t9, t10, t12, t13, t14, t19, t20, t21, -⟩ := hac
                obtain ⟨f, hf, hi⟩ := arr_of 227 tmps hn
                refine ⟨f, ?_⟩
                have e : ∀ (i : Nat) (v : Value), i < 227 → tmps[i]? = some v → f i = v := fun i v h1 h2 => Option.some.inj ((hi i h1).symm.trans h2)
                rw [hf, show (List.range 227).map f = [f 0, f 1, f 2, f 3, f 4, f 5, f 6, f 7, f 8, f 9, f 10, f 11, f 12, f 13, f 14, f 15, f 16, f 17, f 18, f 19, f 20, f 21, f 22, f 23, f 24, f 25, f 26, f 27, f 28, f 29, f 30, f 31, f 32, f 33, f 34, f 35, f 36, f 37, f 38, f 39, f 40, f 41, f 42, f 43, f 44, f 45, f 46, f 47, f 48, f 49, f 50, f 51, f 52, f 53, f 54, f 55, f 56, f 57, f 58, f 59, f 60, f 61, f 62, f 63, f 64, f 65, f 66, f 67, f 68, f 69, f 70, f 71, f 72, f 73, f 74, f 75, f 76, f 77, f 78, f 79, f 80, f 81, f 82, f 83, f 84, f 85, f 86, f 87, f 88, f 89, f 90, f 91, f 92, f 93, f 94, f 95, f 96, f 97, f 98, f 99, f 100, f 101, f 102, f 103, f 104, f 105, f 106, f 107, f 108, f 109, f 110, f 111, f 112, f 113, f 114, f 115, f 116, f 117, f 118, f 119, f 120, f 121, f 122, f 123, f 124, f 125, f 126, f 127, f 128, f 129, f 130, f 131, f 132, f 133, f 134, f 135, f 136, f 137, f 138, f 139, f 140, f 141, f 142, f 143, f 144, f 145, f 146, f 147, f 148, f 149, f 150, f 151, f 152, f 153, f 154, f 155, f 156, f 157, f 158, f 159, f 160, f 161, f 162, f 163, f 164, f 165, f 166, f 167, f 168, f 169, f 170, f 171, f 172, f 173, f 174, f 175, f 176, f 177, f 178, f 179, f 180, f 181, f 182, f 183, f 184, f 185, f 186, f 187, f 188, f 189, f 190, f 191, f 192, f 193, f 194, f 195, f 196, f 197, f 198, f 199, f 200, f 201, f 202, f 203, f 204, f 205, f 206, f 207, f 208, f 209, f 210, f 211, f 212, f 213, f 214, f 215, f 216, f 217, f 218, f 219, f 220, f 221, f 222, f 223, f 224, f 225, f 226] from rfl, e 0 _ (by decide) t0, e 1 _ (by decide) t1, e 4 _ (by decide) t4, e 5 _ (by decide) t5, e 6 _ (by decide) t6, e 7 _ (by decide) t7, e 8 _ (by decide) t8, e 9 _ (by decide) t9, e 10 _ (by decide) t10, e 12 _ (by decide) t12, e 13 _ (by decide) t13, e 14 _ (by decide) t14, e 19 _ (by decide) t19, e 20 _ (by decide) t20, e 21 _ (by decide) t21]
              obtain rfl : defers = mk7 Es5 := by have := hac; simp only at this; exact this.2.2.2.2.2.2.2.2.2.2.2.2.2.2.2.2
              clear hac
              subst hf
              have c19 : Z2.cell? ⟨kb, 0, none⟩ = some (.int .i64 (jj : Int)) := HZK.out.2.2.1.1.cell (i := 0) rfl
              have c14 : Z2.cell? ⟨Y1.heap.size, 0, none⟩ = some (.slice (some ⟨ub, uo, none⟩) un uc) := by have := HZK.out.2.1.1.cell (i := 0) rfl; rw [HUA.out] at this; exact this
              have c4 : Z2.cell? ⟨ub, uo + jj, none⟩ = some (.slice pa pn pc) := by
                obtain ⟨ub', uo', e', -, c', -⟩ := (HZK.out.1.u.rn HZK.out.1.rt).get HPJ.out
                rw [HUA.out] at e'
                cases e'
                rw [← HPV.out]; exact c'
              have z1 := HZK.out.2.2.1.1.lt
              have z2 := HZK.out.2.1.1.lt
              have z3 : ub < Z2.heap.size := by
                obtain ⟨ub', uo', e', hl', -, -⟩ := (HZK.out.1.u.rn HZK.out.1.rt).get HPJ.out
                rw [HUA.out] at e'
                cases e'
                exact hl'
              by_cases hp8 : pr = 8
              · have k8 : ¬ pr < 8 := by omega
                subst hp8
                clear hpr c14 c4
                gi_wp2
                have hb9 := below1 Z2 (.cells #[.int .i64 ((jj : Int) + 1)] 3)
                refine ⟨⟨jj + 1, m5, Z2.heap.size, T5, Es5, (by first | exact ⟨rfl, rfl, rfl, rfl, rfl, rfl, rfl, rfl, rfl, rfl, rfl, rfl, rfl, rfl, rfl⟩ | ((repeat' apply And.intro) <;> rfl)), by omega, ⟨HZK.out.1.below hb9, ⟨HZK.out.2.1.1.below hb9, HZK.out.2.1.2⟩, ⟨Bk.new _ _ _, fun hc => by have := (HZK.out.1.p.t _ hc).2; omega, fun hc => by have := (HZK.out.1.rt _ hc).2.2; omega, HZK.out.1.res.lt⟩, HZK.out.2.2.2⟩, by simp at hm5; omega⟩, ?_⟩
                have e1 : cn7 Z2.heap.size (Z2.alloc (.cells #[.int .i64 ((jj : Int) + 1)] 3)) = jj + 1 := cn7_of (k := jj + 1) (Bk.new _ _ _)
                have e2 := HCN.out
                show un - cn7 Z2.heap.size _ < un - cn7 kb Z
                rw [e1, e2]
                omega
              · have k8 : pr < 8 := by omega
                have hp3 : pr = 1 ∨ pr = 2 ∨ pr = 4 := by omega
                have HP3 := hm7 hp3
                obtain ⟨Za, hZa⟩ : ∃ Za, Z2.alloc (.cells #[.int .i64 0] 3) = Za := ⟨_, rfl⟩
                have hza : Za.heap.size = Z2.heap.size + 1 := by rw [← hZa]; simp
                have hba : Below Z2.heap.size Z2 Za := by rw [← hZa]; exact below1 _ _
                have HNB5 : Hid (Bk Za Z2.heap.size #[.int .i64 ((0 : Nat) : Int)] 3) := by rw [← hZa]; exact Bk.new _ _ _
                have HKA := hm7 (HZK.out.below hba)
                have HLKY : Hid (Li (RB5 R Y Y1 (.slice ua un uc)) Za (.slice pa pn pc) p.1) := by have := HKA.out.1.u.r p (List.mem_of_getElem? HPJ.out); rw [HPV.out] at this; exact this
                have HFD := hm7 (HKA.out.1.p.kr.find pr HKA.out.1.c HLKY.out (by simp [cls7, nat7]; omega))
                have HZa := hm7 hZa
                clear hZa hba hpr
                gi_wp2
                rw [HZa.out]
                refine (callsIn_wide.2 HFD.out).mono ?_
                clear HFD HZa
                rintro e Zf hfi
                obtain ⟨b1, b2, b3, b4, b5, rfl, hkf, hbf⟩ := KF.mk HKA.out.1.p.kr (fun b hb => hb.1) hfi HLKY.out.w HKA.out.1.c.w
                clear hfi
                have p5 := hbf.size
                obtain ⟨X5, hX5⟩ : ∃ X5 : Nat → Prop, (fun b => w.heap.size ≤ b ∧ b < Za.heap.size ∧ ¬ T5 b) = X5 := ⟨_, rfl⟩
                have HX5 : Hid (∀ b, X5 b ↔ w.heap.size ≤ b ∧ b < Za.heap.size ∧ ¬ T5 b) := fun b => by rw [← hX5]
                have HKF : Hid (KF w X5 g m5 s' pr (cls7 (sm7 x)) p.1 b1 b2 b3 b4 b5 Zf) := hkf.fr (Y := X5) (P := fun _ => False) (Fr.refl _ _) (fun _ h => h.elim) fun b hb => Or.inl (by rw [HX5.out] at hb; exact hb.2)
                have hX5l : ∀ b, X5 b → w.heap.size ≤ b ∧ b < Zf.heap.size := fun b hb => by rw [HX5.out] at hb; omega
                have HBF : Hid (∀ b, X5 b → Zf.heap[b]? = Za.heap[b]?) := fun b hb => hbf.block b (by rw [HX5.out] at hb; exact hb.2.1)
                have hxn : X5 Z2.heap.size := by rw [HX5.out]; exact ⟨by have := HKA.out.1.res.lt; omega, by omega, fun hc => by have := (HZK.out.1.p.t _ hc).2; omega⟩
                have HXN := hm7 hxn
                have HF8 : Hid (fnd8 s' pr (cls7 (sm7 x)) p.1 = if part7 s' p.1 = pr then [p.1] else []) := by
                  show _ = _
                  have := fnd_all HKA.out.1.p.ok HP3.out HRI.out
                  rwa [HSW.out.1] at this
                clear hkf hbf hX5 hxn c19 c14 c4
                have qF : ∀ (w : World), (binOp .eql 32 (fnd7 b1 b2 b3 b4 b5) .nilFunc).run Try.prog w = .ok (.bool false) w := by intro w; rfl
                have qG : ∀ (w : World) (x y : Operand), (eqGuard .eql 32 x y (fnd7 b1 b2 b3 b4 b5) .nilFunc).run Try.prog w = .ok () w := by intro w x y; rfl
                gi_wp2
                clear qF qG
                refine range_find (b1 := b1) (b2 := b2) (b3 := b3) (b4 := b4) (b5 := b5) rfl rfl HKF.out hX5l HLKY.out.w (by simp [cls7, nat7]; omega) (by omega)
                  (fun pre V => Bk V Z2.heap.size #[.int .i64 (pre.length : Int)] 3 ∧ ∀ b, X5 b → b ≠ Z2.heap.size → V.heap[b]? = Za.heap[b]?)
                  (fun pre V V' h hs hb => ⟨h.1.same (hb _ HXN.out), fun b hx hn => (hb b hx).trans (h.2 b hx hn)⟩) ⟨HNB5.out.same (HBF.out _ HXN.out), fun b hx _ => HBF.out b hx⟩ (fun _ _ _ => False) (fun _ _ _ _ h => h.elim)
                  (fun z => { tmps := #[.int .i64 x, .slice (some ⟨bb, bo, none⟩) vn vc, f5 2, f5 3, .pointer (some ⟨w.heap.size, 0, none⟩), .int .i64 (sm7 x : Int), .pointer (some ⟨g, 0, none⟩), .int .i64 0, .slice oa on oc, .slice fa fn fc, .slice ca2 cn2 cc2, f5 11, .int .i64 (q : Int), .slice na nn nc, .pointer (some ⟨Y1.heap.size, 0, none⟩), f5 15, f5 16, f5 17, f5 18, .pointer (some ⟨kb, 0, none⟩), .int .i64 (part7 s' p.1), .int .i64 pr, .pointer (some ⟨Z2.heap.size, 0, none⟩), fnd7 b1 b2 b3 b4 b5, z, f5 25, f5 26, f5 27, f5 28, f5 29, f5 30, f5 31, f5 32, f5 33, f5 34, f5 35, f5 36, f5 37, f5 38, f5 39, f5 40, f5 41, f5 42, f5 43, f5 44, f5 45, f5 46, f5 47, f5 48, f5 49, f5 50, f5 51, f5 52, f5 53, f5 54, f5 55, f5 56, f5 57, f5 58, f5 59, f5 60, f5 61, f5 62, f5 63, f5 64, f5 65, f5 66, f5 67, f5 68, f5 69, f5 70, f5 71, f5 72, f5 73, f5 74, f5 75, f5 76, f5 77, f5 78, f5 79, f5 80, f5 81, f5 82, f5 83, f5 84, f5 85, f5 86, f5 87, f5 88, f5 89, f5 90, f5 91, f5 92, f5 93, f5 94, f5 95, f5 96, f5 97, f5 98, f5 99, f5 100, f5 101, f5 102, f5 103, f5 104, f5 105, f5 106, f5 107, f5 108, f5 109, f5 110, f5 111, f5 112, f5 113, f5 114, f5 115, f5 116, f5 117, f5 118, f5 119, f5 120, f5 121, f5 122, f5 123, f5 124, f5 125, f5 126, f5 127, f5 128, f5 129, f5 130, f5 131, f5 132, f5 133, f5 134, f5 135, f5 136, f5 137, f5 138, f5 139, f5 140, f5 141, f5 142, f5 143, f5 144, f5 145, f5 146, f5 147, f5 148, f5 149, f5 150, f5 151, f5 152, f5 153, f5 154, f5 155, f5 156, f5 157, f5 158, f5 159, .int .i64 pr, .bool true, f5 162, f5 163, .pointer (some ⟨g, 0, none⟩), .int .i64 pr, .slice ca2 cn2 cc2, .slice (some ⟨ub, uo, none⟩) un uc, .int .i64 (jj : Int), .pointer (some ⟨ub, uo + jj, none⟩), .slice pa pn pc, fnd7 b1 b2 b3 b4 b5, fnd7 b1 b2 b3 b4 b5, .bool false, fnd7 b1 b2 b3 b4 b5, z, f5 176, f5 177, f5 178, f5 179, f5 180, f5 181, f5 182, f5 183, f5 184, f5 185, f5 186, f5 187, f5 188, f5 189, f5 190, f5 191, f5 192, f5 193, f5 194, f5 195, f5 196, f5 197, f5 198, f5 199, f5 200, f5 201, f5 202, f5 203, f5 204, f5 205, f5 206, f5 207, f5 208, f5 209, f5 210, f5 211, f5 212, f5 213, f5 214, f5 215, f5 216, f5 217, f5 218, f5 219, f5 220, f5 221, f5 222, f5 223, f5 224, f5 225, f5 226], defers := [] }) ?assign ?body ?done ?stop
                case assign =>
                  rintro l mm z V K ⟨za, zn, zc, rfl⟩ hK
                  gi_wp2
                  exact hK
                case body =>
                  rintro l mm pre xr z V hpre ⟨h1, h2⟩ hli hkr hVl
                  rw [HF8.out] at hpre
                  obtain ⟨hpe, hxr⟩ : pre = [] ∧ xr = p.1 := by
                    by_cases hc : part7 s' p.1 = pr
                    · rw [if_pos hc] at hpre
                      obtain ⟨t, ht⟩ := hpre
                      cases pre with
                      | nil => simp at ht; exact ⟨rfl, ht.1⟩
                      | cons a l => simp at ht
                    · rw [if_neg hc] at hpre
                      have := hpre.length_le
                      simp at this
                  subst hpe hxr
                  obtain ⟨za, zc, rfl, -⟩ := (show ∃ a c, z = .slice a p.1.length c ∧ True by obtain ⟨a, c, e, -⟩ := hli; exact ⟨a, c, e, trivial⟩)
                  have hzv : Za.heap.size ≤ V.heap.size := by omega
                  have hown : ∀ b, (Value.slice ua un uc).ownBlock = some b → X5 b ∧ b ≠ Z2.heap.size := fun b hb => ⟨(HX5.out b).2 ⟨by have := (HKA.out.1.u.o.lt b hb).1; omega, (HKA.out.1.u.o.lt b hb).2, (HKA.out.1.u.t b hb).1⟩, fun e => HKA.out.1.u.ne HNB5.out (by decide) (by rw [← e]; exact hb)⟩
                  have hrx : ∀ b, RB5 R Y Y1 (.slice ua un uc) b → X5 b ∧ b ≠ Z2.heap.size := fun b hb => ⟨(HX5.out b).2 ⟨by have := (HKA.out.1.rt b hb).2.1; omega, (HKA.out.1.rt b hb).2.2, (HKA.out.1.rt b hb).1⟩, fun e => by have := (HZK.out.1.rt b hb).2.2; omega⟩
                  have hpv2 : PL w V T5 (RB5 R Y Y1 (.slice ua un uc)) (.slice ua un uc) Qb := HKA.out.1.u.same hzv (fun b hb => ⟨h2 b (hown b hb).1 (hown b hb).2, (HKA.out.1.u.t b hb).1⟩) fun b hb _ => h2 b (hrx b hb).1 (hrx b hb).2
                  have hrt : RT w V T5 (RB5 R Y Y1 (.slice ua un uc)) := HKA.out.1.rt.px hzv fun b hb => Or.inl hb
                  obtain ⟨ub', uo', e', -, c4, hlp⟩ := (hpv2.rn hrt).get HPJ.out
                  rw [HUA.out] at e'
                  cases e'
                  have HSM := hm7 (same7_any Any Any p.1 p.1 _ p.2 V hli.any hlp)
                  rw [decide_eq_true rfl] at HSM
                  rw [HPV.out] at c4 HSM
                  have hxy : X5 Y1.heap.size ∧ X5 kb := ⟨(HX5.out _).2 ⟨by have := HY1w.out; omega, by omega, HKA.out.2.1.2⟩, (HX5.out _).2 ⟨by have := HKA.out.2.2.1.2.2.2; omega, by omega, HKA.out.2.2.1.2.1⟩⟩
                  have c14 : V.cell? ⟨Y1.heap.size, 0, none⟩ = some (.slice (some ⟨ub, uo, none⟩) un uc) := by have := (HKA.out.2.1.1.same (h2 _ hxy.1 (by omega))).cell (i := 0) rfl; rw [HUA.out] at this; exact this
                  have c19 : V.cell? ⟨kb, 0, none⟩ = some (.int .i64 (jj : Int)) := (HKA.out.2.2.1.1.same (h2 _ hxy.2 (by omega))).cell (i := 0) rfl
                  have c22 : V.cell? ⟨Z2.heap.size, 0, none⟩ = some (.int .i64 0) := h1.cell (i := 0) rfl
                  have d0 := h1.froz 0
                  have d1 := h1.lt
                  have HE := hm7 (And.intro h1 h2)
                  generalize p.1.length = zn at *
                  clear h1 h2 hpre hli hkr hown hrx hpv2 hrt hlp hxy
                  gi_wp2
                  refine (CallsIn.inRound l (callsIn_wide.2 HSM.out)).mono ?_
                  rintro e V3 ⟨rfl, n5, rfl⟩
                  clear HSM
                  gi_wp2
                  have hfr : Fr (fun b => b = Z2.heap.size) V ((V.drewN n5).setCell ⟨Z2.heap.size, 0, none⟩ (.int .i64 1)) := Fr.set (Fr.of (below_dn7 _ _)) (Or.inl rfl)
                  refine ⟨Fr.mono hfr fun b _ hb => by rw [hb]; exact HXN.out, (HE.out.1.same (w' := V.drewN n5) rfl).set 0 _, fun b hb hn => ?_⟩
                  rw [← HE.out.2 b hb hn]
                  exact heap_setCell_other _ _ _ _ hn
                case stop =>
                  rintro D c pre V hD hpre h
                  exact h.elim
                case done =>
                  rintro D V hD ⟨h1, h2⟩ hkr hdf
                  rw [HF8.out] at h1
                  have hDl := (Array.getElem?_eq_some_iff.1 hdf).1
                  obtain ⟨T6, hz6, ht6⟩ := ZL.range (Y := Za) (nb := Z2.heap.size) (D := D) HKA.out.1 (hkr.mono fun b hb _ => hb.imp (HX5.out b).2 id) (by omega) hdf (by omega) (fun b hb hn => h2 b ((HX5.out b).2 hb) hn) HNB5.out (by decide) (by have := HZK.out.1.res.lt; omega) (fun hc => by have := (HZK.out.1.rt _ hc).2.2; omega)
                  have hxy : X5 Y1.heap.size ∧ X5 kb := ⟨(HX5.out _).2 ⟨by have := HY1w.out; omega, by omega, HKA.out.2.1.2⟩, (HX5.out _).2 ⟨by have := HKA.out.2.2.1.2.2.2; omega, by omega, HKA.out.2.2.1.2.1⟩⟩
                  have HZK6 : Hid (ZK w (sm7 x) g s' (RB5 R Y Y1 (.slice ua un uc)) (.slice oa on oc) (.slice fa fn fc) (.slice na nn nc) (.slice ua un uc) (.slice ca2 cn2 cc2) O F Nx Qb Y1.heap.size kb jj (m5 + 1) T6 (D :: Es5) V) := ⟨hz6, ⟨HKA.out.2.1.1.same (h2 _ hxy.1 (by omega)), fun hc => (ht6 _ hc).elim HKA.out.2.1.2 fun h => by omega⟩, ⟨HKA.out.2.2.1.1.same (h2 _ hxy.2 (by omega)), fun hc => (ht6 _ hc).elim HKA.out.2.2.1.2.1 fun h => by omega, HKA.out.2.2.1.2.2⟩, HKA.out.2.2.2⟩
                  have q1 : (1 : Int) ≤ pr := by omega
                  have q2 : pr ≤ 4 := by omega
                  have HEND : Hid (mu21 { tmps := #[.int .i64 x, .slice (some ⟨bb, bo, none⟩) vn vc, f5 2, f5 3, .pointer (some ⟨w.heap.size, 0, none⟩), .int .i64 (sm7 x : Int), .pointer (some ⟨g, 0, none⟩), .int .i64 0, .slice oa on oc, .slice fa fn fc, .slice ca2 cn2 cc2, f5 11, .int .i64 (q : Int), .slice na nn nc, .pointer (some ⟨Y1.heap.size, 0, none⟩), f5 15, f5 16, f5 17, f5 18, .pointer (some ⟨kb, 0, none⟩), .int .i64 (part7 s' p.1), .int .i64 pr, .pointer (some ⟨Z2.heap.size, 0, none⟩), fnd7 b1 b2 b3 b4 b5, f5 24, f5 25, f5 26, f5 27, f5 28, f5 29, f5 30, f5 31, f5 32, f5 33, f5 34, f5 35, f5 36, f5 37, f5 38, f5 39, f5 40, f5 41, f5 42, f5 43, f5 44, f5 45, f5 46, f5 47, f5 48, f5 49, f5 50, f5 51, f5 52, f5 53, f5 54, f5 55, f5 56, f5 57, f5 58, f5 59, f5 60, f5 61, f5 62, f5 63, f5 64, f5 65, f5 66, f5 67, f5 68, f5 69, f5 70, f5 71, f5 72, f5 73, f5 74, f5 75, f5 76, f5 77, f5 78, f5 79, f5 80, f5 81, f5 82, f5 83, f5 84, f5 85, f5 86, f5 87, f5 88, f5 89, f5 90, f5 91, f5 92, f5 93, f5 94, f5 95, f5 96, f5 97, f5 98, f5 99, f5 100, f5 101, f5 102, f5 103, f5 104, f5 105, f5 106, f5 107, f5 108, f5 109, f5 110, f5 111, f5 112, f5 113, f5 114, f5 115, f5 116, f5 117, f5 118, f5 119, f5 120, f5 121, f5 122, f5 123, f5 124, f5 125, f5 126, f5 127, f5 128, f5 129, f5 130, f5 131, f5 132, f5 133, f5 134, f5 135, f5 136, f5 137, f5 138, f5 139, f5 140, f5 141, f5 142, f5 143, f5 144, f5 145, f5 146, f5 147, f5 148, f5 149, f5 150, f5 151, f5 152, f5 153, f5 154, f5 155, f5 156, f5 157, f5 158, f5 159, .int .i64 pr, .bool true, f5 162, f5 163, .pointer (some ⟨g, 0, none⟩), .int .i64 pr, .slice ca2 cn2 cc2, .slice (some ⟨ub, uo, none⟩) un uc, .int .i64 (jj : Int), .pointer (some ⟨ub, uo + jj, none⟩), .slice pa pn pc, fnd7 b1 b2 b3 b4 b5, fnd7 b1 b2 b3 b4 b5, .bool false, fnd7 b1 b2 b3 b4 b5, f5 175, f5 176, f5 177, f5 178, f5 179, f5 180, f5 181, f5 182, f5 183, f5 184, f5 185, f5 186, f5 187, f5 188, f5 189, f5 190, f5 191, f5 192, f5 193, f5 194, f5 195, f5 196, f5 197, f5 198, f5 199, f5 200, f5 201, f5 202, f5 203, f5 204, f5 205, f5 206, f5 207, f5 208, f5 209, f5 210, f5 211, f5 212, f5 213, f5 214, f5 215, f5 216, f5 217, f5 218, f5 219, f5 220, f5 221, f5 222, f5 223, f5 224, f5 225, f5 226], defers := mk7 Es5 } = 8 - pr.toNat) := rfl
                  clear hz6 ht6 hkr h2 hxy
                  by_cases hc : part7 s' p.1 = pr
                  · rw [if_pos hc] at h1
                    have c22 : V.cell? ⟨Z2.heap.size, 0, none⟩ = some (.int .i64 1) := h1.cell (i := 0) rfl
                    have r1 : (part7 s' p.1 == pr) = true := by simpa using hc
                    clear h1 hc HEND
                    gi_wp2
                    refine ⟨⟨pr * 2, m5 + 1, T6, D :: Es5, (by first | exact ⟨rfl, rfl, rfl, rfl, rfl, rfl, rfl, rfl, rfl, rfl, rfl, rfl, rfl, rfl, rfl, rfl, rfl⟩ | ((repeat' apply And.intro) <;> rfl)), by omega, HZK6.out, by omega⟩, ?_⟩
                    show 8 - (pr * 2).toNat < 8 - pr.toNat
                    omega
                  · rw [if_neg hc] at h1
                    have c22 : V.cell? ⟨Z2.heap.size, 0, none⟩ = some (.int .i64 0) := h1.cell (i := 0) rfl
                    have r1 : (part7 s' p.1 == pr) = false := by simpa using hc
                    clear h1 HEND
                    gi_wp2
                    refine ⟨⟨pr * 2, m5 + 1, T6, D :: Es5, (by first | exact ⟨rfl, rfl, rfl, rfl, rfl, rfl, rfl, rfl, rfl, rfl, rfl, rfl, rfl, rfl, rfl, rfl, rfl⟩ | ((repeat' apply And.intro) <;> rfl)), by omega, HZK6.out, by omega⟩, ?_⟩
                    show 8 - (pr * 2).toNat < 8 - pr.toNat
                    omega
            · have ij1 : ¬ (jj : Int) < (un : Int) := by omega
              obtain rfl : un = jj := by omega
              have hnx : (s'.rows.length : Int) - (s'.xf : Int) = (nn : Int) := by
                have h1 := congrArg List.length HPT.out.2.2.2.2
                rw [sel_four HZK.out.1.p.ok] at h1
                simp at h1
                have h2 := HNN.out
                have h3 := HZK.out.1.p.ok.b
                omega
              have HTU := hm7 HZK.out.1.p.turn
              rw [hnx] at HTU
              clear hnx
              gi_wp2
              refine (callsIn_wide.2 HTU.out).mono ?_
              clear HTU c14 c19
              rintro e V1 ⟨rfl, hpx⟩
              obtain ⟨T6, hz6, -, -⟩ := HZK.out.1.px hpx
              have HZ6 := hm7 hz6
              clear hpx hz6
              have HOO : Hid (V1.ownsRow (w.heap.size + 1) 23 1 (.slice oa on oc) on (O.map Prod.snd)) := by have := HZ6.out.o.o; rw [HON.out.1] at this; exact this
              have HFF : Hid (V1.ownsRow (w.heap.size + 1) 23 1 (.slice fa fn fc) fn (F.map Prod.snd)) := by have := HZ6.out.f.o; rw [HON.out.2] at this; exact this
              have hone : ∀ u ∈ F.map Prod.snd, u.oneCell' = true := fun u hu => by
                obtain ⟨t, ht, rfl⟩ := List.mem_map.1 hu
                obtain ⟨a, c, e, -⟩ := HZ6.out.f.r t ht
                rw [e]; rfl
              have hzs := HZ6.out.res.lt
              gi_wp2_with (gi_at_builtin; refine gappMIn Try.underlying29 Try.infoInts7 rfl (by omega) rfl _ _ rfl (w.heap.size + 1) (.slice oa on oc) on (O.map Prod.snd) rfl HOO.out (w.heap.size + 1) (.slice fa fn fc) fn (F.map Prod.snd) rfl HFF.out hone (by omega) (by omega) ?_; intro v' w5 ho5 hg5 hv5; have HH5 := hm7 (And.intro ho5 (And.intro hg5 hv5)); clear ho5 hg5 hv5)
              have hov := HZ6.out.over (v' := v') (by rw [HON.out.1, HON.out.2]; exact HH5.out.1) HH5.out.2.1 HH5.out.2.2
              refine ⟨⟨q + 1, m4, Turn7 s', T6, RB5 R Y Y1 (.slice ua un uc), v', .slice na nn nc, .slice ca2 cn2 cc2, O ++ F, Nx, Es4, (by first | exact ⟨rfl, rfl, rfl, rfl, rfl, rfl, rfl, rfl, rfl, rfl, rfl, rfl⟩ | ((repeat' apply And.intro) <;> rfl)), by omega, ⟨hov, HSW.out.1, rfl, ?_, ?_, ?_, ?_⟩⟩, ?_⟩
              · show (O ++ F).map Prod.fst = s'.rows.take s'.xf
                rw [List.map_append, ← HPT.out.2.2.1, ← HPT.out.2.2.2.1, sel_one HZK.out.1.p.ok, sel_two HZK.out.1.p.ok]
                have q1 := List.take_append_drop s'.nf (s'.rows.take s'.xf)
                rwa [List.take_take, Nat.min_eq_left HZK.out.1.p.ok.a] at q1
              · show Nx.map Prod.fst = (s'.rows.take s'.rows.length).drop s'.xf
                rw [← HPT.out.2.2.2.2, sel_four HZK.out.1.p.ok, List.take_length]
              · show s'.rows.length ≤ _
                rw [tot7_take Bs q bt HBTL.out.1]
                have h1 := HSL.out
                have h2 := HUB.out
                omega
              · rw [tot7_take Bs q bt HBTL.out.1]
                have h1 := HZ.out.mm
                have h2 := HUB.out
                omega
              · show vn - ((q : Int) + 1).toNat < vn - (q : Int).toNat
                omega
      · have k1 : ¬ (q : Int) < (vn : Int) := by omega
        obtain ⟨oa, oc, hov, -⟩ := row7_form HZ.out.z.o.o
        obtain ⟨fa, fc, hfv, -⟩ := row7_form HZ.out.z.f.o
        obtain ⟨on, hon⟩ : ∃ n, O.length = n := ⟨_, rfl⟩
        obtain ⟨fn, hfn⟩ : ∃ n, F.length = n := ⟨_, rfl⟩
        rw [hon] at hov
        rw [hfn] at hfv
        subst hov hfv
        have HON := hm7 (And.intro hon hfn)
        have HOK := hm7 HZ.out.z.p.ok
        have hmb : m ≤ 20000000 := by have h1 := HZ.out.mm; have h2 := tot7_le Bs q; omega
        have hsb : s.rows.length ≤ 1048576 := by have h1 := HZ.out.l; have h2 := tot7_le Bs q; omega
        have HS1 : Hid (sel7 s 1 [] [] = O.map Prod.fst) := by show _ = _; rw [sel_one HOK.out, HZ.out.o]
        have HS2 : Hid (sel7 s 2 [] [] = F.map Prod.fst) := by show _ = _; rw [sel_two HOK.out, HZ.out.f]
        have l1 : O.length ≤ 2097152 := by have h1 := congrArg List.length HZ.out.o; simp at h1; omega
        have l2 : F.length ≤ 2097152 := by have h1 := congrArg List.length HZ.out.f; simp at h1; omega
        have HZ10 := hm7 HZ.out.z
        clear hon hfn
        have HJ := hm7 (just7_any w _ g (m) s 1 O (.slice oa on oc) Y HZ10.out.p (Or.inl rfl) (HZ10.out.o.lx HZ10.out.rt) (fun y => by rw [HS1.out]) (by omega) (by omega))
        gi_wp2
        refine (callsIn_wide.2 HJ.out).mono ?_
        clear HJ
        rintro e X11 ⟨rfl, hpx⟩
        obtain ⟨T11, hzx, hfx, htx⟩ := HZ10.out.px hpx
        have HZ11 := hm7 hzx
        clear hpx hzx hfx htx
        have HJ := hm7 (just7_any w _ g (m + 1) s 2 F (.slice fa fn fc) X11 HZ11.out.p (Or.inr (Or.inl rfl)) (HZ11.out.f.lx HZ11.out.rt) (fun y => by rw [HS2.out]) (by omega) (by omega))
        gi_wp2
        refine (callsIn_wide.2 HJ.out).mono ?_
        clear HJ
        rintro e X12 ⟨rfl, hpx⟩
        obtain ⟨T12, hzx, hfx, htx⟩ := HZ11.out.px hpx
        have HZ12 := hm7 hzx
        clear hpx hzx hfx htx
        have HLN := hm7 (HZ12.out.p.kr.len 4)
        rw [len7_four, show (s.rows.length : Int) - (s.xf : Int) = 0 by have := HZ.out.x; omega] at HLN
        gi_wp2
        refine (callsIn_wide.2 HLN.out).mono ?_
        clear HLN
        rintro e X4 ⟨rfl, hb4⟩
        have HZ14 := hm7 (HZ12.out.below hb4)
        clear hb4
        have HMI := hm7 (minus7_any F O (.slice fa fn fc) (.slice oa on oc) X4 (HZ14.out.f.rn HZ14.out.rt) (HZ14.out.o.rn HZ14.out.rt) (by omega) (by omega) (fun y hy hc => by
          rw [HZ.out.f] at hy
          rw [HZ.out.o] at hc
          have hnd := HOK.out.nd.sublist (List.take_sublist s.xf s.rows)
          have e0 : s.rows.take s.nf = (s.rows.take s.xf).take s.nf := by rw [List.take_take, Nat.min_eq_left HOK.out.a]
          rw [e0] at hc
          rw [← List.take_append_drop s.nf (s.rows.take s.xf), List.nodup_append] at hnd
          exact hnd.2.2 y hc y hy rfl))
        rw [HON.out.2] at HMI
        gi_wp2
        refine (callsIn_wide.2 HMI.out).mono ?_
        clear HMI
        rintro e X5 ⟨⟨ma, mc, rfl⟩, hb5⟩
        have HZ15 := hm7 (HZ14.out.below hb5)
        clear hb5 HZ14
        have c0 : X5.cell? ⟨w.heap.size, 0, none⟩ = some (.bool false) := HZ15.out.res.cell (i := 0) rfl
        have d0 := HZ15.out.res.froz 0
        have d1 := HZ15.out.res.lt
        gi_wp2
        refine leaves7 (B := w.heap.size + 1) (fun Z => Bk Z w.heap.size #[.bool true] 4 ∧ Below w.heap.size w Z) (fun Z E hZ hE hD => ⟨hZ.1.same (World.putObj_heap_other (by omega)), hZ.2.os, hZ.2.tape, hZ.2.output, by simpa using hZ.2.size, fun k hk => (World.putObj_heap_other (by omega)).trans (hZ.2.block k hk)⟩) (fun Z hZ => ?_) Es _ (HZ15.out.mks.same fun E hE => heap_setCell_other _ _ _ _ (show E ≠ w.heap.size from fun e => by have := (HZ15.out.me E hE).1; omega)) (fun E hE => (HZ15.out.me E hE).1) ⟨HZ15.out.res.set 0 (.bool true), Below.setCell HZ15.out.p.b (p := ⟨w.heap.size, 0, none⟩) (by simp) _⟩
        exact ⟨_, ret_bc7 Try.results7 _ _ w.heap.size true rfl (hZ.1.cell (i := 0) rfl), rfl, hZ.2⟩
end Go.Proofs.Ytofopfjmcbgfjaa
