import Derived.Test.YtofopfjmcbgfjabRG3
import Derived.Deep.CutBlock
import Derived.Test.YtofopfjmcbgfjabRE7
import Derived.Deep.CondSized
/-
  law 7: upTo's walk. (Written by RG4.py.)
-/
namespace Go.Proofs.Ytofopfjmcbgfjab
open Go.RowKit
attribute [local go_sem ↓] Go.wp_at_zero Go.wp_at_succ

theorem sz_le : ∀ {Os : List Op7} {o : Op7}, o ∈ Os → o.sz ≤ (Os.map Op7.sz).sum
  | a :: Os, o, h => by
    simp only [List.map_cons, List.sum_cons]
    rcases List.mem_cons.1 h with rfl | h
    · omega
    · have := sz_le h; omega
def UpQ (w : World) (e : Ending) (w' : World) : Prop := e = .returned (.bool true) ∧ Below w.heap.size w w'
set_option maxRecDepth 20000 in
set_option maxHeartbeats 4000000 in
theorem upTo7_any (one two lo hi : Int) (h1 : one ≤ 9223372036854775807) (h2 : two ≤ 9223372036854775807) (v : Value) (Os : List Op7) (w : World) (h : Sc7 w v Os) (hl : Os.length ≤ 1048576) (hz : (Os.map Op7.sz).sum ≤ 1048576) :
    Calls Try.prog 5 #[.int .i64 one, .int .i64 two, v, .int .i64 lo, .int .i64 hi] w (UpQ w) := by
  obtain ⟨va, vc, rfl, hcs, hok⟩ := h
  obtain ⟨n, hn⟩ : ∃ n, Os.length = n := ⟨_, rfl⟩
  rw [hn] at hl ⊢
  have HN := hm7 hn
  have HCS := hm7 hcs
  have HOK := hm7 hok
  have HZ := hm7 hz
  clear hcs hok hn hz
  have HG1 := hm7 (begin7_pq w w (Below.refl _ _) one h1)
  go_enter Try.func5, Try.ntmps5
  go_upto_region 2 with (go_at_call 6; refine HG1.out.mono ?_; rintro e W1 ⟨p1, q1, T1, R1, s1, rfl, hp1, hr1, ht1, hb1⟩; have HP1 := hm7 hp1; have HR1 := hm7 (And.intro hr1 ht1); have HB1 := hm7 hb1; clear hp1 hr1 ht1 hb1)
  obtain ⟨W2, hW2⟩ : ∃ W2, W1.alloc (.cells #[.pointer p1, .pointer q1] 28) = W2 := ⟨_, rfl⟩
  have hz2 : W2.heap.size = W1.heap.size + 1 := by rw [← hW2]; simp
  have HB2 : Hid (Below W1.heap.size W1 W2 ∧ Bk W2 W1.heap.size #[.pointer p1, .pointer q1] 28) := by show _ ∧ _; rw [← hW2]; exact ⟨below1 _ _, Bk.new _ _ _⟩
  have HG2 := hm7 (begin7_pq w W2 (belt HB1.out HB2.out.1) two h2)
  clear HG1
  go_upto_region 3 with (go_at_call 6; refine HG2.out.mono ?_; rintro e W3 ⟨p2, q2, T2, R2, s2, rfl, hp2, hr2, ht2, hb3⟩; have HP2 := hm7 hp2; have HR2 := hm7 (And.intro hr2 ht2); have HB3 := hm7 hb3; clear hp2 hr2 ht2 hb3)
  obtain ⟨W4, hW4⟩ : ∃ W4, W3.alloc (.cells #[.pointer p2, .pointer q2] 28) = W4 := ⟨_, rfl⟩
  have hz4 : W4.heap.size = W3.heap.size + 1 := by rw [← hW4]; simp
  have HB4 : Hid (Below W3.heap.size W3 W4 ∧ Bk W4 W3.heap.size #[.pointer p2, .pointer q2] 28) := by show _ ∧ _; rw [← hW4]; exact ⟨below1 _ _, Bk.new _ _ _⟩
  have hs1 := HB1.out.size
  have hs3 := HB3.out.size
  have HU0 : Hid (UT w W1.heap.size W3.heap.size 0 p1 q1 p2 q2 W4) := by
    refine ⟨belt (belt (belt HB1.out HB2.out.1) HB3.out) HB4.out.1, (HB2.out.2.below HB3.out).below HB4.out.1, HB4.out.2, by omega, by omega, T1, R1, T2, R2, 0, 0, s1, s2, ((HP1.out.below HB2.out.1).below HB3.out).below HB4.out.1, HP2.out.below HB4.out.1, fun b hb hc => ?_, fun b hb => ?_, Nat.le_refl _, Nat.le_refl _, by rw [HR1.out.1]; exact Nat.le_refl _, by rw [HR2.out.1]; exact Nat.le_refl _⟩
    · have := (HP1.out.t b hb).2; have := HR2.out.2 b hc; omega
    · rcases hb with hb | hb
      · have := (HP1.out.t b hb).2; omega
      · have := (HP2.out.t b hb).2; have := HR2.out.2 b hb; omega
  have HHD := hm7 (head7_any W4)
  clear HG2 HP1 HP2 HR1 HR2 HB1 HB2 HB3 HB4 hW2
  go_upto_region 5 with (go_at_call 7; refine HHD.out.mono ?_; rintro e W5 ⟨rfl, hb5⟩; have HU5 := hm7 (HU0.out.below hb5); clear hb5)
  clear HU0 HHD hW4
  go_wp2
  go_loopg [15] n (fun gg i wr => ∃ j : Nat, j + gg = n ∧ i = .int .i64 j ∧ UT w W1.heap.size W3.heap.size j p1 q1 p2 q2 wr)
  case atStart => exact ⟨0, by omega, rfl, HU5.out⟩
  case round =>
    obtain ⟨j, hj, rfl, hu⟩ := hrel
    have HU := hm7 hu
    clear hu HU5
    have a0 : wr.cell? ⟨W1.heap.size, 0, none⟩ = some (.pointer p1) := HU.out.ka.cell (i := 0) rfl
    have a1 : wr.cell? ⟨W1.heap.size, 1, none⟩ = some (.pointer q1) := HU.out.ka.cell (i := 1) rfl
    have b0 : wr.cell? ⟨W3.heap.size, 0, none⟩ = some (.pointer p2) := HU.out.kb.cell (i := 0) rfl
    have b1 : wr.cell? ⟨W3.heap.size, 1, none⟩ = some (.pointer q2) := HU.out.kb.cell (i := 1) rfl
    have al := HU.out.ka.lt
    have bl := HU.out.kb.lt
    cases gk with
    | succ gg =>
      have hlt : (j : Int) < (n : Int) := by omega
      have hlt2 : (j : Int) < 2147483648 := by omega
      have j0 : (0 : Int) ≤ (j : Int) := by omega
      obtain ⟨o, ho⟩ : ∃ o, Os[j]? = some o := ⟨_, List.getElem?_eq_getElem (by have := HN.out; omega)⟩
      obtain ⟨sb, so, hva, hsb, hcl⟩ : ∃ b o, va = some ⟨b, o, none⟩ ∧ b < w.heap.size ∧ ∀ (i : Nat) (p : Op7), Os[i]? = some p → ∀ (j : Nat) (c : Value), p.cs[j]? = some c → w.cell? ⟨b, o + (i * 7 + j), none⟩ = some c := by
        rcases HCS.out with h | h
        · rw [h] at ho; simp at ho
        · exact h
      subst hva
      have hsz : o.sz ≤ 1048576 := Nat.le_trans (sz_le (List.mem_of_getElem? ho)) HZ.out
      have hoo := HOK.out o (List.mem_of_getElem? ho)
      have hco := hcl j o ho
      obtain ⟨ok, op, os, otwo, orow, ocol, okey, rv, cv, kv⟩ := o
      have HCL : Hid (∀ V, Below w.heap.size w V → ∀ (i : Nat) (c : Value), (Op7.cs ⟨ok, op, os, otwo, orow, ocol, okey, rv, cv, kv⟩)[i]? = some c → V.cell? ⟨sb, so + j * 7 + i, none⟩ = some c) := fun V hV i c hc => by
        rw [Nat.add_assoc]
        exact Fr.cell (P := fun _ => False) (Fr.of hV) hsb (fun h => h) (hco i c hc)
      have HOM : Hid (∀ V, Below w.heap.size w V → OpM w V ⟨ok, op, os, otwo, orow, ocol, okey⟩ rv cv kv) := fun V hV => by
        simp only [Op7.sz] at hsz
        exact ⟨(hoo.r.mono fun b hl _ => hl).below hV, (hoo.c.mono fun b hl _ => hl).below hV, (hoo.k.mono fun b hl _ => hl).below hV, by simp only; omega, by simp only; omega, by simp only; omega⟩
      have hsw := HU.out.b.size
      have hsw2 : sb < wr.heap.size := by omega
      clear ho hcl hsz hoo hco
      have x3 : wr.cell? ⟨sb, so + j * 7 + 3, none⟩ = some (.bool otwo) := HCL.out wr HU.out.b 3 _ rfl
      cases otwo with
      | false =>
        obtain ⟨WC, hWC⟩ : ∃ W2, wr.alloc (.cells #[.pointer p1, .pointer q1] 28) = W2 := ⟨_, rfl⟩
        have HBC : Hid (Below wr.heap.size wr WC) := by show Below _ _ _; rw [← hWC]; exact below1 _ _
        have HKC : Hid (Bk WC wr.heap.size #[.pointer p1, .pointer q1] 28) := by show Bk _ _ _ _; rw [← hWC]; exact Bk.new _ _ _
        have z0 : WC.cell? ⟨wr.heap.size, 0, none⟩ = some (.pointer p1) := HKC.out.cell (i := 0) rfl
        have z1 : WC.cell? ⟨wr.heap.size, 1, none⟩ = some (.pointer q1) := HKC.out.cell (i := 1) rfl
        have y0 : WC.cell? ⟨sb, so + j * 7, none⟩ = some (.int .i64 ok) := HCL.out WC (belt HU.out.b HBC.out) 0 _ rfl
        have y1 : WC.cell? ⟨sb, so + j * 7 + 1, none⟩ = some (.int .i64 op) := HCL.out WC (belt HU.out.b HBC.out) 1 _ rfl
        have y2 : WC.cell? ⟨sb, so + j * 7 + 2, none⟩ = some (.int .i64 os) := HCL.out WC (belt HU.out.b HBC.out) 2 _ rfl
        have y3 : WC.cell? ⟨sb, so + j * 7 + 3, none⟩ = some (.bool false) := HCL.out WC (belt HU.out.b HBC.out) 3 _ rfl
        have y4 : WC.cell? ⟨sb, so + j * 7 + 4, none⟩ = some rv := HCL.out WC (belt HU.out.b HBC.out) 4 _ rfl
        have y5 : WC.cell? ⟨sb, so + j * 7 + 5, none⟩ = some cv := HCL.out WC (belt HU.out.b HBC.out) 5 _ rfl
        have y6 : WC.cell? ⟨sb, so + j * 7 + 6, none⟩ = some kv := HCL.out WC (belt HU.out.b HBC.out) 6 _ rfl
        rcases p1 with _ | x
        · have qN := eqN7
          go_wp2
          go_roundg gg
          case measure => omega
          case rel => exact ⟨j + 1, by omega, by go_num, (HU.out.below HBC.out).up (by omega)⟩
        · have qP := eqP7
          have HPL : Hid (∀ V, Below WC.heap.size WC V → Calls Try.prog 8 #[.agg #[.pointer (some x), .pointer q1], .agg #[.int .i64 ok, .int .i64 op, .int .i64 os, .bool false, rv, cv, kv]] V fun e W' => e = .returned (.bool true) ∧ UT w W1.heap.size W3.heap.size (j + 1) (some x) q1 p2 q2 W') := fun V hV => by
            refine (UT.plays ((HU.out.below (belt HBC.out hV))) (by simp) ok op os false orow ocol okey rv cv kv (HOM.out V (belt (belt HU.out.b HBC.out) hV)) (by omega)).mono ?_
            rintro e W' ⟨rfl, hu⟩
            exact ⟨rfl, hu⟩
          go_upto_region 12 with fail
          go_region_with (go_at_call 8; refine (HPL.out _ (by exact ⟨rfl, rfl, rfl, Nat.le_refl _, fun _ _ => rfl⟩)).mono ?_; rintro e WF ⟨rfl, hu⟩; have HUF := hm7 hu; clear hu)
          all_goals go_wp2_with fail
          all_goals (go_roundg gg)
          all_goals first | exact ⟨j + 1, by omega, by go_num, HUF.out⟩ | omega
      | true =>
        obtain ⟨WC, hWC⟩ : ∃ W2, wr.alloc (.cells #[.pointer p2, .pointer q2] 28) = W2 := ⟨_, rfl⟩
        have HBC : Hid (Below wr.heap.size wr WC) := by show Below _ _ _; rw [← hWC]; exact below1 _ _
        have HKC : Hid (Bk WC wr.heap.size #[.pointer p2, .pointer q2] 28) := by show Bk _ _ _ _; rw [← hWC]; exact Bk.new _ _ _
        have z0 : WC.cell? ⟨wr.heap.size, 0, none⟩ = some (.pointer p2) := HKC.out.cell (i := 0) rfl
        have z1 : WC.cell? ⟨wr.heap.size, 1, none⟩ = some (.pointer q2) := HKC.out.cell (i := 1) rfl
        have y0 : WC.cell? ⟨sb, so + j * 7, none⟩ = some (.int .i64 ok) := HCL.out WC (belt HU.out.b HBC.out) 0 _ rfl
        have y1 : WC.cell? ⟨sb, so + j * 7 + 1, none⟩ = some (.int .i64 op) := HCL.out WC (belt HU.out.b HBC.out) 1 _ rfl
        have y2 : WC.cell? ⟨sb, so + j * 7 + 2, none⟩ = some (.int .i64 os) := HCL.out WC (belt HU.out.b HBC.out) 2 _ rfl
        have y3 : WC.cell? ⟨sb, so + j * 7 + 3, none⟩ = some (.bool true) := HCL.out WC (belt HU.out.b HBC.out) 3 _ rfl
        have y4 : WC.cell? ⟨sb, so + j * 7 + 4, none⟩ = some rv := HCL.out WC (belt HU.out.b HBC.out) 4 _ rfl
        have y5 : WC.cell? ⟨sb, so + j * 7 + 5, none⟩ = some cv := HCL.out WC (belt HU.out.b HBC.out) 5 _ rfl
        have y6 : WC.cell? ⟨sb, so + j * 7 + 6, none⟩ = some kv := HCL.out WC (belt HU.out.b HBC.out) 6 _ rfl
        rcases p2 with _ | x
        · have qN := eqN7
          go_wp2
          go_roundg gg
          case measure => omega
          case rel => exact ⟨j + 1, by omega, by go_num, (HU.out.below HBC.out).up (by omega)⟩
        · have qP := eqP7
          have HPL : Hid (∀ V, Below WC.heap.size WC V → Calls Try.prog 8 #[.agg #[.pointer (some x), .pointer q2], .agg #[.int .i64 ok, .int .i64 op, .int .i64 os, .bool true, rv, cv, kv]] V fun e W' => e = .returned (.bool true) ∧ UT w W1.heap.size W3.heap.size (j + 1) p1 q1 (some x) q2 W') := fun V hV => by
            refine (UT.plays ((HU.out.below (belt HBC.out hV)).swap) (by simp) ok op os true orow ocol okey rv cv kv (HOM.out V (belt (belt HU.out.b HBC.out) hV)) (by omega)).mono ?_
            rintro e W' ⟨rfl, hu⟩
            exact ⟨rfl, hu.swap⟩
          go_upto_region 12 with fail
          go_region_with (go_at_call 8; refine (HPL.out _ (by exact ⟨rfl, rfl, rfl, Nat.le_refl _, fun _ _ => rfl⟩)).mono ?_; rintro e WF ⟨rfl, hu⟩; have HUF := hm7 hu; clear hu)
          all_goals go_wp2_with fail
          all_goals (go_roundg gg)
          all_goals first | exact ⟨j + 1, by omega, by go_num, HUF.out⟩ | omega
    | zero =>
      have hlt : ¬ (j : Int) < (n : Int) := by omega
      obtain rfl : n = j := by omega
      have qN := eqN7
      have qP := eqP7
      rcases p1 with _ | x
      · rcases p2 with _ | y
        · go_wp2
          go_ret
          exact ⟨rfl, HU.out.b⟩
        · have HL2 := hm7 (HU.out.swap.looks (by simp) (by omega))
          go_wp2_with (go_at_call 9; refine HL2.out.mono ?_; rintro e WF ⟨rfl, hu⟩; have HUF := hm7 hu; clear hu)
          go_ret
          exact ⟨rfl, HUF.out.b⟩
      · have HL1 := hm7 (HU.out.looks (by simp) (by omega))
        rcases p2 with _ | y
        · go_wp2_with (go_at_call 9; refine HL1.out.mono ?_; rintro e WE ⟨rfl, hu⟩; have HUE := hm7 hu; have c0 := hu.kb.cell (i := 0) rfl; have c1 := hu.kb.cell (i := 1) rfl; clear hu)
          go_ret
          exact ⟨rfl, HUE.out.b⟩
        · go_wp2_with (first
            | (go_at_call 9; refine (HUE.out.swap.looks (by simp) (by omega)).mono ?_; rintro e WF ⟨rfl, hu⟩; have HUF := hm7 hu; clear hu)
            | (go_at_call 9; refine HL1.out.mono ?_; clear HL1; rintro e WE ⟨rfl, hu⟩; have HUE := hm7 hu; have c0 := hu.kb.cell (i := 0) rfl; have c1 := hu.kb.cell (i := 1) rfl; clear hu))
          go_ret
          exact ⟨rfl, HUF.out.b⟩
end Go.Proofs.Ytofopfjmcbgfjab
/-
  law 7: RelAdds, RelFinds, RelAll: upTo with their kinds.
-/
namespace Go.Proofs.Ytofopfjmcbgfjab
open Go.RowKit
attribute [local go_sem ↓] Go.wp_at_zero Go.wp_at_succ
theorem wf_max {n : Int} (h : (Lit.int .i64 n).wf = true) : n ≤ 9223372036854775807 := by
  simp only [Lit.wf, Bool.and_eq_true, decide_eq_true_eq] at h
  exact h.2
set_option maxRecDepth 20000 in
theorem relFinds7_any (one two : Int) (h1 : one ≤ 9223372036854775807) (h2 : two ≤ 9223372036854775807) (v : Value) (Os : List Op7) (w : World) (h : Sc7 w v Os) (hl : Os.length ≤ 1048576) (hz : (Os.map Op7.sz).sum ≤ 1048576) :
    Calls Try.prog 3 #[.int .i64 one, .int .i64 two, v] w fun e w' => e = .returned (.bool true) ∧ Below w.heap.size w w' := by
  have HU := hm7 (upTo7_any one two 6 6 h1 h2 v Os w h hl hz)
  obtain ⟨va, vn, vc, rfl⟩ : ∃ a n c, v = .slice a n c := by obtain ⟨a, c, e, -⟩ := h; exact ⟨_, _, _, e⟩
  clear h hl hz
  go_enter Try.func3, Try.ntmps3
  go_wp2_with (go_at_call 5; refine HU.out.mono ?_; rintro e w1 ⟨rfl, hb⟩; have HB := hm7 hb; clear hb)
  go_ret
  exact ⟨rfl, HB.out⟩
set_option maxRecDepth 20000 in
theorem relAll7_any (one two : Int) (h1 : one ≤ 9223372036854775807) (h2 : two ≤ 9223372036854775807) (v : Value) (Os : List Op7) (w : World) (h : Sc7 w v Os) (hl : Os.length ≤ 1048576) (hz : (Os.map Op7.sz).sum ≤ 1048576) :
    Calls Try.prog 4 #[.int .i64 one, .int .i64 two, v] w fun e w' => e = .returned (.bool true) ∧ Below w.heap.size w w' := by
  have HU := hm7 (upTo7_any one two 1 6 h1 h2 v Os w h hl hz)
  obtain ⟨va, vn, vc, rfl⟩ : ∃ a n c, v = .slice a n c := by obtain ⟨a, c, e, -⟩ := h; exact ⟨_, _, _, e⟩
  clear h hl hz
  go_enter Try.func4, Try.ntmps4
  go_wp2_with (go_at_call 5; refine HU.out.mono ?_; rintro e w1 ⟨rfl, hb⟩; have HB := hm7 hb; clear hb)
  go_ret
  exact ⟨rfl, HB.out⟩
end Go.Proofs.Ytofopfjmcbgfjab
/-
  The statement on hearsaylaw07.RelFinds.
-/
namespace Go.Proofs.Ytofopfjmcbgfjab
open Go.ChangeShapes Go.WideShapes Go.ChangeAt Go.RowKit

theorem Try.own : ownKnob Try.prog.godebug = none := by kernel_rfl
theorem Try.laidOut : laidOutB Try.prog = true := by kernel_rfl
set_option maxRecDepth 100000 in
set_option maxHeartbeats 1000000 in
theorem relFinds_lifted (os : Os) (started : os.Started) (H : Type) (enc : TypeId × Value → H) (F : Stop.Interp) :
    ReturnsInHanded {} Try.checked os 3 .any ((Rows.OpenSpec.upto Rows.relFindsSpec).pre6 enc Try.prog Try.f3 Rows.relFindsUptoRow.domain false) (((Rows.OpenSpec.upto Rows.relFindsSpec).at F).post enc Try.prog Try.f3 false true false false) := by
  refine returnsInHanded_of_cond_sized (C := Try.checked) (s := Rows.OpenSpec.upto Rows.relFindsSpec) (k := Rows.uptoSmall) rfl Try.own started (by kernel_rfl) Try.func3
    (OpenSpec.witness (enc := enc) (C := Try.checked) (s := Rows.OpenSpec.upto Rows.relFindsSpec) (k := Rows.uptoSmall) rfl false ⟨#[], #[.int .i64 0, .int .i64 0, .slice none 0 0], []⟩ 8 (by kernel_rfl) (by kernel_rfl) (by kernel_rfl)
      (x := ([.lit (.int .i64 0), .lit (.int .i64 0), .nil], [], [])) (by kernel_rfl) rfl (by kernel_rfl)) ?_
  intro W base args ds gs before hval0 hW hcnd hk hsz0 _
  have hval : ∀ (j : Nat) t v, Try.f3.params[j]? = some t → args[j]? = some v → Value.okWide Try.prog W .any base t v := hval0
  have hW' := hW
  obtain ⟨p, q, hA0, hV, rfl, hfz, hnd⟩ := hW
  have hA : DataW.TrodAll enc Try.prog W 0 (fun _ => true) true Try.f3.params.toList args.toList ds p := hA0
  rw [Try.params3] at hA hval
  obtain ⟨v0, vs0, d0, ds0, p0, q0, hargs, rfl, rfl, h0, r0⟩ := trodAll_cons hA
  obtain ⟨v1, vs1, d1, ds1, p1, q1, rfl, rfl, rfl, h1, r1⟩ := trodAll_cons r0
  obtain ⟨v2, vs2, d2, ds2, p2, q2, rfl, rfl, rfl, h2, r2⟩ := trodAll_cons r1
  obtain ⟨rfl, rfl, rfl⟩ := trodAll_nil r2
  obtain rfl : args = #[v0, v1, v2] := by cases args; simp_all
  obtain ⟨rfl, rfl⟩ := trodVars_none hV
  have k0 := h0
  have k1 := h1
  have k2 := h2
  have lt0 : ∀ x ∈ p0, x.block < W.heap.size := by obtain ⟨m, hm⟩ := k0; exact DataW.trod_lt m _ _ _ hm
  have lt1 : ∀ x ∈ p1, x.block < W.heap.size := by obtain ⟨m, hm⟩ := k1; exact DataW.trod_lt m _ _ _ hm
  have lt2 : ∀ x ∈ p2, x.block < W.heap.size := by obtain ⟨m, hm⟩ := k2; exact DataW.trod_lt m _ _ _ hm
  have hbk : Rows.uptoBulkAll ([d0, d1, d2] ++ []) ≤ 1048576 := of_decide_eq_true hk
  obtain ⟨x0, rfl, e1_0, e2_0, wf0⟩ := open_int Try.underlying3 (hval 0 3 v0 rfl rfl) h0
  obtain ⟨x1, rfl, e1_1, e2_1, wf1⟩ := open_int Try.underlying3 (hval 1 3 v1 rfl rfl) h1
  obtain ⟨a2, n2, c2, rfl⟩ := okWide_slice Try.underlying22 (hval 2 22 v2 rfl rfl)
  obtain ⟨f2, hf2⟩ := h2
  obtain ⟨w2, O2, hcs2, b2, bl2, bt2⟩ := open_ops7 hf2
  simp [Value.cells] at hcs2
  subst hcs2
  simp only [List.cons_append, List.nil_append, Rows.uptoBulkAll] at hbk
  simp only at bl2 bt2
  clear hA0 hval0
  refine (relFinds7_any x0 x1 (wf_max wf0) (wf_max wf1) (.slice a2 n2 c2) O2 W b2 (by omega) (by omega)).mono fun e W' ⟨he, bel⟩ => ?_
  subst he
  exact ⟨_, rfl, _, _, _, [], _, [], hW', trodAll_mk1 (shut_bool Try.underlying4 _), (trodAll_cons_mk (Below.trod Try.laidOut (by kernel_rfl) (of_decide_eq_true (by kernel_rfl)) k0 bel lt0) (trodAll_cons_mk (Below.trod Try.laidOut (by kernel_rfl) (of_decide_eq_true (by kernel_rfl)) k1 bel lt1) (trodAll_cons_mk (Below.trod Try.laidOut (by kernel_rfl) (of_decide_eq_true (by kernel_rfl)) k2 bel lt2) trodAll_mk0))), rfl, bel.frame _, fun h => by cases h⟩

theorem relFinds_holds : Rows.RelFindsUptoSaid :=
  OpenClaim.holds_of_cond 3 Try.f3 rfl rfl rfl rfl rfl rfl rfl ⟨rfl, rfl, rfl, rfl, rfl⟩ rfl rfl rfl rfl rfl (by kernel_rfl) Try.func3 (by kernel_rfl)
    (of_decide_eq_true (by kernel_rfl)) (by unfold Func.isWrapper; first | (rw [if_pos (by decide +kernel)]; kernel_rfl) | (rw [if_neg (by decide +kernel)]; exact ⟨rfl, rfl⟩))
    (fun os started H enc _ F => relFinds_lifted os started H enc F)
#print axioms relFinds_holds
end Go.Proofs.Ytofopfjmcbgfjab
