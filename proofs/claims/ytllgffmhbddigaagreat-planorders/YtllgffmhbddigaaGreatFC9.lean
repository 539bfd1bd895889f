/-
  law 9: PlanOrders. (Written by FC9.py.)
-/
import Derived.Test.YtllgffmhbddigaaGreatFC8
namespace Go.Proofs.YtllgffmhbddigaaGreat
open Go.RowKit
attribute [local go_sem ↓] Go.wp_at_zero Go.wp_at_succ

theorem mv9_nine : mv9 (List.replicate 9 false) = #[.bool false, .bool false, .bool false, .bool false, .bool false, .bool false, .bool false, .bool false, .bool false] := rfl
theorem M9_none (n : Nat) (h : n ≤ 72) : M9 (List.replicate n false) = List.replicate 72 false := by
  unfold M9
  rw [List.length_replicate, List.replicate_append_replicate]
  congr 1; omega
theorem OS9.start (V : World) : OS9 V V.heap.size (V.heap.size + 1) (V.heap.size + 1 + 1) (List.replicate 9 false) (List.replicate 9 false) (List.replicate 72 false) (((V.alloc (.cells (mv9 (List.replicate 9 false)) 42)).alloc (.cells (mv9 (List.replicate 9 false)) 42)).alloc (.cells (mv9 (List.replicate 72 false)) 43)) := by
  have k0 := Bk.new V (mv9 (List.replicate 9 false)) 42
  have k1 := Bk.new (V.alloc (.cells (mv9 (List.replicate 9 false)) 42)) (mv9 (List.replicate 9 false)) 42
  have k2 := Bk.new ((V.alloc (.cells (mv9 (List.replicate 9 false)) 42)).alloc (.cells (mv9 (List.replicate 9 false)) 42)) (mv9 (List.replicate 72 false)) 43
  have e1 : (V.alloc (.cells (mv9 (List.replicate 9 false)) 42)).heap.size = V.heap.size + 1 := by simp
  have e2 : ((V.alloc (.cells (mv9 (List.replicate 9 false)) 42)).alloc (.cells (mv9 (List.replicate 9 false)) 42)).heap.size = V.heap.size + 1 + 1 := by simp
  rw [e1] at k1
  rw [e2] at k2
  have b1 := below1 (V.alloc (.cells (mv9 (List.replicate 9 false)) 42)) (.cells (mv9 (List.replicate 9 false)) 42)
  have b2 := below1 ((V.alloc (.cells (mv9 (List.replicate 9 false)) 42)).alloc (.cells (mv9 (List.replicate 9 false)) 42)) (.cells (mv9 (List.replicate 72 false)) 43)
  exact ⟨((below1 _ _).trans (b1.mono (by simp))).trans (b2.mono (by simp; omega)), by omega, by omega, by omega, by omega, by omega, by omega, (k0.below b1).below b2, k1.below b2, k2⟩
/-- What stands behind Made and Make, in the world V. -/
structure OV9 (V : World) (C : Cm) (cb pb B : Nat) (av jv : Value) (l : List (Js9 × Value × Value)) : Prop where
  m : Md9 V C
  c : Bk V cb C.cs 30
  p : Bk V pb #[av, jv] 35
  a : OwI V B av (ah9 C)
  j : PJ9 V B jv l
theorem jc9_at {l : List (Js9 × Value × Value)} {i : Nat} {y : Js9 × Value × Value} (h : l[i]? = some y) : (jc9 l)[i * 3]? = some (.int .i64 y.1.n) ∧ (jc9 l)[i * 3 + 1]? = some y.2.1 ∧ (jc9 l)[i * 3 + 2]? = some y.2.2 := by
  induction l generalizing i with
  | nil => simp at h
  | cons x l ih =>
    have e : jc9 (x :: l) = .int .i64 x.1.n :: x.2.1 :: x.2.2 :: jc9 l := rfl
    cases i with
    | zero =>
      simp only [List.getElem?_cons_zero, Option.some.injEq] at h
      subst h
      rw [e]; exact ⟨rfl, rfl, rfl⟩
    | succ i =>
      rw [List.getElem?_cons_succ] at h
      obtain ⟨h0, h1, h2⟩ := ih h
      rw [e, show (i + 1) * 3 = i * 3 + 3 by omega]
      exact ⟨h0, h1, h2⟩
/-- A clause written out. -/
structure Cw9 (C : Cm) (k m : Int) (s nm : ByteArray) (hv : Value) (b : Option Addr) (nb cb : Nat) (t : Option Addr) (nt ct : Nat) : Prop where
  v : C.v = .agg #[.int .i64 k, .int .i64 m, .string s, .string nm, hv, .slice b nb cb, .slice t nt ct]
  cs : C.cs = #[.int .i64 k, .int .i64 m, .string s, .string nm, hv, .slice b nb cb, .slice t nt ct]
  bv : C.bv = .slice b nb cb
  tv : C.tv = .slice t nt ct
  nb : C.body.length = nb
  nt : C.tests.length = nt
theorem made9_out (c : Cm) (w : World) (h : c.ok w) :
    Calls Tryz.prog 8 #[c.v] w fun e w' => ∃ (C : Cm) (k m : Int) (s nm : ByteArray) (ha : Option Addr) (hn hc : Nat) (b : Option Addr) (nb cb : Nat) (t : Option Addr) (nt ct : Nat), e = .returned (.agg #[.int .i64 k, .int .i64 m, .string s, .string nm, .slice ha hn hc, .slice b nb cb, .slice t nt ct]) ∧ Cw9 C k m s nm (.slice ha hn hc) b nb cb t nt ct ∧ Md9 w' C ∧ Below w.heap.size w w' :=
  (made9_any c w h).mono fun e w' h => by
    obtain ⟨d, rfl, hmd, hb⟩ := h
    obtain ⟨⟨ya, yn, yc, e1⟩, ⟨ya1, yc1, e2⟩, ⟨ya2, yc2, e3⟩, -, -⟩ := hmd.ok.shape
    obtain ⟨⟨⟨⟨yk, ym, ys⟩, ynm, yls⟩, yhx⟩, ybody, ybv, ytests, ytv⟩ := d
    simp only at e1 e2 e3
    subst e1 e2 e3
    exact ⟨_, yk, ym, ys, ynm, ya, yn, yc, ya1, _, yc1, ya2, _, yc2, rfl, ⟨rfl, rfl, rfl, rfl, rfl, rfl⟩, hmd, hb⟩
set_option maxRecDepth 40000 in
set_option maxHeartbeats 8000000 in
theorem planOrders9_any (raw : Cm) (lead : Int) (w : World) (h : raw.ok w) :
    Calls Tryz.prog 3 #[raw.v, .int .i64 lead] w fun e w' => e = .returned (.bool true) ∧ Below w.heap.size w w' := by
  have HMD : Hid (∀ X : World, Below w.heap.size w X → Calls Tryz.prog 8 #[raw.v] X fun e w' => ∃ (C : Cm) (k m : Int) (s nm : ByteArray) (ha : Option Addr) (hn hc : Nat) (b : Option Addr) (nb cb : Nat) (t : Option Addr) (nt ct : Nat), e = .returned (.agg #[.int .i64 k, .int .i64 m, .string s, .string nm, .slice ha hn hc, .slice b nb cb, .slice t nt ct]) ∧ Cw9 C k m s nm (.slice ha hn hc) b nb cb t nt ct ∧ Md9 w' C ∧ Below X.heap.size X w') := fun X hX => made9_out raw X (h.later hX)
  obtain ⟨⟨a, hn, cap, h1⟩, ⟨a1, cap1, h2⟩, ⟨a2, cap2, h3⟩, -, -⟩ := h.shape
  clear h
  obtain ⟨⟨⟨⟨k, m, s⟩, nm, ls⟩, hx⟩, body, bv, tests, tv⟩ := raw
  simp only at h1 h2 h3
  subst h1 h2 h3
  generalize body.length = rb at *
  generalize tests.length = rt at *
  have HMD1 : Hid (∀ X : World, Below w.heap.size w X → Calls Tryz.prog 8 #[.agg #[.int .i64 k, .int .i64 m, .string s, .string nm, .slice a hn cap, .slice a1 rb cap1, .slice a2 rt cap2]] X fun e w' => ∃ (C : Cm) (k m : Int) (s nm : ByteArray) (ha : Option Addr) (hn hc : Nat) (b : Option Addr) (nb cb : Nat) (t : Option Addr) (nt ct : Nat), e = .returned (.agg #[.int .i64 k, .int .i64 m, .string s, .string nm, .slice ha hn hc, .slice b nb cb, .slice t nt ct]) ∧ Cw9 C k m s nm (.slice ha hn hc) b nb cb t nt ct ∧ Md9 w' C ∧ Below X.heap.size X w') := HMD.out
  clear HMD
  have b0 := Bk.new w #[.int .i64 k, .int .i64 m, .string s, .string nm, .slice a hn cap, .slice a1 rb cap1, .slice a2 rt cap2] 30
  obtain ⟨Y0, hY0⟩ : ∃ Y0, w.alloc (.cells #[.int .i64 k, .int .i64 m, .string s, .string nm, .slice a hn cap, .slice a1 rb cap1, .slice a2 rt cap2] 30) = Y0 := ⟨_, rfl⟩
  have HB0 : Hid (Below w.heap.size w Y0) := by rw [← hY0]; exact below1 _ _
  rw [hY0] at b0
  obtain ⟨q, hq⟩ : ∃ q, w.heap.size = q := ⟨_, rfl⟩
  rw [hq] at b0
  have HB := hm7 b0
  have HY0 := hm7 hY0
  have HQ := hm7 hq
  clear hY0 hq b0
  go_enter Tryz.func3, Tryz.ntmps3
  go_upto_region 1 with fail
  rw [HY0.out, HQ.out]
  clear HY0
  have d0 := HB.out.cell (i := 0) rfl
  have d1 := HB.out.cell (i := 1) rfl
  have d2 := HB.out.cell (i := 2) rfl
  have d3 := HB.out.cell (i := 3) rfl
  have d4 := HB.out.cell (i := 4) rfl
  have d5 := HB.out.cell (i := 5) rfl
  have d6 := HB.out.cell (i := 6) rfl
  go_upto_region 2 with (go_at_call 8; refine (HMD1.out _ HB0.out).mono ?_; rintro e W1 ⟨C, yk, ym, ys, ynm, ya, yn, yc, ya1, nb, yc1, ya2, nt, yc2, rfl, hcw, hmd, hb⟩; have HCW := hm7 hcw; have HMD := hm7 hmd; have HW1 := hm7 (HB0.out.trans (hb.mono HB0.out.size)); clear hcw hmd hb d0 d1 d2 d3 d4 d5 d6 HMD1 HB HB0)
  have b0 := Bk.new W1 #[.int .i64 yk, .int .i64 ym, .string ys, .string ynm, .slice ya yn yc, .slice ya1 nb yc1, .slice ya2 nt yc2] 30
  obtain ⟨W2, hW2⟩ : ∃ W2, W1.alloc (.cells #[.int .i64 yk, .int .i64 ym, .string ys, .string ynm, .slice ya yn yc, .slice ya1 nb yc1, .slice ya2 nt yc2] 30) = W2 := ⟨_, rfl⟩
  have HD2 : Hid (Md9 W2 C) := by rw [← hW2]; exact HMD.out.later (below1 _ _)
  have HW2 : Hid (Below w.heap.size w W2) := by rw [← hW2]; exact HW1.out.trans ((below1 _ _).mono HW1.out.size)
  rw [hW2] at b0
  rw [hW2]
  clear hW2
  obtain ⟨cb, hcb⟩ : ∃ cb, W1.heap.size = cb := ⟨_, rfl⟩
  rw [hcb] at b0 ⊢
  clear hcb HMD HW1
  have HC2 := hm7 b0
  have HMK : Hid (Calls Tryz.prog 9 #[.agg #[.int .i64 yk, .int .i64 ym, .string ys, .string ynm, .slice ya yn yc, .slice ya1 nb yc1, .slice ya2 nt yc2], .int .i64 lead] W2 (MkQ9 C lead W2)) := by
    have := make9_any C lead W2 HD2.out.ok HD2.out.wf HD2.out.tp (by have := HD2.out.nv; omega)
    rw [HCW.out.v] at this
    exact this
  have d0 := HC2.out.cell (i := 0) rfl
  have d1 := HC2.out.cell (i := 1) rfl
  have d2 := HC2.out.cell (i := 2) rfl
  have d3 := HC2.out.cell (i := 3) rfl
  have d4 := HC2.out.cell (i := 4) rfl
  have d5 := HC2.out.cell (i := 5) rfl
  have d6 := HC2.out.cell (i := 6) rfl
  clear b0
  have hok : ∀ e W, MkQ9 C lead W2 e W → (∃ av jv l er, e = .returned (.tuple #[.agg #[av, jv], .int .i64 er]) ∧ (∃ a n c, av = .slice a n c) ∧ (∃ a c, jv = .slice a l.length c) ∧ Below W2.heap.size W2 W ∧ ((er = 91 ∧ (lead < -1 ∨ (nb : Int) ≤ lead) ∧ l = []) ∨ (er = 0 ∧ -1 ≤ lead ∧ lead < (nb : Int) ∧ OwI W W2.heap.size av (ah9 C) ∧ PJ9 W W2.heap.size jv l ∧ l.map Prod.fst = js9 C lead))) := fun e W h => by
    obtain ⟨hb, ⟨h, -⟩ | ⟨-, h, rfl⟩ | ⟨-, h1, h2, av, jv, l, rfl, ha, hj, hl⟩⟩ := h
    · exact absurd HD2.out.chk h
    · exact ⟨_, _, [], 91, rfl, ⟨_, _, _, rfl⟩, ⟨_, _, rfl⟩, hb, Or.inl ⟨rfl, by rw [← HCW.out.nb]; exact h, rfl⟩⟩
    · obtain ⟨aa, ac, rfl, -⟩ := row7_form ha
      obtain ⟨ja, jc, rfl, -⟩ := row7_form hj.o
      exact ⟨_, _, l, 0, rfl, ⟨_, _, _, rfl⟩, ⟨_, _, rfl⟩, hb, Or.inr ⟨rfl, h1, by rw [← HCW.out.nb]; exact h2, ha, hj, hl⟩⟩
  have HOK := hm7 hok
  clear hok
  go_upto_region 3 with (go_at_call 9; refine HMK.out.mono ?_; intro e W3 hq3; obtain ⟨av, jv, l, er, rfl, ⟨aa, an, ac, rfl⟩, ⟨ja, jc, rfl⟩, hb3, hr⟩ := HOK.out _ _ hq3; have HB3 := hm7 hb3; have HR3 := hm7 hr; clear hb3 hr hq3 d0 d1 d2 d3 d4 d5 d6 HMK HOK)
  obtain ⟨jn, hjn⟩ : ∃ jn, l.length = jn := ⟨_, rfl⟩
  rw [hjn]
  rw [hjn] at HR3
  have HJN := hm7 hjn
  clear hjn
  obtain ⟨V, hV⟩ : ∃ V, W3.alloc (.cells #[.slice aa an ac, .slice ja jn jc] 35) = V := ⟨_, rfl⟩
  have HBV : Hid (Below W2.heap.size W2 V) := by rw [← hV]; exact HB3.out.trans ((below1 _ _).mono HB3.out.size)
  have HPB : Hid (Bk V W3.heap.size #[.slice aa an ac, .slice ja jn jc] 35) := by rw [← hV]; exact Bk.new _ _ _
  have HDV := hm7 (HD2.out.later HBV.out)
  have HCB := hm7 (HC2.out.below HBV.out)
  have HWV := hm7 (HW2.out.trans (HBV.out.mono HW2.out.size))
  have HRV : Hid ((er = 91 ∧ (lead < -1 ∨ (nb : Int) ≤ lead) ∧ l = []) ∨ (er = 0 ∧ -1 ≤ lead ∧ lead < (nb : Int) ∧ OwI V W2.heap.size (.slice aa an ac) (ah9 C) ∧ PJ9 V W2.heap.size (.slice ja jn jc) l ∧ l.map Prod.fst = js9 C lead)) := HR3.out.imp id fun ⟨r1, r2, r3, r4, r5, r6⟩ => by
    rw [← hV]
    exact ⟨r1, r2, r3, row7_below r4 (below1 _ _), r5.fr (Fr.of (P := fun _ => False) (below1 _ _)) fun _ e => e.elim, r6⟩
  obtain ⟨pb, hpb⟩ : ∃ pb, W3.heap.size = pb := ⟨_, rfl⟩
  rw [hpb] at HPB
  rw [hV, hpb]
  clear hV hpb HB3 HR3 HD2 HC2 HW2
  have d1 := HCB.out.cell (i := 5) rfl
  have d2 := HCB.out.cell (i := 6) rfl
  have p0 := HPB.out.cell (i := 0) rfl
  have p1 := HPB.out.cell (i := 1) rfl
  have HF9 := hm7 first9_any
  rcases HRV.out with ⟨rfl, hbad, rfl⟩ | ⟨rfl, hl1, hl2, hoa, hoj, hjs⟩
  · have hjn0 : jn = 0 := HJN.out.symm
    subst hjn0
    by_cases hl1 : lead < -1
    · go_wp2_with (go_at_call 10; refine (HF9.out _).mono ?_; rintro e W5 ⟨rfl, hb5⟩; have HB5 := hm7 hb5; clear hb5)
      go_ret
      exact ⟨rfl, HWV.out.trans (HB5.out.mono HWV.out.size)⟩
    · have hl2 : (nb : Int) ≤ lead := by omega
      clear hbad
      go_wp2_with (go_at_call 10; refine (HF9.out _).mono ?_; rintro e W5 ⟨rfl, hb5⟩; have HB5 := hm7 hb5; clear hb5)
      go_ret
      exact ⟨rfl, HWV.out.trans (HB5.out.mono HWV.out.size)⟩
  · have HOV : Hid (OV9 V C cb pb W2.heap.size (.slice aa an ac) (.slice ja jn jc) l) := ⟨HDV.out, by rw [HCW.out.cs]; exact HCB.out, HPB.out, hoa, hoj⟩
    have HPS : Hid (Ps9 C (List.replicate (dis C.vars).length false) (up9 C.body.length)) := Ps9.start
    have HPL : Hid (Pl9 C (List.replicate (dis C.vars).length false) (up9 C.body.length) (js9 C lead)) := pl9_js hl1 (by rw [HCW.out.nb]; exact hl2)
    have HJS := hm7 hjs
    have hjb : jn = nb := by
      have h1 := pl9_len _ _ _ (up9_nodup _) HPL.out
      rw [up9_len, HCW.out.nb, ← hjs, List.length_map, HJN.out] at h1
      exact h1
    have HLD : Hid (0 ≤ lead → ∃ jb, ja = some ⟨jb, 0, none⟩ ∧ jb < V.heap.size ∧ V.cell? ⟨jb, 0, none⟩ = some (.int .i64 lead)) := fun h0 => by
      obtain ⟨x, xs, e, hx⟩ := js9_lead (c := C) h0
      rw [← hjs] at e
      cases l with
      | nil => cases e
      | cons y ys =>
        have e2 : y.1 = x := by simp only [List.map_cons, List.cons.injEq] at e; exact e.1
        have ho := hoj.o
        rw [HJN.out] at ho
        obtain ⟨g, hg, -, hlt, hc, -⟩ := row7_at (i := 0) (u := .int .i64 lead) ho (by simp [jc9, e2, hx])
        exact ⟨g, hg, hlt, hc⟩
    have HNB := hm7 (show nb ≤ 8 by rw [← HCW.out.nb]; exact (val_args HDV.out.v).2.2.1)
    have HNT := hm7 (show nt ≤ 8 by rw [← HCW.out.nt]; exact (val_args HDV.out.v).2.2.2)
    have hl0 : ¬ lead < -1 := by omega
    have hl3 : ¬ (nb : Int) ≤ lead := by omega
    clear hoa hoj hjs HRV
    go_upto_region 5 with fail
    subst hjb
    go_cut [70] from 47 to 70 (fun v wx => v = .bool false ∧ wx = V)
    case first =>
      by_cases h0 : 0 ≤ lead
      · obtain ⟨jb, rfl, hjl, c0⟩ := HLD.out h0
        go_wp2_with fail
        go_meet
        case rel => exact ⟨rfl, rfl⟩
      · go_wp2_with fail
        go_meet
        case rel => exact ⟨rfl, rfl⟩
    case rest =>
      obtain ⟨rfl, rfl⟩ := hcut
      obtain ⟨V, rfl⟩ : ∃ V, V = wc := ⟨_, rfl⟩
      go_upto_region 10 with fail
      have hst := OS9.start V
      have e72 : mv9 (List.replicate 72 false) = Tryz.zeroCells43 := by kernel_rfl
      rw [mv9_nine, e72] at hst
      clear e72
      revert hst
      generalize ((V.alloc (.cells #[.bool false, .bool false, .bool false, .bool false, .bool false, .bool false, .bool false, .bool false, .bool false] 42)).alloc (.cells #[.bool false, .bool false, .bool false, .bool false, .bool false, .bool false, .bool false, .bool false, .bool false] 42)).alloc (.cells Tryz.zeroCells43 43) = Y1
      generalize V.heap.size + 1 + 1 = me
      generalize V.heap.size + 1 = ak
      generalize V.heap.size = jo
      intro hst
      have HST := hm7 hst
      clear hst d1 d2 p0 p1
      have hank : an = (ah9 C).length := by
        obtain ⟨_, _, e, -⟩ := row7_form HOV.out.a
        simp only [Value.slice.injEq] at e; exact e.2.1
      have han8 : an ≤ 8 := by rw [hank]; exact Nat.le_trans (List.length_filter_le _ _) (by rw [up9_len, HCW.out.nt]; exact HNT.out)
      have HAN := hm7 hank
      clear hank
      have HP : Hid (∀ Y : World, Below V.heap.size V Y → Y.cell? ⟨pb, 0, none⟩ = some (.slice aa an ac) ∧ Y.cell? ⟨pb, 1, none⟩ = some (.slice ja jn jc)) := fun Y h => ⟨(HPB.out.below h).cell (i := 0) rfl, (HPB.out.below h).cell (i := 1) rfl⟩
      have HC : Hid (∀ Y : World, Below V.heap.size V Y → Y.cell? ⟨cb, 5, none⟩ = some (.slice ya1 jn yc1) ∧ Y.cell? ⟨cb, 6, none⟩ = some (.slice ya2 nt yc2)) := fun Y h => ⟨(HCB.out.below h).cell (i := 5) rfl, (HCB.out.below h).cell (i := 6) rfl⟩
      have HTT : Hid (Es V (.slice ya2 nt yc2) C.tests) := by have := HDV.out.ok.t; rw [HCW.out.tv] at this; exact this
      have HBB : Hid (As V (.slice ya1 jn yc1) C.body) := by have := HDV.out.ok.b; rw [HCW.out.bv] at this; exact this
      clear HPB HCB
      go_wp2_with fail
      go_loopg [11, 12] an (fun gg i _ wr => ∃ (j : Nat) (As : List Bool), j + gg = an ∧ i = .int .i64 j ∧ OS9 V jo ak me (List.replicate 9 false) As (List.replicate 72 false) wr ∧ Ak9 nt (fun _ => false) As ((ah9 C).take j))
      case atStart => exact ⟨0, _, by omega, rfl, HST.out, Ak9.start HNT.out⟩
      case round =>
        obtain ⟨j, As, hj, rfl, hos, hak⟩ := hrel
        have HOS := hm7 hos
        have HAK := hm7 hak
        clear hos hak HST
        obtain ⟨p0, p1⟩ := HP.out _ HOS.out.be
        obtain ⟨d1, d2⟩ := HC.out _ HOS.out.be
        cases gk with
        | succ gg =>
          have hjl : j < (ah9 C).length := by have := HAN.out; omega
          obtain ⟨mm, hmm⟩ : ∃ mm, (ah9 C)[j]? = some mm := ⟨_, List.getElem?_eq_getElem hjl⟩
          obtain ⟨n, rfl, hn, htk⟩ := ah9_in (List.mem_of_getElem? hmm)
          obtain ⟨t, ht⟩ : ∃ t, C.tests[n]? = some t := ⟨_, List.getElem?_eq_getElem hn⟩
          obtain ⟨t1, t2⟩ := tk9_none HDV.out.v ht htk
          rw [HCW.out.nt] at hn
          have hno := HAK.out.no hmm hn (ah9_nodup C) rfl
          have HAS := hm7 (HAK.out.set n hn)
          have e1 : (ah9 C).take (j + 1) = (ah9 C).take j ++ [(n : Int)] := by rw [List.take_add_one, hmm]; rfl
          rw [← e1] at HAS
          have hoa : V.ownsRow W2.heap.size 3 1 (.slice aa an ac) an (ibs7 (ah9 C)) := by have := HOV.out.a; unfold OwI at this; rw [← HAN.out] at this; exact this
          obtain ⟨ag, rfl, -, hagl, ca, -⟩ := row7_at (i := j) (u := .int .i64 (n : Int)) hoa (by unfold ibs7; rw [List.getElem?_map, hmm]; rfl)
          have ca := cell_stepB HOS.out.be hagl ca
          obtain ⟨tb, to', rfl, htl, -, ⟨ct1, -, -⟩, ct4, -, -⟩ := HTT.out.get9 ht
          have ct1 := cell_stepB HOS.out.be htl ct1
          have ct4 := cell_stepB HOS.out.be htl ct4
          have cas := HOS.out.a.cell (i := n) (v := .bool false) (mv9_at hno)
          have fas := HOS.out.a.froz n
          have hal := HOS.out.a.lt
          have hn9 : n < 9 := by have := HNT.out; omega
          have hlt : (j : Int) < (an : Int) := by omega
          have hi0 : ¬ (nt : Int) ≤ (n : Int) := by omega
          have HW := hm7 (HOS.out.ask n)
          clear hmm ht htk hno e1 hoa
          obtain ⟨lk, ln', ls'⟩ := t.l
          go_wp2
          go_roundg gg
          case measure => omega
          case rel => exact ⟨j + 1, _, by omega, by go_num, HW.out, HAS.out⟩
        | zero =>
          have hje : j = an := by omega
          subst hje
          rw [show (ah9 C).take j = ah9 C from List.take_of_length_le (by have := HAN.out; omega)] at HAK
          have HAK0 : Hid (Ak9 nt (fun n : Nat => tk9 C (List.replicate (dis C.vars).length false) n) As []) := HAK.out.turn (by rw [← HCW.out.nt]; exact ah9_turn C)
          rw [← M9_none (dis C.vars).length HDV.out.nv] at HOS
          have hlt : ¬ (j : Int) < (j : Int) := by omega
          obtain ⟨W4, rfl⟩ : ∃ W4, W4 = wr := ⟨_, rfl⟩
          have HJO : Hid (Jo9 jn (up9 C.body.length) (List.replicate 9 false)) := by rw [HCW.out.nb]; exact Jo9.start HNB.out
          have hjl : jn ≤ 8 := HNB.out
          clear HAK
          go_wp2_with fail
          clear p0 p1 d1 d2
          go_loopg [13, 14, 15, 16, 17] jn (fun gg i _ _ _ _ wr => ∃ (ji : Nat) (met : List Bool) (A : List Int) (Js As : List Bool), ji + gg = jn ∧ i = .int .i64 ji ∧ Ps9 C met A ∧ Pl9 C met A ((js9 C lead).drop ji) ∧ OS9 V jo ak me Js As (M9 met) wr ∧ Ak9 nt (fun n : Nat => tk9 C met n) As [] ∧ Jo9 jn A Js)
          case atStart => exact ⟨0, _, _, _, _, by omega, rfl, HPS.out, HPL.out, HOS.out, HAK0.out, HJO.out⟩
          case round =>
            obtain ⟨ji, met, A, Js, Ar, hji, rfl, hps, hpl, hos, hak, hjo⟩ := hrel
            have HS := hm7 hps
            have HL := hm7 hpl
            have HO := hm7 hos
            have HA := hm7 hak
            have HJ := hm7 hjo
            clear hps hpl hos hak hjo HOS HAK0 HJO HPS HPL
            obtain ⟨W5, rfl⟩ : ∃ W5, W5 = wr := ⟨_, rfl⟩
            obtain ⟨p0, p1⟩ := HP.out _ HO.out.be
            cases gk with
            | succ gg =>
              have hjl2 : ji < l.length := by have := HJN.out; omega
              obtain ⟨y, hy⟩ : ∃ y, l[ji]? = some y := ⟨_, List.getElem?_eq_getElem hjl2⟩
              have hdr : (js9 C lead).drop ji = y.1 :: (js9 C lead).drop (ji + 1) := by
                rw [← HJS.out]
                have h2 : ji < (l.map Prod.fst).length := by simpa using hjl2
                rw [List.drop_eq_getElem_cons h2]
                congr 1
                rw [List.getElem_map]
                rw [List.getElem?_eq_getElem hjl2] at hy
                rw [Option.some.inj hy]
              have hl2' := HL.out
              rw [hdr] at hl2'
              obtain ⟨n, hnA, hy1, hpn⟩ := hl2'
              have HPN := hm7 hpn
              have HSN := hm7 (HS.out.next HDV.out.chk hnA)
              obtain ⟨n', hnn, hnlt⟩ := HS.out.lo _ hnA
              have hnn : n = n' := by omega
              subst hnn
              obtain ⟨x, hx⟩ : ∃ x, C.body[n]? = some x := ⟨_, List.getElem?_eq_getElem hnlt⟩
              rw [HCW.out.nb] at hnlt
              have hpls : pls9 C n = x.1.pl := by unfold pls9; rw [hx]
              have hvn := body_vn9 HDV.out.chk hx
              rw [← HS.out.ml] at hvn
              have hk39 : ∀ t ∈ x.1.pl, K39 t := val_pl HDV.out.v x.1 (List.mem_cons_of_mem _ (List.mem_map.2 ⟨x, List.mem_of_getElem? hx, rfl⟩))
              have hm72 : met.length ≤ 72 := by rw [HS.out.ml]; exact HDV.out.nv
              obtain ⟨hxp, hxl⟩ := HDV.out.tp x (List.mem_of_getElem? hx)
              have hoj : V.ownsRow W2.heap.size 41 3 (.slice ja jn jc) jn (jc9 l) := by have := HOV.out.j.o; rw [HJN.out] at this; exact this
              have hkk := HOV.out.j.k y (List.mem_of_getElem? hy)
              have hkt := HOV.out.j.t y (List.mem_of_getElem? hy)
              obtain ⟨c0, c1, c2⟩ := jc9_at hy
              obtain ⟨jb, rfl, -, hjbl, cj0, -⟩ := row7_at (i := ji * 3) hoj c0
              obtain ⟨jb1, hjb1, -, -, cj1, -⟩ := row7_at (i := ji * 3 + 1) hoj c1
              obtain ⟨jb2, hjb2, -, -, cj2, -⟩ := row7_at (i := ji * 3 + 2) hoj c2
              simp only [Option.some.injEq, Addr.mk.injEq] at hjb1 hjb2
              rw [← hjb1.1] at cj1
              rw [← hjb2.1] at cj2
              have hyn : y.1.n = (n : Int) := by rw [hy1]; rfl
              rw [hyn] at cj0
              have hyk : y.1.k = cl9 (M9 met) x.1.pl x.1.pl.length := by rw [hy1, cl9_eq hm72 _ hvn hk39 _ (Nat.le_refl _)]; unfold jr9; rw [hpls]
              rw [hyk] at hkk
              have hyt : y.1.t = (jr9 C met (T9 C met) n).t := by rw [hy1]
              rw [hyt] at hkt
              obtain ⟨⟨jyn, jyk, jyt⟩, kv, tv'⟩ := y
              simp only at cj0 cj1 cj2 hkk hkt
              have HKK := hm7 hkk
              have HKT := hm7 hkt
              obtain ⟨ka, kc, hkv, -⟩ := row7_form hkk
              obtain ⟨kn, hkn⟩ : ∃ kn, (cl9 (M9 met) x.1.pl x.1.pl.length).length = kn := ⟨_, rfl⟩
              rw [hkn] at hkv
              subst hkv
              obtain ⟨ta, tc, htv, -⟩ := row7_form hkt
              obtain ⟨tn, htn⟩ : ∃ tn, (jr9 C met (T9 C met) n).t.length = tn := ⟨_, rfl⟩
              rw [htn] at htv
              subst htv
              have HTN := hm7 htn
              have cj0 := cell_stepB HO.out.be hjbl cj0
              have cj1 := cell_stepB HO.out.be hjbl cj1
              have cj2 := cell_stepB HO.out.be hjbl cj2
              have hjbw : jb < W5.heap.size := Nat.lt_of_lt_of_le hjbl HO.out.be.size
              have hlt2 : (ji : Int) < (jn : Int) := by omega
              have HXX := hm7 (And.intro hx (And.intro hxp (And.intro hxl (And.intro hvn (And.intro hk39 hm72)))))
              have HN := hm7 hnlt
              have HNA := hm7 hnA
              have HDR := hm7 hdr
              have HPP := hm7 hpls
              clear hdr hnA hy1 hpn hx hpls hvn hk39 hm72 hxp hxl hoj hkk hkt c0 c1 c2 hjb1 hjb2 hyn hyk hyt hkn htn hy HL
              go_upto_region 21 with fail
              have b6 := Bk.new W5 #[.int .i64 (n : Int), .slice ka kn kc, .slice ta tn tc] 41
              have hb6 := below1 W5 (.cells #[.int .i64 (n : Int), .slice ka kn kc, .slice ta tn tc] 41)
              have HO6 := hm7 (HO.out.below hb6)
              revert b6 hb6 HO6
              generalize W5.alloc (.cells #[.int .i64 (n : Int), .slice ka kn kc, .slice ta tn tc] 41) = W6
              intro b6 hb6 HO6
              have hxj : jo < W5.heap.size := HO.out.j.lt
              have hxm : me < W5.heap.size := HO.out.m.lt
              have hxa : ak < W5.heap.size := HO.out.a.lt
              obtain ⟨xb, hxb⟩ : ∃ xb, W5.heap.size = xb := ⟨_, rfl⟩
              rw [hxb] at b6 hxj hxm hxa ⊢
              have HX6 := hm7 b6
              have HNE := hm7 (And.intro (show xb ≠ jo by omega) (And.intro (show xb ≠ me by omega) (show xb ≠ ak by omega)))
              clear b6 hb6 hxb hxj hxm hxa cj0 cj1 cj2 hjbw hjbl p0 p1
              obtain ⟨lb, lo, xa, xc, hla, hxs, hxc⟩ := HBB.out.get9 HXX.out.1
              subst hla
              have HXC := hm7 (fun Y hY => hxc Y (HO6.out.be.trans (Below.mono hY HO6.out.be.size)))
              have HCC := hm7 (fun Y hY => HC.out Y (HO6.out.be.trans (Below.mono hY HO6.out.be.size)))
              have HXJ : Hid (∀ Y : World, Below W6.heap.size W6 Y → Y.cell? ⟨xb, 0, none⟩ = some (.int .i64 (n : Int)) ∧ Y.cell? ⟨xb, 1, none⟩ = some (.slice ka kn kc)) := fun Y hY => ⟨(HX6.out.below hY).cell (i := 0) rfl, (HX6.out.below hY).cell (i := 1) rfl⟩
              have HJJ : Hid (∀ Y : World, Below W6.heap.size W6 Y → Y.cell? ⟨jo, n, none⟩ = some (.bool false)) := fun Y hY => (HO6.out.below hY).j.cell (i := n) (mv9_at (by
                rw [HJ.out.at_ n HN.out]
                rw [decide_eq_true HNA.out]; rfl))
              have HRA : Hid (∀ Y : World, Below W6.heap.size W6 Y → Y.rangeAt me 0 (mv9 (M9 met)).toList) := fun Y hY i u hu => by
                have := (HO6.out.below hY).m.cell (i := i) (v := u) (by simpa using hu)
                rw [Nat.zero_add]; exact this
              have hM72 : (M9 met).length = 72 := M9_len HXX.out.2.2.2.2.2
              have HU9 : Hid (Tryz.prog.underlying 43 = some (.array 72 4)) := by show _ = _; kernel_rfl
              have HI9 : Hid ((Tryz.prog.info? 43).map (·.size) = some (mv9 (M9 met)).toList.length) := by
                show _ = _
                rw [Array.length_toList, mv9_size, hM72]; kernel_rfl
              have HCO : Hid (∀ Y : World, Below W6.heap.size W6 Y → Calls Tryz.prog 11 #[x.1.v x.2, .slice ka kn kc, .agg (mv9 (M9 met))] Y fun e w' => e = .returned (.bool true) ∧ Below Y.heap.size Y w') := fun Y hY => columns9_law x.1 x.2 _ (M9 met) hM72 Y (HXX.out.2.1.later (HO6.out.be.trans (hY.mono HO6.out.be.size))) HXX.out.2.2.1 W2.heap.size (row7_below HKK.out (HO6.out.be.trans (hY.mono HO6.out.be.size)))
              have HME : Hid (∀ Y : World, Below V.heap.size V Y → Bk Y me (mv9 (M9 met)) 43 → Calls Tryz.prog 12 #[x.1.v x.2, .pointer (some ⟨me, 0, none⟩)] Y fun e w' => e = .returned (.tuple #[]) ∧ Bk w' me (mv9 (ml9 (M9 met) x.1.pl)) 43 ∧ Fr (fun b => b = me) Y w') := fun Y hY hb => meet9_any x.1 x.2 me (M9 met) hM72 Y (HXX.out.2.1.later hY) HXX.out.2.2.1 hb
              have HML : Hid (ml9 (M9 met) x.1.pl = M9 (jm9 C met n)) := by
                show _ = _
                rw [ml9_all HXX.out.2.2.2.2.2 _ HXX.out.2.2.2.1 HXX.out.2.2.2.2.1]; unfold jm9; rw [HPP.out]
              rw [HML.out] at HME
              obtain ⟨MV, hMV⟩ : ∃ MV, mv9 (M9 met) = MV := ⟨_, rfl⟩
              rw [hMV] at HCO HRA HI9
              obtain ⟨⟨⟨xk, xm, xs⟩, xnm, xls⟩, xv⟩ := x
              simp only at hxs HXC HCO HME
              subst hxs
              have hn0 : ¬ (n : Int) < 0 := by omega
              have hn1 : ¬ (jn : Int) ≤ (n : Int) := by have := HN.out; omega
              have hn2 : (n : Int) < (jn : Int) := by have := HN.out; omega
              have hn3 : n < 9 := by have := HN.out; omega
              have hn4 : (n : Int) < 9 := by omega
              have hn5 : ¬ (9 : Int) ≤ (n : Int) := by omega
              generalize xls.length = xn at *
              have HXV := hm7 hxc
              clear hMV hxc
              refine wp_region_held_drew (S := fun w' => Below W6.heap.size W6 w') (by kernel_rfl) (by exact (Below.refl _ _).drew) (fun hH => ?_)
              revert hH
              generalize W6.drew = V7
              intro hH
              refine wpAnyH_take (i := 0) (oi := ⟨_, _, _, _, _, _⟩) (v := .pointer (some ⟨xb, 0, none⟩)) rfl (by kernel_rfl) (by kernel_rfl) (by kernel_rfl) (fun _ _ _ h => h) (Or.inl ⟨by rfl, fun w' h => by clear h; go_simp⟩) hH ?_
              simp only [Act.put, List.setIfInBounds_toArray, List.set_cons_zero, List.set_cons_succ]
              refine wpAnyH_take (i := 1) (oi := ⟨_, _, _, _, _, _⟩) (v := .int .i64 (n : Int)) rfl (by kernel_rfl) (by kernel_rfl) (by kernel_rfl) (fun _ _ _ h => h) (Or.inl ⟨by rfl, fun w' h => by obtain ⟨o0, o1⟩ := HXJ.out w' h; clear h; go_simp⟩) hH ?_
              simp only [Act.put, List.setIfInBounds_toArray, List.set_cons_zero, List.set_cons_succ]
              refine wpAnyH_take (i := 2) (oi := ⟨_, _, _, _, _, _⟩) (v := .bool false) rfl (by kernel_rfl) (by kernel_rfl) (by kernel_rfl) (fun _ _ _ h => h) (Or.inl ⟨by rfl, fun w' h => by clear h; go_simp⟩) hH ?_
              simp only [Act.put, List.setIfInBounds_toArray, List.set_cons_zero, List.set_cons_succ]
              refine wpAnyH_take (i := 3) (oi := ⟨_, _, _, _, _, _⟩) (v := .bool false) rfl (by kernel_rfl) (by kernel_rfl) (by kernel_rfl) (fun _ _ _ h => h) (Or.inl ⟨by rfl, fun w' h => by clear h; go_simp⟩) hH ?_
              simp only [Act.put, List.setIfInBounds_toArray, List.set_cons_zero, List.set_cons_succ]
              refine wpAnyH_take (i := 4) (oi := ⟨_, _, _, _, _, _⟩) (v := .pointer (some ⟨xb, 0, none⟩)) rfl (by kernel_rfl) (by kernel_rfl) (by kernel_rfl) (fun _ _ _ h => h) (Or.inl ⟨by rfl, fun w' h => by clear h; go_simp⟩) hH ?_
              simp only [Act.put, List.setIfInBounds_toArray, List.set_cons_zero, List.set_cons_succ]
              refine wpAnyH_take (i := 5) (oi := ⟨_, _, _, _, _, _⟩) (v := .int .i64 (n : Int)) rfl (by kernel_rfl) (by kernel_rfl) (by kernel_rfl) (fun _ _ _ h => h) (Or.inl ⟨by rfl, fun w' h => by obtain ⟨o0, o1⟩ := HXJ.out w' h; clear h; go_simp⟩) hH ?_
              simp only [Act.put, List.setIfInBounds_toArray, List.set_cons_zero, List.set_cons_succ]
              refine wpAnyH_take (i := 6) (oi := ⟨_, _, _, _, _, _⟩) (v := .pointer (some ⟨cb, 5, none⟩)) rfl (by kernel_rfl) (by kernel_rfl) (by kernel_rfl) (fun _ _ _ h => h) (Or.inl ⟨by rfl, fun w' h => by clear h; go_simp⟩) hH ?_
              simp only [Act.put, List.setIfInBounds_toArray, List.set_cons_zero, List.set_cons_succ]
              refine wpAnyH_take (i := 7) (oi := ⟨_, _, _, _, _, _⟩) (v := .slice (some ⟨lb, lo, none⟩) jn yc1) rfl (by kernel_rfl) (by kernel_rfl) (by kernel_rfl) (fun _ _ _ h => h) (Or.inl ⟨by rfl, fun w' h => by obtain ⟨o0, o1⟩ := HCC.out w' h; clear h; go_simp⟩) hH ?_
              simp only [Act.put, List.setIfInBounds_toArray, List.set_cons_zero, List.set_cons_succ]
              refine wpAnyH_take (i := 8) (oi := ⟨_, _, _, _, _, _⟩) (v := .int .i64 (jn : Int)) rfl (by kernel_rfl) (by kernel_rfl) (by kernel_rfl) (fun _ _ _ h => h) (Or.inl ⟨by rfl, fun w' h => by clear h; go_simp⟩) hH ?_
              simp only [Act.put, List.setIfInBounds_toArray, List.set_cons_zero, List.set_cons_succ]
              refine wpAnyH_take (i := 9) (oi := ⟨_, _, _, _, _, _⟩) (v := .bool false) rfl (by kernel_rfl) (by kernel_rfl) (by kernel_rfl) (fun _ _ _ h => h) (Or.inl ⟨by rfl, fun w' h => by clear h; go_simp⟩) hH ?_
              simp only [Act.put, List.setIfInBounds_toArray, List.set_cons_zero, List.set_cons_succ]
              refine wpAnyH_take (i := 10) (oi := ⟨_, _, _, _, _, _⟩) (v := .bool false) rfl (by kernel_rfl) (by kernel_rfl) (by kernel_rfl) (fun _ _ _ h => h) (Or.inl ⟨by rfl, fun w' h => by clear h; go_simp⟩) hH ?_
              simp only [Act.put, List.setIfInBounds_toArray, List.set_cons_zero, List.set_cons_succ]
              refine wpAnyH_take (i := 11) (oi := ⟨_, _, _, _, _, _⟩) (v := .bool false) rfl (by kernel_rfl) (by kernel_rfl) (by kernel_rfl) (fun _ _ _ h => h) (Or.inl ⟨by rfl, fun w' h => by clear h; go_simp⟩) hH ?_
              simp only [Act.put, List.setIfInBounds_toArray, List.set_cons_zero, List.set_cons_succ]
              refine wpAnyH_take (i := 12) (oi := ⟨_, _, _, _, _, _⟩) (v := .pointer (some ⟨xb, 0, none⟩)) rfl (by kernel_rfl) (by kernel_rfl) (by kernel_rfl) (fun _ _ _ h => h) (Or.inl ⟨by rfl, fun w' h => by clear h; go_simp⟩) hH ?_
              simp only [Act.put, List.setIfInBounds_toArray, List.set_cons_zero, List.set_cons_succ]
              refine wpAnyH_take (i := 13) (oi := ⟨_, _, _, _, _, _⟩) (v := .int .i64 (n : Int)) rfl (by kernel_rfl) (by kernel_rfl) (by kernel_rfl) (fun _ _ _ h => h) (Or.inl ⟨by rfl, fun w' h => by obtain ⟨o0, o1⟩ := HXJ.out w' h; clear h; go_simp⟩) hH ?_
              simp only [Act.put, List.setIfInBounds_toArray, List.set_cons_zero, List.set_cons_succ]
              refine wpAnyH_take (i := 14) (oi := ⟨_, _, _, _, _, _⟩) (v := .pointer (some ⟨jo, n, none⟩)) rfl (by kernel_rfl) (by kernel_rfl) (by kernel_rfl) (fun _ _ _ h => h) (Or.inl ⟨by rfl, fun w' h => by clear h; go_simp⟩) hH ?_
              simp only [Act.put, List.setIfInBounds_toArray, List.set_cons_zero, List.set_cons_succ]
              refine wpAnyH_take (i := 15) (oi := ⟨_, _, _, _, _, _⟩) (v := .bool false) rfl (by kernel_rfl) (by kernel_rfl) (by kernel_rfl) (fun _ _ _ h => h) (Or.inl ⟨by rfl, fun w' h => by have o0 := HJJ.out w' h; clear h; go_simp⟩) hH ?_
              simp only [Act.put, List.setIfInBounds_toArray, List.set_cons_zero, List.set_cons_succ]
              refine wpAnyH_take (i := 16) (oi := ⟨_, _, _, _, _, _⟩) (v := .bool false) rfl (by kernel_rfl) (by kernel_rfl) (by kernel_rfl) (fun _ _ _ h => h) (Or.inl ⟨by rfl, fun w' h => by clear h; go_simp⟩) hH ?_
              simp only [Act.put, List.setIfInBounds_toArray, List.set_cons_zero, List.set_cons_succ]
              refine wpAnyH_take (i := 17) (oi := ⟨_, _, _, _, _, _⟩) (v := .bool false) rfl (by kernel_rfl) (by kernel_rfl) (by kernel_rfl) (fun _ _ _ h => h) (Or.inl ⟨by rfl, fun w' h => by clear h; go_simp⟩) hH ?_
              simp only [Act.put, List.setIfInBounds_toArray, List.set_cons_zero, List.set_cons_succ]
              refine wpAnyH_take (i := 18) (oi := ⟨_, _, _, _, _, _⟩) (v := .pointer (some ⟨cb, 5, none⟩)) rfl (by kernel_rfl) (by kernel_rfl) (by kernel_rfl) (fun _ _ _ h => h) (Or.inl ⟨by rfl, fun w' h => by clear h; go_simp⟩) hH ?_
              simp only [Act.put, List.setIfInBounds_toArray, List.set_cons_zero, List.set_cons_succ]
              refine wpAnyH_take (i := 19) (oi := ⟨_, _, _, _, _, _⟩) (v := .slice (some ⟨lb, lo, none⟩) jn yc1) rfl (by kernel_rfl) (by kernel_rfl) (by kernel_rfl) (fun _ _ _ h => h) (Or.inl ⟨by rfl, fun w' h => by obtain ⟨o0, o1⟩ := HCC.out w' h; clear h; go_simp⟩) hH ?_
              simp only [Act.put, List.setIfInBounds_toArray, List.set_cons_zero, List.set_cons_succ]
              refine wpAnyH_take (i := 20) (oi := ⟨_, _, _, _, _, _⟩) (v := .pointer (some ⟨xb, 0, none⟩)) rfl (by kernel_rfl) (by kernel_rfl) (by kernel_rfl) (fun _ _ _ h => h) (Or.inl ⟨by rfl, fun w' h => by clear h; go_simp⟩) hH ?_
              simp only [Act.put, List.setIfInBounds_toArray, List.set_cons_zero, List.set_cons_succ]
              refine wpAnyH_take (i := 21) (oi := ⟨_, _, _, _, _, _⟩) (v := .int .i64 (n : Int)) rfl (by kernel_rfl) (by kernel_rfl) (by kernel_rfl) (fun _ _ _ h => h) (Or.inl ⟨by rfl, fun w' h => by obtain ⟨o0, o1⟩ := HXJ.out w' h; clear h; go_simp⟩) hH ?_
              simp only [Act.put, List.setIfInBounds_toArray, List.set_cons_zero, List.set_cons_succ]
              refine wpAnyH_take (i := 22) (oi := ⟨_, _, _, _, _, _⟩) (v := .pointer (some ⟨lb, lo + n * 5, none⟩)) rfl (by kernel_rfl) (by kernel_rfl) (by kernel_rfl) (fun _ _ _ h => h) (Or.inl ⟨by rfl, fun w' h => by clear h; go_simp⟩) hH ?_
              simp only [Act.put, List.setIfInBounds_toArray, List.set_cons_zero, List.set_cons_succ]
              refine wpAnyH_take (i := 23) (oi := ⟨_, _, _, _, _, _⟩) (v := .agg #[.int .i64 xk, .int .i64 xm, .string xs, .string xnm, .slice xa xn xc]) rfl (by kernel_rfl) (by kernel_rfl) (by kernel_rfl) (fun _ _ _ h => h) (Or.inl ⟨by rfl, fun w' h => by obtain ⟨o0, o1, o2, o3, o4⟩ := HXC.out w' h; clear h; go_simp⟩) hH ?_
              simp only [Act.put, List.setIfInBounds_toArray, List.set_cons_zero, List.set_cons_succ]
              refine wpAnyH_take (i := 24) (oi := ⟨_, _, _, _, _, _⟩) (v := .pointer (some ⟨xb, 1, none⟩)) rfl (by kernel_rfl) (by kernel_rfl) (by kernel_rfl) (fun _ _ _ h => h) (Or.inl ⟨by rfl, fun w' h => by clear h; go_simp⟩) hH ?_
              simp only [Act.put, List.setIfInBounds_toArray, List.set_cons_zero, List.set_cons_succ]
              refine wpAnyH_take (i := 25) (oi := ⟨_, _, _, _, _, _⟩) (v := .slice ka kn kc) rfl (by kernel_rfl) (by kernel_rfl) (by kernel_rfl) (fun _ _ _ h => h) (Or.inl ⟨by rfl, fun w' h => by obtain ⟨o0, o1⟩ := HXJ.out w' h; clear h; go_simp⟩) hH ?_
              simp only [Act.put, List.setIfInBounds_toArray, List.set_cons_zero, List.set_cons_succ]
              refine wpAnyH_take (i := 26) (oi := ⟨_, _, _, _, _, _⟩) (v := .agg MV) rfl (by kernel_rfl) (by kernel_rfl) (by kernel_rfl) (fun _ _ _ h => h) (yieldsIf_load_mid (by rfl) _ _ rfl _ _ rfl MV.toList _ (fun w' h => HRA.out w' h) HU9.out rfl HI9.out) hH ?_
              simp only [Act.put, List.setIfInBounds_toArray, List.set_cons_zero, List.set_cons_succ]
              refine wpAnyH_ready (rs := [27]) (by kernel_rfl) (by simp) ?_
              refine (AllReadyH.cons (o := ⟨_, _, _, _, _, _⟩) rfl (fun K hK => ?_) AllReadyH.nil)
              go_simp
              refine (HCO.out _ hH).mono ?_
              rintro e V8 ⟨rfl, hV1⟩
              refine hK.out _ _ (hH.trans (hV1.mono hH.size)) (fun hH => ?_)
              clear hK hV1
              try simp only [Act.put, List.setIfInBounds_toArray, List.set_cons_zero, List.set_cons_succ]
              refine wpAnyH_take (i := 28) (oi := ⟨_, _, _, _, _, _⟩) (v := .bool false) rfl (by kernel_rfl) (by kernel_rfl) (by kernel_rfl) (fun _ _ _ h => h) (Or.inl ⟨by rfl, fun w' h => by clear h; go_simp⟩) hH ?_
              simp only [Act.put, List.setIfInBounds_toArray, List.set_cons_zero, List.set_cons_succ]
              refine wpAnyH_take (i := 29) (oi := ⟨_, _, _, _, _, _⟩) (v := .bool false) rfl (by kernel_rfl) (by kernel_rfl) (by kernel_rfl) (fun _ _ _ h => h) (Or.inl ⟨by rfl, fun w' h => by clear h; go_simp⟩) hH ?_
              simp only [Act.put, List.setIfInBounds_toArray, List.set_cons_zero, List.set_cons_succ]
              refine wpAnyH_done (by kernel_rfl) ?_ _
              have HV8 := hm7 hH
              clear hH
              have x0 := (HXJ.out _ HV8.out).1
              have fj := (HO6.out.below HV8.out).j.froz n
              have cj := HJJ.out _ HV8.out
              have hjl8 := (HO6.out.below HV8.out).j.lt
              have HO8 := hm7 ((HO6.out.below HV8.out).join n)
              have HX8 := hm7 (Bk.off (i := n) (v := .bool true) (HX6.out.below HV8.out) HNE.out.1)
              clear HXJ HJJ HCO HRA HI9 HXC HCC HX6 HO6 hn0 hn1
              go_upto_region 24 with fail
              clear x0 fj cj hjl8
              revert HO8 HX8
              generalize V8.setCell ⟨jo, n, none⟩ (.bool true) = V9
              intro HO8 HX8
              obtain ⟨d1, d2⟩ := HC.out _ HO8.out.be
              obtain ⟨o0, o1, o2, o3, o4⟩ := HXV.out _ HO8.out.be
              have x0 := HX8.out.cell (i := 0) rfl
              have HJ8 := hm7 (HJ.out.set n HN.out)
              go_upto_region 25 with (go_at_call 12; refine (HME.out _ HO8.out.be HO8.out.m).mono ?_; rintro e V10 ⟨rfl, hm10, hf10⟩; have HO10 := hm7 (HO8.out.meet hm10 hf10); have HX10 := hm7 (HX8.out.fr hf10 HNE.out.2.1); clear hm10 hf10 d1 d2 o0 o1 o2 o3 o4 x0)
              clear HME HO8 HX8 HO HV8 HXV hjl2
              obtain ⟨met', hmet'⟩ : ∃ met', jm9 C met n = met' := ⟨_, rfl⟩
              have hturn := jt9_turn C met n
              have htin := fun m (hm : m ∈ (jr9 C met (T9 C met) n).t) => jt9_in hm
              have htnd := jt9_nodup C met n
              rw [hmet'] at HO10 HPN HSN hturn
              clear hmet'
              obtain ⟨TL, hTL⟩ : ∃ TL, (jr9 C met (T9 C met) n).t = TL := ⟨_, rfl⟩
              rw [hTL] at hturn htin htnd HKT HTN
              have HTR := hm7 hturn
              have HTI := hm7 htin
              have HTD := hm7 htnd
              clear hTL hturn htin htnd
              have htn8 : tn ≤ 8 := by
                rw [← HTN.out]
                have hsub : TL.length ≤ (up9 nt).length := List.Nodup.length_le_of_subset HTD.out fun m hm => by
                  obtain ⟨i, rfl, hi, -⟩ := HTI.out m hm
                  exact List.mem_map.2 ⟨i, List.mem_range.2 (by rw [← HCW.out.nt]; exact hi), rfl⟩
                rw [up9_len] at hsub
                exact Nat.le_trans hsub HNT.out
              go_wp2_with fail
              go_loopg [15, 16] tn (fun g2 i _ wr => ∃ (k : Nat) (Ar2 : List Bool), k + g2 = tn ∧ i = .int .i64 k ∧ OS9 V jo ak me (Js.set n true) Ar2 (M9 met') wr ∧ Ak9 nt (fun n : Nat => tk9 C met n) Ar2 (TL.take k) ∧ Bk wr xb #[.int .i64 (n : Int), .slice ka kn kc, .slice ta tn tc] 41)
              case atStart => exact ⟨0, _, by omega, rfl, HO10.out, HA.out, HX10.out⟩
              case round =>
                obtain ⟨k3, Ar2, hk3, rfl, hos, hak, hxx⟩ := hrel
                have HO11 := hm7 hos
                have HA11 := hm7 hak
                have HX11 := hm7 hxx
                clear hos hak hxx HO10 HX10
                obtain ⟨W11, rfl⟩ : ∃ W11, W11 = wr := ⟨_, rfl⟩
                have x2 := HX11.out.cell (i := 2) rfl
                cases gk with
                | succ g2 =>
                  have hkl : k3 < TL.length := by have := HTN.out; omega
                  obtain ⟨mm, hmm⟩ : ∃ mm, TL[k3]? = some mm := ⟨_, List.getElem?_eq_getElem hkl⟩
                  obtain ⟨n3, rfl, hn3', htk⟩ := HTI.out _ (List.mem_of_getElem? hmm)
                  rw [HCW.out.nt] at hn3'
                  have hno := HA11.out.no hmm hn3' HTD.out htk
                  have HAS := hm7 (HA11.out.set n3 hn3')
                  have e1 : TL.take (k3 + 1) = TL.take k3 ++ [(n3 : Int)] := by rw [List.take_add_one, hmm]; rfl
                  rw [← e1] at HAS
                  have hoa : V.ownsRow W2.heap.size 3 1 (.slice ta tn tc) tn (ibs7 TL) := by have := HKT.out; unfold OwI at this; rw [HTN.out] at this; exact this
                  obtain ⟨tg, rfl, -, htgl, ca, -⟩ := row7_at (i := k3) (u := .int .i64 (n3 : Int)) hoa (by unfold ibs7; rw [List.getElem?_map, hmm]; rfl)
                  have ca := cell_stepB HO11.out.be htgl ca
                  have d2 := (HC.out _ HO11.out.be).2
                  have cas := HO11.out.a.cell (i := n3) (v := .bool false) (mv9_at hno)
                  have fas := HO11.out.a.froz n3
                  have hal := HO11.out.a.lt
                  have hn9 : n3 < 9 := by have := HNT.out; omega
                  have hlt3 : (k3 : Int) < (tn : Int) := by omega
                  have hi0 : ¬ (nt : Int) ≤ (n3 : Int) := by omega
                  have HW := hm7 (HO11.out.ask n3)
                  have HXW := hm7 (HX11.out.off (i := n3) (v := .bool true) HNE.out.2.2)
                  clear hmm htk hno e1 hoa
                  go_wp2
                  go_roundg g2
                  case measure => omega
                  case rel => exact ⟨k3 + 1, _, by omega, by go_num, HW.out, HAS.out, HXW.out⟩
                | zero =>
                  have hke : k3 = tn := by omega
                  subst hke
                  rw [show TL.take k3 = TL from List.take_of_length_le (by have := HTN.out; omega)] at HA11
                  have HA12 : Hid (Ak9 nt (fun n : Nat => tk9 C met' n) Ar2 []) := HA11.out.turn (by rw [← HCW.out.nt]; exact HTR.out)
                  have hlt3 : ¬ (k3 : Int) < (k3 : Int) := by omega
                  clear HA11
                  go_wp2_with fail
                  clear x2 HX11
                  have hnt8 : nt ≤ 8 := HNT.out
                  go_loopg [17] nt (fun g4 i wr => ∃ k : Nat, k + g4 = nt ∧ i = .int .i64 k ∧ OS9 V jo ak me (Js.set n true) Ar2 (M9 met') wr)
                  case atStart => exact ⟨0, by omega, rfl, HO11.out⟩
                  case round =>
                    obtain ⟨k4, hk4, rfl, hos⟩ := hrel
                    have HO13 := hm7 hos
                    clear hos HO11
                    obtain ⟨W13, rfl⟩ : ∃ W13, W13 = wr := ⟨_, rfl⟩
                    have d2 := (HC.out _ HO13.out.be).2
                    cases gk with
                    | succ g4 =>
                      have hk4l : k4 < C.tests.length := by rw [HCW.out.nt]; omega
                      obtain ⟨t, ht⟩ : ∃ t, C.tests[k4]? = some t := ⟨_, List.getElem?_eq_getElem hk4l⟩
                      have hk3' := val_te HDV.out.v t (List.mem_of_getElem? ht)
                      have hvt := chk_tv9 HDV.out.chk t (List.mem_of_getElem? ht)
                      rw [← HSN.out.ml] at hvt
                      have hm72' : met'.length ≤ 72 := by rw [HSN.out.ml]; exact HDV.out.nv
                      have hM72' : (M9 met').length = 72 := M9_len hm72'
                      have hkl := kl9L_eq hk3'.1 (fun u hu => hvt u (by rw [List.mem_singleton.1 hu]; simp)) hm72'
                      have hkr := kl9L_eq hk3'.2 (fun u hu => hvt u (by rw [List.mem_singleton.1 hu]; simp)) hm72'
                      have hat := HA12.out.at_ k4 (by omega)
                      have htk : tk9 C met' (k4 : Int) = (kn9 met' t.l && kn9 met' t.r) := by unfold tk9; rw [Int.toNat_natCast, ht]
                      rw [htk] at hat
                      simp only [List.not_mem_nil, decide_false, Bool.or_false] at hat
                      have HKL : Hid (∀ Y : World, Calls Tryz.prog 13 #[.agg #[.int .i64 t.l.k, .int .i64 t.l.n, .string t.l.s], .agg (mv9 (M9 met'))] Y fun e w' => e = .returned (.bool (kn9 met' t.l)) ∧ Below Y.heap.size Y w') := fun Y => by have := known9L_any t.l (M9 met') hM72' Y; rw [hkl] at this; exact this
                      have HKR : Hid (∀ Y : World, Calls Tryz.prog 13 #[.agg #[.int .i64 t.r.k, .int .i64 t.r.n, .string t.r.s], .agg (mv9 (M9 met'))] Y fun e w' => e = .returned (.bool (kn9 met' t.r)) ∧ Below Y.heap.size Y w') := fun Y => by have := known9L_any t.r (M9 met') hM72' Y; rw [hkr] at this; exact this
                      obtain ⟨bl, hbl⟩ : ∃ bl, kn9 met' t.l = bl := ⟨_, rfl⟩
                      obtain ⟨br, hbr⟩ : ∃ br, kn9 met' t.r = br := ⟨_, rfl⟩
                      rw [hbl] at hat HKL
                      rw [hbr] at hat HKR
                      obtain ⟨tb, to', rfl, htl, -, ⟨ct1, ct2, ct3⟩, ct4, ct5, ct6⟩ := HTT.out.get9 ht
                      have HTC : Hid (∀ Y : World, Below W13.heap.size W13 Y → (Y.cell? ⟨tb, to' + k4 * 7 + 1, none⟩ = some (.int .i64 t.l.k) ∧ Y.cell? ⟨tb, to' + k4 * 7 + 2, none⟩ = some (.int .i64 t.l.n) ∧ Y.cell? ⟨tb, to' + k4 * 7 + 3, none⟩ = some (.string t.l.s)) ∧ Y.cell? ⟨tb, to' + k4 * 7 + 4, none⟩ = some (.int .i64 t.r.k) ∧ Y.cell? ⟨tb, to' + k4 * 7 + 5, none⟩ = some (.int .i64 t.r.n) ∧ Y.cell? ⟨tb, to' + k4 * 7 + 6, none⟩ = some (.string t.r.s)) := fun Y hY => by
                        have hY := HO13.out.be.trans (Below.mono hY HO13.out.be.size)
                        exact ⟨⟨cell_stepB hY htl ct1, cell_stepB hY htl ct2, cell_stepB hY htl ct3⟩, cell_stepB hY htl ct4, cell_stepB hY htl ct5, cell_stepB hY htl ct6⟩
                      have HC4 : Hid (∀ Y : World, Below W13.heap.size W13 Y → Y.cell? ⟨cb, 6, none⟩ = some (.slice (some ⟨tb, to', none⟩) nt yc2)) := fun Y hY => (HC.out Y (HO13.out.be.trans (Below.mono hY HO13.out.be.size))).2
                      have HAC : Hid (∀ Y : World, Below W13.heap.size W13 Y → Y.cell? ⟨ak, k4, none⟩ = some (.bool (bl && br))) := fun Y hY => (HO13.out.below hY).a.cell (i := k4) (mv9_at hat)
                      have HRA : Hid (∀ Y : World, Below W13.heap.size W13 Y → Y.rangeAt me 0 (mv9 (M9 met')).toList) := fun Y hY i u hu => by
                        have := (HO13.out.below hY).m.cell (i := i) (v := u) (by simpa using hu)
                        rw [Nat.zero_add]; exact this
                      have HI9 : Hid ((Tryz.prog.info? 43).map (·.size) = some (mv9 (M9 met')).toList.length) := by
                        show _ = _
                        rw [Array.length_toList, mv9_size, hM72']; kernel_rfl
                      obtain ⟨MW, hMW⟩ : ∃ MW, mv9 (M9 met') = MW := ⟨_, rfl⟩
                      rw [hMW] at HKL HKR HRA HI9
                      obtain ⟨op, ⟨tk, tn', ts⟩, ⟨uk, un, us⟩⟩ := t
                      simp only at HTC HKL HKR
                      have hlt4 : (k4 : Int) < (nt : Int) := by omega
                      have hk9 : k4 < 9 := by omega
                      have hk9' : (k4 : Int) < 9 := by omega
                      clear hk4l ht hk3' hvt hm72' hM72' hkl hkr hat htk hbl hbr htl ct1 ct2 ct3 ct4 ct5 ct6 hMW
                      go_upto_region 35 with fail
                      clear d2
                      cases bl with
                      | true =>
                        refine wp_region_held_drew (S := fun w' => Below W13.heap.size W13 w') (by kernel_rfl) (by exact (Below.refl _ _).drew) (fun hH => ?_)
                        revert hH
                        generalize W13.drew = V13
                        intro hH
                        refine wpAnyH_take (i := 0) (oi := ⟨_, _, _, _, _, _⟩) (v := .int .i64 (k4 : Int)) rfl (by kernel_rfl) (by kernel_rfl) (by kernel_rfl) (fun _ _ _ h => h) (Or.inl ⟨by rfl, fun w' h => by clear h; go_simp⟩) hH ?_
                        simp only [Act.put, List.setIfInBounds_toArray, List.set_cons_zero, List.set_cons_succ]
                        refine wpAnyH_take (i := 1) (oi := ⟨_, _, _, _, _, _⟩) (v := .pointer (some ⟨ak, k4, none⟩)) rfl (by kernel_rfl) (by kernel_rfl) (by kernel_rfl) (fun _ _ _ h => h) (Or.inl ⟨by rfl, fun w' h => by clear h; go_simp⟩) hH ?_
                        simp only [Act.put, List.setIfInBounds_toArray, List.set_cons_zero, List.set_cons_succ]
                        refine wpAnyH_take (i := 2) (oi := ⟨_, _, _, _, _, _⟩) (v := .bool (true && br)) rfl (by kernel_rfl) (by kernel_rfl) (by kernel_rfl) (fun _ _ _ h => h) (Or.inl ⟨by rfl, fun w' h => by have o0 := HAC.out w' h; clear h; go_simp⟩) hH ?_
                        simp only [Act.put, List.setIfInBounds_toArray, List.set_cons_zero, List.set_cons_succ]
                        refine wpAnyH_take (i := 3) (oi := ⟨_, _, _, _, _, _⟩) (v := .pointer (some ⟨cb, 6, none⟩)) rfl (by kernel_rfl) (by kernel_rfl) (by kernel_rfl) (fun _ _ _ h => h) (Or.inl ⟨by rfl, fun w' h => by clear h; go_simp⟩) hH ?_
                        simp only [Act.put, List.setIfInBounds_toArray, List.set_cons_zero, List.set_cons_succ]
                        refine wpAnyH_take (i := 4) (oi := ⟨_, _, _, _, _, _⟩) (v := .slice (some ⟨tb, to', none⟩) nt yc2) rfl (by kernel_rfl) (by kernel_rfl) (by kernel_rfl) (fun _ _ _ h => h) (Or.inl ⟨by rfl, fun w' h => by have o0 := HC4.out w' h; clear h; go_simp⟩) hH ?_
                        simp only [Act.put, List.setIfInBounds_toArray, List.set_cons_zero, List.set_cons_succ]
                        refine wpAnyH_take (i := 5) (oi := ⟨_, _, _, _, _, _⟩) (v := .int .i64 (k4 : Int)) rfl (by kernel_rfl) (by kernel_rfl) (by kernel_rfl) (fun _ _ _ h => h) (Or.inl ⟨by rfl, fun w' h => by clear h; go_simp⟩) hH ?_
                        simp only [Act.put, List.setIfInBounds_toArray, List.set_cons_zero, List.set_cons_succ]
                        refine wpAnyH_take (i := 6) (oi := ⟨_, _, _, _, _, _⟩) (v := .pointer (some ⟨tb, to' + k4 * 7, none⟩)) rfl (by kernel_rfl) (by kernel_rfl) (by kernel_rfl) (fun _ _ _ h => h) (Or.inl ⟨by rfl, fun w' h => by clear h; go_simp⟩) hH ?_
                        simp only [Act.put, List.setIfInBounds_toArray, List.set_cons_zero, List.set_cons_succ]
                        refine wpAnyH_take (i := 7) (oi := ⟨_, _, _, _, _, _⟩) (v := .pointer (some ⟨tb, to' + k4 * 7 + 1, none⟩)) rfl (by kernel_rfl) (by kernel_rfl) (by kernel_rfl) (fun _ _ _ h => h) (Or.inl ⟨by rfl, fun w' h => by clear h; go_simp⟩) hH ?_
                        simp only [Act.put, List.setIfInBounds_toArray, List.set_cons_zero, List.set_cons_succ]
                        refine wpAnyH_take (i := 8) (oi := ⟨_, _, _, _, _, _⟩) (v := .agg #[.int .i64 tk, .int .i64 tn', .string ts]) rfl (by kernel_rfl) (by kernel_rfl) (by kernel_rfl) (fun _ _ _ h => h) (Or.inl ⟨by rfl, fun w' h => by obtain ⟨⟨o1, o2, o3⟩, o4, o5, o6⟩ := HTC.out w' h; clear h; go_simp⟩) hH ?_
                        simp only [Act.put, List.setIfInBounds_toArray, List.set_cons_zero, List.set_cons_succ]
                        refine wpAnyH_take (i := 9) (oi := ⟨_, _, _, _, _, _⟩) (v := .agg MW) rfl (by kernel_rfl) (by kernel_rfl) (by kernel_rfl) (fun _ _ _ h => h) (yieldsIf_load_mid (by rfl) _ _ rfl _ _ rfl MW.toList _ (fun w' h => HRA.out w' h) HU9.out rfl HI9.out) hH ?_
                        simp only [Act.put, List.setIfInBounds_toArray, List.set_cons_zero, List.set_cons_succ]
                        refine wpAnyH_ready (rs := [10]) (by kernel_rfl) (by simp) ?_
                        refine (AllReadyH.cons (o := ⟨_, _, _, _, _, _⟩) rfl (fun K hK => ?_) AllReadyH.nil)
                        go_simp
                        refine (HKL.out _).mono ?_
                        rintro e V14 ⟨rfl, hV1⟩
                        refine hK.out _ _ (hH.trans (hV1.mono hH.size)) (fun hH => ?_)
                        clear hK hV1
                        try simp only [Act.put, List.setIfInBounds_toArray, List.set_cons_zero, List.set_cons_succ]
                        refine wpAnyH_take (i := 11) (oi := ⟨_, _, _, _, _, _⟩) (v := .bool true) rfl (by kernel_rfl) (by kernel_rfl) (by kernel_rfl) (fun _ _ _ h => h) (Or.inl ⟨by rfl, fun w' h => by clear h; go_simp⟩) hH ?_
                        simp only [Act.put, List.setIfInBounds_toArray, List.set_cons_zero, List.set_cons_succ]
                        refine wpAnyH_take (i := 12) (oi := ⟨_, _, _, _, _, _⟩) (v := .pointer (some ⟨cb, 6, none⟩)) rfl (by kernel_rfl) (by kernel_rfl) (by kernel_rfl) (fun _ _ _ h => h) (Or.inl ⟨by rfl, fun w' h => by clear h; go_simp⟩) hH ?_
                        simp only [Act.put, List.setIfInBounds_toArray, List.set_cons_zero, List.set_cons_succ]
                        refine wpAnyH_take (i := 13) (oi := ⟨_, _, _, _, _, _⟩) (v := .slice (some ⟨tb, to', none⟩) nt yc2) rfl (by kernel_rfl) (by kernel_rfl) (by kernel_rfl) (fun _ _ _ h => h) (Or.inl ⟨by rfl, fun w' h => by have o0 := HC4.out w' h; clear h; go_simp⟩) hH ?_
                        simp only [Act.put, List.setIfInBounds_toArray, List.set_cons_zero, List.set_cons_succ]
                        refine wpAnyH_take (i := 14) (oi := ⟨_, _, _, _, _, _⟩) (v := .int .i64 (k4 : Int)) rfl (by kernel_rfl) (by kernel_rfl) (by kernel_rfl) (fun _ _ _ h => h) (Or.inl ⟨by rfl, fun w' h => by clear h; go_simp⟩) hH ?_
                        simp only [Act.put, List.setIfInBounds_toArray, List.set_cons_zero, List.set_cons_succ]
                        refine wpAnyH_take (i := 15) (oi := ⟨_, _, _, _, _, _⟩) (v := .pointer (some ⟨tb, to' + k4 * 7, none⟩)) rfl (by kernel_rfl) (by kernel_rfl) (by kernel_rfl) (fun _ _ _ h => h) (Or.inl ⟨by rfl, fun w' h => by clear h; go_simp⟩) hH ?_
                        simp only [Act.put, List.setIfInBounds_toArray, List.set_cons_zero, List.set_cons_succ]
                        refine wpAnyH_take (i := 16) (oi := ⟨_, _, _, _, _, _⟩) (v := .pointer (some ⟨tb, to' + k4 * 7 + 4, none⟩)) rfl (by kernel_rfl) (by kernel_rfl) (by kernel_rfl) (fun _ _ _ h => h) (Or.inl ⟨by rfl, fun w' h => by clear h; go_simp⟩) hH ?_
                        simp only [Act.put, List.setIfInBounds_toArray, List.set_cons_zero, List.set_cons_succ]
                        refine wpAnyH_take (i := 17) (oi := ⟨_, _, _, _, _, _⟩) (v := .agg #[.int .i64 uk, .int .i64 un, .string us]) rfl (by kernel_rfl) (by kernel_rfl) (by kernel_rfl) (fun _ _ _ h => h) (Or.inl ⟨by rfl, fun w' h => by obtain ⟨⟨o1, o2, o3⟩, o4, o5, o6⟩ := HTC.out w' h; clear h; go_simp⟩) hH ?_
                        simp only [Act.put, List.setIfInBounds_toArray, List.set_cons_zero, List.set_cons_succ]
                        refine wpAnyH_take (i := 18) (oi := ⟨_, _, _, _, _, _⟩) (v := .agg MW) rfl (by kernel_rfl) (by kernel_rfl) (by kernel_rfl) (fun _ _ _ h => h) (yieldsIf_load_mid (by rfl) _ _ rfl _ _ rfl MW.toList _ (fun w' h => HRA.out w' h) HU9.out rfl HI9.out) hH ?_
                        simp only [Act.put, List.setIfInBounds_toArray, List.set_cons_zero, List.set_cons_succ]
                        refine wpAnyH_ready (rs := [19]) (by kernel_rfl) (by simp) ?_
                        refine (AllReadyH.cons (o := ⟨_, _, _, _, _, _⟩) rfl (fun K hK => ?_) AllReadyH.nil)
                        go_simp
                        refine (HKR.out _).mono ?_
                        rintro e V15 ⟨rfl, hV1⟩
                        refine hK.out _ _ (hH.trans (hV1.mono hH.size)) (fun hH => ?_)
                        clear hK hV1
                        try simp only [Act.put, List.setIfInBounds_toArray, List.set_cons_zero, List.set_cons_succ]
                        refine wpAnyH_take (i := 20) (oi := ⟨_, _, _, _, _, _⟩) (v := .bool br) rfl (by kernel_rfl) (by kernel_rfl) (by kernel_rfl) (fun _ _ _ h => h) (Or.inl ⟨by rfl, fun w' h => by clear h; go_simp⟩) hH ?_
                        simp only [Act.put, List.setIfInBounds_toArray, List.set_cons_zero, List.set_cons_succ]
                        refine wpAnyH_take (i := 21) (oi := ⟨_, _, _, _, _, _⟩) (v := .bool false) rfl (by kernel_rfl) (by kernel_rfl) (by kernel_rfl) (fun _ _ _ h => h) (Or.inl ⟨by rfl, fun w' h => by clear h; cases br <;> go_simp⟩) hH ?_
                        simp only [Act.put, List.setIfInBounds_toArray, List.set_cons_zero, List.set_cons_succ]
                        refine wpAnyH_done (by kernel_rfl) ?_ _
                        have HV14 := hm7 hH
                        clear hH
                        cases br with
                        | true =>
                          go_wp2
                          go_roundg g4
                          case measure => omega
                          case rel => exact ⟨k4 + 1, by omega, by go_num, HO13.out.below HV14.out⟩
                        | false =>
                          go_wp2
                          go_roundg g4
                          case measure => omega
                          case rel => exact ⟨k4 + 1, by omega, by go_num, HO13.out.below HV14.out⟩
                      | false =>
                        refine wp_region_held_drew (S := fun w' => Below W13.heap.size W13 w') (by kernel_rfl) (by exact (Below.refl _ _).drew) (fun hH => ?_)
                        revert hH
                        generalize W13.drew = V13
                        intro hH
                        refine wpAnyH_take (i := 0) (oi := ⟨_, _, _, _, _, _⟩) (v := .int .i64 (k4 : Int)) rfl (by kernel_rfl) (by kernel_rfl) (by kernel_rfl) (fun _ _ _ h => h) (Or.inl ⟨by rfl, fun w' h => by clear h; go_simp⟩) hH ?_
                        simp only [Act.put, List.setIfInBounds_toArray, List.set_cons_zero, List.set_cons_succ]
                        refine wpAnyH_take (i := 1) (oi := ⟨_, _, _, _, _, _⟩) (v := .pointer (some ⟨ak, k4, none⟩)) rfl (by kernel_rfl) (by kernel_rfl) (by kernel_rfl) (fun _ _ _ h => h) (Or.inl ⟨by rfl, fun w' h => by clear h; go_simp⟩) hH ?_
                        simp only [Act.put, List.setIfInBounds_toArray, List.set_cons_zero, List.set_cons_succ]
                        refine wpAnyH_take (i := 2) (oi := ⟨_, _, _, _, _, _⟩) (v := .bool (false && br)) rfl (by kernel_rfl) (by kernel_rfl) (by kernel_rfl) (fun _ _ _ h => h) (Or.inl ⟨by rfl, fun w' h => by have o0 := HAC.out w' h; clear h; go_simp⟩) hH ?_
                        simp only [Act.put, List.setIfInBounds_toArray, List.set_cons_zero, List.set_cons_succ]
                        refine wpAnyH_take (i := 3) (oi := ⟨_, _, _, _, _, _⟩) (v := .pointer (some ⟨cb, 6, none⟩)) rfl (by kernel_rfl) (by kernel_rfl) (by kernel_rfl) (fun _ _ _ h => h) (Or.inl ⟨by rfl, fun w' h => by clear h; go_simp⟩) hH ?_
                        simp only [Act.put, List.setIfInBounds_toArray, List.set_cons_zero, List.set_cons_succ]
                        refine wpAnyH_take (i := 4) (oi := ⟨_, _, _, _, _, _⟩) (v := .slice (some ⟨tb, to', none⟩) nt yc2) rfl (by kernel_rfl) (by kernel_rfl) (by kernel_rfl) (fun _ _ _ h => h) (Or.inl ⟨by rfl, fun w' h => by have o0 := HC4.out w' h; clear h; go_simp⟩) hH ?_
                        simp only [Act.put, List.setIfInBounds_toArray, List.set_cons_zero, List.set_cons_succ]
                        refine wpAnyH_take (i := 5) (oi := ⟨_, _, _, _, _, _⟩) (v := .int .i64 (k4 : Int)) rfl (by kernel_rfl) (by kernel_rfl) (by kernel_rfl) (fun _ _ _ h => h) (Or.inl ⟨by rfl, fun w' h => by clear h; go_simp⟩) hH ?_
                        simp only [Act.put, List.setIfInBounds_toArray, List.set_cons_zero, List.set_cons_succ]
                        refine wpAnyH_take (i := 6) (oi := ⟨_, _, _, _, _, _⟩) (v := .pointer (some ⟨tb, to' + k4 * 7, none⟩)) rfl (by kernel_rfl) (by kernel_rfl) (by kernel_rfl) (fun _ _ _ h => h) (Or.inl ⟨by rfl, fun w' h => by clear h; go_simp⟩) hH ?_
                        simp only [Act.put, List.setIfInBounds_toArray, List.set_cons_zero, List.set_cons_succ]
                        refine wpAnyH_take (i := 7) (oi := ⟨_, _, _, _, _, _⟩) (v := .pointer (some ⟨tb, to' + k4 * 7 + 1, none⟩)) rfl (by kernel_rfl) (by kernel_rfl) (by kernel_rfl) (fun _ _ _ h => h) (Or.inl ⟨by rfl, fun w' h => by clear h; go_simp⟩) hH ?_
                        simp only [Act.put, List.setIfInBounds_toArray, List.set_cons_zero, List.set_cons_succ]
                        refine wpAnyH_take (i := 8) (oi := ⟨_, _, _, _, _, _⟩) (v := .agg #[.int .i64 tk, .int .i64 tn', .string ts]) rfl (by kernel_rfl) (by kernel_rfl) (by kernel_rfl) (fun _ _ _ h => h) (Or.inl ⟨by rfl, fun w' h => by obtain ⟨⟨o1, o2, o3⟩, o4, o5, o6⟩ := HTC.out w' h; clear h; go_simp⟩) hH ?_
                        simp only [Act.put, List.setIfInBounds_toArray, List.set_cons_zero, List.set_cons_succ]
                        refine wpAnyH_take (i := 9) (oi := ⟨_, _, _, _, _, _⟩) (v := .agg MW) rfl (by kernel_rfl) (by kernel_rfl) (by kernel_rfl) (fun _ _ _ h => h) (yieldsIf_load_mid (by rfl) _ _ rfl _ _ rfl MW.toList _ (fun w' h => HRA.out w' h) HU9.out rfl HI9.out) hH ?_
                        simp only [Act.put, List.setIfInBounds_toArray, List.set_cons_zero, List.set_cons_succ]
                        refine wpAnyH_ready (rs := [10]) (by kernel_rfl) (by simp) ?_
                        refine (AllReadyH.cons (o := ⟨_, _, _, _, _, _⟩) rfl (fun K hK => ?_) AllReadyH.nil)
                        go_simp
                        refine (HKL.out _).mono ?_
                        rintro e V14 ⟨rfl, hV1⟩
                        refine hK.out _ _ (hH.trans (hV1.mono hH.size)) (fun hH => ?_)
                        clear hK hV1
                        try simp only [Act.put, List.setIfInBounds_toArray, List.set_cons_zero, List.set_cons_succ]
                        refine wpAnyH_take (i := 11) (oi := ⟨_, _, _, _, _, _⟩) (v := .bool false) rfl (by kernel_rfl) (by kernel_rfl) (by kernel_rfl) (fun _ _ _ h => h) (Or.inl ⟨by rfl, fun w' h => by clear h; go_simp⟩) hH ?_
                        simp only [Act.put, List.setIfInBounds_toArray, List.set_cons_zero, List.set_cons_succ]
                        refine wpAnyH_take (i := 12) (oi := ⟨_, _, _, _, _, _⟩) (v := undef) rfl (by kernel_rfl) (by kernel_rfl) (by kernel_rfl) (fun _ _ _ h => h) (Or.inr ⟨by rfl, rfl⟩) hH ?_
                        simp only [Act.put, List.setIfInBounds_toArray, List.set_cons_zero, List.set_cons_succ]
                        refine wpAnyH_take (i := 13) (oi := ⟨_, _, _, _, _, _⟩) (v := undef) rfl (by kernel_rfl) (by kernel_rfl) (by kernel_rfl) (fun _ _ _ h => h) (Or.inr ⟨by rfl, rfl⟩) hH ?_
                        simp only [Act.put, List.setIfInBounds_toArray, List.set_cons_zero, List.set_cons_succ]
                        refine wpAnyH_take (i := 14) (oi := ⟨_, _, _, _, _, _⟩) (v := undef) rfl (by kernel_rfl) (by kernel_rfl) (by kernel_rfl) (fun _ _ _ h => h) (Or.inr ⟨by rfl, rfl⟩) hH ?_
                        simp only [Act.put, List.setIfInBounds_toArray, List.set_cons_zero, List.set_cons_succ]
                        refine wpAnyH_take (i := 15) (oi := ⟨_, _, _, _, _, _⟩) (v := undef) rfl (by kernel_rfl) (by kernel_rfl) (by kernel_rfl) (fun _ _ _ h => h) (Or.inr ⟨by rfl, rfl⟩) hH ?_
                        simp only [Act.put, List.setIfInBounds_toArray, List.set_cons_zero, List.set_cons_succ]
                        refine wpAnyH_take (i := 16) (oi := ⟨_, _, _, _, _, _⟩) (v := undef) rfl (by kernel_rfl) (by kernel_rfl) (by kernel_rfl) (fun _ _ _ h => h) (Or.inr ⟨by rfl, rfl⟩) hH ?_
                        simp only [Act.put, List.setIfInBounds_toArray, List.set_cons_zero, List.set_cons_succ]
                        refine wpAnyH_take (i := 17) (oi := ⟨_, _, _, _, _, _⟩) (v := undef) rfl (by kernel_rfl) (by kernel_rfl) (by kernel_rfl) (fun _ _ _ h => h) (Or.inr ⟨by rfl, rfl⟩) hH ?_
                        simp only [Act.put, List.setIfInBounds_toArray, List.set_cons_zero, List.set_cons_succ]
                        refine wpAnyH_take (i := 18) (oi := ⟨_, _, _, _, _, _⟩) (v := undef) rfl (by kernel_rfl) (by kernel_rfl) (by kernel_rfl) (fun _ _ _ h => h) (Or.inr ⟨by rfl, rfl⟩) hH ?_
                        simp only [Act.put, List.setIfInBounds_toArray, List.set_cons_zero, List.set_cons_succ]
                        refine wpAnyH_take (i := 19) (oi := ⟨_, _, _, _, _, _⟩) (v := undef) rfl (by kernel_rfl) (by kernel_rfl) (by kernel_rfl) (fun _ _ _ h => h) (Or.inr ⟨by rfl, rfl⟩) hH ?_
                        simp only [Act.put, List.setIfInBounds_toArray, List.set_cons_zero, List.set_cons_succ]
                        refine wpAnyH_take (i := 20) (oi := ⟨_, _, _, _, _, _⟩) (v := .bool false) rfl (by kernel_rfl) (by kernel_rfl) (by kernel_rfl) (fun _ _ _ h => h) (Or.inl ⟨by rfl, fun w' h => by clear h; go_simp⟩) hH ?_
                        simp only [Act.put, List.setIfInBounds_toArray, List.set_cons_zero, List.set_cons_succ]
                        refine wpAnyH_take (i := 21) (oi := ⟨_, _, _, _, _, _⟩) (v := .bool false) rfl (by kernel_rfl) (by kernel_rfl) (by kernel_rfl) (fun _ _ _ h => h) (Or.inl ⟨by rfl, fun w' h => by clear h; go_simp⟩) hH ?_
                        simp only [Act.put, List.setIfInBounds_toArray, List.set_cons_zero, List.set_cons_succ]
                        refine wpAnyH_done (by kernel_rfl) ?_ _
                        have HV14 := hm7 hH
                        clear hH
                        go_wp2
                        go_roundg g4
                        case measure => omega
                        case rel => exact ⟨k4 + 1, by omega, by go_num, HO13.out.below HV14.out⟩
                    | zero =>
                      have hke : k4 = nt := by omega
                      subst hke
                      have hlt4 : ¬ (k4 : Int) < (k4 : Int) := by omega
                      go_wp2
                      go_roundg gg
                      case measure => omega
                      case rel => exact ⟨ji + 1, met', _, _, _, by omega, by go_num, HSN.out, HPN.out, HO13.out, HA12.out, HJ8.out⟩
            | zero =>
              have hje : ji = jn := by omega
              subst hje
              have hA0 : A = [] := by
                have h1 := HL.out
                rw [List.drop_eq_nil_of_le (by rw [← HJS.out, List.length_map, HJN.out]; exact Nat.le_refl _)] at h1
                exact h1
              have HALL : Hid (∀ n : Nat, n < nt → Ar[n]? = some true) := fun n hn => by
                rw [HA.out.at_ n hn, tk9_all HDV.out.v HDV.out.chk (by rw [← hA0]; exact HS.out) (by rw [HCW.out.nt]; exact hn)]; rfl
              have hlt2 : ¬ (ji : Int) < (ji : Int) := by omega
              have hnt8 : nt ≤ 8 := HNT.out
              clear hA0 HL HA HJ
              go_wp2_with fail
              clear p0 p1
              go_loopg [18] nt (fun g5 i wr => ∃ k : Nat, k + g5 = nt ∧ i = .int .i64 k ∧ wr = W5)
              case atStart => exact ⟨0, by omega, rfl, rfl⟩
              case round =>
                obtain ⟨k5, hk5, rfl, rfl⟩ := hrel
                have d2 := (HC.out _ HO.out.be).2
                cases gk with
                | succ g5 =>
                  have hk5l : k5 < nt := by omega
                  have cas := HO.out.a.cell (i := k5) (v := .bool true) (mv9_at (HALL.out k5 hk5l))
                  have hal := HO.out.a.lt
                  have hlt5 : (k5 : Int) < (nt : Int) := by omega
                  have hk9 : k5 < 9 := by omega
                  go_wp2
                  go_roundg g5
                  case measure => omega
                  case rel => exact ⟨k5 + 1, by omega, by go_num, rfl⟩
                | zero =>
                  have hke : k5 = nt := by omega
                  subst hke
                  have hlt5 : ¬ (k5 : Int) < (k5 : Int) := by omega
                  go_wp2_with (go_at_call 10; refine (HF9.out _).mono ?_; rintro e W9 ⟨rfl, hb9⟩; have HB9 := hm7 hb9; clear hb9)
                  go_ret
                  exact ⟨rfl, HWV.out.trans ((HO.out.be.mono HWV.out.size).trans (HB9.out.mono (Nat.le_trans HWV.out.size HO.out.be.size)))⟩
end Go.Proofs.YtllgffmhbddigaaGreat
