import Derived.Test.YtnikmcmkbjjcdaaGreatDoorJ4
import Derived.Test.YtnikmcmkbjjcdaaGreatDoorPR4
import Derived.Test.YtnikmcmkbjjcdaaGreatDoorCL17
/-
  syntax: Program; law 5's first.
-/
namespace Go.Proofs.YtnikmcmkbjjcdaaGreatDoor
open Go.RowKit
attribute [local go_sem ↓] Go.wp_at_zero Go.wp_at_succ

theorem pair_put {w : World} {g : Nat} {t : TypeId} {x y a b : Value} (h : Bk w g #[x, y] t) : Bk ((w.setCell ⟨g, 0, none⟩ a).setCell ⟨g, 1, none⟩ b) g #[a, b] t := by
  have := (h.set 0 a).set 1 b
  simpa using this
set_option maxRecDepth 20000 in
set_option maxHeartbeats 2000000 in
theorem program_any (s : ByteArray) (hs : s.size ≤ 9000000) (w : World) (hE : EnvOk w) (hO : OpsOk w) :
    Calls Tryz.prog 10 #[.string s] w (ReP w (pg5 s 1048576)) := by
  have HB0 := hm7 (below1 w (.cells #[.int .i64 0, .int .i64 0] 26))
  have HR0 := hm7 (Bk.new w #[.int .i64 0, .int .i64 0] 26)
  have HRD := hm7 (readC_any s 1048576 hs (by decide) _ (hE.later HB0.out) (hO.fr (P := fun _ => False) (Fr.of HB0.out) fun h => h))
  obtain ⟨R, hR⟩ : ∃ R, pg5 s 1048576 = R := ⟨_, rfl⟩
  rw [hR] at HRD ⊢
  clear hE hO hR
  have HWZ : Hid ((w.alloc (.cells #[.int .i64 0, .int .i64 0] 26)).heap.size = w.heap.size + 1) := by show _ = _; simp
  go_enter Tryz.func10, Tryz.ntmps10
  go_wp2_with (go_at_call 28; refine HRD.out.mono ?_; rintro e W1 ⟨hb, v, c, a, rfl, hm⟩; have HM := hm7 hm; have HR1 := hm7 (HR0.out.below hb); have HB1 := hm7 (HB0.out.trans (hb.mono HB0.out.size)); have r0 := HR1.out.cell (i := 0) rfl; have r1 := HR1.out.cell (i := 1) rfl; have f0 := HR1.out.froz 0; have f1 := HR1.out.froz 1; have hrl := HR1.out.lt; clear hb hm)
  have HR2 := hm7 (pair_put (a := .int .i64 c) (b := .int .i64 a) HR1.out)
  have z0 := HR2.out.cell (i := 0) rfl
  have z1 := HR2.out.cell (i := 1) rfl
  refine bodyPost_ret (v := .tuple #[v, .agg #[.int .i64 c, .int .i64 a]]) (by simp [results, Tryz.results10, go_sem, z0, z1]) rfl ?_
  have hfq : Fr (fun b => b = w.heap.size) W1 ((W1.setCell ⟨w.heap.size, 0, none⟩ (.int .i64 c)).setCell ⟨w.heap.size, 1, none⟩ (.int .i64 a)) := ((Fr.refl (fun b => b = w.heap.size) _).set (Or.inl rfl)).set (Or.inl rfl)
  refine ⟨(HB1.out.setCell (p := ⟨w.heap.size, 0, none⟩) (Nat.le_refl _) _).setCell (p := ⟨w.heap.size, 1, none⟩) (Nat.le_refl _) _, v, c, a, rfl, ?_⟩
  have hm := HM.out
  cases R with
  | error f => exact hm
  | ok ks =>
    obtain ⟨h1, h2, l, h3, h4⟩ := hm
    refine ⟨h1, h2, l, h3, (h4.fr hfq fun b hb e => ?_).mono fun b _ hb => ?_⟩
    · have := HWZ.out; omega
    · have := HWZ.out; omega
/-- The text whose meaning the document fixes, and what is printed of it. -/
def fT1 : ByteArray := ⟨#[112, 40, 88, 41, 32, 58, 45, 32, 40, 113, 40, 88, 44, 32, 95, 41, 59, 32, 88, 32, 33, 61, 32, 51, 44, 32, 97, 110, 110, 32, 115, 97, 121, 115, 32, 114, 40, 88, 41, 41, 46]⟩
def fT2 : ByteArray := ⟨#[112, 40, 86, 48, 41, 32, 58, 45, 32, 97, 110, 110, 32, 115, 97, 121, 115, 32, 114, 40, 86, 48, 41, 44, 32, 86, 48, 32, 33, 61, 32, 51, 46]⟩
def okF : Bool := match pg5 fT1 1048576 with
  | .ok [a, b] => decide (a.2.1.length = 1 ∧ b.2.2.length = 1 ∧ pc5 b = fT2 ∧ (∀ t ∈ Ck.terms b, (-9223372036854775808 ≤ t.n ∧ t.n ≤ 9223372036854775807)) ∧ (Ck.terms b).length ≤ 100)
  | _ => false
set_option maxRecDepth 100000 in
theorem okF_yes : okF = true := by kernel_rfl
end Go.Proofs.YtnikmcmkbjjcdaaGreatDoor
/-
  law 5: first.
-/
namespace Go.Proofs.YtnikmcmkbjjcdaaGreatDoor
open Go.RowKit
attribute [local go_sem ↓] Go.wp_at_zero Go.wp_at_succ

theorem neq_ft0 (w : World) : (binOp .neq 26 (.agg #[.int .i64 0, .int .i64 0]) (.agg #[.int .i64 0, .int .i64 0])).run Tryz.prog w = .ok (.bool false) w := by kernel_rfl
/-- What first's text says. -/
theorem first_pg : ∃ a b : Ck, pg5 fT1 1048576 = .ok [a, b] ∧ a.2.1.length = 1 ∧ b.2.2.length = 1 ∧ pc5 b = fT2 ∧ (∀ t ∈ Ck.terms b, N64 t.n) ∧ (Ck.terms b).length ≤ 100 := by
  have h := okF_yes
  unfold okF at h
  split at h
  · rename_i a b e
    obtain ⟨h1, h2, h3, h4, h5⟩ := of_decide_eq_true h
    exact ⟨a, b, e, h1, h2, h3, h4, h5⟩
  · cases h
theorem n64_wf {n : Int} (h : N64 n) : (Lit.int .i64 n).wf = true := by
  obtain ⟨h1, h2⟩ := h
  simp only [Lit.wf, IntKind.min, IntKind.max, Bool.and_eq_true]
  constructor <;> simp [IntKind.signed, IntKind.bits] <;> omega
theorem cc5_get : ∀ {l : List Cm} {j : Nat} {c : Cm}, l[j]? = some c → ∀ i u, (cc5 c)[i]? = some u → i < 7 → (l.flatMap cc5)[j * 7 + i]? = some u
  | [], j, t, h, i, u, hu, hi => by simp at h
  | y :: l, 0, t, h, i, u, hu, hi => by
    simp only [List.getElem?_cons_zero, Option.some.injEq] at h
    subst h
    rw [List.flatMap_cons, Nat.zero_mul, Nat.zero_add, List.getElem?_append_left (by simpa [cc5] using hi)]
    exact hu
  | y :: l, j + 1, t, h, i, u, hu, hi => by
    rw [List.getElem?_cons_succ] at h
    have ih := cc5_get h i u hu hi
    rw [List.flatMap_cons, List.getElem?_append_right (by simp [cc5]; omega), show (j + 1) * 7 + i - (cc5 y).length = j * 7 + i by simp [cc5]; omega]
    exact ih
set_option maxRecDepth 20000 in
set_option maxHeartbeats 4000000 in
theorem first5_any (w : World) (hE : EnvOk w) (hO : OpsOk w) :
    Calls Tryz.prog 9 #[] w fun e w' => e = .returned (.bool true) ∧ Below w.heap.size w w' := by
  obtain ⟨ka, kb, hpg, hla, hlb, hpc, hnb, hlen⟩ := first_pg
  have HPG := hm7 (program_any fT1 (by decide) w hE hO)
  rw [hpg] at HPG
  have HE := hm7 hE
  have HO := hm7 hO
  unfold fT1 at HPG
  clear hpg hE hO
  have hnq := neq_ft0
  go_enter Tryz.func9, Tryz.ntmps9
  go_upto_region 2 with (go_at_call 10; refine HPG.out.mono ?_; rintro e W1 ⟨hb, v, c, a, rfl, rfl, rfl, l, hk, hrl⟩; have hl2 : l.length = 2 := (by have := congrArg List.length hk; simpa using this); obtain ⟨vg, vc, hvf⟩ := row5_pos hrl.o (by omega); rw [hl2] at hvf; subst hvf; have HK := hm7 hk; have HRL := hm7 hrl; have HB1 := hm7 hb; have HL2 := hm7 hl2; clear hb hk hrl hl2)
  obtain ⟨d, e, hde⟩ : ∃ d e, l = [d, e] := by
    match l, HL2.out with
    | [d, e], _ => exact ⟨d, e, rfl⟩
  subst hde
  have hkd : d.key = ka ∧ e.key = kb := by
    have := HK.out
    simp only [List.map_cons, List.map_nil, List.cons.injEq, and_true] at this
    exact this
  have hod := (HRL.out.k d (by simp)).ok
  have hoe := (HRL.out.k e (by simp)).ok
  have hdl : d.body.length = 1 := by rw [(key_len d).1, hkd.1]; exact hla
  have hel : e.tests.length = 1 := by rw [(key_len e).2, hkd.2]; exact hlb
  have HPR : Hid (∀ X : World, Below W1.heap.size W1 X → Calls Tryz.prog 16 #[e.v] X fun e w' => e = .returned (.string fT2) ∧ Below X.heap.size X w') := fun X hX => by
    have := print5_any e X (hoe.later hX) ⟨fun t ht _ => n64_wf (hnb t (by rw [key_terms, hkd.2] at ht; exact ht)), by rw [key_terms, hkd.2]; omega⟩ (fun t ht => hnb t (by rw [key_terms, hkd.2] at ht; exact ht)) (HE.out.later (HB1.out.trans (hX.mono HB1.out.size))) (HO.out.fr (P := fun _ => False) (Fr.of (HB1.out.trans (hX.mono HB1.out.size))) fun h => h)
    rw [hkd.2, hpc] at this
    exact this
  obtain ⟨-, ⟨db, dbc, edb⟩, ⟨dt, dtc, edt⟩, -, -⟩ := hod.shape
  obtain ⟨⟨eh, ehn, ehc, eeh⟩, ⟨eb, ebc, eeb⟩, ⟨et, etc', eet⟩, -, -⟩ := hoe.shape
  rw [hdl] at edb
  rw [hel] at eet
  have HRO : Hid (W1.ownsRow 0 37 7 (.slice (some ⟨vg, 0, none⟩) 2 vc) 2 ([d, e].flatMap cc5)) := HRL.out.o
  have q5 := row5_cell HRO.out (cc5_get (l := [d, e]) (j := 0) rfl 5 d.bv rfl (by omega))
  have p0 := row5_cell HRO.out (cc5_get (l := [d, e]) (j := 1) rfl 0 _ rfl (by omega))
  have p1 := row5_cell HRO.out (cc5_get (l := [d, e]) (j := 1) rfl 1 _ rfl (by omega))
  have p2 := row5_cell HRO.out (cc5_get (l := [d, e]) (j := 1) rfl 2 _ rfl (by omega))
  have p3 := row5_cell HRO.out (cc5_get (l := [d, e]) (j := 1) rfl 3 _ rfl (by omega))
  have p4 := row5_cell HRO.out (cc5_get (l := [d, e]) (j := 1) rfl 4 _ rfl (by omega))
  have p5 := row5_cell HRO.out (cc5_get (l := [d, e]) (j := 1) rfl 5 _ rfl (by omega))
  have p6 := row5_cell HRO.out (cc5_get (l := [d, e]) (j := 1) rfl 6 _ rfl (by omega))
  rw [edb] at q5
  obtain ⟨⟨⟨⟨hk1, hn1, hs1⟩, hm1, ha1⟩, hv1⟩, body1, bv1, tests1, tv1⟩ := e
  dsimp only at eeh eeb eet HPR p0 p1 p2 p3 p4 p5 p6
  generalize body1.length = bl1 at eeb
  subst eeh
  subst eeb
  subst eet
  simp only [Nat.zero_mul, Nat.one_mul, Nat.zero_add, Nat.add_zero] at q5 p0 p1 p2 p3 p4 p5 p6
  have hvg := (World.ownsRow.lt HRO.out vg rfl).2
  have HB2 := hm7 (below1 W1 (.cells #[.int .i64 0, .int .i64 0] 26))
  have HFX := hm7 (Bk.new W1 #[.int .i64 0, .int .i64 0] 26)
  unfold fT2 at HPR
  clear hla hlb hpc hnb hlen hkd hod hoe hdl hel HK edt HPG
  have x0 := HFX.out.cell (i := 0) rfl
  have x1 := HFX.out.cell (i := 1) rfl
  go_upto_region 4 with fail
  go_wp2_with (go_at_call 16; refine (HPR.out _ HB2.out).mono ?_; rintro e w3 ⟨rfl, hb⟩; have HB3 := hm7 (HB1.out.trans ((HB2.out.trans (hb.mono HB2.out.size)).mono HB1.out.size)); clear hb)
  go_ret
  exact ⟨rfl, HB3.out⟩
end Go.Proofs.YtnikmcmkbjjcdaaGreatDoor
/-
  law 5: terms, atoms: the same?
-/
namespace Go.Proofs.YtnikmcmkbjjcdaaGreatDoor
open Go.RowKit
attribute [local go_sem ↓] Go.wp_at_zero Go.wp_at_succ

theorem terms5_any (a b : List Tm) (x y : Value) (w : World) (h : Ts w x a) (h' : Ts w y b) :
    Calls Tryz.prog 37 #[x, y] w fun e w' => e = .returned (.bool (decide (a = b))) ∧ Below w.heap.size w w' := by
  obtain ⟨ad, cap, rfl, hl, h⟩ := h
  obtain ⟨ad', cap', rfl, hl', h'⟩ := h'
  by_cases e2 : a.length = b.length
  · have hq2 : ((a.length : Int) == (b.length : Int)) = true := by simp; omega
    have E2 : Hid (a.length = b.length) := e2
    clear e2
    go_enter Tryz.func37, Tryz.ntmps37
    go_wp2
    go_loopg [5] a.length (fun g i wr => ∃ j : Nat, j + g = a.length ∧ i = .int .i64 j ∧ (a = b ↔ a.drop j = b.drop j) ∧ Below w.heap.size w wr)
    case atStart => exact ⟨0, by omega, rfl, by simp, Below.refl _ _⟩
    case round =>
      obtain ⟨j, hj, rfl, hgo, hb⟩ := hrel
      have HG : Hid (a = b ↔ a.drop j = b.drop j) := hgo
      clear hgo
      cases gk with
      | succ g =>
        have hlt : (j : Int) < (a.length : Int) := by omega
        have hlt' : (j : Int) < (b.length : Int) := by have := E2.out; omega
        have j0 : (0 : Int) ≤ (j : Int) := by omega
        obtain ⟨t, ht⟩ : ∃ t, a[j]? = some t := ⟨_, List.getElem?_eq_getElem (by omega)⟩
        obtain ⟨u, hu⟩ : ∃ u, b[j]? = some u := ⟨_, List.getElem?_eq_getElem (by omega)⟩
        have HS : Hid ((a = b) ↔ (t = u ∧ a.drop (j + 1) = b.drop (j + 1))) := HG.out.trans (drop_eq_step a b j t u ht hu)
        rcases h with h | ⟨b1, o1, rfl, hb1, h⟩
        · subst h; simp at hj
        rcases h' with h' | ⟨b2, o2, rfl, hb2, h'⟩
        · subst h'; simp at hu
        obtain ⟨p0, p1, p2⟩ := h j t ht
        obtain ⟨q0, q1, q2⟩ := h' j u hu
        rw [← hb.cell (p := ⟨b1, _, none⟩) hb1] at p0 p1 p2
        rw [← hb.cell (p := ⟨b2, _, none⟩) hb2] at q0 q1 q2
        have he := run_neq_tm t u
        clear h h' ht hu
        obtain ⟨tk, tn, ts⟩ := t
        obtain ⟨uk, un, us⟩ := u
        simp only at p0 p1 p2 q0 q1 q2
        by_cases htu : Tm.mk tk tn ts = ⟨uk, un, us⟩
        · have HS2 : Hid (a = b ↔ a.drop (j + 1) = b.drop (j + 1)) := by
            have := HS.out; show a = b ↔ _; simpa [htu] using this
          rw [decide_eq_true htu] at he
          clear htu
          go_wp2
          go_quiet (fail)
          go_wp2
          go_roundg g
          case measure => omega
          case rel => exact ⟨j + 1, by omega, by go_num, HS2.out, below_drewN hb _⟩
        · have HS2 : Hid (decide (a = b) = false) := decide_eq_false fun e => htu (HS.out.1 e).1
          rw [decide_eq_false htu] at he
          clear htu
          go_wp2
          go_quiet (fail)
          go_wp2
          go_ret
          exact ⟨ret_b HS2.out.symm, below_drewN hb _⟩
      | zero =>
        have hlt : ¬ (j : Int) < (a.length : Int) := by omega
        have HS2 : Hid (decide (a = b) = true) := decide_eq_true (HG.out.2 (by rw [List.drop_eq_nil_of_le (by omega), List.drop_eq_nil_of_le (by have := E2.out; omega)]))
        clear hj h h'
        go_wp2
        go_ret
        exact ⟨ret_b HS2.out.symm, hb⟩
  · have hq2 : ((a.length : Int) == (b.length : Int)) = false := by simp; omega
    have HS2 : Hid (decide (a = b) = false) := decide_eq_false fun e => e2 (by rw [e])
    clear e2 h h'
    go_enter Tryz.func37, Tryz.ntmps37
    go_wp2
    go_ret
    exact ⟨ret_b HS2.out.symm, Below.refl _ _⟩
set_option maxHeartbeats 1000000 in
theorem atoms5_any (a b : At) (x y : Value) (w : World) (h : Ts w x a.args) (h' : Ts w y b.args) :
    Calls Tryz.prog 20 #[a.v x, b.v y] w fun e w' => e = .returned (.bool (decide (a = b))) ∧ Below w.heap.size w w' := by
  obtain ⟨⟨k, n, s⟩, nm, l⟩ := a
  obtain ⟨⟨k', n', s'⟩, nm', l'⟩ := b
  have HX : Hid (Ts w x l) := h
  have HY : Hid (Ts w y l') := h'
  obtain ⟨r, hr⟩ : ∃ r, decide (At.mk ⟨k, n, s⟩ nm l = At.mk ⟨k', n', s'⟩ nm' l') = r := ⟨_, rfl⟩
  rw [hr]
  have HR : Hid ((decide (nm.toList = nm'.toList) && (decide (Tm.mk k n s = ⟨k', n', s'⟩) && decide (l = l'))) = r) := by
    show _ = r
    rw [← hr, Bool.eq_iff_iff]
    simp only [Bool.and_eq_true, decide_eq_true_eq, At.mk.injEq]
    exact ⟨fun ⟨p, q, r⟩ => ⟨q, toList_inj p, r⟩, fun ⟨p, q, r⟩ => ⟨by rw [q], p, r⟩⟩
  clear h h' hr
  have he := run_eql_tm ⟨k, n, s⟩ ⟨k', n', s'⟩
  by_cases e1 : nm.toList = nm'.toList
  · have hq1 : (nm.toList == nm'.toList) = true := by simpa using e1
    by_cases e2 : Tm.mk k n s = ⟨k', n', s'⟩
    · have HR2 : Hid (decide (l = l') = r) := by show _ = r; rw [← HR.out]; simp [e1, e2]
      rw [decide_eq_true e2] at he
      clear e1 e2 HR
      go_enter Tryz.func20, Tryz.ntmps20
      go_wp2_with (go_at_call 37; refine (terms5_any l l' x y _ (HX.out.later (below2 _ _ _)) (HY.out.later (below2 _ _ _))).mono ?_; rw [HR2.out]; rintro e w1 ⟨rfl, hb1⟩)
      go_ret
      exact ⟨rfl, below_step (below2 _ _ _) hb1⟩
    · have HR2 : Hid (false = r) := by show false = r; rw [← HR.out]; simp [e2]
      rw [decide_eq_false e2] at he
      clear e1 e2 HR
      go_enter Tryz.func20, Tryz.ntmps20
      go_wp2
      go_ret
      exact ⟨ret_b HR2.out, below2 _ _ _⟩
  · have HR2 : Hid (false = r) := by show false = r; rw [← HR.out]; simp [e1]
    have hq1 : (nm.toList == nm'.toList) = false := by simpa using e1
    clear e1 HR he
    go_enter Tryz.func20, Tryz.ntmps20
    go_wp2
    go_ret
    exact ⟨ret_b HR2.out, below2 _ _ _⟩
theorem As.get5 {w : World} {a : Option Addr} {n cap j : Nat} {l : List (At × Value)} (h : As w (.slice a n cap) l) (hj : j < n) :
    ∃ (b o : Nat) (t : At × Value), a = some ⟨b, o, none⟩ ∧ l[j]? = some t ∧ b < w.heap.size ∧ (w.cell? ⟨b, o + j * 5, none⟩ = some (.int .i64 t.1.by_.k) ∧ w.cell? ⟨b, o + j * 5 + 1, none⟩ = some (.int .i64 t.1.by_.n) ∧ w.cell? ⟨b, o + j * 5 + 2, none⟩ = some (.string t.1.by_.s) ∧ w.cell? ⟨b, o + j * 5 + 3, none⟩ = some (.string t.1.name) ∧ w.cell? ⟨b, o + j * 5 + 4, none⟩ = some t.2) ∧ Ts w t.2 t.1.args := by
  obtain ⟨a', cap', e, hl, hm, ht⟩ := h
  simp only [Value.slice.injEq] at e
  obtain ⟨rfl, rfl, rfl⟩ := e
  obtain ⟨t, htj⟩ : ∃ t, l[j]? = some t := ⟨_, List.getElem?_eq_getElem hj⟩
  rcases hm with rfl | ⟨b, o, rfl, hr⟩
  · simp at hj
  · exact ⟨b, o, t, rfl, htj, hr.1, hr.2 j t htj, ht t (List.mem_of_getElem? htj)⟩
theorem Es.get5 {w : World} {a : Option Addr} {n cap j : Nat} {l : List Te} (h : Es w (.slice a n cap) l) (hj : j < n) :
    ∃ (b o : Nat) (t : Te), a = some ⟨b, o, none⟩ ∧ l[j]? = some t ∧ b < w.heap.size ∧ w.cell? ⟨b, o + j * 7, none⟩ = some (.int .i64 t.op) ∧ w.cell? ⟨b, o + j * 7 + 1, none⟩ = some (.int .i64 t.l.k) ∧ w.cell? ⟨b, o + j * 7 + 2, none⟩ = some (.int .i64 t.l.n) ∧ w.cell? ⟨b, o + j * 7 + 3, none⟩ = some (.string t.l.s) ∧ w.cell? ⟨b, o + j * 7 + 4, none⟩ = some (.int .i64 t.r.k) ∧ w.cell? ⟨b, o + j * 7 + 5, none⟩ = some (.int .i64 t.r.n) ∧ w.cell? ⟨b, o + j * 7 + 6, none⟩ = some (.string t.r.s) := by
  obtain ⟨a', cap', e, hl, hm⟩ := h
  simp only [Value.slice.injEq] at e
  obtain ⟨rfl, rfl, rfl⟩ := e
  obtain ⟨t, htj⟩ : ∃ t, l[j]? = some t := ⟨_, List.getElem?_eq_getElem hj⟩
  rcases hm with rfl | ⟨b, o, rfl, hr⟩
  · simp at hj
  · exact ⟨b, o, t, rfl, htj, hr.1, hr.2 j t htj⟩
end Go.Proofs.YtnikmcmkbjjcdaaGreatDoor
