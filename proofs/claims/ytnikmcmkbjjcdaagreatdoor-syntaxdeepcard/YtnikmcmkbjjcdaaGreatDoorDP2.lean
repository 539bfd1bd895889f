import Derived.Test.YtnikmcmkbjjcdaaGreatDoorDP1
/-
  law 5: first.
-/
namespace Go.Proofs.YtnikmcmkbjjcdaaGreatDoor
open Go.RowKit
attribute [local go_sem ↓] Go.wp_at_zero Go.wp_at_succ

theorem neq_ft0 (w : World) : (binOp .neq 26 (.agg #[.int .i64 0, .int .i64 0]) (.agg #[.int .i64 0, .int .i64 0])).run Tryz.prog w = .ok (.bool false) w := by kernel_rfl
/-- What first's text says. -/
theorem first_pg : ∃ a b : Ck, pg5 fT1 1048576 = .ok [a, b] ∧ a.2.1.length = 1 ∧ b.2.2.length = 1 ∧ pc5 b = fT2 ∧ (∀ t ∈ Ck.terms b, N64 t.n) ∧ (Ck.terms b).length ≤ 100 := by
  have h := okF_yes
  unfold okF at h
  split at h
  · rename_i a b e
    obtain ⟨h1, h2, h3, h4, h5⟩ := of_decide_eq_true h
    exact ⟨a, b, e, h1, h2, h3, h4, h5⟩
  · cases h
theorem n64_wf {n : Int} (h : N64 n) : (Lit.int .i64 n).wf = true := by
  obtain ⟨h1, h2⟩ := h
  simp only [Lit.wf, IntKind.min, IntKind.max, Bool.and_eq_true]
  constructor <;> simp [IntKind.signed, IntKind.bits] <;> omega
theorem cc5_get : ∀ {l : List Cm} {j : Nat} {c : Cm}, l[j]? = some c → ∀ i u, (cc5 c)[i]? = some u → i < 7 → (l.flatMap cc5)[j * 7 + i]? = some u
  | [], j, t, h, i, u, hu, hi => by simp at h
  | y :: l, 0, t, h, i, u, hu, hi => by
    simp only [List.getElem?_cons_zero, Option.some.injEq] at h
    subst h
    rw [List.flatMap_cons, Nat.zero_mul, Nat.zero_add, List.getElem?_append_left (by simpa [cc5] using hi)]
    exact hu
  | y :: l, j + 1, t, h, i, u, hu, hi => by
    rw [List.getElem?_cons_succ] at h
    have ih := cc5_get h i u hu hi
    rw [List.flatMap_cons, List.getElem?_append_right (by simp [cc5]; omega), show (j + 1) * 7 + i - (cc5 y).length = j * 7 + i by simp [cc5]; omega]
    exact ih
set_option maxRecDepth 20000 in
set_option maxHeartbeats 4000000 in
theorem first5_any (w : World) (hE : EnvOk w) (hO : OpsOk w) :
    Calls Tryz.prog 9 #[] w fun e w' => e = .returned (.bool true) ∧ Below w.heap.size w w' := by
  obtain ⟨ka, kb, hpg, hla, hlb, hpc, hnb, hlen⟩ := first_pg
  have HPG := hm7 (program_any fT1 (by decide) w hE hO)
  rw [hpg] at HPG
  have HE := hm7 hE
  have HO := hm7 hO
  unfold fT1 at HPG
  clear hpg hE hO
  have hnq := neq_ft0
  go_enter Tryz.func9, Tryz.ntmps9
  go_upto_region 2 with (go_at_call 10; refine HPG.out.mono ?_; rintro e W1 ⟨hb, v, c, a, rfl, rfl, rfl, l, hk, hrl⟩; have hl2 : l.length = 2 := (by have := congrArg List.length hk; simpa using this); obtain ⟨vg, vc, hvf⟩ := row5_pos hrl.o (by omega); rw [hl2] at hvf; subst hvf; have HK := hm7 hk; have HRL := hm7 hrl; have HB1 := hm7 hb; have HL2 := hm7 hl2; clear hb hk hrl hl2)
  obtain ⟨d, e, hde⟩ : ∃ d e, l = [d, e] := by
    match l, HL2.out with
    | [d, e], _ => exact ⟨d, e, rfl⟩
  subst hde
  have hkd : d.key = ka ∧ e.key = kb := by
    have := HK.out
    simp only [List.map_cons, List.map_nil, List.cons.injEq, and_true] at this
    exact this
  have hod := (HRL.out.k d (by simp)).ok
  have hoe := (HRL.out.k e (by simp)).ok
  have hdl : d.body.length = 1 := by rw [(key_len d).1, hkd.1]; exact hla
  have hel : e.tests.length = 1 := by rw [(key_len e).2, hkd.2]; exact hlb
  have HPR : Hid (∀ X : World, Below W1.heap.size W1 X → Calls Tryz.prog 16 #[e.v] X fun e w' => e = .returned (.string fT2) ∧ Below X.heap.size X w') := fun X hX => by
    have := print5_any e X (hoe.later hX) ⟨fun t ht _ => n64_wf (hnb t (by rw [key_terms, hkd.2] at ht; exact ht)), by rw [key_terms, hkd.2]; omega⟩ (fun t ht => hnb t (by rw [key_terms, hkd.2] at ht; exact ht)) (HE.out.later (HB1.out.trans (hX.mono HB1.out.size))) (HO.out.fr (P := fun _ => False) (Fr.of (HB1.out.trans (hX.mono HB1.out.size))) fun h => h)
    rw [hkd.2, hpc] at this
    exact this
  obtain ⟨-, ⟨db, dbc, edb⟩, ⟨dt, dtc, edt⟩, -, -⟩ := hod.shape
  obtain ⟨⟨eh, ehn, ehc, eeh⟩, ⟨eb, ebc, eeb⟩, ⟨et, etc', eet⟩, -, -⟩ := hoe.shape
  rw [hdl] at edb
  rw [hel] at eet
  have HRO : Hid (W1.ownsRow 0 37 7 (.slice (some ⟨vg, 0, none⟩) 2 vc) 2 ([d, e].flatMap cc5)) := HRL.out.o
  have q5 := row5_cell HRO.out (cc5_get (l := [d, e]) (j := 0) rfl 5 d.bv rfl (by omega))
  have p0 := row5_cell HRO.out (cc5_get (l := [d, e]) (j := 1) rfl 0 _ rfl (by omega))
  have p1 := row5_cell HRO.out (cc5_get (l := [d, e]) (j := 1) rfl 1 _ rfl (by omega))
  have p2 := row5_cell HRO.out (cc5_get (l := [d, e]) (j := 1) rfl 2 _ rfl (by omega))
  have p3 := row5_cell HRO.out (cc5_get (l := [d, e]) (j := 1) rfl 3 _ rfl (by omega))
  have p4 := row5_cell HRO.out (cc5_get (l := [d, e]) (j := 1) rfl 4 _ rfl (by omega))
  have p5 := row5_cell HRO.out (cc5_get (l := [d, e]) (j := 1) rfl 5 _ rfl (by omega))
  have p6 := row5_cell HRO.out (cc5_get (l := [d, e]) (j := 1) rfl 6 _ rfl (by omega))
  rw [edb] at q5
  obtain ⟨⟨⟨⟨hk1, hn1, hs1⟩, hm1, ha1⟩, hv1⟩, body1, bv1, tests1, tv1⟩ := e
  dsimp only at eeh eeb eet HPR p0 p1 p2 p3 p4 p5 p6
  generalize body1.length = bl1 at eeb
  subst eeh
  subst eeb
  subst eet
  simp only [Nat.zero_mul, Nat.one_mul, Nat.zero_add, Nat.add_zero] at q5 p0 p1 p2 p3 p4 p5 p6
  have hvg := (World.ownsRow.lt HRO.out vg rfl).2
  have HB2 := hm7 (below1 W1 (.cells #[.int .i64 0, .int .i64 0] 26))
  have HFX := hm7 (Bk.new W1 #[.int .i64 0, .int .i64 0] 26)
  unfold fT2 at HPR
  clear hla hlb hpc hnb hlen hkd hod hoe hdl hel HK edt HPG
  have x0 := HFX.out.cell (i := 0) rfl
  have x1 := HFX.out.cell (i := 1) rfl
  go_upto_region 4 with fail
  go_wp2_with (go_at_call 16; refine (HPR.out _ HB2.out).mono ?_; rintro e w3 ⟨rfl, hb⟩; have HB3 := hm7 (HB1.out.trans ((HB2.out.trans (hb.mono HB2.out.size)).mono HB1.out.size)); clear hb)
  go_ret
  exact ⟨rfl, HB3.out⟩
end Go.Proofs.YtnikmcmkbjjcdaaGreatDoor
/-
  SyntaxDeep: the walk.
-/
namespace Go.Proofs.YtnikmcmkbjjcdaaGreatDoor
open Go.RowKit
attribute [local go_sem ↓] Go.wp_at_zero Go.wp_at_succ

theorem eql_ft5 (e p : Int) (w : World) : (binOp .eql 26 (.agg #[.int .i64 e, .int .i64 p]) (.agg #[.int .i64 e, .int .i64 p])).run Tryz.prog w = .ok (.bool true) w := by
  go_simp
theorem dx5_size (n : Nat) : (dx5 n).size = 5 + n := by
  induction n with
  | zero => rfl
  | succ n ih => rw [dx5, ByteArray.size_append, ih]; rfl
theorem dy5_size (n m : Nat) : (dy5 n m).size = 6 + n + m := by
  induction m with
  | zero => rw [dy5, ByteArray.size_append, dx5_size]; have : (⟨#[113]⟩ : ByteArray).size = 1 := rfl; omega
  | succ m ih => rw [dy5, ByteArray.size_append, ih]; have : (⟨#[41]⟩ : ByteArray).size = 1 := rfl; omega
set_option maxRecDepth 20000 in
set_option maxHeartbeats 4000000 in
theorem syntaxDeep_any (n m : Int) (w : World) (hE : EnvOk w) (hO : OpsOk w) :
    Calls Tryz.prog 3 #[.int .i64 n, .int .i64 m] w fun e w' => e = .returned (.bool true) ∧ Below w.heap.size w w' := by
  have HFI : Hid (∀ X : World, Below w.heap.size w X → Calls Tryz.prog 9 #[] X fun e w' => e = .returned (.bool true) ∧ Below X.heap.size X w') := fun X hX => first5_any X (hE.later hX) (hO.fr (P := fun _ => False) (Fr.of hX) fun h => h)
  by_cases hout : n < 0 ∨ 200 < n ∨ m < 0 ∨ 200 < m
  · clear hE hO
    have HF := hm7 (HFI.out w (Below.refl _ _))
    clear HFI
    by_cases h1 : n < 0
    · clear hout
      go_enter Tryz.func3, Tryz.ntmps3
      go_wp2_with (go_at_call 9; refine HF.out.mono ?_; rintro e w1 ⟨rfl, hb⟩; have HB := hm7 hb; clear hb)
      go_ret
      exact ⟨rfl, HB.out⟩
    · by_cases h2 : 200 < n
      · clear hout
        go_enter Tryz.func3, Tryz.ntmps3
        go_wp2_with (go_at_call 9; refine HF.out.mono ?_; rintro e w1 ⟨rfl, hb⟩; have HB := hm7 hb; clear hb)
        go_ret
        exact ⟨rfl, HB.out⟩
      · by_cases h3 : m < 0
        · clear hout
          go_enter Tryz.func3, Tryz.ntmps3
          go_wp2_with (go_at_call 9; refine HF.out.mono ?_; rintro e w1 ⟨rfl, hb⟩; have HB := hm7 hb; clear hb)
          go_ret
          exact ⟨rfl, HB.out⟩
        · have h4 : 200 < m := by omega
          clear hout
          go_enter Tryz.func3, Tryz.ntmps3
          go_wp2_with (go_at_call 9; refine HF.out.mono ?_; rintro e w1 ⟨rfl, hb⟩; have HB := hm7 hb; clear hb)
          go_ret
          exact ⟨rfl, HB.out⟩
  · obtain ⟨nn, rfl⟩ : ∃ k : Nat, n = k := ⟨n.toNat, by omega⟩
    obtain ⟨mm, rfl⟩ : ∃ k : Nat, m = k := ⟨m.toNat, by omega⟩
    have hn : nn ≤ 200 := by omega
    have hm : mm ≤ 200 := by omega
    have h1 : ¬ (nn : Int) < 0 := by omega
    have h2 : ¬ (200 : Int) < (nn : Int) := by omega
    have h3 : ¬ (mm : Int) < 0 := by omega
    have h4 : ¬ (200 : Int) < (mm : Int) := by omega
    have HPG := hm7 (program_any (dt5 nn mm) (by rw [dt5_size]; omega) w hE hO)
    rw [pg_dt nn mm hn hm] at HPG
    clear hE hO hout
    go_enter Tryz.func3, Tryz.ntmps3
    go_upto_region 4 with fail
    go_wp2
    clear h1 h2 h3 h4
    go_loopg [5, 6] nn (fun g tx i wr => ∃ j : Nat, j + g = nn ∧ i = .int .i64 j ∧ tx = .string (dx5 j) ∧ wr = w)
    case atStart => exact ⟨0, by omega, rfl, rfl, rfl⟩
    case round =>
      obtain ⟨j, hj, rfl, rfl, hw⟩ := hrel
      rw [hw]
      clear hw
      cases gk with
      | succ g =>
        have hlt : (j : Int) < (nn : Int) := by omega
        have hz := dx5_size j
        obtain ⟨A, hA⟩ : ∃ A, dx5 j ++ (⟨#[40]⟩ : ByteArray) = A := ⟨_, rfl⟩
        have HA : Hid (A = dx5 (j + 1)) := hA.symm
        have g1 : ¬ 9223372036854775807 < (dx5 j).size + 1 := by omega
        clear hz
        generalize dx5 j = X at *
        go_wp2
        go_roundg g
        case measure => omega
        case rel => exact ⟨j + 1, by omega, by go_num, by rw [HA.out], rfl⟩
      | zero =>
        obtain rfl : j = nn := by omega
        have hlt : ¬ (j : Int) < (j : Int) := by omega
        have hz := dx5_size j
        obtain ⟨A, hA⟩ : ∃ A, dx5 j ++ (⟨#[113]⟩ : ByteArray) = A := ⟨_, rfl⟩
        have HA : Hid (A = dy5 j 0) := hA.symm
        have g1 : ¬ 9223372036854775807 < (dx5 j).size + 1 := by omega
        clear hz
        generalize dx5 j = X at *
        go_wp2
        clear hA g1
        go_loopg [5, 7] mm (fun g tx i wr => ∃ k : Nat, k + g = mm ∧ i = .int .i64 k ∧ tx = .string (dy5 j k) ∧ wr = w)
        case atStart => exact ⟨0, by omega, rfl, by rw [HA.out], rfl⟩
        case round =>
          obtain ⟨k, hk, rfl, rfl, hw⟩ := hrel
          rw [hw]
          clear hw HA
          cases gk with
          | succ g =>
            have hlt2 : (k : Int) < (mm : Int) := by omega
            have hz := dy5_size j k
            obtain ⟨A, hA⟩ : ∃ A, dy5 j k ++ (⟨#[41]⟩ : ByteArray) = A := ⟨_, rfl⟩
            have HA : Hid (A = dy5 j (k + 1)) := hA.symm
            have g1 : ¬ 9223372036854775807 < (dy5 j k).size + 1 := by omega
            clear hz
            generalize dy5 j k = X at *
            go_wp2
            go_roundg g
            case measure => omega
            case rel => exact ⟨k + 1, by omega, by go_num, by rw [HA.out], rfl⟩
          | zero =>
            obtain rfl : k = mm := by omega
            have hlt2 : ¬ (k : Int) < (k : Int) := by omega
            have hz := dy5_size j k
            obtain ⟨A, hA⟩ : ∃ A, dy5 j k ++ (⟨#[46]⟩ : ByteArray) = A := ⟨_, rfl⟩
            have HA : Hid (dt5 j k = A) := hA
            have g1 : ¬ 9223372036854775807 < (dy5 j k).size + 1 := by omega
            clear hz
            generalize dy5 j k = X at *
            rw [HA.out] at HPG
            have heq := eql_ft5
            clear hj hk
            by_cases h16 : 16 < j
            · rw [if_pos h16] at HPG
              have h161 : (16 : Int) < (j : Int) := by omega
              clear h16 HA
              go_wp2_with (first
                | (go_at_call 10; refine HPG.out.mono ?_; rintro e W1 ⟨hb, v, c, a, rfl, hv, hc, ha⟩; subst hv hc ha; have HB1 := hm7 hb; have HB2 := hm7 (hb.trans ((below1 W1 (.cells #[.int .i64 52, .int .i64 21] 26)).mono hb.size)); clear hb)
                | (go_at_call 9; refine (HFI.out _ HB2.out).mono ?_; rintro e w3 ⟨rfl, hb⟩; have HB3 := hm7 (HB2.out.trans (hb.mono HB2.out.size)); clear hb))
              go_ret
              exact ⟨rfl, HB3.out⟩
            · rw [if_neg h16] at HPG
              have h161 : ¬ (16 : Int) < (j : Int) := by omega
              by_cases hjk : j < k
              · rw [if_pos hjk] at HPG
                have hjk1 : (j : Int) < (k : Int) := by omega
                have hc1 : ((6 + 2 * j : Nat) : Int) = 6 + 2 * (j : Int) := by omega
                rw [hc1] at HPG
                clear h16 hjk HA hc1
                go_wp2_with (first
                  | (go_at_call 10; refine HPG.out.mono ?_; rintro e W1 ⟨hb, v, c, a, rfl, hv, hc, ha⟩; subst hv hc ha; have HB1 := hm7 hb; have HB2 := hm7 (hb.trans ((below1 W1 (.cells #[.int .i64 51, .int .i64 (6 + 2 * (j : Int))] 26)).mono hb.size)); clear hb)
                  | (go_at_call 9; refine (HFI.out _ HB2.out).mono ?_; rintro e w3 ⟨rfl, hb⟩; have HB3 := hm7 (HB2.out.trans (hb.mono HB2.out.size)); clear hb))
                go_ret
                exact ⟨rfl, HB3.out⟩
              · rw [if_neg hjk] at HPG
                have hjk1 : ¬ (j : Int) < (k : Int) := by omega
                by_cases hkj : k < j
                · rw [if_pos hkj] at HPG
                  have hkj1 : (k : Int) < (j : Int) := by omega
                  have hc1 : ((6 + j + k : Nat) : Int) = 6 + (j : Int) + (k : Int) := by omega
                  rw [hc1] at HPG
                  clear h16 hjk hkj HA hc1
                  go_wp2_with (first
                    | (go_at_call 10; refine HPG.out.mono ?_; rintro e W1 ⟨hb, v, c, a, rfl, hv, hc, ha⟩; subst hv hc ha; have HB1 := hm7 hb; have HB2 := hm7 (hb.trans ((below1 W1 (.cells #[.int .i64 51, .int .i64 (6 + (j : Int) + (k : Int))] 26)).mono hb.size)); clear hb)
                    | (go_at_call 9; refine (HFI.out _ HB2.out).mono ?_; rintro e w3 ⟨rfl, hb⟩; have HB3 := hm7 (HB2.out.trans (hb.mono HB2.out.size)); clear hb))
                  go_ret
                  exact ⟨rfl, HB3.out⟩
                · rw [if_neg hkj] at HPG
                  have hkj1 : ¬ (k : Int) < (j : Int) := by omega
                  clear h16 hjk hkj HA
                  go_upto_region 15 with (go_at_call 10; refine HPG.out.mono ?_; rintro e W1 ⟨hb, v, c, a, rfl, rfl, rfl, l, hk, hrl⟩; have hl1 : l.length = 1 := (by have := congrArg List.length hk; simpa using this); obtain ⟨vg, vc, hvf⟩ := row5_pos hrl.o (by omega); rw [hl1] at hvf; subst hvf; have HK := hm7 hk; have HRL := hm7 hrl; have HB1 := hm7 hb; have HL1 := hm7 hl1; clear hb hk hrl hl1)
                  obtain ⟨d, hde⟩ : ∃ d, l = [d] := by
                    match l, HL1.out with
                    | [d], _ => exact ⟨d, rfl⟩
                  subst hde
                  have hkd : d.key = kDP := by
                    have := HK.out
                    simp only [List.map_cons, List.map_nil, List.cons.injEq, and_true] at this
                    exact this
                  have hod := (HRL.out.k d (by simp)).ok
                  have hbd : fsts d.body = [qAt5] := by
                    have : d.key.2.1 = [qAt5] := by rw [hkd]; exact kDP_body
                    exact this
                  obtain ⟨p, hp⟩ : ∃ p, d.body = [p] := by
                    have h1 : d.body.length = 1 := by have := congrArg List.length hbd; unfold fsts at this; simpa using this
                    match hb : d.body, h1 with
                    | [p], _ => exact ⟨p, rfl⟩
                  have hp1 : p.1 = qAt5 := by rw [hp] at hbd; simpa [fsts] using hbd
                  obtain ⟨ba, bc, hbv, -, hbr, -⟩ := hod.b
                  rw [hp] at hbv hbr
                  rcases hbr with e | ⟨bb, bo, rfl, har⟩
                  · cases e
                  have HRO : Hid (W1.ownsRow 0 37 7 (.slice (some ⟨vg, 0, none⟩) 1 vc) 1 ([d].flatMap cc5)) := HRL.out.o
                  have q5 := row5_cell HRO.out (cc5_get (l := [d]) (j := 0) rfl 5 d.bv rfl (by omega))
                  rw [hbv] at q5
                  have q3 := (har.2 0 p rfl).2.2.2.1
                  rw [hp1] at q3
                  have hnm : (Value.string qAt5.name) = .string ⟨#[113]⟩ := rfl
                  rw [hnm] at q3
                  simp only [Nat.zero_mul, Nat.zero_add, Nat.add_zero, List.length_singleton] at q5 q3
                  have hvg := (World.ownsRow.lt HRO.out vg rfl).2
                  have hbb := har.1
                  have HB2 := hm7 (HB1.out.trans ((below1 W1 (.cells #[.int .i64 0, .int .i64 0] 26)).mono HB1.out.size))
                  have HFX := hm7 (Bk.new W1 #[.int .i64 0, .int .i64 0] 26)
                  have x0 := HFX.out.cell (i := 0) rfl
                  have x1 := HFX.out.cell (i := 1) rfl
                  clear hkd hod hbd hp hp1 hbv har HK HRL HL1 hnm HPG
                  go_wp2_with (go_at_call 9; refine (HFI.out _ HB2.out).mono ?_; rintro e w3 ⟨rfl, hb⟩; have HB3 := hm7 (HB2.out.trans (hb.mono HB2.out.size)); clear hb)
                  go_ret
                  exact ⟨rfl, HB3.out⟩
end Go.Proofs.YtnikmcmkbjjcdaaGreatDoor
