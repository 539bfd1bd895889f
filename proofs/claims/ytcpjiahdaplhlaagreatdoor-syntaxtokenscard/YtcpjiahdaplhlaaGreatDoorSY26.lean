import Derived.Test.YtcpjiahdaplhlaaGreatDoorPR3
import Derived.Test.YtcpjiahdaplhlaaGreatDoorSY22
import Derived.Test.YtcpjiahdaplhlaaGreatDoorSY25
/-
  syntax: Print.
-/
namespace Go.Proofs.YtcpjiahdaplhlaaGreatDoor
open Go.RowKit
attribute [local go_sem ↓] Go.wp_at_zero Go.wp_at_succ

/-- A clause's text. -/
def pbs5 (x : Ck) : List ByteArray := x.2.1.map pa5 ++ x.2.2.map pe5
def pc5 (x : Ck) : ByteArray := if ch5 x = 0 then (if pbs5 x = [] then pa5 x.1 else pa5 x.1 ++ ((⟨#[32, 58, 45, 32]⟩ : ByteArray) ++ jn5 (pbs5 x) ⟨#[44, 32]⟩)) ++ (⟨#[46]⟩ : ByteArray) else ⟨#[]⟩
theorem chk_long5 {c : Cm} (h : c.chk = 0) : c.body.length ≤ 8 ∧ c.tests.length ≤ 8 := by
  cases hl : long c with
  | true =>
    unfold Cm.chk Cm.rs at h
    rw [hl] at h
    exact absurd h (by show ¬ (31 : Int) = 0; decide)
  | false =>
    unfold long at hl
    simp at hl
    exact hl
theorem pe5_len (t : Te) (hl : N64 t.l.n) (hr : N64 t.r.n) : (pe5 t).size ≤ 4000 := by
  have l1 := pt5_len t.l hl
  have l2 := pt5_len t.r hr
  have l3 := sg5_len t.op
  unfold pe5
  have e : (⟨#[32]⟩ : ByteArray).size = 1 := rfl
  rw [ByteArray.size_append, ByteArray.size_append, ByteArray.size_append, ByteArray.size_append]
  omega
set_option maxRecDepth 20000 in
set_option maxHeartbeats 4000000 in
theorem print5_any (c : Cm) (w : World) (h : c.ok w) (hwf : c.wf) (hn : ∀ t ∈ c.terms, N64 t.n) (hE : EnvOk w) (hO : OpsOk w) :
    Calls Tryz.prog 24 #[c.v] w fun e w' => e = .returned (.string (pc5 c.key)) ∧ Below w.heap.size w w' := by
  have HB0 := hm7 (below1 w (.cells c.cs 53))
  have HX0 : Hid (Bk (w.alloc (.cells c.cs 53)) w.heap.size c.cs 53) := Bk.new w c.cs 53
  have HCK := hm7 (check9_any c _ (h.later HB0.out) hwf)
  have HPA : Hid (∀ p ∈ c.atoms, ∀ X : World, Below w.heap.size w X → Calls Tryz.prog 19 #[p.1.v p.2] X fun e w' => e = .returned (.string (pa5 p.1)) ∧ Below X.heap.size X w') := fun p hp X hX => by
    refine printAtom_any p.1 p.2 X ?_ (fun t ht => hn t ?_) (hE.later hX)
    · rcases List.mem_cons.1 hp with rfl | hp
      · exact h.h.later hX
      · obtain ⟨-, -, -, -, -, h5⟩ := h.b
        exact (h5 p hp).later hX
    · exact List.mem_append_left _ (List.mem_flatMap.2 ⟨p, hp, ht⟩)
  have HPE : Hid (∀ t ∈ c.tests, ∀ X : World, Below w.heap.size w X → Calls Tryz.prog 59 #[t.v] X fun e w' => e = .returned (.string (pe5 t)) ∧ Below X.heap.size X w') := fun t ht X hX => printTest_any t (hn _ (List.mem_append_right _ (List.mem_flatMap.2 ⟨t, ht, by simp⟩))) (hn _ (List.mem_append_right _ (List.mem_flatMap.2 ⟨t, ht, by simp⟩))) X (hE.later hX) (hO.fr (P := fun _ => False) (Fr.of hX) fun h => h)
  have HLA : Hid (∀ p ∈ c.atoms, (pa5 p.1).size ≤ 4000) := fun p hp => pa5_len p.1 fun t ht => hn t (List.mem_append_left _ (List.mem_flatMap.2 ⟨p, hp, ht⟩))
  have HLE : Hid (∀ t ∈ c.tests, (pe5 t).size ≤ 4000) := fun t ht => pe5_len t (hn _ (List.mem_append_right _ (List.mem_flatMap.2 ⟨t, ht, by simp⟩))) (hn _ (List.mem_append_right _ (List.mem_flatMap.2 ⟨t, ht, by simp⟩)))
  have HCH : Hid (c.chk = 0 → c.body.length ≤ 8 ∧ c.tests.length ≤ 8) := chk_long5
  obtain ⟨⟨⟨⟨hk, hnn, hs⟩, hm, ha⟩, hv⟩, body, bv, tests, tv⟩ := c
  obtain ⟨⟨a1, n1, cp1, e1⟩, ⟨a2, cp2, e2⟩, ⟨a3, cp3, e3⟩, -, -⟩ := h.shape
  dsimp only at e1 e2 e3
  obtain ⟨bn, hbn⟩ : ∃ n, body.length = n := ⟨_, rfl⟩
  obtain ⟨tn, htn⟩ : ∃ n, tests.length = n := ⟨_, rfl⟩
  rw [hbn] at e2
  rw [htn] at e3
  subst e1
  subst e2
  subst e3
  have HBN := hm7 hbn
  have HTN := hm7 htn
  have HHB : Hid (As w (.slice a2 bn cp2) body) := h.b
  have HHT : Hid (Es w (.slice a3 tn cp3) tests) := h.t
  obtain ⟨R, hR⟩ : ∃ R, pc5 (Cm.key ⟨(⟨⟨hk, hnn, hs⟩, hm, ha⟩, .slice a1 n1 cp1), body, .slice a2 bn cp2, tests, .slice a3 tn cp3⟩) = R := ⟨_, rfl⟩
  rw [hR]
  unfold pc5 at hR
  rw [← chk_ch5] at hR
  obtain ⟨er, her⟩ : ∃ er, Cm.chk ⟨(⟨⟨hk, hnn, hs⟩, hm, ha⟩, .slice a1 n1 cp1), body, .slice a2 bn cp2, tests, .slice a3 tn cp3⟩ = er := ⟨_, rfl⟩
  rw [her] at hR HCK HCH
  dsimp only at HB0 HX0 HCK HCH HPA HPE HLA HLE
  rw [hbn, htn] at HCH
  clear h hwf hn hE hO her hbn htn
  show Calls Tryz.prog 24 #[.agg #[.int .i64 hk, .int .i64 hnn, .string hs, .string hm, .slice a1 n1 cp1, .slice a2 bn cp2, .slice a3 tn cp3]] w _
  have c0 := HX0.out.cell (i := 0) rfl
  have c1 := HX0.out.cell (i := 1) rfl
  have c2 := HX0.out.cell (i := 2) rfl
  have c3 := HX0.out.cell (i := 3) rfl
  have c4 := HX0.out.cell (i := 4) rfl
  have c5 := HX0.out.cell (i := 5) rfl
  have c6 := HX0.out.cell (i := 6) rfl
  by_cases he : er = 0
  · subst he
    rw [if_pos rfl] at hR
    obtain ⟨hb8, ht8⟩ := HCH.out rfl
    have HR := hm7 hR
    clear hR
    go_enter Tryz.func24, Tryz.ntmps24
    go_upto_region 4 with (go_at_call 58; refine HCK.out.mono ?_; rintro e WW ⟨rfl, hb⟩; have HBW := hm7 (HB0.out.trans (hb.mono HB0.out.size)); have HX1 := hm7 (HX0.out.below hb); clear hb c0 c1 c2 c3 c4 c5 c6; have c5 := HX1.out.cell (i := 5) rfl)
    have HWZ : Hid (w.heap.size < WW.heap.size) := HX1.out.lt
    go_wp2
    clear c5
    go_loopg [3, 5, 15] bn (fun gk u _ i wr => ∃ j : Nat, j + gk = bn ∧ i = .int .i64 j ∧ wr.ownsRow WW.heap.size 9 1 u j (((body.take j).map fun p => pa5 p.1).map Value.string) ∧ Below WW.heap.size WW wr)
    case atStart => exact ⟨0, by omega, rfl, World.ownsRow_nil _ _ _ _, Below.refl _ _⟩
    case round =>
      obtain ⟨j, hj, rfl, ho, hb⟩ := hrel
      have HB := hm7 hb
      have HO := hm7 ho
      obtain ⟨ua, uc, huf, -⟩ := row7_form ho
      subst huf
      have hsz := hb.size
      clear hb ho
      cases gk with
      | succ gk =>
        have hlt : (j : Int) < (bn : Int) := by omega
        obtain ⟨p, hp⟩ : ∃ p, body[j]? = some p := ⟨body[j]'(by rw [HBN.out]; omega), List.getElem?_eq_getElem _⟩
        have HTK : Hid (body.take (j + 1) = body.take j ++ [p]) := by show _ = _; rw [List.take_add_one, hp]; rfl
        have HTM := hm7 (HPA.out p (List.mem_cons_of_mem _ (List.mem_of_getElem? hp)))
        obtain ⟨ya2, yc2, hyf2, -, hyr2, hts⟩ := HHB.out
        rw [HBN.out] at hyf2
        cases hyf2
        obtain ⟨pa, pn, hpf, -⟩ := hts p (List.mem_of_getElem? hp)
        rcases hyr2 with e | ⟨tb, toff, rfl, htr⟩
        · rw [e] at hp; simp at hp
        have HWR := hm7 (HBW.out.trans (HB.out.mono HBW.out.size))
        obtain ⟨q0, q1, q2, q3, q4⟩ := htr.2 j p hp
        have d0 := (Fr.of (P := fun _ => False) HWR.out).cell htr.1 (fun z => z) q0
        have d1 := (Fr.of (P := fun _ => False) HWR.out).cell htr.1 (fun z => z) q1
        have d2 := (Fr.of (P := fun _ => False) HWR.out).cell htr.1 (fun z => z) q2
        have d3 := (Fr.of (P := fun _ => False) HWR.out).cell htr.1 (fun z => z) q3
        have d4 := (Fr.of (P := fun _ => False) HWR.out).cell htr.1 (fun z => z) q4
        clear htr hp hts q0 q1 q2 q3 q4
        obtain ⟨⟨⟨tk, tn2, ts⟩, nm, al⟩, pv⟩ := p
        dsimp only at d0 d1 d2 d3 d4 hpf
        generalize al.length = aln at hpf
        subst hpf
        have HB1x := hm7 (below1 wr (.cells #[.int .i64 tk, .int .i64 tn2, .string ts, .string nm, .slice pa aln pn] 42))
        obtain ⟨px, hpx⟩ : ∃ px, pa5 ⟨⟨tk, tn2, ts⟩, nm, al⟩ = px := ⟨_, rfl⟩
        dsimp only at HTM
        rw [hpx] at HTM
        have HPX := hm7 hpx
        clear hpx
        go_wp2_with (first
          | (go_at_call 19; refine (HTM.out _ (HWR.out.trans (HB1x.out.mono HWR.out.size))).mono ?_; rintro e w5 ⟨rfl, hb⟩; have HB5 := hm7 (HB1x.out.trans (hb.mono HB1x.out.size)); clear hb d0 d1 d2 d3 d4; have HO5 := hm7 (row7_below (row7_below HO.out HB5.out) (below1 w5 (.cells #[.string px] 9))); have hsz5 := HB5.out.size)
          | (at_builtin; refine gapp5 Tryz.underlying68 Tryz.infoStr5 rfl (by decide) (by decide) rfl _ _ rfl WW.heap.size (.slice ua j uc) j _ rfl HO5.out w5.heap.size #[.string px] rfl (Bk.new _ _ _) rfl (by simp [Value.oneCell']) (by omega) (by simp; omega) ?_; intro g6 q6 w6 ho6 hg6 hv6 hl6; have HO6 := hm7 ho6; have HG6 := hm7 hg6; clear ho6 hg6 hv6 hl6))
        have HF6 : Hid (Fr (fun b => WW.heap.size ≤ b) (w5.alloc (.cells #[.string px] 9)) w6) := Fr.grown HG6.out fun b hb => (World.ownsRow.lt HO5.out b hb).1
        try go_wp2
        go_roundg gk
        case measure => omega
        case rel =>
          refine ⟨j + 1, by omega, by go_num, ?_, ?_⟩
          · rw [HTK.out, List.map_append, List.map_append]
            have := HO6.out
            simpa [HPX.out] using this
          · exact HB.out.trans (Fr.low (((Fr.of (P := fun b => WW.heap.size ≤ b) HB5.out).then (below1 _ _)).tr HF6.out) hsz)
      | zero =>
        obtain rfl : j = bn := by omega
        have hlt : ¬ (j : Int) < (j : Int) := by omega
        have HOB : Hid (wr.ownsRow WW.heap.size 9 1 (.slice ua j uc) j ((body.map fun p => pa5 p.1).map Value.string)) := by
          have := HO.out
          rw [List.take_of_length_le (by rw [HBN.out]; exact Nat.le_refl _)] at this
          exact this
        clear HO
        have HX2 := hm7 (HX1.out.below (HB.out.mono (Nat.le_refl _)))
        have c6 := HX2.out.cell (i := 6) rfl
        obtain ⟨W8, hW8⟩ : ∃ W8, W8 = wr := ⟨_, rfl⟩
        subst hW8
        go_wp2
        clear c6
        go_loopg [3, 7, 28] tn (fun gk u _ i wr => ∃ k : Nat, k + gk = tn ∧ i = .int .i64 k ∧ wr.ownsRow WW.heap.size 9 1 u (j + k) ((body.map fun p => pa5 p.1).map Value.string ++ ((tests.take k).map pe5).map Value.string) ∧ Below WW.heap.size WW wr)
        case atStart => exact ⟨0, by omega, rfl, by simpa using HOB.out, HB.out⟩
        case round =>
          obtain ⟨k, hk', rfl, ho, hb⟩ := hrel
          have HB2 := hm7 hb
          have HO2 := hm7 ho
          obtain ⟨ua2, uc2, huf, -⟩ := row7_form ho
          subst huf
          have hsz2 := hb.size
          clear hb ho HOB HB
          cases gk with
          | succ gk =>
            have hlt2 : (k : Int) < (tn : Int) := by omega
            obtain ⟨t, ht⟩ : ∃ t, tests[k]? = some t := ⟨tests[k]'(by rw [HTN.out]; omega), List.getElem?_eq_getElem _⟩
            have HTK : Hid (tests.take (k + 1) = tests.take k ++ [t]) := by show _ = _; rw [List.take_add_one, ht]; rfl
            have HTM := hm7 (HPE.out t (List.mem_of_getElem? ht))
            obtain ⟨ya2, yc2, hyf2, -, hyr2⟩ := HHT.out
            rw [HTN.out] at hyf2
            cases hyf2
            rcases hyr2 with e | ⟨tb, toff, rfl, htr⟩
            · rw [e] at ht; simp at ht
            have HWR := hm7 (HBW.out.trans (HB2.out.mono HBW.out.size))
            obtain ⟨q0, q1, q2, q3, q4, q5, q6⟩ := htr.2 k t ht
            have d0 := (Fr.of (P := fun _ => False) HWR.out).cell htr.1 (fun z => z) q0
            have d1 := (Fr.of (P := fun _ => False) HWR.out).cell htr.1 (fun z => z) q1
            have d2 := (Fr.of (P := fun _ => False) HWR.out).cell htr.1 (fun z => z) q2
            have d3 := (Fr.of (P := fun _ => False) HWR.out).cell htr.1 (fun z => z) q3
            have d4 := (Fr.of (P := fun _ => False) HWR.out).cell htr.1 (fun z => z) q4
            have d5 := (Fr.of (P := fun _ => False) HWR.out).cell htr.1 (fun z => z) q5
            have d6 := (Fr.of (P := fun _ => False) HWR.out).cell htr.1 (fun z => z) q6
            clear htr ht q0 q1 q2 q3 q4 q5 q6
            obtain ⟨op, ⟨lk, ln, ls⟩, ⟨rk, rn, rs⟩⟩ := t
            dsimp only at d0 d1 d2 d3 d4 d5 d6
            have HB1x := hm7 (below1 wr (.cells #[.int .i64 op, .int .i64 lk, .int .i64 ln, .string ls, .int .i64 rk, .int .i64 rn, .string rs] 85))
            obtain ⟨px, hpx⟩ : ∃ px, pe5 ⟨op, ⟨lk, ln, ls⟩, ⟨rk, rn, rs⟩⟩ = px := ⟨_, rfl⟩
            rw [hpx] at HTM
            have HPX := hm7 hpx
            clear hpx
            have hjk : ((j + k : Nat) : Int) = (j : Int) + (k : Int) := by omega
            have hjk8 : j + k ≤ 16 := by omega
            obtain ⟨jk, hjke⟩ : ∃ jk, j + k = jk := ⟨_, rfl⟩
            rw [hjke] at HO2 hjk8 hjk
            rw [hjke]
            have HJK := hm7 hjke
            clear hjk hjke
            go_wp2_with (first
              | (go_at_call 59; refine (HTM.out _ (HWR.out.trans (HB1x.out.mono HWR.out.size))).mono ?_; rintro e w5 ⟨rfl, hb⟩; have HB5 := hm7 (HB1x.out.trans (hb.mono HB1x.out.size)); clear hb d0 d1 d2 d3 d4 d5 d6; have HO5 := hm7 (row7_below (row7_below HO2.out HB5.out) (below1 w5 (.cells #[.string px] 9))); have hsz5 := HB5.out.size)
              | (at_builtin; refine gapp5 Tryz.underlying68 Tryz.infoStr5 rfl (by decide) (by decide) rfl _ _ rfl WW.heap.size (.slice ua2 jk uc2) jk _ rfl HO5.out w5.heap.size #[.string px] rfl (Bk.new _ _ _) rfl (by simp [Value.oneCell']) (by omega) (by simp; omega) ?_; intro g6 q6 w6 ho6 hg6 hv6 hl6; have HO6 := hm7 ho6; have HG6 := hm7 hg6; clear ho6 hg6 hv6 hl6))
            have HF6 : Hid (Fr (fun b => WW.heap.size ≤ b) (w5.alloc (.cells #[.string px] 9)) w6) := Fr.grown HG6.out fun b hb => (World.ownsRow.lt HO5.out b hb).1
            try go_wp2
            go_roundg gk
            case measure => omega
            case rel =>
              refine ⟨k + 1, by omega, by go_num, ?_, ?_⟩
              · rw [HTK.out, List.map_append, List.map_append, ← List.append_assoc, show j + (k + 1) = jk + 1 by rw [← HJK.out]; omega]
                have := HO6.out
                simpa [HPX.out] using this
              · exact HB2.out.trans (Fr.low (((Fr.of (P := fun b => WW.heap.size ≤ b) HB5.out).then (below1 _ _)).tr HF6.out) hsz2)
          | zero =>
            obtain rfl : k = tn := by omega
            have hlt2 : ¬ (k : Int) < (k : Int) := by omega
            have HOA : Hid (wr.ownsRow WW.heap.size 9 1 (.slice ua2 (j + k) uc2) (pbs5 (Cm.key ⟨(⟨⟨hk, hnn, hs⟩, hm, ha⟩, .slice a1 n1 cp1), body, .slice a2 j cp2, tests, .slice a3 k cp3⟩)).length ((pbs5 (Cm.key ⟨(⟨⟨hk, hnn, hs⟩, hm, ha⟩, .slice a1 n1 cp1), body, .slice a2 j cp2, tests, .slice a3 k cp3⟩)).map Value.string)) := by
              have h1 := HO2.out
              rw [List.take_of_length_le (by rw [HTN.out]; exact Nat.le_refl _)] at h1
              have h2 : pbs5 (Cm.key ⟨(⟨⟨hk, hnn, hs⟩, hm, ha⟩, .slice a1 n1 cp1), body, .slice a2 j cp2, tests, .slice a3 k cp3⟩) = (body.map fun p => pa5 p.1) ++ tests.map pe5 := by
                show (fsts body).map pa5 ++ tests.map pe5 = _
                unfold fsts
                rw [List.map_map]
                rfl
              show World.ownsRow _ _ _ _ _ _ _
              rw [h2, List.length_append, List.length_map, List.length_map, HBN.out, HTN.out, List.map_append]
              exact h1
            have HLL : Hid ((pbs5 (Cm.key ⟨(⟨⟨hk, hnn, hs⟩, hm, ha⟩, .slice a1 n1 cp1), body, .slice a2 j cp2, tests, .slice a3 k cp3⟩)).length = j + k ∧ ∀ x ∈ pbs5 (Cm.key ⟨(⟨⟨hk, hnn, hs⟩, hm, ha⟩, .slice a1 n1 cp1), body, .slice a2 j cp2, tests, .slice a3 k cp3⟩), x.size ≤ 4000) := by
              have h2 : pbs5 (Cm.key ⟨(⟨⟨hk, hnn, hs⟩, hm, ha⟩, .slice a1 n1 cp1), body, .slice a2 j cp2, tests, .slice a3 k cp3⟩) = (body.map fun p => pa5 p.1) ++ tests.map pe5 := by
                show (fsts body).map pa5 ++ tests.map pe5 = _
                unfold fsts
                rw [List.map_map]
                rfl
              show _ ∧ _
              rw [h2, List.length_append, List.length_map, List.length_map, HBN.out, HTN.out]
              refine ⟨rfl, fun x hx => ?_⟩
              rcases List.mem_append.1 hx with hx | hx
              · obtain ⟨p, hp, rfl⟩ := List.mem_map.1 hx
                exact HLA.out p (List.mem_cons_of_mem _ hp)
              · obtain ⟨t, ht, rfl⟩ := List.mem_map.1 hx
                exact HLE.out t ht
            have HR3 := hm7 HR.out
            revert HOA HLL HR3
            generalize pbs5 (Cm.key ⟨(⟨⟨hk, hnn, hs⟩, hm, ha⟩, .slice a1 n1 cp1), body, .slice a2 j cp2, tests, .slice a3 k cp3⟩) = bs
            intro HOA HLL HR3
            have hph := HLA.out (⟨⟨hk, hnn, hs⟩, hm, ha⟩, .slice a1 n1 cp1) (List.mem_cons_self ..)
            have HPH := hm7 (HPA.out (⟨⟨hk, hnn, hs⟩, hm, ha⟩, .slice a1 n1 cp1) (List.mem_cons_self ..))
            dsimp only at hph HPH
            obtain ⟨ph, hphe⟩ : ∃ ph, pa5 ⟨⟨hk, hnn, hs⟩, hm, ha⟩ = ph := ⟨_, rfl⟩
            have HR4 : Hid ((if bs = [] then ph else ph ++ ((⟨#[32, 58, 45, 32]⟩ : ByteArray) ++ jn5 bs ⟨#[44, 32]⟩)) ++ (⟨#[46]⟩ : ByteArray) = R) := by
              have := HR3.out
              show _ = _
              rw [← hphe]
              exact this
            rw [hphe] at hph HPH
            have HWR := hm7 (HBW.out.trans (HB2.out.mono HBW.out.size))
            have HX3 := hm7 (HX1.out.below HB2.out)
            have c0 := HX3.out.cell (i := 0) rfl
            have c1 := HX3.out.cell (i := 1) rfl
            have c2 := HX3.out.cell (i := 2) rfl
            have c3 := HX3.out.cell (i := 3) rfl
            have c4 := HX3.out.cell (i := 4) rfl
            clear hphe HR HR3 HO2 HPA HPE HCK
            obtain ⟨jk, hjk⟩ : ∃ jk, j + k = jk := ⟨_, rfl⟩
            rw [hjk] at HOA HLL
            have hjk16 : jk ≤ 16 := by omega
            rw [hjk]
            clear hjk
            by_cases hz : jk = 0
            · have hbs : bs = [] := List.eq_nil_of_length_eq_zero (by rw [HLL.out.1]; exact hz)
              have hR5 := HR4.out
              rw [if_pos hbs] at hR5
              subst hz
              have g1 : ¬ 9223372036854775807 < ph.size + 1 := by omega
              clear hbs HR4
              go_wp2_with (go_at_call 19; refine (HPH.out _ HWR.out).mono ?_; rintro e w7 ⟨rfl, hb⟩; have HB7 := hm7 (HWR.out.trans (hb.mono HWR.out.size)); clear hb)
              go_ret
              exact ⟨rfl, HB7.out⟩
            · have hbs : bs ≠ [] := fun e => hz (by rw [← HLL.out.1, e]; rfl)
              have hR5 := HR4.out
              rw [if_neg hbs] at hR5
              have hz1 : (0 : Int) < (jk : Int) := by omega
              have HJX : Hid (∀ X : World, Below wr.heap.size wr X → Calls Tryz.prog 55 #[.slice ua2 jk uc2, .string ⟨#[44, 32]⟩] X fun e w' => e = .returned (.string (jn5 bs ⟨#[44, 32]⟩)) ∧ Below X.heap.size X w') := fun X hX => join5_any bs ⟨#[44, 32]⟩ _ X WW.heap.size (row7_below HOA.out hX) hbs (fun x hx => by have := HLL.out.2 x hx; omega) (by rw [HLL.out.1]; omega) (by decide)
              have hjl := jn5_len 4000 bs ⟨#[44, 32]⟩ HLL.out.2
              rw [HLL.out.1, show (⟨#[44, 32]⟩ : ByteArray).size = 2 from rfl] at hjl
              obtain ⟨jn, hjn⟩ : ∃ jn, jn5 bs ⟨#[44, 32]⟩ = jn := ⟨_, rfl⟩
              rw [hjn] at HJX hR5 hjl
              have hjl2 : jn.size ≤ 64032 := Nat.le_trans hjl (Nat.mul_le_mul_left _ hjk16)
              obtain ⟨A1, hA1⟩ : ∃ A, (⟨#[32, 58, 45, 32]⟩ : ByteArray) ++ jn = A := ⟨_, rfl⟩
              have s1 : A1.size ≤ 64036 := by rw [← hA1, ByteArray.size_append]; have : (⟨#[32, 58, 45, 32]⟩ : ByteArray).size = 4 := rfl; omega
              rw [hA1] at hR5
              obtain ⟨A2, hA2⟩ : ∃ A, ph ++ A1 = A := ⟨_, rfl⟩
              have s2 : A2.size ≤ 70000 := by rw [← hA2, ByteArray.size_append]; omega
              rw [hA2] at hR5
              have g1 : ¬ 9223372036854775807 < 4 + jn.size := by omega
              have g2 : ¬ 9223372036854775807 < ph.size + A1.size := by omega
              have g3 : ¬ 9223372036854775807 < A2.size + 1 := by omega
              clear hbs HR4 hjn hjl hjl2 s1 s2 hph
              go_wp2_with (first
                | (go_at_call 19; refine (HPH.out _ HWR.out).mono ?_; rintro e w7 ⟨rfl, hb⟩; have HB7 := hm7 hb; clear hb)
                | (go_at_call 55; refine (HJX.out _ HB7.out).mono ?_; rintro e w8 ⟨rfl, hb⟩; have HB8 := hm7 (HWR.out.trans ((HB7.out.trans (hb.mono HB7.out.size)).mono HWR.out.size)); clear hb))
              go_ret
              exact ⟨rfl, HB8.out⟩
  · have he1 : (er == 0) = false := by simp [he]
    have he2 : (er != 0) = true := by simp [he]
    rw [if_neg he] at hR
    subst hR
    go_enter Tryz.func24, Tryz.ntmps24
    go_wp2_with (go_at_call 58; refine HCK.out.mono ?_; rintro e w1 ⟨rfl, hb⟩; have HB1 := hm7 (HB0.out.trans (hb.mono HB0.out.size)); clear hb)
    go_ret
    exact ⟨rfl, HB1.out⟩
end Go.Proofs.YtcpjiahdaplhlaaGreatDoor
/-
  syntax: Program; law 5's first.
-/
namespace Go.Proofs.YtcpjiahdaplhlaaGreatDoor
open Go.RowKit
attribute [local go_sem ↓] Go.wp_at_zero Go.wp_at_succ

theorem pair_put {w : World} {g : Nat} {t : TypeId} {x y a b : Value} (h : Bk w g #[x, y] t) : Bk ((w.setCell ⟨g, 0, none⟩ a).setCell ⟨g, 1, none⟩ b) g #[a, b] t := by
  have := (h.set 0 a).set 1 b
  simpa using this
set_option maxRecDepth 20000 in
set_option maxHeartbeats 2000000 in
theorem program_any (s : ByteArray) (hs : s.size ≤ 9000000) (w : World) (hE : EnvOk w) (hO : OpsOk w) :
    Calls Tryz.prog 11 #[.string s] w (ReP w (pg5 s 1048576)) := by
  have HB0 := hm7 (below1 w (.cells #[.int .i64 0, .int .i64 0] 26))
  have HR0 := hm7 (Bk.new w #[.int .i64 0, .int .i64 0] 26)
  have HRD := hm7 (readC_any s 1048576 hs (by decide) _ (hE.later HB0.out) (hO.fr (P := fun _ => False) (Fr.of HB0.out) fun h => h))
  obtain ⟨R, hR⟩ : ∃ R, pg5 s 1048576 = R := ⟨_, rfl⟩
  rw [hR] at HRD ⊢
  clear hE hO hR
  have HWZ : Hid ((w.alloc (.cells #[.int .i64 0, .int .i64 0] 26)).heap.size = w.heap.size + 1) := by show _ = _; simp
  go_enter Tryz.func11, Tryz.ntmps11
  go_wp2_with (go_at_call 39; refine HRD.out.mono ?_; rintro e W1 ⟨hb, v, c, a, rfl, hm⟩; have HM := hm7 hm; have HR1 := hm7 (HR0.out.below hb); have HB1 := hm7 (HB0.out.trans (hb.mono HB0.out.size)); have r0 := HR1.out.cell (i := 0) rfl; have r1 := HR1.out.cell (i := 1) rfl; have f0 := HR1.out.froz 0; have f1 := HR1.out.froz 1; have hrl := HR1.out.lt; clear hb hm)
  have HR2 := hm7 (pair_put (a := .int .i64 c) (b := .int .i64 a) HR1.out)
  have z0 := HR2.out.cell (i := 0) rfl
  have z1 := HR2.out.cell (i := 1) rfl
  refine bodyPost_ret (v := .tuple #[v, .agg #[.int .i64 c, .int .i64 a]]) (by simp [results, Tryz.results11, go_sem, z0, z1]) rfl ?_
  have hfq : Fr (fun b => b = w.heap.size) W1 ((W1.setCell ⟨w.heap.size, 0, none⟩ (.int .i64 c)).setCell ⟨w.heap.size, 1, none⟩ (.int .i64 a)) := ((Fr.refl (fun b => b = w.heap.size) _).set (Or.inl rfl)).set (Or.inl rfl)
  refine ⟨(HB1.out.setCell (p := ⟨w.heap.size, 0, none⟩) (Nat.le_refl _) _).setCell (p := ⟨w.heap.size, 1, none⟩) (Nat.le_refl _) _, v, c, a, rfl, ?_⟩
  have hm := HM.out
  cases R with
  | error f => exact hm
  | ok ks =>
    obtain ⟨h1, h2, l, h3, h4⟩ := hm
    refine ⟨h1, h2, l, h3, (h4.fr hfq fun b hb e => ?_).mono fun b _ hb => ?_⟩
    · have := HWZ.out; omega
    · have := HWZ.out; omega
/-- The text whose meaning the document fixes, and what is printed of it. -/
def fT1 : ByteArray := ⟨#[112, 40, 88, 41, 32, 58, 45, 32, 40, 113, 40, 88, 44, 32, 95, 41, 59, 32, 88, 32, 33, 61, 32, 51, 44, 32, 97, 110, 110, 32, 115, 97, 121, 115, 32, 114, 40, 88, 41, 41, 46]⟩
def fT2 : ByteArray := ⟨#[112, 40, 86, 48, 41, 32, 58, 45, 32, 97, 110, 110, 32, 115, 97, 121, 115, 32, 114, 40, 86, 48, 41, 44, 32, 86, 48, 32, 33, 61, 32, 51, 46]⟩
def okF : Bool := match pg5 fT1 1048576 with
  | .ok [a, b] => decide (a.2.1.length = 1 ∧ b.2.2.length = 1 ∧ pc5 b = fT2 ∧ (∀ t ∈ Ck.terms b, (-9223372036854775808 ≤ t.n ∧ t.n ≤ 9223372036854775807)) ∧ (Ck.terms b).length ≤ 100)
  | _ => false
set_option maxRecDepth 100000 in
theorem okF_yes : okF = true := by kernel_rfl
end Go.Proofs.YtcpjiahdaplhlaaGreatDoor
