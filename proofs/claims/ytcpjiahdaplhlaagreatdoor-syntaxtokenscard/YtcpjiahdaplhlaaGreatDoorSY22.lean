/-
  syntax: rule. (Written by SY22.py.)
-/
import Derived.Test.YtcpjiahdaplhlaaGreatDoorSY21
import Derived.Test.YtcpjiahdaplhlaaGreatDoorCL12
namespace Go.Proofs.YtcpjiahdaplhlaaGreatDoor
open Go.RowKit
attribute [local go_sem ↓] Go.wp_at_zero Go.wp_at_succ

/-- What rule answers. -/
def RuP (g N : Nat) (tv : Value) (T : List Tk) (L : Nat) (w : World) (R : Except (Int × Int) (List Ck × Nat)) (e : Ending) (w' : World) : Prop :=
  Fr (fun b => b = g) w w' ∧ match R with
    | .error f => e = .panicked [pF f]
    | .ok (ks, nx) => ∃ v l, e = .returned v ∧ l.map Cm.key = ks ∧ l ≠ [] ∧ l.length ≤ 64 ∧ RL (fun b => w.heap.size ≤ b) w' v l ∧ PB g N tv T L w' nx
theorem fr_g5 {g q : Nat} {N : Nat} {tv : Value} {T : List Tk} {L : Nat} {w w1 w2 : World} (h1 : Fr (fun b => b = g) w w1) (h2 : Fr (W5 ⟨g, q, N, tv, T, L⟩) w1 w2) (hq : w.heap.size ≤ q) : Fr (fun b => b = g) w w2 := h1.trans h2 fun b hb e => by
  rcases e with e | e
  · exact e
  · have e1 : b = q := e
    omega
set_option maxRecDepth 20000 in
set_option maxHeartbeats 8000000 in
theorem rule5_any (g N : Nat) (tv : Value) (T : List Tk) (L nx : Nat) (w : World) (h : PB g N tv T L w nx) :
    Calls Tryz.prog 81 #[.pointer (some ⟨g, 0, none⟩)] w (RuP g N tv T L w (rl5 T L nx)) := by
  have HBG := hm7 (begin5_any g N tv T L nx w h)
  have HPB := hm7 h
  have hT := h.ok.l
  have HGS := hm7 (gs_05 h.le)
  obtain ⟨c, hc⟩ : ∃ c : Pk, (⟨g, w.heap.size, w.heap.size + 1, tv, T, L⟩ : Pk) = c := ⟨_, rfl⟩
  have HFG : Hid (∀ w1 w2 : World, Fr (fun b => b = g) w w1 → Fr (W5 c) w1 w2 → Fr (fun b => b = g) w w2) := fun w1 w2 h1 h2 => by rw [← hc] at h2; exact fr_g5 h1 h2 (Nat.le_refl _)
  have HPZ : Hid (∀ (w' : World) (s : Ps), PZ c w' s → s.op = 0 → Fr (fun b => b = g) w w' → PB g N tv T L w' s.nx) := fun w' s h1 h2 h3 => by rw [← hc] at h1; exact h1.pb h2 HPB.out h3
  have HNB : Hid (∀ b, w.heap.size < b → ¬ W5 c b) := fun b hb e => by
    rw [← hc] at e
    have := h.gN; have := h.Nw
    rcases e with e | e
    · have e1 : b = g := e; omega
    · have e1 : b = w.heap.size := e; omega
  have HCN : Hid (c.N = w.heap.size + 1) := by rw [← hc]; exact rfl
  have hcg : c.g = g := by rw [← hc]
  have hcT : c.T = T := by rw [← hc]
  have hcL : c.L = L := by rw [← hc]
  rw [hc] at HBG
  have HAT : Hid (∀ X : World, PZ c X (s05 nx) → Calls Tryz.prog 84 #[.pointer (some ⟨g, 0, none⟩)] X (P5P c X (fun (a : At) v w' => ∃ y, v = a.v y ∧ Ot5 w' X.heap.size y a.args) (at5 T L (s05 nx)))) := fun X hX => by
    have := atom5_any c (s05 nx) X hX
    rw [hcg, hcT, hcL] at this
    exact this
  have HBD : Hid (∀ (X : World) (s : Ps), PZ c X s → Calls Tryz.prog 119 #[.pointer (some ⟨g, 0, none⟩)] X (P5P c X (VA 17 X) (bd5 T L s))) := fun X s hX => by
    have := body5_any c s X hX
    rw [hcg, hcT, hcL] at this
    exact this
  have HTK : Hid (∀ (X : World) (s : Ps), PZ c X s → Calls Tryz.prog 85 #[.pointer (some ⟨g, 0, none⟩), .slice (some ⟨X.heap.size, 0, none⟩) 1 1] (X.alloc (.cells #[.int .i64 10] 3)) (P5P c (X.alloc (.cells #[.int .i64 10] 3)) (fun (t : Tk) v _ => v = t.v) (tk5 T L [10] s))) := fun X s hX => by
    have := takeN5 10 (by decide) c s X hX
    rw [hcg, hcT, hcL] at this
    exact this
  clear h hc hcg hcT hcL
  obtain ⟨p0, hp0⟩ : ∃ p, pl5 T L (s05 nx) = p := ⟨_, rfl⟩
  rw [hp0] at HBG
  obtain ⟨R, hR⟩ : ∃ R, rl5 T L nx = R := ⟨_, rfl⟩
  rw [hR]
  unfold rl5 rh5 at hR
  rw [hp0] at hR
  clear hp0
  go_enter Tryz.func81, Tryz.ntmps81
  go_upto_region 2 with (go_at_call 83; refine HBG.out.mono ?_; rintro e W1 ⟨rfl, hz, hf⟩; have HZ1 := hm7 hz; have HF1 := hm7 hf; clear hz hf)
  clear HBG
  cases hr : at5 T L (s05 nx) with
  | error e0 =>
    rw [R5.and_err hr] at hR
    subst hR
    have HE := hm7 (P5P.err (HAT.out W1 HZ1.out) hr)
    clear hr HAT
    go_wp2_with (go_at_call 84; refine HE.out.mono ?_; rintro e W2 ⟨rfl, hf⟩; have HF2 := hm7 (HFG.out _ _ HF1.out hf); clear hf)
    exact ⟨rfl, HF2.out, rfl⟩
  | ok p =>
    obtain ⟨ha, s1⟩ := p
    rw [R5.and_ok hr] at hR
    have HE := hm7 (P5P.ok (HAT.out W1 HZ1.out) hr)
    have HQA := hm7 (wg_at T L _ _ _ HGS.out hr)
    have HG1 := hm7 (goes_at T L _ _ _ hr)
    clear hr HAT
    obtain ⟨⟨hk, hn, hs⟩, hm, hal⟩ := ha
    have HWW : Hid (w.heap.size < W1.heap.size) := by have h1 := HZ1.out.Nw; rw [HCN.out] at h1; exact h1
    go_upto_region 3 with (go_at_call 84; refine HE.out.mono ?_; rintro e W2 ⟨v2, rfl, ⟨y, rfl, hy⟩, hz, hf⟩; obtain ⟨ya, yc, hyf, -⟩ := row7_form hy; generalize hyn : List.length _ = yn at hyf; subst hyf; have HYN := hm7 hyn; have HY3 : Hid (Rw5 (fun b => w.heap.size < b) (W2.alloc (.cells #[.int .i64 hk, .int .i64 hn, .string hs, .string hm, .slice ya yn yc] 42)) 39 3 (.slice ya yn yc) hal.length (tc5 hal)) := ⟨row5_base (Ot5.below hy (below1 W2 (.cells #[.int .i64 hk, .int .i64 hn, .string hs, .string hm, .slice ya yn yc] 42))), fun b hb => Nat.lt_of_lt_of_le HWW.out (World.ownsRow.lt hy b hb).1⟩; have HZ3 := hm7 (hz.below (below1 W2 (.cells #[.int .i64 hk, .int .i64 hn, .string hs, .string hm, .slice ya yn yc] 42))); have HF3 := hm7 ((HFG.out _ _ HF1.out hf).then (below1 W2 (.cells #[.int .i64 hk, .int .i64 hn, .string hs, .string hm, .slice ya yn yc] 42))); have HH3 := hm7 (Bk.new W2 #[.int .i64 hk, .int .i64 hn, .string hs, .string hm, .slice ya yn yc] 42); have HHB : Hid (w.heap.size < W2.heap.size) := Nat.lt_of_lt_of_le HWW.out hf.size; clear hz hf hy hyn)
    revert HY3 HZ3 HF3 HH3
    generalize W2.alloc (.cells #[.int .i64 hk, .int .i64 hn, .string hs, .string hm, .slice ya yn yc] 42) = W3
    generalize W2.heap.size = hb at *
    intro HY3 HZ3 HF3 HH3
    clear HE HZ1
    cases hr : bd5 T L s1 with
    | error e0 =>
      rw [R5.and_err hr] at hR
      subst hR
      have HE2 := hm7 (P5P.err (HBD.out W3 s1 HZ3.out) hr)
      clear hr HBD
      go_wp2_with (go_at_call 119; refine HE2.out.mono ?_; rintro e W4 ⟨rfl, hf⟩; have HF4 := hm7 (HFG.out _ _ HF3.out hf); clear hf)
      exact ⟨rfl, HF4.out, rfl⟩
    | ok p =>
      obtain ⟨m, s2⟩ := p
      rw [R5.and_ok hr] at hR
      have HE2 := hm7 (P5P.ok (HBD.out W3 s1 HZ3.out) hr)
      have HQB := hm7 (wg_bd T L _ _ _ HQA.out.1 hr)
      have HG2 := hm7 (goes_bd T L _ _ _ hr)
      clear hr HBD
      have HW3 : Hid (w.heap.size < W3.heap.size) := Nat.lt_of_lt_of_le HHB.out (Nat.le_of_lt HH3.out.lt)
      go_upto_region 4 with (go_at_call 119; refine HE2.out.mono ?_; rintro e W4 ⟨v4, rfl, ⟨va, an, m', rfl, hmm, ha⟩, hz, hf⟩; obtain ⟨xa, xl, xc, rfl⟩ := alM_form ha; have HM := hm7 hmm; have HZ5 := hm7 (hz.below (below1 W4 (.cells #[.slice xa xl xc, .int .i64 (an : Int)] 139))); have HF5 := hm7 ((HFG.out _ _ HF3.out hf).then (below1 W4 (.cells #[.slice xa xl xc, .int .i64 (an : Int)] 139))); have HY5 := hm7 ((HY3.out.fr hf fun b hb => HNB.out b hb).fr (Q := fun _ => False) (Fr.of (below1 W4 (.cells #[.slice xa xl xc, .int .i64 (an : Int)] 139))) fun _ _ h => h); have HH5 := hm7 ((HH3.out.fr hf (HNB.out _ HHB.out)).below (below1 W4 (.cells #[.slice xa xl xc, .int .i64 (an : Int)] 139))); have HA5 := hm7 (alM_below (alM_mono (G := fun b => w.heap.size < b) ha fun b _ hb => Nat.lt_of_lt_of_le HW3.out hb) (below1 W4 (.cells #[.slice xa xl xc, .int .i64 (an : Int)] 139))); have HX5 := hm7 (Bk.new W4 #[.slice xa xl xc, .int .i64 (an : Int)] 139); have HAB : Hid (w.heap.size < W4.heap.size) := Nat.lt_of_lt_of_le HW3.out hf.size; clear hz hf hmm ha)
      revert HZ5 HF5 HY5 HH5 HA5 HX5
      generalize W4.alloc (.cells #[.slice xa xl xc, .int .i64 (an : Int)] 139) = W5'
      generalize W4.heap.size = ab at *
      intro HZ5 HF5 HY5 HH5 HA5 HX5
      clear HE2 HZ3 HF3 HY3 HH3 HW3
      cases hr : tk5 T L [10] s2 with
      | error e0 =>
        rw [R5.and_err hr] at hR
        subst hR
        have HE3 := hm7 (P5P.err (HTK.out W5' s2 HZ5.out) hr)
        clear hr HTK
        go_wp2_with (go_at_call 85; refine HE3.out.mono ?_; rintro e W6 ⟨rfl, hf⟩; have HF6 := hm7 (HFG.out _ _ (HF5.out.then (below1 _ _)) hf); clear hf)
        exact ⟨rfl, HF6.out, rfl⟩
      | ok p =>
        obtain ⟨⟨tk0, tx0, tn0, ta0, te0⟩, s3⟩ := p
        rw [R5.and_ok hr] at hR
        have HE3 := hm7 (P5P.ok (HTK.out W5' s2 HZ5.out) hr)
        have HQT := hm7 (wg_tk T L _ _ _ _ HQB.out.1 hr)
        have HG3 := hm7 (goes_tk T L _ _ _ _ hr)
        clear hr HTK
        go_upto_region 5 with (go_at_call 85; refine HE3.out.mono ?_; rintro e W6 ⟨v6, rfl, rfl, hz, hf⟩; have HZ6 := hm7 hz; have HF6 := hm7 (HFG.out _ _ (HF5.out.then (below1 _ _)) hf); have HY6 := hm7 ((HY5.out.fr (Q := fun _ => False) (Fr.of (below1 W5' (.cells #[.int .i64 10] 3))) fun _ _ h => h).fr hf fun b hb => HNB.out b hb); have HH6 := hm7 ((HH5.out.below (below1 _ _)).fr hf (HNB.out _ HHB.out)); have HX6 := hm7 ((HX5.out.below (below1 _ _)).fr hf (HNB.out _ HAB.out)); have HA6 := hm7 (alM_fr (alM_below HA5.out (below1 W5' (.cells #[.int .i64 10] 3))) hf fun b hb => HNB.out b hb); clear hz hf)
        clear HE3 HZ5 HF5 HY5 HH5 HX5 HA5
        obtain ⟨xs, ha1, ha2, ha3, ha4, ha5⟩ := HA6.out
        have han : an = min m.length 65 := by rw [HM.out]; unfold er5; rw [List.length_map]; exact ha4
        have hne0 : m ≠ [] := by rw [HM.out]; unfold er5; intro e; exact ha5 (List.map_eq_nil_iff.1 e)
        have HNE := hm7 hne0
        clear ha1 ha2 ha3 ha4 ha5 xs hne0
        have x1 := HX6.out.cell (i := 1) rfl
        have han2 : an ≤ 65 := by omega
        by_cases hgt : 64 < m.length
        · have hR2 : R = .error (53, p0) := by rw [← hR]; exact if_pos hgt
          subst hR2
          have hg1 : (64 : Int) < (an : Int) := by omega
          have HGU : Hid (∀ X : World, Calls Tryz.prog 86 #[.int .i64 53, .int .i64 p0] X fun e w' => e = .panicked [pF (53, p0)] ∧ w' = X) := fun X => giveUp5_any 53 p0 X
          clear hR han hgt
          go_wp2_with (go_at_call 86; refine (HGU.out _).mono ?_; rintro e W7 ⟨rfl, hw7⟩; have HW7 := hm7 hw7; clear hw7)
          refine ⟨rfl, ?_, rfl⟩
          rw [HW7.out]
          exact HF6.out
        · have hR2 : (match cls5 p0 ⟨⟨hk, hn, hs⟩, hm, hal⟩ m [] with
              | .error e => .error e
              | .ok ks => .ok (ks, s3.nx)) = R := by rw [← hR]; exact (if_neg hgt).symm
          have hg1 : ¬ (64 : Int) < (an : Int) := by omega
          have hlen : an = m.length := by omega
          have HLN := hm7 hlen
          have HL64 : Hid (m.length ≤ 64) := by show _ ≤ _; omega
          have HR2 := hm7 hR2
          have HQX : Hid (∀ x ∈ m, (Ck.terms (ck5 ⟨⟨hk, hn, hs⟩, hm, hal⟩ x)).length ≤ 4000000 ∧ ∀ t ∈ Ck.terms (ck5 ⟨⟨hk, hn, hs⟩, hm, hal⟩ x), t.var = true → (Lit.int .i64 t.n).wf = true) := fun x hx => by
            obtain ⟨q1, q2⟩ := HQA.out.2.2
            obtain ⟨q3, q4⟩ := HQB.out.2.2 x hx
            have n1 := HQA.out.2.1
            have n2 := HQB.out.2.1
            have n3 := HQT.out.2.1
            have n4 := HQT.out.1.a
            refine ⟨?_, fun t ht hv => vr5_wf hT (ck5_var q2 q4 t ht) hv⟩
            rw [ck5_len]
            omega
          have HOP : Hid (s3.op = 0) := by
            have e1 := HG1.out.1
            have e2 := HG2.out.1
            have e3 := HG3.out.1
            show s3.op = 0
            rw [e3, e2, e1]
            rfl
          have HB6 : Hid (w.heap.size < W6.heap.size) := Nat.lt_of_lt_of_le HAB.out (Nat.le_of_lt HX6.out.lt)
          clear hR hR2 han hgt HQA HQB HQT HG1 HG2 HG3 hlen
          go_upto_region 8 with fail
          go_wp2
          clear x1
          go_loopg [6, 7, 8, 9, 26] an (fun gk u _ _ _ i wr => ∃ (j : Nat) (l : List Cm), j + gk = an ∧ i = .int .i64 j ∧ l.length = j ∧ (match cls5 p0 ⟨⟨hk, hn, hs⟩, hm, hal⟩ (m.drop j) (l.map Cm.key) with
              | .error e => .error e
              | .ok ks => .ok (ks, s3.nx)) = R ∧ wr.ownsRow W6.heap.size 53 7 u l.length (l.flatMap cc5) ∧ (∀ d ∈ l, KF (fun b => W6.heap.size ≤ b ∧ u.ownBlock ≠ some b) wr d) ∧ Below W6.heap.size W6 wr)
          case atStart => exact ⟨0, [], by omega, rfl, rfl, HR2.out, World.ownsRow_nil _ _ _ _, (fun d hd => by cases hd), Below.refl _ _⟩
          case round =>
            obtain ⟨j, l, hj, rfl, hlj, hRj, ho, hkf, hbw⟩ := hrel
            have HRJ := hm7 hRj
            have HKF := hm7 hkf
            have HBW := hm7 hbw
            obtain ⟨ua, uc, huf, -⟩ := row7_form ho
            rw [hlj] at huf ho
            have HO := hm7 ho
            have HLJ := hm7 hlj
            subst huf
            clear hRj ho hkf hbw hlj HR2
            cases gk with
            | zero =>
              obtain rfl : j = an := by omega
              have hlt : ¬ (j : Int) < (j : Int) := by omega
              have HRR : Hid (R = .ok (l.map Cm.key, s3.nx)) := by
                have := HRJ.out
                rw [List.drop_eq_nil_of_le (by rw [HLN.out]; exact Nat.le_refl _)] at this
                exact this.symm
              go_wp2
              go_ret
              rw [HRR.out]
              refine ⟨HF6.out.then HBW.out, _, l, rfl, rfl, ?_, ?_, ⟨?_, ?_, ?_⟩, ?_⟩
              · intro e
                have h1 := HLJ.out
                rw [e] at h1
                have h2 := HNE.out
                have h3 := HLN.out
                apply h2
                apply List.eq_nil_of_length_eq_zero
                rw [← h3, ← h1]
                rfl
              · rw [HLJ.out, HLN.out]; exact HL64.out
              · rw [HLJ.out]; exact row5_base HO.out
              · intro b hb
                have := (World.ownsRow.lt HO.out b hb).1
                have := HB6.out
                omega
              · intro d hd
                refine (HKF.out d hd).mono fun b _ hb => ⟨?_, hb.2⟩
                have := HB6.out
                have := hb.1
                omega
              · exact (HPZ.out _ _ HZ6.out HOP.out HF6.out).below HBW.out
            | succ gk =>
              have hlt : (j : Int) < (an : Int) := by omega
              obtain ⟨x, hx⟩ : ∃ x, m'[j]? = some x := by
                have h1 : m'.length = an := by have := HLN.out; rw [HM.out] at this; unfold er5 at this; rw [List.length_map] at this; exact this.symm
                exact ⟨m'[j]'(by omega), List.getElem?_eq_getElem _⟩
              have HXE : Hid (m[j]? = some (x.map Lv5.er)) := by show _ = _; rw [HM.out]; unfold er5; rw [List.getElem?_map, hx]; rfl
              obtain ⟨hq1, hq2⟩ := HQX.out _ (List.mem_of_getElem? HXE.out)
              have HDR : Hid (m.drop j = x.map Lv5.er :: m.drop (j + 1)) := by
                show _ = _
                rw [List.drop_eq_getElem_cons (List.getElem?_eq_some_iff.1 HXE.out).1, (List.getElem?_eq_some_iff.1 HXE.out).2]
              obtain ⟨key, hkey⟩ : ∃ key, normC (ck5 ⟨⟨hk, hn, hs⟩, hm, hal⟩ (x.map Lv5.er)) = key := ⟨_, rfl⟩
              have HCO := hm7 (clauseOf5_any 17 ⟨⟨hk, hn, hs⟩, hm, hal⟩ (.slice ya yn yc) (.slice xa xl xc) an m' j x wr ((HY6.out.mono fun _ _ _ => trivial).fr (Q := fun _ => False) (Fr.of HBW.out) fun _ _ h => h) (alM_below (alM_mono HA6.out fun _ _ _ => trivial) HBW.out) (by have h1 := HL64.out; rw [HM.out] at h1; unfold er5 at h1; rw [List.length_map] at h1; exact h1) hx hq1 hq2)
              have HWC : Hid (∀ d : Cm, d.key = key → d.wf) := fun d hd => norm_wf5 (hd.trans hkey.symm) hq1
              rw [hkey] at HCO
              have HRN : Hid ((match (if ch5 key = 0 then cls5 p0 ⟨⟨hk, hn, hs⟩, hm, hal⟩ (m.drop (j + 1)) (l.map Cm.key ++ [key]) else .error (ch5 key, p0)) with
                  | .error e => .error e
                  | .ok ks => .ok (ks, s3.nx)) = R) := by
                have := HRJ.out
                rw [HDR.out] at this
                unfold cls5 at this
                rw [hkey] at this
                exact this
              clear hx hq1 hq2 hkey HRJ
              have hb5 := HH6.out.below HBW.out
              have ha5 := HX6.out.below HBW.out
              have h0 := hb5.cell (i := 0) rfl
              have h1 := hb5.cell (i := 1) rfl
              have h2 := hb5.cell (i := 2) rfl
              have h3 := hb5.cell (i := 3) rfl
              have h4 := hb5.cell (i := 4) rfl
              have a0 := ha5.cell (i := 0) rfl
              have a1 := ha5.cell (i := 1) rfl
              clear hb5 ha5
              have hsz := HBW.out.size
              go_upto_region 12 with (go_at_call 120; refine HCO.out.mono ?_; clear HCO; rintro e w1 ⟨dd, rfl, hdk, hdp, hb⟩; obtain ⟨⟨d1, d2, d3, tz1⟩, ⟨d4, d6, tz2⟩, ⟨d7, d9, tz3⟩, -, -⟩ := (hdp.ok).shape; obtain ⟨d5, tz4⟩ : ∃ n, n = dd.body.length := ⟨_, rfl⟩; obtain ⟨d8, tz5⟩ : ∃ n, n = dd.tests.length := ⟨_, rfl⟩; rw [← tz4] at tz2; rw [← tz5] at tz3; obtain ⟨⟨⟨⟨dk, dn, ds⟩, dm, da⟩, dv⟩, db, dbv, dt, dtv⟩ := dd; simp only at tz1 tz2 tz3; subst tz1 tz2 tz3; clear tz4 tz5; have HDK := hm7 hdk; have HKP := hm7 ((hdp.kf).below (below1 w1 (.cells #[.int .i64 dk, .int .i64 dn, .string ds, .string dm, .slice d1 d2 d3, .slice d4 d5 d6, .slice d7 d8 d9] 53))); have HB1 := hm7 (hb.trans ((below1 w1 (.cells #[.int .i64 dk, .int .i64 dn, .string ds, .string dm, .slice d1 d2 d3, .slice d4 d5 d6, .slice d7 d8 d9] 53)).mono hb.size)); have HD1 := hm7 (Bk.new w1 #[.int .i64 dk, .int .i64 dn, .string ds, .string dm, .slice d1 d2 d3, .slice d4 d5 d6, .slice d7 d8 d9] 53); have HW1 := hm7 hb.size; clear hdk hdp hb h0 h1 h2 h3 h4 a0 a1)
              revert HKP HB1 HD1
              generalize w1.alloc (.cells #[.int .i64 dk, .int .i64 dn, .string ds, .string dm, .slice d1 d2 d3, .slice d4 d5 d6, .slice d7 d8 d9] 53) = w2
              generalize w1.heap.size = db1 at *
              intro HKP HB1 HD1
              have HCK := hm7 (check9_any _ w2 HKP.out.ok (HWC.out _ HDK.out))
              rw [chk_ch5, HDK.out] at HCK
              obtain ⟨ck, hck⟩ : ∃ ck, ch5 key = ck := ⟨_, rfl⟩
              rw [hck] at HCK HRN
              have g0 := HD1.out.cell (i := 0) rfl
              have g1 := HD1.out.cell (i := 1) rfl
              have g2 := HD1.out.cell (i := 2) rfl
              have g3 := HD1.out.cell (i := 3) rfl
              have g4 := HD1.out.cell (i := 4) rfl
              have g5 := HD1.out.cell (i := 5) rfl
              have g6 := HD1.out.cell (i := 6) rfl
              clear hck HWC
              by_cases hc0 : ck = 0
              · subst hc0
                have HRN2 : Hid ((match cls5 p0 ⟨⟨hk, hn, hs⟩, hm, hal⟩ (m.drop (j + 1)) (l.map Cm.key ++ [key]) with
                    | .error e => .error e
                    | .ok ks => .ok (ks, s3.nx)) = R) := by have := HRN.out; rw [if_pos rfl] at this; exact this
                clear HRN
                have hj64 : j ≤ 65 := by omega
                go_upto_region 15 with (go_at_call 58; refine HCK.out.mono ?_; rintro e w3 ⟨rfl, hb⟩; have HB3 := hm7 (HB1.out.trans (hb.mono HB1.out.size)); have HD3 := hm7 (HD1.out.below hb); have HKP3 := hm7 (HKP.out.below hb); clear hb g0 g1 g2 g3 g4 g5 g6)
                have g0 := HD3.out.cell (i := 0) rfl
                have g1 := HD3.out.cell (i := 1) rfl
                have g2 := HD3.out.cell (i := 2) rfl
                have g3 := HD3.out.cell (i := 3) rfl
                have g4 := HD3.out.cell (i := 4) rfl
                have g5 := HD3.out.cell (i := 5) rfl
                have g6 := HD3.out.cell (i := 6) rfl
                have HO4 := hm7 (row7_below (row7_below HO.out HB3.out) (below1 w3 (.cells #[.int .i64 dk, .int .i64 dn, .string ds, .string dm, .slice d1 d2 d3, .slice d4 d5 d6, .slice d7 d8 d9] 53)))
                have hw3 : W6.heap.size ≤ w3.heap.size := Nat.le_trans hsz HB3.out.size
                go_wp2_with (at_builtin; refine gapp5 Tryz.underlying33 Tryz.infoClause5 rfl (by decide) (by decide) rfl _ _ rfl W6.heap.size (.slice ua j uc) j (l.flatMap cc5) rfl HO4.out w3.heap.size #[.int .i64 dk, .int .i64 dn, .string ds, .string dm, .slice d1 d2 d3, .slice d4 d5 d6, .slice d7 d8 d9] rfl (Bk.new _ _ _) rfl (by simp [Value.oneCell']) (by omega) (by simp; omega) ?_; intro g5' q5 w5 ho5 hg5 hv5 hl5; have HO5 := hm7 ho5; have HG5 := hm7 hg5; have HV5 := hm7 hv5; clear ho5 hg5 hv5 hl5)
                have HGF : Hid (Fr (fun b => W6.heap.size ≤ b) (w3.alloc (.cells #[.int .i64 dk, .int .i64 dn, .string ds, .string dm, .slice d1 d2 d3, .slice d4 d5 d6, .slice d7 d8 d9] 53)) w5) := Fr.grown HG5.out fun b hb => (World.ownsRow.lt HO4.out b hb).1
                have HGW : Hid (Fr (fun b => (Value.slice ua j uc).ownBlock = some b) (w3.alloc (.cells #[.int .i64 dk, .int .i64 dn, .string ds, .string dm, .slice d1 d2 d3, .slice d4 d5 d6, .slice d7 d8 d9] 53)) w5) := Fr.grown HG5.out fun b hb => hb
                have HI5 : Hid (∀ d, KF (fun b => W6.heap.size ≤ b ∧ (Value.slice ua j uc).ownBlock ≠ some b) w3 d → KF (fun b => W6.heap.size ≤ b ∧ (Value.slice (some ⟨g5', 0, none⟩) (j + 1) q5).ownBlock ≠ some b) w5 d) := fun d hd => by
                  have h1 := (hd.mono (G := fun b => W6.heap.size ≤ b ∧ (Value.slice ua j uc).ownBlock ≠ some b ∧ b ≠ w3.heap.size) fun b hb hw => ⟨hw.1, hw.2, by omega⟩).below (below1 w3 (.cells #[.int .i64 dk, .int .i64 dn, .string ds, .string dm, .slice d1 d2 d3, .slice d4 d5 d6, .slice d7 d8 d9] 53))
                  have h2 := h1.mono (G := fun b => (W6.heap.size ≤ b ∧ (Value.slice (some ⟨g5', 0, none⟩) (j + 1) q5).ownBlock ≠ some b) ∧ (Value.slice ua j uc).ownBlock ≠ some b) fun b hb hw => ⟨⟨hw.1, fun e => by
                    have e1 : g5' = b := Option.some.inj e
                    rcases HV5.out with e2 | e2
                    · exact hw.2.1 (by rw [← e1]; exact e2)
                    · omega⟩, hw.2.1⟩
                  exact (h2.fr HGW.out fun b hb => hb.2).mono fun b _ hb => hb.1
                try go_wp2
                go_roundg gk
                case measure => omega
                case rel =>
                  refine ⟨j + 1, l ++ [⟨(⟨⟨dk, dn, ds⟩, dm, da⟩, .slice d1 d2 d3), db, .slice d4 d5 d6, dt, .slice d7 d8 d9⟩], by omega, by go_num, by rw [List.length_append, List.length_singleton, HLJ.out], ?_, ?_, ?_, ?_⟩
                  · rw [List.map_append, List.map_singleton, HDK.out]; exact HRN2.out
                  · rw [List.length_append, List.length_singleton, HLJ.out, List.flatMap_append]; have := HO5.out; simpa [cc5] using this
                  · intro d hd
                    rcases List.mem_append.1 hd with hd | hd
                    · exact HI5.out d ((HKF.out d hd).below HB3.out)
                    · rw [List.mem_singleton.1 hd]
                      refine HI5.out _ (HKP3.out.mono fun b _ hb => ⟨by omega, fun e => ?_⟩)
                      have := (World.ownsRow.lt HO.out b e).2
                      omega
                  · exact HBW.out.trans ((Fr.low ((Fr.of (P := fun b => W6.heap.size ≤ b) HB3.out).then (below1 _ _) |>.tr HGF.out) hsz))
              · have hc1 : (ck == 0) = false := by simp [hc0]
                have hc2 : (ck != 0) = true := by simp [hc0]
                have HRE : Hid (R = .error (ck, p0)) := by have := HRN.out; rw [if_neg hc0] at this; exact this.symm
                have HGU : Hid (∀ X : World, Calls Tryz.prog 86 #[.int .i64 ck, .int .i64 p0] X fun e w' => e = .panicked [pF (ck, p0)] ∧ w' = X) := fun X => giveUp5_any ck p0 X
                clear HRN
                go_wp2_with (first
                  | (go_at_call 58; refine HCK.out.mono ?_; rintro e w3 ⟨rfl, hb⟩; have HB3 := hm7 (HB1.out.trans (hb.mono HB1.out.size)); clear hb)
                  | (go_at_call 86; refine (HGU.out _).mono ?_; rintro e W7 ⟨rfl, hw7⟩; have HW7 := hm7 hw7; clear hw7))
                refine ⟨rfl, ?_⟩
                rw [HRE.out, HW7.out]
                exact ⟨(HF6.out.then HBW.out).then HB3.out, rfl⟩
end Go.Proofs.YtcpjiahdaplhlaaGreatDoor
