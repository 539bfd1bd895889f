import Derived.Test.YtcpjiahdaplhlaaGreatDoorB2
import Derived.Test.YtcpjiahdaplhlaaGreatDoorB4
import Derived.Deep.CutRange
import Derived.Deep.RegionHeld3
import Derived.Deep.DrawnRows
/-
  syntax: args.
-/
namespace Go.Proofs.YtcpjiahdaplhlaaGreatDoor
open Go.RowKit
attribute [local go_sem ↓] Go.wp_at_zero Go.wp_at_succ

theorem takeN5 (k : Int) (hk : (0 : Int) ≠ k) (c : Pk) (s : Ps) (X : World) (h : PZ c X s) :
    Calls Tryz.prog 85 #[.pointer (some ⟨c.g, 0, none⟩), .slice (some ⟨X.heap.size, 0, none⟩) 1 1] (X.alloc (.cells #[.int .i64 k] 3)) (P5P c (X.alloc (.cells #[.int .i64 k] 3)) (fun (t : Tk) v _ => v = t.v) (tk5 c.T c.L [k] s)) :=
  take5_any [k] (.slice (some ⟨X.heap.size, 0, none⟩) 1 1) c s _ (h.below (below1 _ _)) (Nm5.bk (ks := [k]) (Bk.new X #[.int .i64 k] 3) rfl (by simp)) (by simpa using hk)
def args5 (T : List Tk) (L : Nat) (s : Ps) : R5 (List Tm) := if kd5 T s 0 = 6 then (tk5 T L [6] s).and fun _ s => (list5 (tm5 T L) T L 8 s).and fun l s => (tk5 T L [7] s).and fun _ s => .ok (l, s) else .ok ([], s)
def by5 (T : List Tk) (L : Nat) (s : Ps) : R5 Tm := if kd5 T s 0 = 1 ∧ kd5 T s 1 ≠ 5 then .ok (⟨0, 0, ⟨#[]⟩⟩, s) else (who5 T L s).and fun t s => (tk5 T L [5] s).and fun _ s => .ok (t, s)
def at5 (T : List Tk) (L : Nat) (s : Ps) : R5 At := (by5 T L s).and fun b s => (tk5 T L [1] s).and fun t s => (args5 T L s).and fun l s => .ok (⟨b, t.x, l⟩, s)
theorem R5.and_err {α β : Type} {r : R5 α} {f : α → Ps → R5 β} {e : Int × Int} (h : r = .error e) : r.and f = .error e := by rw [h]; rfl
theorem R5.and_ok {α β : Type} {r : R5 α} {f : α → Ps → R5 β} {a : α} {s : Ps} (h : r = .ok (a, s)) : r.and f = f a s := by rw [h]; rfl
set_option maxRecDepth 20000 in
set_option maxHeartbeats 2000000 in
theorem args5_any (c : Pk) (s : Ps) (w : World) (h : PZ c w s) :
    Calls Tryz.prog 122 #[.pointer (some ⟨c.g, 0, none⟩)] w (P5P c w (fun (l : List Tm) v w' => Ot5 w' w.heap.size v l) (args5 c.T c.L s)) := by
  have HK := hm7 (kind5_0 c s w h)
  have HZ := hm7 h
  have HWB : Hid (∀ b, w.heap.size ≤ b → ¬ W5 c b) := fun b hb => (h.nw hb).1
  obtain ⟨R, hR⟩ : ∃ R, args5 c.T c.L s = R := ⟨_, rfl⟩
  rw [hR]
  unfold args5 at hR
  by_cases hk : kd5 c.T s 0 = 6
  · rw [if_pos hk] at hR
    rw [hk] at HK
    obtain ⟨t0, -, htk, -⟩ := kd5_some (L := c.L) hk (by decide)
    rw [R5.and_ok htk] at hR
    obtain ⟨s1, hs1⟩ : ∃ s1 : Ps, s1 = ⟨s.nx + 1, s.op, s.vs, s.nm⟩ := ⟨_, rfl⟩
    rw [← hs1] at htk hR
    have HT1 : Hid (∀ X : World, PZ c X s → Calls Tryz.prog 85 #[.pointer (some ⟨c.g, 0, none⟩), .slice (some ⟨X.heap.size, 0, none⟩) 1 1] (X.alloc (.cells #[.int .i64 6] 3)) fun e w' => ∃ v, e = .returned v ∧ v = t0.v ∧ PZ c w' s1 ∧ Fr (W5 c) (X.alloc (.cells #[.int .i64 6] 3)) w') := fun X hX => P5P.ok (takeN5 6 (by decide) c s X hX) htk
    have HLT : Hid (∀ X : World, PZ c X s1 → Calls Tryz.prog 159 #[.pointer (some ⟨c.g, 0, none⟩), .func (.func 160) #[.pointer (some ⟨c.g, 0, none⟩)] #[], .int .i64 8] X (P5P c X (fun (l : List Tm) v w' => Ot5 w' X.heap.size v l) (list5 (tm5 c.T c.L) c.T c.L 8 s1))) := fun X hX => listT5_any c s1 X hX
    clear hk h htk hs1
    obtain ⟨tk0, tx0, tn0, ta0, te0⟩ := t0
    have hmf : ∀ (fn : Fn) (first cap : Array Value) (w : World), (Instr.makeFunc fn first cap).run Tryz.prog w = .ok (.func fn first cap) w := fun _ _ _ _ => rfl
    cases hr : list5 (tm5 c.T c.L) c.T c.L 8 s1 with
    | error f =>
      rw [R5.and_err hr] at hR
      subst hR
      have HE : Hid (∀ X : World, PZ c X s1 → Calls Tryz.prog 159 #[.pointer (some ⟨c.g, 0, none⟩), .func (.func 160) #[.pointer (some ⟨c.g, 0, none⟩)] #[], .int .i64 8] X fun e w' => e = .panicked [pF f] ∧ Fr (W5 c) X w') := fun X hX => P5P.err (HLT.out X hX) hr
      clear hr HLT
      go_enter Tryz.func122, Tryz.ntmps122
      go_wp2_with (first
        | (go_at_call 124; refine HK.out.mono ?_; rintro e W1 ⟨rfl, hb⟩; have HB1 := hm7 hb; clear hb)
        | (go_at_call 85; refine (HT1.out _ (HZ.out.below HB1.out)).mono ?_; rintro e W2 ⟨v2, rfl, rfl, hz, hf⟩; have HZ2 := hm7 hz; have HF2 := hm7 (((W5.of (c := c) HB1.out).then (below1 _ _)).tr hf); clear hz hf)
        | (go_at_call 159; refine (HE.out _ HZ2.out).mono ?_; rintro e W3 ⟨rfl, hf⟩; have HF3 := hm7 (HF2.out.tr hf); clear hf))
      exact ⟨rfl, HF3.out, rfl⟩
    | ok p =>
      obtain ⟨l, s2⟩ := p
      rw [R5.and_ok hr] at hR
      have HE : Hid (∀ X : World, PZ c X s1 → Calls Tryz.prog 159 #[.pointer (some ⟨c.g, 0, none⟩), .func (.func 160) #[.pointer (some ⟨c.g, 0, none⟩)] #[], .int .i64 8] X fun e w' => ∃ v, e = .returned v ∧ Ot5 w' X.heap.size v l ∧ PZ c w' s2 ∧ Fr (W5 c) X w') := fun X hX => P5P.ok (HLT.out X hX) hr
      clear hr HLT
      have HT2 : Hid (∀ X : World, PZ c X s2 → Calls Tryz.prog 85 #[.pointer (some ⟨c.g, 0, none⟩), .slice (some ⟨X.heap.size, 0, none⟩) 1 1] (X.alloc (.cells #[.int .i64 7] 3)) (P5P c (X.alloc (.cells #[.int .i64 7] 3)) (fun (t : Tk) v _ => v = t.v) (tk5 c.T c.L [7] s2))) := fun X hX => takeN5 7 (by decide) c s2 X hX
      cases hr : tk5 c.T c.L [7] s2 with
      | error f =>
        rw [R5.and_err hr] at hR
        subst hR
        have HT3 : Hid (∀ X : World, PZ c X s2 → Calls Tryz.prog 85 #[.pointer (some ⟨c.g, 0, none⟩), .slice (some ⟨X.heap.size, 0, none⟩) 1 1] (X.alloc (.cells #[.int .i64 7] 3)) fun e w' => e = .panicked [pF f] ∧ Fr (W5 c) (X.alloc (.cells #[.int .i64 7] 3)) w') := fun X hX => P5P.err (HT2.out X hX) hr
        clear hr HT2
        go_enter Tryz.func122, Tryz.ntmps122
        go_upto_region 5 with (first
          | (go_at_call 124; refine HK.out.mono ?_; rintro e W1 ⟨rfl, hb⟩; have HB1 := hm7 hb; clear hb)
          | (go_at_call 85; refine (HT1.out _ (HZ.out.below HB1.out)).mono ?_; rintro e W2 ⟨v2, rfl, rfl, hz, hf⟩; have HZ2 := hm7 hz; have HF2 := hm7 (((W5.of (c := c) HB1.out).then (below1 _ _)).tr hf); clear hz hf HT1)
          | (go_at_call 159; refine (HE.out _ HZ2.out).mono ?_; rintro e W3 ⟨v3, rfl, ho, hz, hf⟩; have HZ3 := hm7 hz; have HF3 := hm7 (HF2.out.tr hf); clear ho hz hf))
        go_wp2_with (go_at_call 85; refine (HT3.out _ HZ3.out).mono ?_; rintro e W4 ⟨rfl, hf⟩; have HF4 := hm7 ((HF3.out.then (below1 _ _)).tr hf); clear hf)
        exact ⟨rfl, HF4.out, rfl⟩
      | ok p =>
        obtain ⟨t3, s3⟩ := p
        rw [R5.and_ok hr] at hR
        subst hR
        have HT3 : Hid (∀ X : World, PZ c X s2 → Calls Tryz.prog 85 #[.pointer (some ⟨c.g, 0, none⟩), .slice (some ⟨X.heap.size, 0, none⟩) 1 1] (X.alloc (.cells #[.int .i64 7] 3)) fun e w' => ∃ v, e = .returned v ∧ v = t3.v ∧ PZ c w' s3 ∧ Fr (W5 c) (X.alloc (.cells #[.int .i64 7] 3)) w') := fun X hX => P5P.ok (HT2.out X hX) hr
        clear hr HT2
        obtain ⟨tk3, tx3, tn3, ta3, te3⟩ := t3
        go_enter Tryz.func122, Tryz.ntmps122
        go_upto_region 5 with (first
          | (go_at_call 124; refine HK.out.mono ?_; rintro e W1 ⟨rfl, hb⟩; have HB1 := hm7 hb; clear hb)
          | (go_at_call 85; refine (HT1.out _ (HZ.out.below HB1.out)).mono ?_; rintro e W2 ⟨v2, rfl, rfl, hz, hf⟩; have HZ2 := hm7 hz; have HF2 := hm7 (((W5.of (c := c) HB1.out).then (below1 _ _)).tr hf); clear hz hf HT1)
          | (go_at_call 159; refine (HE.out _ HZ2.out).mono ?_; rintro e W3 ⟨v3, rfl, ho, hz, hf⟩; have HZ3 := hm7 hz; have HO3 := hm7 (Ot5.mono5 ho HF2.out.size); have HF3 := hm7 (HF2.out.tr hf); clear ho hz hf))
        go_wp2_with (go_at_call 85; refine (HT3.out _ HZ3.out).mono ?_; rintro e W4 ⟨v4, rfl, rfl, hz, hf⟩; have HZ4 := hm7 hz; have HO4 := hm7 ((HO3.out.below (below1 _ _)).fr hf HWB.out); have HF4 := hm7 ((HF3.out.then (below1 _ _)).tr hf); clear hz hf)
        go_ret
        exact ⟨HF4.out, _, rfl, HO4.out, HZ4.out⟩
  · rw [if_neg hk] at hR
    obtain ⟨kk, hkk⟩ : ∃ kk, kd5 c.T s 0 = kk := ⟨_, rfl⟩
    rw [hkk] at HK hk
    have hk1 : (kk == 6) = false := by simp [hk]
    have hk2 : (kk != 6) = true := by simp [hk]
    subst hR
    clear hkk h
    go_enter Tryz.func122, Tryz.ntmps122
    go_wp2_with (go_at_call 124; refine HK.out.mono ?_; rintro e W1 ⟨rfl, hb⟩; have HB1 := hm7 hb; clear hb)
    go_ret
    exact ⟨W5.of HB1.out, _, rfl, World.ownsRow_nil _ _ _ _, HZ.out.below HB1.out⟩
end Go.Proofs.YtcpjiahdaplhlaaGreatDoor
/-
  syntax: by, atom. (Written by SY7.py.)
-/
namespace Go.Proofs.YtcpjiahdaplhlaaGreatDoor
open Go.RowKit
attribute [local go_sem ↓] Go.wp_at_zero Go.wp_at_succ

set_option maxRecDepth 20000 in
set_option maxHeartbeats 2000000 in
theorem by5_any (c : Pk) (s : Ps) (w : World) (h : PZ c w s) :
    Calls Tryz.prog 121 #[.pointer (some ⟨c.g, 0, none⟩)] w (P5P c w (fun (t : Tm) v _ => v = t.v) (by5 c.T c.L s)) := by
  have HK0 : Hid (∀ X : World, PZ c X s → Calls Tryz.prog 124 #[.pointer (some ⟨c.g, 0, none⟩), .int .i64 0] X fun e w' => e = .returned (.int .i64 (kd5 c.T s 0)) ∧ Below X.heap.size X w') := fun X hX => kind5_0 c s X hX
  have HK1 : Hid (∀ X : World, PZ c X s → Calls Tryz.prog 124 #[.pointer (some ⟨c.g, 0, none⟩), .int .i64 1] X fun e w' => e = .returned (.int .i64 (kd5 c.T s 1)) ∧ Below X.heap.size X w') := fun X hX => kind5_1 c s X hX
  have HWH : Hid (∀ X : World, PZ c X s → Calls Tryz.prog 158 #[.pointer (some ⟨c.g, 0, none⟩)] X (P5P c X (fun (t : Tm) v _ => v = t.v) (who5 c.T c.L s))) := fun X hX => whoP5_any c s X hX
  obtain ⟨n1, n2⟩ := h.nw (r := w.heap.size) (Nat.le_refl _)
  have HN1 := hm7 n1
  have HN2 := hm7 n2
  have HB0 := hm7 (below1 w (.cells #[.int .i64 0, .int .i64 0, .string ⟨#[]⟩] 39))
  have HR0 := hm7 (Bk.new w #[.int .i64 0, .int .i64 0, .string ⟨#[]⟩] 39)
  have HZ0 := hm7 (h.below HB0.out)
  obtain ⟨Y0, hY0⟩ : ∃ Y0, w.alloc (.cells #[.int .i64 0, .int .i64 0, .string ⟨#[]⟩] 39) = Y0 := ⟨_, rfl⟩
  rw [hY0] at HB0 HR0 HZ0
  have HY0 := hm7 hY0
  obtain ⟨q, hq⟩ : ∃ q, w.heap.size = q := ⟨_, rfl⟩
  rw [hq] at HN1 HN2 HR0
  have HQ := hm7 hq
  have HQW : Hid (w.heap.size ≤ q) := by show _ ≤ _; rw [hq]; exact Nat.le_refl _
  obtain ⟨R, hR⟩ : ∃ R, by5 c.T c.L s = R := ⟨_, rfl⟩
  rw [hR]
  unfold by5 at hR
  obtain ⟨k0, hk0⟩ : ∃ k, kd5 c.T s 0 = k := ⟨_, rfl⟩
  obtain ⟨k1, hk1⟩ : ∃ k, kd5 c.T s 1 = k := ⟨_, rfl⟩
  rw [hk0, hk1] at hR
  rw [hk0] at HK0
  rw [hk1] at HK1
  obtain ⟨bz, hbz⟩ : ∃ bz, decide (k0 = 1 ∧ k1 ≠ 5) = bz := ⟨_, rfl⟩
  have HBZ := hm7 hbz
  clear h n1 n2 hY0 hq hk0 hk1 hbz
  have HRR := hm7 hR
  clear hR
  go_enter Tryz.func121, Tryz.ntmps121
  go_upto_region 1 with fail
  rw [HY0.out, HQ.out]
  clear HY0
  go_cut [11] from 4 to 11 (fun v wx => v = .bool bz ∧ Below Y0.heap.size Y0 wx)
  case first =>
    by_cases e0 : k0 = 1
    · subst e0
      by_cases e1 : k1 = 5
      · subst e1
        have hb : bz = false := by rw [← HBZ.out]; simp
        subst hb
        go_wp2_with (first
          | (go_at_call 124; refine (HK0.out _ HZ0.out).mono ?_; rintro e W1 ⟨rfl, hb⟩; have HB1 := hm7 hb; clear hb HK0)
          | (go_at_call 124; refine (HK1.out _ (HZ0.out.below HB1.out)).mono ?_; rintro e W2 ⟨rfl, hb⟩; have HB2 := hm7 (HB1.out.trans (hb.mono HB1.out.size)); clear hb))
        go_meet
        case rel => exact ⟨rfl, HB2.out⟩
      · have hb : bz = true := by rw [← HBZ.out]; simp [e1]
        subst hb
        have e2 : (k1 == 5) = false := by simp [e1]
        have e3 : (k1 != 5) = true := by simp [e1]
        go_wp2_with (first
          | (go_at_call 124; refine (HK0.out _ HZ0.out).mono ?_; rintro e W1 ⟨rfl, hb⟩; have HB1 := hm7 hb; clear hb HK0)
          | (go_at_call 124; refine (HK1.out _ (HZ0.out.below HB1.out)).mono ?_; rintro e W2 ⟨rfl, hb⟩; have HB2 := hm7 (HB1.out.trans (hb.mono HB1.out.size)); clear hb))
        go_meet
        case rel => exact ⟨rfl, HB2.out⟩
    · have hb : bz = false := by rw [← HBZ.out]; simp [e0]
      subst hb
      have e2 : (k0 == 1) = false := by simp [e0]
      go_wp2_with (go_at_call 124; refine (HK0.out _ HZ0.out).mono ?_; rintro e W1 ⟨rfl, hb⟩; have HB1 := hm7 hb; clear hb HK0)
      go_meet
      case rel => exact ⟨rfl, HB1.out⟩
  case rest =>
    obtain ⟨rfl, hb⟩ := hcut
    have HB1 := hm7 hb
    have HZ1 := hm7 (HZ0.out.below hb)
    have HR1 := hm7 (HR0.out.below hb)
    have HF1 := hm7 (W5.of (c := c) (HB0.out.trans (hb.mono HB0.out.size)))
    clear hb HK0 HK1
    obtain ⟨W1, rfl⟩ : ∃ W1, W1 = wc := ⟨_, rfl⟩
    cases bz with
    | true =>
      have hd := of_decide_eq_true HBZ.out
      have hR2 : R = .ok (⟨0, 0, ⟨#[]⟩⟩, s) := by rw [← HRR.out, if_pos hd]
      subst hR2
      have r0 := HR1.out.cell (i := 0) rfl
      have r1 := HR1.out.cell (i := 1) rfl
      have r2 := HR1.out.cell (i := 2) rfl
      have f0 := HR1.out.froz 0
      have f1 := HR1.out.froz 1
      have f2 := HR1.out.froz 2
      have hrl := HR1.out.lt
      have HRZ := hm7 (store3y HR1.out (a := .int .i64 0) (b := .int .i64 0) (c := .string ⟨#[]⟩))
      have z0 := HRZ.out.cell (i := 0) rfl
      have z1 := HRZ.out.cell (i := 1) rfl
      have z2 := HRZ.out.cell (i := 2) rfl
      have HZ2 := hm7 (HZ1.out.off3 (x := .int .i64 0) (y := .int .i64 0) (z := .string ⟨#[]⟩) HN2.out)
      have HF2 := hm7 (fr_off3 (x := .int .i64 0) (y := .int .i64 0) (z := .string ⟨#[]⟩) HF1.out HQW.out)
      clear hd HRR
      go_wp2
      refine bodyPost_ret (v := .agg #[.int .i64 0, .int .i64 0, .string ⟨#[]⟩]) (by simp [results, Tryz.results121, go_sem, z0, z1, z2]) rfl ?_
      exact ⟨HF2.out, _, rfl, rfl, HZ2.out⟩
    | false =>
      have hd := of_decide_eq_false HBZ.out
      have hR2 := HRR.out
      rw [if_neg hd] at hR2
      clear HRR hd
      cases hr : who5 c.T c.L s with
      | error f =>
        rw [R5.and_err hr] at hR2
        subst hR2
        have HE := hm7 (P5P.err (HWH.out W1 HZ1.out) hr)
        clear hr HWH
        go_wp2_with (go_at_call 158; refine HE.out.mono ?_; rintro e W2 ⟨rfl, hf⟩; have HF2 := hm7 (HF1.out.tr hf); clear hf)
        exact ⟨rfl, HF2.out, rfl⟩
      | ok p =>
        obtain ⟨⟨tk, tn, tx⟩, s1⟩ := p
        rw [R5.and_ok hr] at hR2
        have HE := hm7 (P5P.ok (HWH.out W1 HZ1.out) hr)
        have HTK : Hid (∀ X : World, PZ c X s1 → Calls Tryz.prog 85 #[.pointer (some ⟨c.g, 0, none⟩), .slice (some ⟨X.heap.size, 0, none⟩) 1 1] (X.alloc (.cells #[.int .i64 5] 3)) (P5P c (X.alloc (.cells #[.int .i64 5] 3)) (fun (t : Tk) v _ => v = t.v) (tk5 c.T c.L [5] s1))) := fun X hX => takeN5 5 (by decide) c s1 X hX
        clear hr HWH
        go_upto_region 4 with (go_at_call 158; refine HE.out.mono ?_; rintro e W2 ⟨v2, rfl, rfl, hz, hf⟩; have HZ2 := hm7 (hz.below (below1 W2 (.cells #[.int .i64 tk, .int .i64 tn, .string tx] 39))); have HF2 := hm7 ((HF1.out.tr hf).then (below1 W2 (.cells #[.int .i64 tk, .int .i64 tn, .string tx] 39))); have HR2 := hm7 ((HR1.out.fr hf HN1.out).below (below1 W2 (.cells #[.int .i64 tk, .int .i64 tn, .string tx] 39))); have HX2 := hm7 (Bk.new W2 #[.int .i64 tk, .int .i64 tn, .string tx] 39); have hz2 := (HF1.out.tr hf).size; clear hz hf)
        revert HZ2 HF2 HR2 HX2
        generalize W2.alloc (.cells #[.int .i64 tk, .int .i64 tn, .string tx] 39) = W3
        have HXN : Hid (¬ W5 c W2.heap.size ∧ c.N ≤ W2.heap.size) := ⟨fun e => by rcases e with e | e <;> (have := HZ0.out.gN; have := HZ0.out.mN; have := HN2.out; have := HQ.out; omega), by have := HN2.out; have := HQ.out; omega⟩
        generalize W2.heap.size = xb at *
        intro HZ2 HF2 HR2 HX2
        cases hr : tk5 c.T c.L [5] s1 with
        | error f =>
          rw [R5.and_err hr] at hR2
          subst hR2
          have HE2 := hm7 (P5P.err (HTK.out W3 HZ2.out) hr)
          clear hr HTK
          go_wp2_with (go_at_call 85; refine HE2.out.mono ?_; rintro e W4 ⟨rfl, hf⟩; have HF4 := hm7 ((HF2.out.then (below1 _ _)).tr hf); clear hf)
          exact ⟨rfl, HF4.out, rfl⟩
        | ok p =>
          obtain ⟨⟨tk0, tx0, tn0, ta0, te0⟩, s2⟩ := p
          rw [R5.and_ok hr] at hR2
          subst hR2
          have HE2 := hm7 (P5P.ok (HTK.out W3 HZ2.out) hr)
          clear hr HTK
          go_upto_region 5 with (go_at_call 85; refine HE2.out.mono ?_; rintro e W4 ⟨v4, rfl, rfl, hz, hf⟩; have HZ4 := hm7 hz; have HF4 := hm7 ((HF2.out.then (below1 _ _)).tr hf); have HR4 := hm7 ((HR2.out.below (below1 _ _)).fr hf HN1.out); have HX4 := hm7 ((HX2.out.below (below1 _ _)).fr hf HXN.out.1); clear hz hf)
          have r0 := HR4.out.cell (i := 0) rfl
          have r1 := HR4.out.cell (i := 1) rfl
          have r2 := HR4.out.cell (i := 2) rfl
          have f0 := HR4.out.froz 0
          have f1 := HR4.out.froz 1
          have f2 := HR4.out.froz 2
          have hrl := HR4.out.lt
          have x0 := HX4.out.cell (i := 0) rfl
          have x1 := HX4.out.cell (i := 1) rfl
          have x2 := HX4.out.cell (i := 2) rfl
          have HRZ := hm7 (store3y HR4.out (a := .int .i64 tk) (b := .int .i64 tn) (c := .string tx))
          have z0 := HRZ.out.cell (i := 0) rfl
          have z1 := HRZ.out.cell (i := 1) rfl
          have z2 := HRZ.out.cell (i := 2) rfl
          have HZ5 := hm7 (HZ4.out.off3 (x := .int .i64 tk) (y := .int .i64 tn) (z := .string tx) HN2.out)
          have HF5 := hm7 (fr_off3 (x := .int .i64 tk) (y := .int .i64 tn) (z := .string tx) HF4.out HQW.out)
          go_wp2
          refine bodyPost_ret (v := .agg #[.int .i64 tk, .int .i64 tn, .string tx]) (by simp [results, Tryz.results121, go_sem, z0, z1, z2]) rfl ?_
          exact ⟨HF5.out, _, rfl, rfl, HZ5.out⟩
theorem field5_x (a b c d e : Value) (w : World) : (Instr.field 64 (.agg #[a, b, c, d, e]) 1).run Tryz.prog w = .ok b w := by kernel_rfl
set_option maxRecDepth 20000 in
set_option maxHeartbeats 2000000 in
theorem atom5_any (c : Pk) (s : Ps) (w : World) (h : PZ c w s) :
    Calls Tryz.prog 84 #[.pointer (some ⟨c.g, 0, none⟩)] w (P5P c w (fun (a : At) v w' => ∃ y, v = a.v y ∧ Ot5 w' w.heap.size y a.args) (at5 c.T c.L s)) := by
  have HBY : Hid (∀ X : World, PZ c X s → Calls Tryz.prog 121 #[.pointer (some ⟨c.g, 0, none⟩)] X (P5P c X (fun (t : Tm) v _ => v = t.v) (by5 c.T c.L s))) := fun X hX => by5_any c s X hX
  obtain ⟨n1, n2⟩ := h.nw (r := w.heap.size) (Nat.le_refl _)
  have HN1 := hm7 n1
  have HN2 := hm7 n2
  have HWB : Hid (∀ b, w.heap.size ≤ b → ¬ W5 c b) := fun b hb => (h.nw hb).1
  have HB0 := hm7 (below1 w (.cells #[.int .i64 0, .int .i64 0, .string ⟨#[]⟩, .string ⟨#[]⟩, .slice none 0 0] 42))
  have HR0 := hm7 (Bk.new w #[.int .i64 0, .int .i64 0, .string ⟨#[]⟩, .string ⟨#[]⟩, .slice none 0 0] 42)
  have HZ0 := hm7 (h.below HB0.out)
  obtain ⟨Y0, hY0⟩ : ∃ Y0, w.alloc (.cells #[.int .i64 0, .int .i64 0, .string ⟨#[]⟩, .string ⟨#[]⟩, .slice none 0 0] 42) = Y0 := ⟨_, rfl⟩
  rw [hY0] at HB0 HR0 HZ0
  have HY0 := hm7 hY0
  obtain ⟨q, hq⟩ : ∃ q, w.heap.size = q := ⟨_, rfl⟩
  rw [hq] at HN1 HN2 HR0
  have HQ := hm7 hq
  have HQW : Hid (w.heap.size ≤ q) := by show _ ≤ _; rw [hq]; exact Nat.le_refl _
  obtain ⟨R, hR⟩ : ∃ R, at5 c.T c.L s = R := ⟨_, rfl⟩
  rw [hR]
  unfold at5 at hR
  have HQ1 : Hid (q < Y0.heap.size) := HR0.out.lt
  clear h n1 n2 hY0 hq
  go_enter Tryz.func84, Tryz.ntmps84
  go_upto_region 1 with fail
  rw [HY0.out, HQ.out]
  clear HY0
  cases hr : by5 c.T c.L s with
  | error f =>
    rw [R5.and_err hr] at hR
    subst hR
    have HE := hm7 (P5P.err (HBY.out Y0 HZ0.out) hr)
    clear hr HBY
    go_wp2_with (go_at_call 121; refine HE.out.mono ?_; rintro e W1 ⟨rfl, hf⟩; have HF1 := hm7 ((W5.of (c := c) HB0.out).tr hf); clear hf)
    exact ⟨rfl, HF1.out, rfl⟩
  | ok p =>
    obtain ⟨⟨bk, bn, bs⟩, s1⟩ := p
    rw [R5.and_ok hr] at hR
    have HE := hm7 (P5P.ok (HBY.out Y0 HZ0.out) hr)
    clear hr HBY
    have HTK : Hid (∀ X : World, PZ c X s1 → Calls Tryz.prog 85 #[.pointer (some ⟨c.g, 0, none⟩), .slice (some ⟨X.heap.size, 0, none⟩) 1 1] (X.alloc (.cells #[.int .i64 1] 3)) (P5P c (X.alloc (.cells #[.int .i64 1] 3)) (fun (t : Tk) v _ => v = t.v) (tk5 c.T c.L [1] s1))) := fun X hX => takeN5 1 (by decide) c s1 X hX
    go_upto_region 2 with (go_at_call 121; refine HE.out.mono ?_; rintro e W1 ⟨v1, rfl, rfl, hz, hf⟩; have HZ2 := hm7 (hz.below (below1 W1 (.cells #[.int .i64 bk, .int .i64 bn, .string bs] 39))); have HF2 := hm7 (((W5.of (c := c) HB0.out).tr hf).then (below1 W1 (.cells #[.int .i64 bk, .int .i64 bn, .string bs] 39))); have HR2 := hm7 ((HR0.out.fr hf HN1.out).below (below1 W1 (.cells #[.int .i64 bk, .int .i64 bn, .string bs] 39))); have HX2 := hm7 (Bk.new W1 #[.int .i64 bk, .int .i64 bn, .string bs] 39); have hz1 := ((W5.of (c := c) HB0.out).tr hf).size; have hq1 : q < W1.heap.size := Nat.lt_of_lt_of_le HQ1.out hf.size; clear hz hf)
    revert HZ2 HF2 HR2 HX2
    generalize W1.alloc (.cells #[.int .i64 bk, .int .i64 bn, .string bs] 39) = W2
    have HXN : Hid (¬ W5 c W1.heap.size ∧ W1.heap.size ≠ q) := ⟨HWB.out _ hz1, by omega⟩
    generalize W1.heap.size = xb at *
    intro HZ2 HF2 HR2 HX2
    clear hq1 hz1
    cases hr : tk5 c.T c.L [1] s1 with
    | error f =>
      rw [R5.and_err hr] at hR
      subst hR
      have HE2 := hm7 (P5P.err (HTK.out W2 HZ2.out) hr)
      clear hr HTK
      go_wp2_with (go_at_call 85; refine HE2.out.mono ?_; rintro e W4 ⟨rfl, hf⟩; have HF4 := hm7 ((HF2.out.then (below1 _ _)).tr hf); clear hf)
      exact ⟨rfl, HF4.out, rfl⟩
    | ok p =>
      obtain ⟨⟨tk, tx, tn, ta, te⟩, s2⟩ := p
      rw [R5.and_ok hr] at hR
      have HE2 := hm7 (P5P.ok (HTK.out W2 HZ2.out) hr)
      clear hr HTK
      have HAX : Hid (∀ X : World, PZ c X s2 → Calls Tryz.prog 122 #[.pointer (some ⟨c.g, 0, none⟩)] X (P5P c X (fun (l : List Tm) v w' => Ot5 w' X.heap.size v l) (args5 c.T c.L s2))) := fun X hX => args5_any c s2 X hX
      have hfx := field5_x
      go_upto_region 3 with (go_at_call 85; refine HE2.out.mono ?_; rintro e W3 ⟨v3, rfl, hv3, hz, hf⟩; have hv4 : v3 = .agg #[.int .i64 tk, .string tx, .int .i64 tn, .int .i64 ta, .int .i64 te] := hv3; clear hv3; subst hv4; have HZ3 := hm7 hz; have HF3 := hm7 ((HF2.out.then (below1 _ _)).tr hf); have HQ3 := hm7 ((HR2.out.below (below1 _ _)).fr hf HN1.out); have HX3 := hm7 ((HX2.out.below (below1 _ _)).fr hf HXN.out.1); clear hz hf HE2)
      have HBC : Hid (∀ Y : World, Fr (fun b => W5 c b ∨ b = q) W3 Y → Y.cell? ⟨xb, 0, none⟩ = some (.int .i64 bk) ∧ Y.cell? ⟨xb, 1, none⟩ = some (.int .i64 bn) ∧ Y.cell? ⟨xb, 2, none⟩ = some (.string bs)) := fun Y hY => by
        have := HX3.out.fr hY (fun e => by rcases e with e | e; exact HXN.out.1 e; exact HXN.out.2 e)
        exact ⟨this.cell (i := 0) rfl, this.cell (i := 1) rfl, this.cell (i := 2) rfl⟩
      have HQN : Hid (¬ W5 c q) := HN1.out
      cases hr : args5 c.T c.L s2 with
      | error f =>
        rw [R5.and_err hr] at hR
        subst hR
        have HAR : Hid (∀ X : World, PZ c X s2 → Calls Tryz.prog 122 #[.pointer (some ⟨c.g, 0, none⟩)] X fun e w' => e = .panicked [pF f] ∧ Fr (W5 c) X w') := fun X hX => P5P.err (HAX.out X hX) hr
        clear hr HAX
        refine wp_region_held_drew (S := fun w' => Fr (fun b => W5 c b ∨ b = q) W3 w') (by kernel_rfl) (by exact (Fr.refl _ _).drew) (fun hH => ?_)
        revert hH
        generalize hV0 : W3.drew = V0
        intro hH
        have HV0 := hm7 hV0
        clear hV0
        refine wpAnyH_take (i := 0) (oi := ⟨_, _, _, _, _, _⟩) (v := .agg #[.int .i64 bk, .int .i64 bn, .string bs]) rfl (by kernel_rfl) (by kernel_rfl) (by kernel_rfl) (fun _ _ _ h => h) (Or.inl ⟨by rfl, fun w' h => by obtain ⟨q0, q1, q2⟩ := HBC.out w' h; clear h; go_simp⟩) hH ?_
        simp only [Act.put, List.setIfInBounds_toArray, List.set_cons_zero, List.set_cons_succ]
        refine wpAnyH_take (i := 1) (oi := ⟨_, _, _, _, _, _⟩) (v := .string tx) rfl (by kernel_rfl) (by kernel_rfl) (by kernel_rfl) (fun _ _ _ h => h) (Or.inl ⟨by rfl, fun w' h => by clear h; go_simp⟩) hH ?_
        simp only [Act.put, List.setIfInBounds_toArray, List.set_cons_zero, List.set_cons_succ]
        refine wpAnyH_take (i := 2) (oi := ⟨_, _, _, _, _, _⟩) (v := .pointer (some ⟨c.g, 0, none⟩)) rfl (by kernel_rfl) (by kernel_rfl) (by kernel_rfl) (fun _ _ _ h => h) (Or.inl ⟨by rfl, fun w' h => by clear h; go_simp⟩) hH ?_
        simp only [Act.put, List.setIfInBounds_toArray, List.set_cons_zero, List.set_cons_succ]
        refine wpAnyH_ready (rs := [3]) (by kernel_rfl) (by simp) ?_
        refine (AllReadyH.cons (o := ⟨_, _, _, _, _, _⟩) rfl (fun K hK => ?_) AllReadyH.nil)
        go_simp
        refine (HAR.out _ (by rw [← HV0.out]; exact HZ3.out.below (below_drewN (Below.refl _ _) 1))).mono ?_
        rintro e W4 ⟨rfl, hf⟩
        refine ⟨rfl, ?_⟩
        exact ⟨(HF3.out.then (show Below W3.heap.size W3 V0 by rw [← HV0.out]; exact below_drewN (Below.refl _ _) 1)).tr hf, rfl⟩
      | ok p =>
        obtain ⟨al, s3⟩ := p
        rw [R5.and_ok hr] at hR
        subst hR
        have HAR : Hid (∀ X : World, PZ c X s2 → Calls Tryz.prog 122 #[.pointer (some ⟨c.g, 0, none⟩)] X fun e w' => ∃ v, e = .returned v ∧ Ot5 w' X.heap.size v al ∧ PZ c w' s3 ∧ Fr (W5 c) X w') := fun X hX => P5P.ok (HAX.out X hX) hr
        clear hr HAX
        refine wp_region_held_drew (S := fun w' => Fr (fun b => W5 c b ∨ b = q) W3 w') (by kernel_rfl) (by exact (Fr.refl _ _).drew) (fun hH => ?_)
        revert hH
        generalize hV0 : W3.drew = V0
        intro hH
        have HV0 := hm7 hV0
        clear hV0
        refine wpAnyH_take (i := 0) (oi := ⟨_, _, _, _, _, _⟩) (v := .agg #[.int .i64 bk, .int .i64 bn, .string bs]) rfl (by kernel_rfl) (by kernel_rfl) (by kernel_rfl) (fun _ _ _ h => h) (Or.inl ⟨by rfl, fun w' h => by obtain ⟨q0, q1, q2⟩ := HBC.out w' h; clear h; go_simp⟩) hH ?_
        simp only [Act.put, List.setIfInBounds_toArray, List.set_cons_zero, List.set_cons_succ]
        refine wpAnyH_take (i := 1) (oi := ⟨_, _, _, _, _, _⟩) (v := .string tx) rfl (by kernel_rfl) (by kernel_rfl) (by kernel_rfl) (fun _ _ _ h => h) (Or.inl ⟨by rfl, fun w' h => by clear h; go_simp⟩) hH ?_
        simp only [Act.put, List.setIfInBounds_toArray, List.set_cons_zero, List.set_cons_succ]
        refine wpAnyH_take (i := 2) (oi := ⟨_, _, _, _, _, _⟩) (v := .pointer (some ⟨c.g, 0, none⟩)) rfl (by kernel_rfl) (by kernel_rfl) (by kernel_rfl) (fun _ _ _ h => h) (Or.inl ⟨by rfl, fun w' h => by clear h; go_simp⟩) hH ?_
        simp only [Act.put, List.setIfInBounds_toArray, List.set_cons_zero, List.set_cons_succ]
        refine wpAnyH_ready (rs := [3]) (by kernel_rfl) (by simp) ?_
        refine (AllReadyH.cons (o := ⟨_, _, _, _, _, _⟩) rfl (fun K hK => ?_) AllReadyH.nil)
        go_simp
        refine (HAR.out _ (by rw [← HV0.out]; exact HZ3.out.below (below_drewN (Below.refl _ _) 1))).mono ?_
        rintro e W4 ⟨v4, rfl, ho, hz, hf⟩
        obtain ⟨ya, yc, hyf, -⟩ := row7_form ho
        generalize hal : al.length = an at hyf
        subst hyf
        have HAN := hm7 hal
        clear hal
        have HO4 := hm7 ho
        have HZ4 := hm7 hz
        have HF4 := hm7 hf
        refine hK.out _ _ (hH.trans (Q := W5 c) hf fun b _ e => Or.inl e) (fun hH => ?_)
        clear hK ho hz hf
        try simp only [Act.put, List.setIfInBounds_toArray, List.set_cons_zero, List.set_cons_succ]
        refine wpAnyH_take (i := 4) (oi := ⟨_, _, _, _, _, _⟩) (v := .agg #[.int .i64 bk, .int .i64 bn, .string bs, .string tx, .slice ya an yc]) rfl (by kernel_rfl) (by kernel_rfl) (by kernel_rfl) (fun _ _ _ h => h) (Or.inl ⟨by rfl, fun w' h => by clear h; go_simp⟩) hH ?_
        simp only [Act.put, List.setIfInBounds_toArray, List.set_cons_zero, List.set_cons_succ]
        have HQ4 := hm7 (HQ3.out.fr (W5.of (c := c) (show Below W3.heap.size W3 V0 by rw [← HV0.out]; exact below_drewN (Below.refl _ _) 1) |>.tr HF4.out) HQN.out)
        have r0 := HQ4.out.cell (i := 0) rfl
        have r1 := HQ4.out.cell (i := 1) rfl
        have r2 := HQ4.out.cell (i := 2) rfl
        have r3 := HQ4.out.cell (i := 3) rfl
        have r4 := HQ4.out.cell (i := 4) rfl
        have f0 := HQ4.out.froz 0
        have f1 := HQ4.out.froz 1
        have f2 := HQ4.out.froz 2
        have f3 := HQ4.out.froz 3
        have f4 := HQ4.out.froz 4
        have hrl := HQ4.out.lt
        refine wpAnyH_ready (rs := [5]) (by kernel_rfl) (by simp) ?_
        refine (AllReadyH.cons (o := ⟨_, _, _, _, _, _⟩) rfl (fun K hK => ?_) AllReadyH.nil)
        go_simp
        refine hK.out _ _ (((((hH.set (Or.inl (Or.inr rfl))).set (Or.inl (Or.inr rfl))).set (Or.inl (Or.inr rfl))).set (Or.inl (Or.inr rfl))).set (Or.inl (Or.inr rfl))) (fun hH => ?_)
        clear hK hH
        try simp only [Act.put, List.setIfInBounds_toArray, List.set_cons_zero, List.set_cons_succ]
        refine wpAnyH_done (by kernel_rfl) ?_ _
        clear r0 r1 r2 r3 r4 f0 f1 f2 f3 f4 hrl
        have HRZ := hm7 (store5y HQ4.out (a := .int .i64 bk) (b := .int .i64 bn) (c := .string bs) (d := .string tx) (e := .slice ya an yc))
        have z0 := HRZ.out.cell (i := 0) rfl
        have z1 := HRZ.out.cell (i := 1) rfl
        have z2 := HRZ.out.cell (i := 2) rfl
        have z3 := HRZ.out.cell (i := 3) rfl
        have z4 := HRZ.out.cell (i := 4) rfl
        have HVV : Hid (Below W3.heap.size W3 V0) := by show Below _ _ _; rw [← HV0.out]; exact below_drewN (Below.refl _ _) 1
        have HQV : Hid (q < V0.heap.size) := Nat.lt_of_lt_of_le HQ3.out.lt HVV.out.size
        have HZ5 := hm7 (((((HZ4.out.off (i := 0) (v := .int .i64 bk) HN2.out).off (i := 1) (v := .int .i64 bn) HN2.out).off (i := 2) (v := .string bs) HN2.out).off (i := 3) (v := .string tx) HN2.out).off (i := 4) (v := .slice ya an yc) HN2.out)
        have HF5 := hm7 (((((((HF3.out.then HVV.out).tr HF4.out).set (i := 0) (v := .int .i64 bk) (Or.inr HQW.out)).set (i := 1) (v := .int .i64 bn) (Or.inr HQW.out)).set (i := 2) (v := .string bs) (Or.inr HQW.out)).set (i := 3) (v := .string tx) (Or.inr HQW.out)).set (i := 4) (v := .slice ya an yc) (Or.inr HQW.out))
        have HO5 := hm7 (HO4.out.fr (((((Fr.refl (fun b => b = q) _).set (i := 0) (v := .int .i64 bk) (Or.inl rfl)).set (i := 1) (v := .int .i64 bn) (Or.inl rfl)).set (i := 2) (v := .string bs) (Or.inl rfl)).set (i := 3) (v := .string tx) (Or.inl rfl) |>.set (i := 4) (v := .slice ya an yc) (Or.inl rfl)) (fun b hb e => by have := HQV.out; omega))
        have HSZ : Hid (w.heap.size ≤ V0.heap.size) := Nat.le_trans HF3.out.size HVV.out.size
        try go_wp2
        refine bodyPost_ret (v := .agg #[.int .i64 bk, .int .i64 bn, .string bs, .string tx, .slice ya an yc]) (by simp [results, Tryz.results84, go_sem, z0, z1, z2, z3, z4]) rfl ?_
        exact ⟨HF5.out, _, rfl, ⟨_, rfl, HO5.out.mono5 HSZ.out⟩, HZ5.out⟩
end Go.Proofs.YtcpjiahdaplhlaaGreatDoor
/-
  '==' and '!=' of terms and of binds.
-/
namespace Go.Proofs.YtcpjiahdaplhlaaGreatDoor
open Go.RowKit
theorem run_eql_tm (t u : Tm) (w : World) : (binOp .eql 39 t.v u.v).run Tryz.prog w = .ok (.bool (decide (t = u))) w := by
  obtain ⟨k, n, s⟩ := t
  obtain ⟨k', n', s'⟩ := u
  by_cases h1 : k = k'
  · by_cases h2 : n = n'
    · by_cases h3 : s = s'
      · subst h1 h2 h3
        go_simp
      · have h4 : ¬ s.toList = s'.toList := fun e => h3 (toList_inj e)
        subst h1 h2
        go_simp
    · subst h1
      go_simp
  · go_simp
theorem run_neq_tm (t u : Tm) (w : World) : (binOp .neq 39 t.v u.v).run Tryz.prog w = .ok (.bool (!decide (t = u))) w := by
  obtain ⟨k, n, s⟩ := t
  obtain ⟨k', n', s'⟩ := u
  by_cases h1 : k = k'
  · by_cases h2 : n = n'
    · by_cases h3 : s = s'
      · subst h1 h2 h3
        go_simp
      · have h4 : ¬ s.toList = s'.toList := fun e => h3 (toList_inj e)
        subst h1 h2
        go_simp
    · subst h1
      go_simp
  · go_simp
end Go.Proofs.YtcpjiahdaplhlaaGreatDoor
/-
  sameWhereFixed; replace.
-/
namespace Go.Proofs.YtcpjiahdaplhlaaGreatDoor
open Go.RowKit
attribute [local go_sem ↓] Go.wp_at_zero Go.wp_at_succ

theorem five {w : World} {g : Nat} {a b c d f : Value} {t : TypeId} (h : w.heap[g]? = some (.cells #[a, b, c, d, f] t (0, 0))) :
    w.cell? ⟨g, 0, none⟩ = some a ∧ w.cell? ⟨g, 1, none⟩ = some b ∧ w.cell? ⟨g, 2, none⟩ = some c ∧ w.cell? ⟨g, 3, none⟩ = some d ∧ w.cell? ⟨g, 4, none⟩ = some f :=
  ⟨cell_of_row _ _ _ _ _ _ h, cell_of_row _ _ _ _ _ _ h, cell_of_row _ _ _ _ _ _ h, cell_of_row _ _ _ _ _ _ h, cell_of_row _ _ _ _ _ _ h⟩
theorem below_step {W w' w3 : World} (h : Below W.heap.size W w') (h3 : Below w'.heap.size w' w3) : Below W.heap.size W w3 := h.trans (h3.mono h.size)
theorem cell_step {w' w3 : World} {b o : Nat} {v : Value} (h3 : Below w'.heap.size w' w3) (hb : b < w'.heap.size) (hc : w'.cell? ⟨b, o, none⟩ = some v) : w3.cell? ⟨b, o, none⟩ = some v := by
  rw [h3.cell (p := ⟨b, o, none⟩) hb]; exact hc
theorem lt_step {w' w3 : World} {b : Nat} (h3 : Below w'.heap.size w' w3) (hb : b < w'.heap.size) : b < w3.heap.size := Nat.lt_of_lt_of_le hb h3.size
end Go.Proofs.YtcpjiahdaplhlaaGreatDoor
/-
  constOrVariable, CheckTest, Decide, replace, ApplyTest.
-/
namespace Go.Proofs.YtcpjiahdaplhlaaGreatDoor
open Go.RowKit
attribute [local go_sem ↓] Go.wp_at_zero Go.wp_at_succ

def Tm.cov (t : Tm) : Bool := t.con || t.var
set_option maxHeartbeats 400000 in
theorem cov_any (t : Tm) (w : World) :
    Calls Tryz.prog 94 #[t.v] w fun e w' => e = .returned (.bool t.cov) ∧ Below w.heap.size w w' := by
  obtain ⟨k, n, s⟩ := t
  cases h : Tm.con ⟨k, n, s⟩
  · have HC : Hid (Tm.con ⟨k, n, s⟩ = false) := h
    clear h
    go_enter Tryz.func94, Tryz.ntmps94
    go_wp2_with (first
      | (go_at_call 46; refine (con_any ⟨k, n, s⟩ _).mono ?_; rw [HC.out]; rintro e w1 ⟨rfl, hb1⟩; obtain ⟨hcl, hfr⟩ := bcell hb1)
      | (go_at_call 44; refine (var_any ⟨k, n, s⟩ _).mono ?_; rintro e w2 ⟨rfl, hb2⟩))
    go_ret
    exact ⟨ret_b (by unfold Tm.cov; rw [HC.out]; simp), below_step (below_step (below1 _ _) hb1) hb2⟩
  · have HC : Hid (Tm.con ⟨k, n, s⟩ = true) := h
    clear h
    go_enter Tryz.func94, Tryz.ntmps94
    go_wp2_with (first
      | (go_at_call 46; refine (con_any ⟨k, n, s⟩ _).mono ?_; rw [HC.out]; rintro e w1 ⟨rfl, hb1⟩; obtain ⟨hcl, hfr⟩ := bcell hb1))
    go_ret
    exact ⟨ret_b (by unfold Tm.cov; rw [HC.out]; simp), below_step (below1 _ _) hb1⟩
/-- A test: operator and two sides. -/
structure Te where
  op : Int
  l : Tm
  r : Tm
deriving DecidableEq
abbrev Te.v (t : Te) : Value := .agg #[.int .i64 t.op, .int .i64 t.l.k, .int .i64 t.l.n, .string t.l.s, .int .i64 t.r.k, .int .i64 t.r.n, .string t.r.s]
def Te.ok (t : Te) : Bool := decide (1 ≤ t.op ∧ t.op ≤ 4) && (t.l.cov && t.r.cov)
set_option maxHeartbeats 1000000 in
theorem check_any (t : Te) (w : World) :
    Calls Tryz.prog 170 #[t.v] w fun e w' => e = .returned (.int .i64 (if t.ok then 0 else 32)) ∧ Below w.heap.size w w' := by
  obtain ⟨op, ⟨k, n, s⟩, ⟨k', n', s'⟩⟩ := t
  obtain ⟨c1, h1⟩ : ∃ c, Tm.cov ⟨k, n, s⟩ = c := ⟨_, rfl⟩
  obtain ⟨c2, h2⟩ : ∃ c, Tm.cov ⟨k', n', s'⟩ = c := ⟨_, rfl⟩
  obtain ⟨r, hr⟩ : ∃ r : Int, (if Te.ok ⟨op, ⟨k, n, s⟩, ⟨k', n', s'⟩⟩ then 0 else 32) = r := ⟨_, rfl⟩
  rw [hr]
  have HR : Hid ((if decide (1 ≤ op ∧ op ≤ 4) && (c1 && c2) then (0 : Int) else 32) = r) := by rw [← hr, ← h1, ← h2]; rfl
  have H1 : Hid (Tm.cov ⟨k, n, s⟩ = c1) := h1
  have H2 : Hid (Tm.cov ⟨k', n', s'⟩ = c2) := h2
  clear h1 h2 hr
  by_cases o1 : op < 1
  · go_enter Tryz.func170, Tryz.ntmps170
    go_wp2
    go_ret
    exact ⟨ret_i (by rw [← HR.out, decide_eq_false (by omega)]; rfl), below1 _ _⟩
  · by_cases o2 : 4 < op
    · go_enter Tryz.func170, Tryz.ntmps170
      go_wp2
      go_ret
      exact ⟨ret_i (by rw [← HR.out, decide_eq_false (by omega)]; rfl), below1 _ _⟩
    · cases c1
      · go_enter Tryz.func170, Tryz.ntmps170
        go_wp2_with (go_at_call 94; refine (cov_any ⟨k, n, s⟩ _).mono ?_; rw [H1.out]; rintro e w1 ⟨rfl, hb1⟩)
        go_ret
        exact ⟨ret_i (by rw [← HR.out]; simp), below_step (below1 _ _) hb1⟩
      · cases c2
        all_goals
          go_enter Tryz.func170, Tryz.ntmps170
          go_wp2_with (go_at_call 94; refine (cov_any ⟨_, _, _⟩ _).mono ?_; first | (rw [H1.out]; rintro e w1 ⟨rfl, hb1⟩; obtain ⟨hcl, hfr⟩ := bcell hb1; have hm := below_step (below1 _ _) hb1) | (rw [H2.out]; rintro e w2 ⟨rfl, hb2⟩))
          go_ret
          exact ⟨ret_i (by rw [← HR.out, decide_eq_true (by omega)]; simp), below_step hm hb2⟩
end Go.Proofs.YtcpjiahdaplhlaaGreatDoor
