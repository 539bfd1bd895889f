/-
  syntax: args.
-/
import Derived.Test.YtnikmcmkbjjcdaaGreatDoorB2
import Derived.Test.YtnikmcmkbjjcdaaGreatDoorB4
namespace Go.Proofs.YtnikmcmkbjjcdaaGreatDoor
open Go.RowKit
attribute [local go_sem ↓] Go.wp_at_zero Go.wp_at_succ

theorem takeN5 (k : Int) (hk : (0 : Int) ≠ k) (c : Pk) (s : Ps) (X : World) (h : PZ c X s) :
    Calls Tryz.prog 69 #[.pointer (some ⟨c.g, 0, none⟩), .slice (some ⟨X.heap.size, 0, none⟩) 1 1] (X.alloc (.cells #[.int .i64 k] 3)) (P5P c (X.alloc (.cells #[.int .i64 k] 3)) (fun (t : Tk) v _ => v = t.v) (tk5 c.T c.L [k] s)) :=
  take5_any [k] (.slice (some ⟨X.heap.size, 0, none⟩) 1 1) c s _ (h.below (below1 _ _)) (Nm5.bk (ks := [k]) (Bk.new X #[.int .i64 k] 3) rfl (by simp)) (by simpa using hk)
def args5 (T : List Tk) (L : Nat) (s : Ps) : R5 (List Tm) := if kd5 T s 0 = 6 then (tk5 T L [6] s).and fun _ s => (list5 (tm5 T L) T L 8 s).and fun l s => (tk5 T L [7] s).and fun _ s => .ok (l, s) else .ok ([], s)
def by5 (T : List Tk) (L : Nat) (s : Ps) : R5 Tm := if kd5 T s 0 = 1 ∧ kd5 T s 1 ≠ 5 then .ok (⟨0, 0, ⟨#[]⟩⟩, s) else (who5 T L s).and fun t s => (tk5 T L [5] s).and fun _ s => .ok (t, s)
def at5 (T : List Tk) (L : Nat) (s : Ps) : R5 At := (by5 T L s).and fun b s => (tk5 T L [1] s).and fun t s => (args5 T L s).and fun l s => .ok (⟨b, t.x, l⟩, s)
theorem R5.and_err {α β : Type} {r : R5 α} {f : α → Ps → R5 β} {e : Int × Int} (h : r = .error e) : r.and f = .error e := by rw [h]; rfl
theorem R5.and_ok {α β : Type} {r : R5 α} {f : α → Ps → R5 β} {a : α} {s : Ps} (h : r = .ok (a, s)) : r.and f = f a s := by rw [h]; rfl
set_option maxRecDepth 20000 in
set_option maxHeartbeats 2000000 in
theorem args5_any (c : Pk) (s : Ps) (w : World) (h : PZ c w s) :
    Calls Tryz.prog 94 #[.pointer (some ⟨c.g, 0, none⟩)] w (P5P c w (fun (l : List Tm) v w' => Ot5 w' w.heap.size v l) (args5 c.T c.L s)) := by
  have HK := hm7 (kind5_0 c s w h)
  have HZ := hm7 h
  have HWB : Hid (∀ b, w.heap.size ≤ b → ¬ W5 c b) := fun b hb => (h.nw hb).1
  obtain ⟨R, hR⟩ : ∃ R, args5 c.T c.L s = R := ⟨_, rfl⟩
  rw [hR]
  unfold args5 at hR
  by_cases hk : kd5 c.T s 0 = 6
  · rw [if_pos hk] at hR
    rw [hk] at HK
    obtain ⟨t0, -, htk, -⟩ := kd5_some (L := c.L) hk (by decide)
    rw [R5.and_ok htk] at hR
    obtain ⟨s1, hs1⟩ : ∃ s1 : Ps, s1 = ⟨s.nx + 1, s.op, s.vs, s.nm⟩ := ⟨_, rfl⟩
    rw [← hs1] at htk hR
    have HT1 : Hid (∀ X : World, PZ c X s → Calls Tryz.prog 69 #[.pointer (some ⟨c.g, 0, none⟩), .slice (some ⟨X.heap.size, 0, none⟩) 1 1] (X.alloc (.cells #[.int .i64 6] 3)) fun e w' => ∃ v, e = .returned v ∧ v = t0.v ∧ PZ c w' s1 ∧ Fr (W5 c) (X.alloc (.cells #[.int .i64 6] 3)) w') := fun X hX => P5P.ok (takeN5 6 (by decide) c s X hX) htk
    have HLT : Hid (∀ X : World, PZ c X s1 → Calls Tryz.prog 111 #[.pointer (some ⟨c.g, 0, none⟩), .func (.func 112) #[.pointer (some ⟨c.g, 0, none⟩)] #[], .int .i64 8] X (P5P c X (fun (l : List Tm) v w' => Ot5 w' X.heap.size v l) (list5 (tm5 c.T c.L) c.T c.L 8 s1))) := fun X hX => listT5_any c s1 X hX
    clear hk h htk hs1
    obtain ⟨tk0, tx0, tn0, ta0, te0⟩ := t0
    have hmf : ∀ (fn : Fn) (first cap : Array Value) (w : World), (Instr.makeFunc fn first cap).run Tryz.prog w = .ok (.func fn first cap) w := fun _ _ _ _ => rfl
    cases hr : list5 (tm5 c.T c.L) c.T c.L 8 s1 with
    | error f =>
      rw [R5.and_err hr] at hR
      subst hR
      have HE : Hid (∀ X : World, PZ c X s1 → Calls Tryz.prog 111 #[.pointer (some ⟨c.g, 0, none⟩), .func (.func 112) #[.pointer (some ⟨c.g, 0, none⟩)] #[], .int .i64 8] X fun e w' => e = .panicked [pF f] ∧ Fr (W5 c) X w') := fun X hX => P5P.err (HLT.out X hX) hr
      clear hr HLT
      go_enter Tryz.func94, Tryz.ntmps94
      go_wp2_with (first
        | (go_at_call 96; refine HK.out.mono ?_; rintro e W1 ⟨rfl, hb⟩; have HB1 := hm7 hb; clear hb)
        | (go_at_call 69; refine (HT1.out _ (HZ.out.below HB1.out)).mono ?_; rintro e W2 ⟨v2, rfl, rfl, hz, hf⟩; have HZ2 := hm7 hz; have HF2 := hm7 (((W5.of (c := c) HB1.out).then (below1 _ _)).tr hf); clear hz hf)
        | (go_at_call 111; refine (HE.out _ HZ2.out).mono ?_; rintro e W3 ⟨rfl, hf⟩; have HF3 := hm7 (HF2.out.tr hf); clear hf))
      exact ⟨rfl, HF3.out, rfl⟩
    | ok p =>
      obtain ⟨l, s2⟩ := p
      rw [R5.and_ok hr] at hR
      have HE : Hid (∀ X : World, PZ c X s1 → Calls Tryz.prog 111 #[.pointer (some ⟨c.g, 0, none⟩), .func (.func 112) #[.pointer (some ⟨c.g, 0, none⟩)] #[], .int .i64 8] X fun e w' => ∃ v, e = .returned v ∧ Ot5 w' X.heap.size v l ∧ PZ c w' s2 ∧ Fr (W5 c) X w') := fun X hX => P5P.ok (HLT.out X hX) hr
      clear hr HLT
      have HT2 : Hid (∀ X : World, PZ c X s2 → Calls Tryz.prog 69 #[.pointer (some ⟨c.g, 0, none⟩), .slice (some ⟨X.heap.size, 0, none⟩) 1 1] (X.alloc (.cells #[.int .i64 7] 3)) (P5P c (X.alloc (.cells #[.int .i64 7] 3)) (fun (t : Tk) v _ => v = t.v) (tk5 c.T c.L [7] s2))) := fun X hX => takeN5 7 (by decide) c s2 X hX
      cases hr : tk5 c.T c.L [7] s2 with
      | error f =>
        rw [R5.and_err hr] at hR
        subst hR
        have HT3 : Hid (∀ X : World, PZ c X s2 → Calls Tryz.prog 69 #[.pointer (some ⟨c.g, 0, none⟩), .slice (some ⟨X.heap.size, 0, none⟩) 1 1] (X.alloc (.cells #[.int .i64 7] 3)) fun e w' => e = .panicked [pF f] ∧ Fr (W5 c) (X.alloc (.cells #[.int .i64 7] 3)) w') := fun X hX => P5P.err (HT2.out X hX) hr
        clear hr HT2
        go_enter Tryz.func94, Tryz.ntmps94
        go_upto_region 5 with (first
          | (go_at_call 96; refine HK.out.mono ?_; rintro e W1 ⟨rfl, hb⟩; have HB1 := hm7 hb; clear hb)
          | (go_at_call 69; refine (HT1.out _ (HZ.out.below HB1.out)).mono ?_; rintro e W2 ⟨v2, rfl, rfl, hz, hf⟩; have HZ2 := hm7 hz; have HF2 := hm7 (((W5.of (c := c) HB1.out).then (below1 _ _)).tr hf); clear hz hf HT1)
          | (go_at_call 111; refine (HE.out _ HZ2.out).mono ?_; rintro e W3 ⟨v3, rfl, ho, hz, hf⟩; have HZ3 := hm7 hz; have HF3 := hm7 (HF2.out.tr hf); clear ho hz hf))
        go_wp2_with (go_at_call 69; refine (HT3.out _ HZ3.out).mono ?_; rintro e W4 ⟨rfl, hf⟩; have HF4 := hm7 ((HF3.out.then (below1 _ _)).tr hf); clear hf)
        exact ⟨rfl, HF4.out, rfl⟩
      | ok p =>
        obtain ⟨t3, s3⟩ := p
        rw [R5.and_ok hr] at hR
        subst hR
        have HT3 : Hid (∀ X : World, PZ c X s2 → Calls Tryz.prog 69 #[.pointer (some ⟨c.g, 0, none⟩), .slice (some ⟨X.heap.size, 0, none⟩) 1 1] (X.alloc (.cells #[.int .i64 7] 3)) fun e w' => ∃ v, e = .returned v ∧ v = t3.v ∧ PZ c w' s3 ∧ Fr (W5 c) (X.alloc (.cells #[.int .i64 7] 3)) w') := fun X hX => P5P.ok (HT2.out X hX) hr
        clear hr HT2
        obtain ⟨tk3, tx3, tn3, ta3, te3⟩ := t3
        go_enter Tryz.func94, Tryz.ntmps94
        go_upto_region 5 with (first
          | (go_at_call 96; refine HK.out.mono ?_; rintro e W1 ⟨rfl, hb⟩; have HB1 := hm7 hb; clear hb)
          | (go_at_call 69; refine (HT1.out _ (HZ.out.below HB1.out)).mono ?_; rintro e W2 ⟨v2, rfl, rfl, hz, hf⟩; have HZ2 := hm7 hz; have HF2 := hm7 (((W5.of (c := c) HB1.out).then (below1 _ _)).tr hf); clear hz hf HT1)
          | (go_at_call 111; refine (HE.out _ HZ2.out).mono ?_; rintro e W3 ⟨v3, rfl, ho, hz, hf⟩; have HZ3 := hm7 hz; have HO3 := hm7 (Ot5.mono5 ho HF2.out.size); have HF3 := hm7 (HF2.out.tr hf); clear ho hz hf))
        go_wp2_with (go_at_call 69; refine (HT3.out _ HZ3.out).mono ?_; rintro e W4 ⟨v4, rfl, rfl, hz, hf⟩; have HZ4 := hm7 hz; have HO4 := hm7 ((HO3.out.below (below1 _ _)).fr hf HWB.out); have HF4 := hm7 ((HF3.out.then (below1 _ _)).tr hf); clear hz hf)
        go_ret
        exact ⟨HF4.out, _, rfl, HO4.out, HZ4.out⟩
  · rw [if_neg hk] at hR
    obtain ⟨kk, hkk⟩ : ∃ kk, kd5 c.T s 0 = kk := ⟨_, rfl⟩
    rw [hkk] at HK hk
    have hk1 : (kk == 6) = false := by simp [hk]
    have hk2 : (kk != 6) = true := by simp [hk]
    subst hR
    clear hkk h
    go_enter Tryz.func94, Tryz.ntmps94
    go_wp2_with (go_at_call 96; refine HK.out.mono ?_; rintro e W1 ⟨rfl, hb⟩; have HB1 := hm7 hb; clear hb)
    go_ret
    exact ⟨W5.of HB1.out, _, rfl, World.ownsRow_nil _ _ _ _, HZ.out.below HB1.out⟩
end Go.Proofs.YtnikmcmkbjjcdaaGreatDoor
