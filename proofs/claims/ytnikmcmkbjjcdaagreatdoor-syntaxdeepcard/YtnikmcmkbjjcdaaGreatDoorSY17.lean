import Derived.Test.YtnikmcmkbjjcdaaGreatDoorSY16
namespace Go.Proofs.YtnikmcmkbjjcdaaGreatDoor
open Go.RowKit
attribute [local go_sem ↓] Go.wp_at_zero Go.wp_at_succ
theorem mk_map5 (T : TypeId) (w : World) : (Instr.makeMap T none).run Tryz.prog w = .ok (.map (some w.heap.size)) (w.alloc (.map #[] 0)) := by
 simp [Instr.makeMap, go_sem]
structure PB (g N : Nat) (tv : Value) (T : List Tk) (L : Nat) (w : World) (nx : Nat) : Prop where
 b : ∃ (mv : Option Nat) (vs : Int), Bk w g #[tv, .int .i64 (nx : Int), .int .i64 (L : Int), .int .i64 0, .map mv, .int .i64 vs] 110
 t : Tz (fun b => b ≠ g /\ b < N) w tv T
 le : nx <= T.length
 gN : g < N
 Nw : N <= w.heap.size
 ok : Tok5 T L
 o : OpsOk w
 og : g ≠ 1 /\ 1 < N
theorem PB.fr {P : Nat -> Prop} {g N : Nat} {tv : Value} {T : List Tk} {L nx : Nat} {w w' : World} (h : PB g N tv T L w nx) (hf : Fr P w w') (hn : ∀ b, b < N -> ¬ P b) : PB g N tv T L w' nx := by
 obtain ⟨mv, vs, hb⟩ := h.b
 exact ⟨⟨mv, vs, hb.fr hf (hn _ h.gN)⟩, h.t.fr hf fun b _ hF => hn b hF.2, h.le, h.gN, Nat.le_trans h.Nw hf.size, h.ok, h.o.fr hf (hn _ h.og.2), h.og⟩
theorem PB.below {g N : Nat} {tv : Value} {T : List Tk} {L nx : Nat} {w w' : World} (h : PB g N tv T L w nx) (hb : Below w.heap.size w w') : PB g N tv T L w' nx := h.fr (P := fun _ => False) (Fr.of hb) fun _ _ h => h
def s05 (nx : Nat) : Ps := ⟨nx, 0, 0, fun _ => none⟩
set_option maxRecDepth 20000 in
set_option maxHeartbeats 1000000 in
theorem begin5_any (g N : Nat) (tv : Value) (T : List Tk) (L nx : Nat) (w : World) (h : PB g N tv T L w nx) :
  Calls Tryz.prog 67 #[.pointer (some ⟨g, 0, none⟩)] w fun e w' => e = .returned (.int .i64 (pl5 T L (s05 nx))) /\ PZ ⟨g, w.heap.size, w.heap.size + 1, tv, T, L⟩ w' (s05 nx) /\ Fr (fun b => b = g) w w' := by
 obtain ⟨mv, vs, hb⟩ := h.b
 have hgl := hb.lt
 have HM := hm7 (Mp.made Tryz.prog 9 w)
 have hb1 : Below w.heap.size w (w.alloc (.map #[] 0)) := below1 w (.map #[] 0)
 have hz1 : (w.alloc (.map #[] 0)).heap.size = w.heap.size + 1 := by simp
 have hk1 := hb.below hb1
 have f1 : Fr (fun b => b = g) (w.alloc (.map #[] 0)) (((w.alloc (.map #[] 0)).setCell ⟨g, 4, none⟩ (.map (some w.heap.size))).setCell ⟨g, 5, none⟩ (.int .i64 0)) := ((Fr.refl (fun b => b = g) _).set (Or.inl rfl)).set (Or.inl rfl)
 have f2 : Fr (fun b => b = g) w (((w.alloc (.map #[] 0)).setCell ⟨g, 4, none⟩ (.map (some w.heap.size))).setCell ⟨g, 5, none⟩ (.int .i64 0)) := (Fr.of hb1).tr f1
 have hk2 : Bk (((w.alloc (.map #[] 0)).setCell ⟨g, 4, none⟩ (.map (some w.heap.size))).setCell ⟨g, 5, none⟩ (.int .i64 0)) g #[tv, .int .i64 (nx : Int), .int .i64 (L : Int), .int .i64 0, .map (some w.heap.size), .int .i64 0] 110 := by
  have := (hk1.set 4 (.map (some w.heap.size))).set 5 (.int .i64 0)
  simpa using this
 have hz : PZ ⟨g, w.heap.size, w.heap.size + 1, tv, T, L⟩ (((w.alloc (.map #[] 0)).setCell ⟨g, 4, none⟩ (.map (some w.heap.size))).setCell ⟨g, 5, none⟩ (.int .i64 0)) (s05 nx) :=
  ⟨hk2, (h.t.fr f2 fun b _ hF e => hF.1 e).mono fun b hb hF => ⟨hF.1, fun e => by have := hF.2; have := h.Nw; dsimp only at e; omega, by have := hF.2; have := h.Nw; show b < w.heap.size + 1; omega⟩, ⟨0, Nat.zero_le _, HM.out.fr f1 (fun e => by omega)⟩, h.le, Nat.zero_le _, Nat.zero_le _, by show g ≠ w.heap.size; omega, by show g < w.heap.size + 1; omega, Nat.lt_succ_self _, by have := f1.size; show w.heap.size + 1 <= _; omega, h.ok, h.o.fr f2 (fun e => h.og.1 e.symm), h.og.1, by have := h.og.2; have := h.Nw; show w.heap.size ≠ _; omega, by have := h.og.2; have := h.Nw; show _ < w.heap.size + 1; omega⟩
 have HF := hm7 f2
 have HZ := hm7 hz
 have HPL := hm7 (place5_any ⟨g, w.heap.size, w.heap.size + 1, tv, T, L⟩ (s05 nx) _ hz)
 dsimp only at HPL
 have c4 := hk1.cell (i := 4) rfl
 have c5 := (hk1.set 4 (.map (some w.heap.size))).cell (i := 5) rfl
 have k4 := hk1.froz 4
 have k5 := (hk1.set 4 (.map (some w.heap.size))).froz 5
 have l4 := hk1.lt
 have hmk := mk_map5 108 w
 clear h hb hb1 hk1 f1 f2 hk2 hz HM
 obtain ⟨M1, hM1⟩ : ∃ M1, w.alloc (.map #[] 0) = M1 := ⟨_, rfl⟩
 rw [hM1] at HZ HF HPL hmk c4 c5 k4 k5 l4
 clear hM1
 obtain ⟨q, hq⟩ : ∃ q, w.heap.size = q := ⟨_, rfl⟩
 rw [hq] at HZ HF HPL hmk c5 k5 hgl ⊢
 clear hq
 go_enter Tryz.func67, Tryz.ntmps67
 go_upto_region 3 with fail
 clear c4 c5 k4 k5 l4 hmk
 revert HF HZ HPL
 generalize (M1.setCell ⟨g, 4, none⟩ (.map (some q))).setCell ⟨g, 5, none⟩ (.int .i64 0) = W2
 intro HPL HF HZ
 go_wp2_with (go_at_call 71; refine HPL.out.mono ?_; rintro e W3 ⟨rfl, hb⟩; have HB3 := hm7 hb; clear hb)
 go_ret
 exact ⟨rfl, HZ.out.below HB3.out, HF.out.then HB3.out⟩
def bd5 (T : List Tk) (L : Nat) (s : Ps) : R5 (List (List Lf5)) := if kd5 T s 0 = 11 then (tk5 T L [11] s).and fun _ s => altOf5 (lit5 T L 17) T L s else .ok ([[]], s)
theorem goes_bd (T : List Tk) (L : Nat) : Goes (bd5 T L) := goes_if ((goes_tk T L _).and fun _ => goes_alt T L (goes_lit T L 17)) (goes_ok _)
set_option maxRecDepth 20000 in
set_option maxHeartbeats 2000000 in
theorem body5_any (c : Pk) (s : Ps) (w : World) (h : PZ c w s) :
  Calls Tryz.prog 81 #[.pointer (some ⟨c.g, 0, none⟩)] w (P5P c w (VA 17 w) (bd5 c.T c.L s)) := by
 have HB0 := hm7 (below1 w (.cells #[.slice none 0 0, .int .i64 0] 125))
 have HR0 := hm7 (Bk.new w #[.slice none 0 0, .int .i64 0] 125)
 have HZ0 := hm7 (h.below HB0.out)
 obtain ⟨n1, n2⟩ := h.nw (r := w.heap.size) (Nat.le_refl _)
 have HN1 := hm7 n1
 have HN2 := hm7 n2
 obtain ⟨Y0, hY0⟩ : ∃ Y0, w.alloc (.cells #[.slice none 0 0, .int .i64 0] 125) = Y0 := ⟨_, rfl⟩
 rw [hY0] at HB0 HR0 HZ0
 have HY0 := hm7 hY0
 obtain ⟨q, hq⟩ : ∃ q, w.heap.size = q := ⟨_, rfl⟩
 rw [hq] at HN1 HN2 HR0
 have HQ := hm7 hq
 have HQW : Hid (w.heap.size <= q) := by show _ <= _; rw [hq]; exact Nat.le_refl _
 have HQ1 : Hid (q < Y0.heap.size) := HR0.out.lt
 obtain ⟨R, hR⟩ : ∃ R, bd5 c.T c.L s = R := ⟨_, rfl⟩
 rw [hR]
 unfold bd5 at hR
 have HK := hm7 (kind5_0 c s Y0 HZ0.out)
 clear h n1 n2 hY0 hq
 go_enter Tryz.func81, Tryz.ntmps81
 go_upto_region 1 with fail
 rw [HY0.out, HQ.out]
 clear HY0
 by_cases hk : kd5 c.T s 0 = 11
 ·rw [if_pos hk] at hR
  rw [hk] at HK
  obtain ⟨t0, -, htk, -⟩ := kd5_some (L := c.L) hk (by decide)
  rw [R5.and_ok htk] at hR
  obtain ⟨s1, hs1⟩ : ∃ s1 : Ps, s1 = ⟨s.nx + 1, s.op, s.vs, s.nm⟩ := ⟨_, rfl⟩
  rw [<- hs1] at htk hR
  have HT1 : Hid (∀ X : World, PZ c X s -> Calls Tryz.prog 69 #[.pointer (some ⟨c.g, 0, none⟩), .slice (some ⟨X.heap.size, 0, none⟩) 1 1] (X.alloc (.cells #[.int .i64 11] 3)) fun e w' => ∃ v, e = .returned v /\ v = t0.v /\ PZ c w' s1 /\ Fr (W5 c) (X.alloc (.cells #[.int .i64 11] 3)) w') := fun X hX => P5P.ok (takeN5 11 (by decide) c s X hX) htk
  have HAX : Hid (∀ X : World, PZ c X s1 -> Calls Tryz.prog 101 #[.pointer (some ⟨c.g, 0, none⟩)] X (P5P c X (VA 17 X) (altOf5 (lit5 c.T c.L 17) c.T c.L s1))) := fun X hX => altOk_all 17 c s1 X hX (by omega)
  clear htk hs1 hk
  obtain ⟨tk0, tx0, tn0, ta0, te0⟩ := t0
  cases hr : altOf5 (lit5 c.T c.L 17) c.T c.L s1 with
  | error e0 =>
   rw [hr] at hR
   subst hR
   have HE : Hid (∀ X : World, PZ c X s1 -> Calls Tryz.prog 101 #[.pointer (some ⟨c.g, 0, none⟩)] X fun e w' => e = .panicked [pF e0] /\ Fr (W5 c) X w') := fun X hX => P5P.err (HAX.out X hX) hr
   clear hr HAX
   go_wp2_with (first
    | (go_at_call 96; refine HK.out.mono ?_; rintro e W1 ⟨rfl, hb⟩; have HB1 := hm7 hb; clear hb)
    | (go_at_call 69; refine (HT1.out _ (HZ0.out.below HB1.out)).mono ?_; rintro e W2 ⟨v2, rfl, rfl, hz, hf⟩; have HZ2 := hm7 hz; have HF2 := hm7 ((((W5.of (c := c) HB0.out).then HB1.out).then (below1 _ _)).tr hf); clear hz hf)
    | (go_at_call 101; refine (HE.out _ HZ2.out).mono ?_; rintro e W3 ⟨rfl, hf⟩; have HF3 := hm7 (HF2.out.tr hf); clear hf))
   exact ⟨rfl, HF3.out, rfl⟩
  | ok p =>
   obtain ⟨m, s2⟩ := p
   rw [hr] at hR
   subst hR
   have HE : Hid (∀ X : World, PZ c X s1 -> Calls Tryz.prog 101 #[.pointer (some ⟨c.g, 0, none⟩)] X fun e w' => ∃ v, e = .returned v /\ VA 17 X m v w' /\ PZ c w' s2 /\ Fr (W5 c) X w') := fun X hX => P5P.ok (HAX.out X hX) hr
   clear hr HAX
   go_wp2_with (first
    | (go_at_call 96; refine HK.out.mono ?_; rintro e W1 ⟨rfl, hb⟩; have HB1 := hm7 hb; clear hb)
    | (go_at_call 69; refine (HT1.out _ (HZ0.out.below HB1.out)).mono ?_; rintro e W2 ⟨v2, rfl, rfl, hz, hf⟩; have HZ2 := hm7 hz; have HF2 := hm7 ((((W5.of (c := c) HB0.out).then HB1.out).then (below1 _ _)).tr hf); have HR2 := hm7 (((HR0.out.below HB1.out).below (below1 _ _)).fr hf HN1.out); clear hz hf)
    | (go_at_call 101; refine (HE.out _ HZ2.out).mono ?_; rintro e W3 ⟨v3, rfl, ⟨va, an, m', rfl, hm, ha⟩, hz, hf⟩; obtain ⟨xa, xl, xc, rfl⟩ := alM_form ha; have HM := hm7 hm; have HZ3 := hm7 hz; have HF3 := hm7 (HF2.out.tr hf); have HR3 := hm7 (HR2.out.fr hf HN1.out); have HA3 := hm7 (alM_mono (G := fun b => w.heap.size <= b /\ b ≠ q) ha fun b _ hb => ⟨Nat.le_trans HF2.out.size hb, fun e => by have := HR2.out.lt; omega⟩); have r0 := HR3.out.cell (i := 0) rfl; have r1 := HR3.out.cell (i := 1) rfl; have f0 := HR3.out.froz 0; have f1 := HR3.out.froz 1; have hrl := HR3.out.lt; clear hz hf hm ha))
   have HZZ := hm7 ((HR3.out.set 0 (.slice xa xl xc)).set 1 (.int .i64 (an : Int)))
   have z0 := HZZ.out.cell (i := 0) rfl
   have z1 := HZZ.out.cell (i := 1) rfl
   refine bodyPost_ret (v := .agg #[.slice xa xl xc, .int .i64 (an : Int)]) (by simp [results, Tryz.results81, go_sem, z0, z1]) rfl ?_
   have hfq : Fr (fun b => b = q) W3 ((W3.setCell ⟨q, 0, none⟩ (.slice xa xl xc)).setCell ⟨q, 1, none⟩ (.int .i64 (an : Int))) := ((Fr.refl (fun b => b = q) _).set (Or.inl rfl)).set (Or.inl rfl)
   refine ⟨HF3.out.trans hfq (fun b hb e => by have := HQW.out; omega), _, rfl, ⟨_, an, m', rfl, HM.out, alM_mono (alM_fr HA3.out hfq fun b hb => hb.2) fun b _ hb => hb.1⟩, HZ3.out.fr hfq fun b hb e => by have := HN2.out; omega⟩
 ·rw [if_neg hk] at hR
  subst hR
  obtain ⟨kk, hkk⟩ : ∃ kk, kd5 c.T s 0 = kk := ⟨_, rfl⟩
  rw [hkk] at HK hk
  have hk2 : (kk == 11) = false := by simp [hk]
  have hk3 : (kk != 11) = true := by simp [hk]
  have HCJ : Hid (∀ X : World, Calls Tryz.prog 100 #[.slice none 0 0] X fun e w' => e = .returned (.agg #[.slice none 0 0, .int .i64 1]) /\ Below X.heap.size X w') := fun X => conjOf5_any (fun _ => True) 0 0 (.slice none 0 0) [] X (fun x hx => by cases hx) (World.ownsRow_nil _ _ _ _) (by simp)
  have HAO : Hid (∀ X : World, Calls Tryz.prog 99 #[.slice (some ⟨X.heap.size, 0, none⟩) 1 1] (X.alloc (.cells #[.slice none 0 0, .int .i64 1] 153)) fun e w' => e = .returned (.agg #[.slice (some ⟨X.heap.size, 0, none⟩) 1 1, .int .i64 1]) /\ Below (X.alloc (.cells #[.slice none 0 0, .int .i64 1] 153)).heap.size (X.alloc (.cells #[.slice none 0 0, .int .i64 1] 153)) w') := fun X =>
   altOf5_any (fun _ => True) 0 (fun _ _ => True) (.slice (some ⟨X.heap.size, 0, none⟩) 1 1) [((.slice none 0 0, 1), [[]])] _ (fun x hx => by rw [List.mem_singleton.1 hx]; exact ⟨[], (fun x hx => by cases hx), ⟨World.ownsRow_nil _ _ _ _, (fun g hg => by cases hg)⟩, rfl, rfl, by simp⟩) (row_one5 (Bk.new X #[.slice none 0 0, .int .i64 1] 153) (Nat.zero_le _) rfl) (by simp)
  clear hkk hk
  go_wp2_with (first
   | (go_at_call 96; refine HK.out.mono ?_; rintro e W1 ⟨rfl, hb⟩; have HB1 := hm7 hb; clear hb)
   | (go_at_call 100; refine (HCJ.out _).mono ?_; rintro e W2 ⟨rfl, hb⟩; have HB2 := hm7 (HB1.out.trans (hb.mono HB1.out.size)); clear hb)
   | (go_at_call 99; refine (HAO.out _).mono ?_; rintro e W3 ⟨rfl, hb⟩; have HO3 := hm7 (row7_below (row_one5 (base := 0) (Bk.new W2 #[.slice none 0 0, .int .i64 1] 153) (Nat.zero_le _) rfl) hb); have HW2 : Hid (q < W2.heap.size) := Nat.lt_of_lt_of_le HQ1.out HB2.out.size; have HB3 := hm7 ((HB2.out.trans ((below1 W2 (.cells #[.slice none 0 0, .int .i64 1] 153)).mono HB2.out.size)).trans (hb.mono (Nat.le_trans HB2.out.size (below1 W2 (.cells #[.slice none 0 0, .int .i64 1] 153)).size))); have HR3 := hm7 (HR0.out.below HB3.out); have r0 := HR3.out.cell (i := 0) rfl; have r1 := HR3.out.cell (i := 1) rfl; have f0 := HR3.out.froz 0; have f1 := HR3.out.froz 1; have hrl := HR3.out.lt; clear hb))
  obtain ⟨x2, hx2⟩ : ∃ x2, W2.heap.size = x2 := ⟨_, rfl⟩
  rw [hx2] at HO3 HW2 ⊢
  have HZZ := hm7 ((HR3.out.set 0 (.slice (some ⟨x2, 0, none⟩) 1 1)).set 1 (.int .i64 1))
  have z0 := HZZ.out.cell (i := 0) rfl
  have z1 := HZZ.out.cell (i := 1) rfl
  refine bodyPost_ret (v := .agg #[.slice (some ⟨x2, 0, none⟩) 1 1, .int .i64 1]) (by simp [results, Tryz.results81, go_sem, z0, z1]) rfl ?_
  have hfq : Fr (fun b => b = q) W3 ((W3.setCell ⟨q, 0, none⟩ (.slice (some ⟨x2, 0, none⟩) 1 1)).setCell ⟨q, 1, none⟩ (.int .i64 1)) := ((Fr.refl (fun b => b = q) _).set (Or.inl rfl)).set (Or.inl rfl)
  refine ⟨((W5.of HB0.out).then HB3.out).trans hfq (fun b hb e => by have := HQW.out; omega), _, rfl, ⟨.slice (some ⟨x2, 0, none⟩) 1 1, 1, [[]], rfl, rfl, ?_⟩, (HZ0.out.below HB3.out).fr hfq fun b hb e => by have := HN2.out; omega⟩
  refine ⟨[((.slice none 0 0, 1), [[]])], fun x hx => ?_, ⟨row7_fr HO3.out hfq fun b hb e => ?_, fun b hb => ?_⟩, rfl, rfl, by simp⟩
  ·rw [List.mem_singleton.1 hx]
   exact ⟨[], (fun x hx => by cases hx), ⟨World.ownsRow_nil _ _ _ _, (fun g hg => by cases hg)⟩, rfl, rfl, by simp⟩
  ·have e1 : x2 = b := Option.some.inj hb
   have := HW2.out
   omega
  ·have e1 : x2 = b := Option.some.inj hb
   have := HW2.out
   have := HQW.out
   omega
end Go.Proofs.YtnikmcmkbjjcdaaGreatDoor
