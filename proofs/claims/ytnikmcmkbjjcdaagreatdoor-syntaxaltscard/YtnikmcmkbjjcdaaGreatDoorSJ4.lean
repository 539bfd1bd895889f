import Derived.Test.YtnikmcmkbjjcdaaGreatDoorSY24
/-
  syntax: read of clauses; Program.
-/
namespace Go.Proofs.YtnikmcmkbjjcdaaGreatDoor
open Go.RowKit
attribute [local go_sem ↓] Go.wp_at_zero Go.wp_at_succ

/-- What a text says as a program. -/
def pg5 (s : ByteArray) (most : Int) : Except (Int × Int) (List Ck) := if (cutL (blK s) most).2.1 = 0 then pr5 (cutL (blK s) most).1 s.size ((cutL (blK s) most).1.length + 1) [] 0 else .error ((cutL (blK s) most).2.1, (cutL (blK s) most).2.2)
def ReP (w : World) (R : Except (Int × Int) (List Ck)) (e : Ending) (w' : World) : Prop :=
  Below w.heap.size w w' ∧ ∃ v c a, e = .returned (.tuple #[v, .agg #[.int .i64 c, .int .i64 a]]) ∧ match R with
    | .error f => v = .slice none 0 0 ∧ c = f.1 ∧ a = f.2
    | .ok ks => c = 0 ∧ a = 0 ∧ ∃ l, l.map Cm.key = ks ∧ RL (fun b => w.heap.size ≤ b) w' v l
theorem PB.new {w : World} {base : Nat} {tv : Value} {T : List Tk} {L : Nat} (h : OwnK w base tv T) (hok : Tok5 T L) (ho : OpsOk w) : PB w.heap.size (w.heap.size + 1) tv T L (w.alloc (.cells #[tv, .int .i64 0, .int .i64 (L : Int), .int .i64 0, .map none, .int .i64 0] 110)) 0 := by
  have hz : (w.alloc (.cells #[tv, .int .i64 0, .int .i64 (L : Int), .int .i64 0, .map none, .int .i64 0] 110)).heap.size = w.heap.size + 1 := by simp
  have hb := below1 w (.cells #[tv, .int .i64 0, .int .i64 (L : Int), .int .i64 0, .map none, .int .i64 0] 110)
  have hl := ho.lt
  refine ⟨⟨none, 0, Bk.new w _ _⟩, ?_, Nat.zero_le _, Nat.lt_succ_self _, by omega, hok, ho.fr (P := fun _ => False) (Fr.of hb) (fun h => h), by omega, by omega⟩
  exact ((tz_of_own h).mono (G := fun b => b ≠ w.heap.size ∧ b < w.heap.size + 1) fun b hb _ => ⟨by omega, by omega⟩).fr (P := fun _ => False) (Fr.of hb) fun _ _ _ h => h
theorem PrP.err {g : Nat} {w : World} {R : Except (Int × Int) (List Ck)} {f : Int × Int} {fn : Nat} {args : Array Value} (h : Calls Tryz.prog fn args w (PrP g w R)) (hr : R = .error f) : Calls Tryz.prog fn args w fun e w' => e = .panicked [pF f] ∧ Fr (fun b => b = g) w w' := by
  subst hr
  exact h.mono fun e w' ⟨h1, h2⟩ => ⟨h2, h1⟩
theorem PrP.ok {g : Nat} {w : World} {R : Except (Int × Int) (List Ck)} {ks : List Ck} {fn : Nat} {args : Array Value} (h : Calls Tryz.prog fn args w (PrP g w R)) (hr : R = .ok ks) : Calls Tryz.prog fn args w fun e w' => ∃ v l, e = .returned v ∧ l.map Cm.key = ks ∧ RL (fun b => w.heap.size ≤ b) w' v l ∧ Fr (fun b => b = g) w w' := by
  subst hr
  exact h.mono fun e w' ⟨h1, v, l, h2, h3, h4⟩ => ⟨v, l, h2, h3, h4, h1⟩
set_option maxRecDepth 20000 in
set_option maxHeartbeats 4000000 in
theorem readC_any (s : ByteArray) (most : Int) (hs : s.size ≤ 9000000) (hm : most ≤ 2000000) (w : World) (hE : EnvOk w) (hO : OpsOk w) :
    Calls Tryz.prog 28 #[.string s, .int .i64 most, .func (.func 29) #[] #[]] w (ReP w (pg5 s most)) := by
  have hmf : ∀ (fn : Fn) (first cap : Array Value) (w : World), (Instr.makeFunc fn first cap).run Tryz.prog w = .ok (.func fn first cap) w := fun _ _ _ _ => rfl
  have HB0 := hm7 (below1 w (.cells #[.int .i64 0, .int .i64 0] 26))
  have HR0 := hm7 (Bk.new w #[.int .i64 0, .int .i64 0] 26)
  have HCU := hm7 (cut_any s most hs _ (hE.later HB0.out))
  have HO0 := hm7 (hO.fr (P := fun _ => False) (Fr.of HB0.out) fun h => h)
  obtain ⟨Y0, hY0⟩ : ∃ Y0, w.alloc (.cells #[.int .i64 0, .int .i64 0] 26) = Y0 := ⟨_, rfl⟩
  rw [hY0] at HB0 HR0 HCU HO0
  have HY0 := hm7 hY0
  obtain ⟨q, hq⟩ : ∃ q, w.heap.size = q := ⟨_, rfl⟩
  rw [hq] at HR0
  have HQ := hm7 hq
  have HQW : Hid (w.heap.size ≤ q) := by show _ ≤ _; rw [hq]; exact Nat.le_refl _
  obtain ⟨R, hR⟩ : ∃ R, pg5 s most = R := ⟨_, rfl⟩
  rw [hR]
  unfold pg5 at hR
  have HTK : Hid ((cutL (blK s) most).2.1 = 0 → Tok5 (cutL (blK s) most).1 s.size) := cut_small hm
  obtain ⟨⟨T, c, a⟩, hcl⟩ : ∃ X, cutL (blK s) most = X := ⟨_, rfl⟩
  rw [hcl] at HCU HTK hR
  dsimp only at HTK hR
  have HGQ : Hid (1 ≠ q) := fun e => by have := hO.lt; omega
  clear hY0 hq hcl hE hO
  go_enter_defers Tryz.func28, Tryz.ntmps28
  go_upto_region 1 with fail
  rw [HY0.out, HQ.out]
  clear HY0
  go_upto_region 2 with (go_at_call 13; refine HCU.out.mono ?_; rintro e W1 ⟨tv, rfl, hk, hb⟩; obtain ⟨ta, tc, htf, -⟩ := row7_form hk; generalize htn : List.length _ = tn at htf; subst htf; have HTN := hm7 htn; have HK1 := hm7 hk; have HR1 := hm7 (HR0.out.below hb); have HB1 := hm7 (HB0.out.trans (hb.mono HB0.out.size)); have HO1 := hm7 (HO0.out.fr (P := fun _ => False) (Fr.of hb) fun h => h); have r0 := HR1.out.cell (i := 0) rfl; have r1 := HR1.out.cell (i := 1) rfl; have f0 := HR1.out.froz 0; have f1 := HR1.out.froz 1; have hrl := HR1.out.lt; clear hk hb htn)
  have HR2 : Hid (Bk ((W1.setCell ⟨q, 0, none⟩ (.int .i64 c)).setCell ⟨q, 1, none⟩ (.int .i64 a)) q #[.int .i64 c, .int .i64 a] 26) := by
    have := (HR1.out.set 0 (.int .i64 c)).set 1 (.int .i64 a)
    show Bk _ _ _ _
    simpa using this
  have HFQ : Hid (Fr (fun b => b = q) W1 ((W1.setCell ⟨q, 0, none⟩ (.int .i64 c)).setCell ⟨q, 1, none⟩ (.int .i64 a))) := ((Fr.refl (fun b => b = q) _).set (Or.inl rfl)).set (Or.inl rfl)
  have HB2 : Hid (Below w.heap.size w ((W1.setCell ⟨q, 0, none⟩ (.int .i64 c)).setCell ⟨q, 1, none⟩ (.int .i64 a))) := (HB1.out.setCell (p := ⟨q, 0, none⟩) HQW.out _).setCell (p := ⟨q, 1, none⟩) HQW.out _
  clear r0 r1 f0 f1 hrl
  have HQY : Hid (q < Y0.heap.size) := HR0.out.lt
  have HK2 : Hid (OwnK ((W1.setCell ⟨q, 0, none⟩ (.int .i64 c)).setCell ⟨q, 1, none⟩ (.int .i64 a)) Y0.heap.size (.slice ta tn tc) T) := row7_fr HK1.out HFQ.out fun b hb e => by have := (World.ownsRow.lt HK1.out b hb).1; have := HQY.out; omega
  have HO2 : Hid (OpsOk ((W1.setCell ⟨q, 0, none⟩ (.int .i64 c)).setCell ⟨q, 1, none⟩ (.int .i64 a))) := HO1.out.fr HFQ.out HGQ.out
  revert HR2 HFQ HB2 HK2 HO2
  generalize (W1.setCell ⟨q, 0, none⟩ (.int .i64 c)).setCell ⟨q, 1, none⟩ (.int .i64 a) = W2
  intro HR2 HFQ HB2 HK2 HO2
  have c0 := HR2.out.cell (i := 0) rfl
  have c1 := HR2.out.cell (i := 1) rfl
  have f0 := HR2.out.froz 0
  have f1 := HR2.out.froz 1
  have hrl := HR2.out.lt
  by_cases hc : c = 0
  · subst hc
    rw [if_pos rfl] at hR
    have hsl : (s.size : Int) = (s.size : Int) := rfl
    have HPB := hm7 (PB.new HK2.out (HTK.out rfl) HO2.out)
    have HPR := hm7 (program5_any _ _ _ _ _ _ HPB.out)
    have HQ2 : Hid (q < W2.heap.size) := hrl
    have HB3 := hm7 (below1 W2 (.cells #[.slice ta tn tc, .int .i64 0, .int .i64 (s.size : Int), .int .i64 0, .map none, .int .i64 0] 110))
    clear hsl HPB HTK HK1 HR1 HK2 HFQ
    obtain ⟨gp, hgp⟩ : ∃ gp, W2.heap.size = gp := ⟨_, rfl⟩
    obtain ⟨sl, hsl⟩ : ∃ sl, s.size = sl := ⟨_, rfl⟩
    have HWG : Hid (w.heap.size ≤ W2.heap.size) := HB2.out.size
    cases hr : pr5 T s.size (T.length + 1) [] 0 with
    | error f =>
      rw [hr] at hR
      subst hR
      have HE := hm7 (PrP.err HPR.out hr)
      clear hr HPR hgp hsl
      go_wp2_with (go_at_call 29; refine HE.out.mono ?_; rintro e W4 ⟨rfl, hf⟩; have HR4 := hm7 ((HR2.out.below HB3.out).fr hf fun e => by have := HQ2.out; omega); have HB4 := hm7 (Fr.low ((Fr.of (P := fun b => w.heap.size ≤ b) (HB2.out.trans (HB3.out.mono HWG.out))).trans hf fun b _ e => by have := HWG.out; omega) (Nat.le_refl _)); clear hf c0 c1 f0 f1 hrl)
      refine leaves_cons (f := 48) (args := #[.pointer (some ⟨q, 0, none⟩)]) (by simp) (by simp [go_sem]) ?_
      refine (catchC_panic q f.1 f.2 [] _ ⟨_, _, HR4.out⟩).mono ?_
      rintro e u' w'' ⟨rfl, rfl, rfl⟩
      have HR5 : Hid (Bk ((W4.setCell ⟨q, 0, none⟩ (.int .i64 f.1)).setCell ⟨q, 1, none⟩ (.int .i64 f.2)) q #[.int .i64 f.1, .int .i64 f.2] 26) := by
        have := (HR4.out.set 0 (.int .i64 f.1)).set 1 (.int .i64 f.2)
        show Bk _ _ _ _
        simpa using this
      have z0 := HR5.out.cell (i := 0) rfl
      have z1 := HR5.out.cell (i := 1) rfl
      have HB5 : Hid (Below w.heap.size w ((W4.setCell ⟨q, 0, none⟩ (.int .i64 f.1)).setCell ⟨q, 1, none⟩ (.int .i64 f.2))) := (HB4.out.setCell (p := ⟨q, 0, none⟩) HQW.out _).setCell (p := ⟨q, 1, none⟩) HQW.out _
      simp [Leaves, settle, results, Tryz.results28, go_sem, z0, z1]
      exact ⟨HB5.out, _, f.1, f.2, rfl, rfl, rfl, rfl⟩
    | ok ks =>
      rw [hr] at hR
      subst hR
      have HE := hm7 (PrP.ok HPR.out hr)
      clear hr HPR hgp hsl
      go_wp2_with (go_at_call 29; refine HE.out.mono ?_; rintro e W4 ⟨v4, l, rfl, hk, hrl4, hf⟩; have HKS := hm7 hk; have HRL := hm7 hrl4; have HR4 := hm7 ((HR2.out.below HB3.out).fr hf fun e => by have := HQ2.out; omega); have HB4 := hm7 (Fr.low ((Fr.of (P := fun b => w.heap.size ≤ b) (HB2.out.trans (HB3.out.mono HWG.out))).trans hf fun b _ e => by have := HWG.out; omega) (Nat.le_refl _)); clear hf c0 c1 f0 f1 hrl hk hrl4; have r0 := HR4.out.cell (i := 0) rfl; have r1 := HR4.out.cell (i := 1) rfl; have f0 := HR4.out.froz 0; have f1 := HR4.out.froz 1; have hrl := HR4.out.lt)
      refine leaves_cons (f := 48) (args := #[.pointer (some ⟨q, 0, none⟩)]) (by simp) (by simp [go_sem]) ?_
      refine (catchC_idle ⟨q, 0, none⟩ _).mono ?_
      rintro e u' w'' ⟨rfl, rfl, rfl⟩
      have HR5 : Hid (Bk ((W4.setCell ⟨q, 0, none⟩ (.int .i64 0)).setCell ⟨q, 1, none⟩ (.int .i64 0)) q #[.int .i64 0, .int .i64 0] 26) := by
        have := (HR4.out.set 0 (.int .i64 0)).set 1 (.int .i64 0)
        show Bk _ _ _ _
        simpa using this
      have z0 := HR5.out.cell (i := 0) rfl
      have z1 := HR5.out.cell (i := 1) rfl
      have HB5 : Hid (Below w.heap.size w ((W4.setCell ⟨q, 0, none⟩ (.int .i64 0)).setCell ⟨q, 1, none⟩ (.int .i64 0))) := (HB4.out.setCell (p := ⟨q, 0, none⟩) HQW.out _).setCell (p := ⟨q, 1, none⟩) HQW.out _
      have HRL5 : Hid (RL (fun b => w.heap.size ≤ b) ((W4.setCell ⟨q, 0, none⟩ (.int .i64 0)).setCell ⟨q, 1, none⟩ (.int .i64 0)) v4 l) := ((HRL.out.fr (Q := fun b => b = q) (((Fr.refl (fun b => b = q) _).set (Or.inl rfl)).set (Or.inl rfl)) fun b hb e => by have := HB3.out.size; have := HQ2.out; omega)).mono fun b _ hb => Nat.le_trans HWG.out (Nat.le_trans HB3.out.size hb)
      simp [Leaves, settle, results, Tryz.results28, go_sem, z0, z1]
      exact ⟨HB5.out, _, 0, 0, rfl, rfl, rfl, l, HKS.out, HRL5.out⟩
  · have hc1 : (c == 0) = false := by simp [hc]
    have hc2 : (c != 0) = true := by simp [hc]
    rw [if_neg hc] at hR
    subst hR
    have HR5 : Hid (Bk ((W2.setCell ⟨q, 0, none⟩ (.int .i64 c)).setCell ⟨q, 1, none⟩ (.int .i64 a)) q #[.int .i64 c, .int .i64 a] 26) := by
      have := (HR2.out.set 0 (.int .i64 c)).set 1 (.int .i64 a)
      show Bk _ _ _ _
      simpa using this
    have HR6 := hm7 (HR5.out.below (below_drewN (Below.refl _ _) 1))
    have HB5 : Hid (Below w.heap.size w ((W2.setCell ⟨q, 0, none⟩ (.int .i64 c)).setCell ⟨q, 1, none⟩ (.int .i64 a)).drew) := ((HB2.out.setCell (p := ⟨q, 0, none⟩) HQW.out _).setCell (p := ⟨q, 1, none⟩) HQW.out _).drew
    go_upto_region 3 with fail
    go_region
    go_wp2
    clear c0 c1 f0 f1 hrl
    have z0 := HR6.out.cell (i := 0) rfl
    have z1 := HR6.out.cell (i := 1) rfl
    have z2 : ((W2.setCell ⟨q, 0, none⟩ (.int .i64 c)).setCell ⟨q, 1, none⟩ (.int .i64 a)).drew.cell? ⟨q, 0, none⟩ = some (.int .i64 c) := z0
    have z3 : ((W2.setCell ⟨q, 0, none⟩ (.int .i64 c)).setCell ⟨q, 1, none⟩ (.int .i64 a)).drew.cell? ⟨q, 1, none⟩ = some (.int .i64 a) := z1
    show Leaves _ _ _ _ _ _ _
    simp [Leaves, results, Tryz.results28, go_sem, z2, z3]
    exact ⟨HB5.out, _, c, a, rfl, rfl, rfl, rfl⟩
end Go.Proofs.YtnikmcmkbjjcdaaGreatDoor
/-
  PLAIN: what is read of two texts laid together.
-/
namespace Go.Proofs.YtnikmcmkbjjcdaaGreatDoor
open Go.RowKit

theorem pg5_cut {s : ByteArray} {most : Int} {T : List Tk} (h : cutL (blK s) most = (T, 0, 0)) : pg5 s most = pp5 T s.size [] 0 := by
  unfold pg5 pp5
  rw [h]
  rfl
end Go.Proofs.YtnikmcmkbjjcdaaGreatDoor
