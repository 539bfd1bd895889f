/-
  syntax: read of an atom; Query.
-/
import Derived.Test.YtcpjiahdaplhlaaGreatDoorSV5
import Derived.Test.YtcpjiahdaplhlaaGreatDoorSY26
namespace Go.Proofs.YtcpjiahdaplhlaaGreatDoor
open Go.RowKit
attribute [local go_sem ↓] Go.wp_at_zero Go.wp_at_succ

theorem catchQ_panic (g : Nat) (c a : Int) (older : List PanicEntry) (w : World) (hb : ∃ x y, Bk w g #[x, y] 26) :
    CallsD Tryz.prog 82 #[.pointer (some ⟨g, 0, none⟩)] (.panicking (pF (c, a) :: older)) w fun e u' w' =>
      e = .returned (.tuple #[]) ∧ u' = .panicking ({ v := .iface 26 (.agg #[.int .i64 c, .int .i64 a]), recovered := true } :: older) ∧ w' = (w.setCell ⟨g, 0, none⟩ (.int .i64 c)).setCell ⟨g, 1, none⟩ (.int .i64 a) := by
  obtain ⟨x, y, hb⟩ := hb
  have c0 := hb.cell (i := 0) rfl
  have c1 := hb.cell (i := 1) rfl
  have f0 := hb.froz 0
  have f1 := hb.froz 1
  have hl := hb.lt
  refine callsD_of_wpS Tryz.func82 rfl fun c₀ cs hu => ?_
  unfold pF at hu
  apply wpS_seq
  apply wpS_region
  simp [wpOpsS, go_sem, recoverD, hu, Tryz.ntmps82, Exit.thenS]
  have hta := run_assert5
  refine wpS_of_wp ?_
  change Code.wp _ _ _ { tmps := #[.pointer (some ⟨g, 0, none⟩), .iface 26 (.agg #[.int .i64 c, .int .i64 a]), .iface 26 (.agg #[.int .i64 c, .int .i64 a]), undef, undef, undef, undef], defers := [] } w
  go_wp2
  exact ⟨rfl, _, rfl, _, by simp [results, Tryz.results82], rfl, rfl, rfl⟩
theorem catchQ_idle (p : Addr) (w : World) :
    CallsD Tryz.prog 82 #[.pointer (some p)] .returning w fun e u' w' => e = .returned (.tuple #[]) ∧ u' = .returning ∧ w' = w := by
  refine callsD_of_wpS Tryz.func82 rfl fun c₀ cs hu => ?_
  apply wpS_seq
  apply wpS_region
  simp [wpOpsS, go_sem, recoverD, hu, Tryz.ntmps82, Exit.thenS]
  refine wpS_of_wp ?_
  change Code.wp _ _ _ { tmps := #[.pointer (some p), .nilIface, .nilIface, undef, undef, undef, undef], defers := [] } w
  go_wp2
  exact ⟨rfl, .returning, by rw [← hu], _, by simp [results, Tryz.results82], rfl, rfl, rfl⟩
/-- What is stored where it stands already changes nothing. -/
theorem Bk.keep {w : World} {g : Nat} {c : Array Value} {t : TypeId} (h : Bk w g c t) {i : Nat} {v : Value} (hv : c[i]? = some v) : w.setCell ⟨g, i, none⟩ v = w := by
  have hs : c.setIfInBounds i v = c := by
    apply Array.ext_getElem?
    intro j
    rw [Array.getElem?_setIfInBounds]
    by_cases hj : i = j
    · subst hj
      obtain ⟨hi, -⟩ := Array.getElem?_eq_some_iff.1 hv
      rw [if_pos rfl, if_pos hi, hv]
    · rw [if_neg hj]
  have hh : (w.setCell ⟨g, i, none⟩ v).heap = w.heap := by
    apply Array.ext_getElem?
    intro k
    by_cases hk : g = k
    · subst hk
      have := h.set i v
      rw [hs] at this
      exact this.trans h.symm
    · exact heap_setCell_other _ _ _ _ (fun e => hk e.symm)
  cases w
  simp only [World.setCell] at hh ⊢
  rw [hh]
/-- What a text says as a query. -/
def qg5 (s : ByteArray) (most : Int) : Except (Int × Int) At := if (cutL (blK s) most).2.1 = 0 then qy5 (cutL (blK s) most).1 s.size else .error ((cutL (blK s) most).2.1, (cutL (blK s) most).2.2)
def at0 : At := ⟨⟨0, 0, ⟨#[]⟩⟩, ⟨#[]⟩, []⟩
def ReQ (w : World) (R : Except (Int × Int) At) (e : Ending) (w' : World) : Prop :=
  Below w.heap.size w w' ∧ ∃ (x : At) (y : Value) (c a : Int), e = .returned (.tuple #[x.v y, .agg #[.int .i64 c, .int .i64 a]]) ∧ Ot5 w' w.heap.size y x.args ∧ match R with
    | .error f => x = at0 ∧ c = f.1 ∧ a = f.2
    | .ok x' => x = x' ∧ c = 0 ∧ a = 0
theorem QyP.err {g : Nat} {w : World} {R : Except (Int × Int) At} {f : Int × Int} {fn : Nat} {args : Array Value} (h : Calls Tryz.prog fn args w (QyP g w R)) (hr : R = .error f) : Calls Tryz.prog fn args w fun e w' => e = .panicked [pF f] ∧ Fr (fun b => b = g) w w' := by
  subst hr
  exact h.mono fun e w' ⟨h1, h2⟩ => ⟨h2, h1⟩
theorem QyP.ok {g : Nat} {w : World} {R : Except (Int × Int) At} {a : At} {fn : Nat} {args : Array Value} (h : Calls Tryz.prog fn args w (QyP g w R)) (hr : R = .ok a) : Calls Tryz.prog fn args w fun e w' => ∃ y, e = .returned (a.v y) ∧ Ot5 w' w.heap.size y a.args ∧ Fr (fun b => b = g) w w' := by
  subst hr
  exact h.mono fun e w' ⟨h1, v, h2, h3⟩ => ⟨v, h2, h3, h1⟩
set_option maxRecDepth 20000 in
set_option maxHeartbeats 4000000 in
theorem readQ_any (s : ByteArray) (most : Int) (hs : s.size ≤ 9000000) (hm : most ≤ 2000000) (w : World) (hE : EnvOk w) (hO : OpsOk w) :
    Calls Tryz.prog 41 #[.string s, .int .i64 most, .func (.func 42) #[] #[]] w (ReQ w (qg5 s most)) := by
  have hmf : ∀ (fn : Fn) (first cap : Array Value) (w : World), (Instr.makeFunc fn first cap).run Tryz.prog w = .ok (.func fn first cap) w := fun _ _ _ _ => rfl
  obtain ⟨t1, t2, t3⟩ := two5 w #[.int .i64 0, .int .i64 0, .string ⟨#[]⟩, .string ⟨#[]⟩, .slice none 0 0] #[.int .i64 0, .int .i64 0] 42 26
  have HB0 := hm7 t3
  have HR0 := hm7 t1
  have HA0 := hm7 t2
  have HCU := hm7 (cut_any s most hs _ (hE.later HB0.out))
  have HO0 := hm7 (hO.fr (P := fun _ => False) (Fr.of HB0.out) fun h => h)
  clear t1 t2 t3
  obtain ⟨Y0, hY0⟩ : ∃ Y0, (w.alloc (.cells #[.int .i64 0, .int .i64 0, .string ⟨#[]⟩, .string ⟨#[]⟩, .slice none 0 0] 42)).alloc (.cells #[.int .i64 0, .int .i64 0] 26) = Y0 := ⟨_, rfl⟩
  rw [hY0] at HB0 HR0 HA0 HCU HO0
  have HY0 := hm7 hY0
  obtain ⟨p, hp⟩ : ∃ p, w.heap.size = p := ⟨_, rfl⟩
  obtain ⟨q, hq⟩ : ∃ q, w.heap.size + 1 = q := ⟨_, rfl⟩
  rw [hq] at HR0
  rw [hp] at HA0
  have HP := hm7 hp
  have HQ := hm7 hq
  have HPQ : Hid (p ≠ q) := by show _ ≠ _; omega
  have HPW : Hid (w.heap.size ≤ p) := by show _ ≤ _; omega
  have HQW : Hid (w.heap.size ≤ q) := by show _ ≤ _; omega
  obtain ⟨R, hR⟩ : ∃ R, qg5 s most = R := ⟨_, rfl⟩
  rw [hR]
  unfold qg5 at hR
  have HTK : Hid ((cutL (blK s) most).2.1 = 0 → Tok5 (cutL (blK s) most).1 s.size) := cut_small hm
  obtain ⟨⟨T, c, a⟩, hcl⟩ : ∃ X, cutL (blK s) most = X := ⟨_, rfl⟩
  rw [hcl] at HCU HTK hR
  dsimp only at HTK hR
  have HGQ : Hid (3 ≠ q) := fun e => by have := hO.lt; omega
  clear hY0 hq hp hcl hE hO
  go_enter_defers Tryz.func41, Tryz.ntmps41
  go_upto_region 1 with fail
  rw [HY0.out, HP.out]
  have HQ2e : Hid (p + 1 = q) := by show _ = _; rw [← HP.out]; exact HQ.out
  rw [HQ2e.out]
  clear HY0
  go_upto_region 2 with (go_at_call 7; refine HCU.out.mono ?_; rintro e W1 ⟨tv, rfl, hk, hb⟩; obtain ⟨ta, tc, htf, -⟩ := row7_form hk; generalize htn : List.length _ = tn at htf; subst htf; have HTN := hm7 htn; have HK1 := hm7 hk; have HR1 := hm7 (HR0.out.below hb); have HA1 := hm7 (HA0.out.below hb); have HB1 := hm7 (HB0.out.trans (hb.mono HB0.out.size)); have HO1 := hm7 (HO0.out.fr (P := fun _ => False) (Fr.of hb) fun h => h); have r0 := HR1.out.cell (i := 0) rfl; have r1 := HR1.out.cell (i := 1) rfl; have f0 := HR1.out.froz 0; have f1 := HR1.out.froz 1; have hrl := HR1.out.lt; clear hk hb htn)
  have HR2 := hm7 (pair_put (a := .int .i64 c) (b := .int .i64 a) HR1.out)
  have HFQ : Hid (Fr (fun b => b = q) W1 ((W1.setCell ⟨q, 0, none⟩ (.int .i64 c)).setCell ⟨q, 1, none⟩ (.int .i64 a))) := ((Fr.refl (fun b => b = q) _).set (Or.inl rfl)).set (Or.inl rfl)
  have HB2 : Hid (Below w.heap.size w ((W1.setCell ⟨q, 0, none⟩ (.int .i64 c)).setCell ⟨q, 1, none⟩ (.int .i64 a))) := (HB1.out.setCell (p := ⟨q, 0, none⟩) HQW.out _).setCell (p := ⟨q, 1, none⟩) HQW.out _
  clear r0 r1 f0 f1 hrl
  have HQY : Hid (q < Y0.heap.size) := HR0.out.lt
  have HK2 : Hid (OwnK ((W1.setCell ⟨q, 0, none⟩ (.int .i64 c)).setCell ⟨q, 1, none⟩ (.int .i64 a)) Y0.heap.size (.slice ta tn tc) T) := row7_fr HK1.out HFQ.out fun b hb e => by have := (World.ownsRow.lt HK1.out b hb).1; have := HQY.out; omega
  have HO2 : Hid (OpsOk ((W1.setCell ⟨q, 0, none⟩ (.int .i64 c)).setCell ⟨q, 1, none⟩ (.int .i64 a))) := HO1.out.fr HFQ.out HGQ.out
  have HA2 := hm7 (HA1.out.fr HFQ.out HPQ.out)
  revert HR2 HFQ HB2 HK2 HO2 HA2
  generalize (W1.setCell ⟨q, 0, none⟩ (.int .i64 c)).setCell ⟨q, 1, none⟩ (.int .i64 a) = W2
  intro HR2 HFQ HB2 HK2 HO2 HA2
  have c0 := HR2.out.cell (i := 0) rfl
  have c1 := HR2.out.cell (i := 1) rfl
  have f0 := HR2.out.froz 0
  have f1 := HR2.out.froz 1
  have hrl := HR2.out.lt
  by_cases hc : c = 0
  · subst hc
    rw [if_pos rfl] at hR
    have hsl : (s.size : Int) = (s.size : Int) := rfl
    have HPB := hm7 (PB.new HK2.out (HTK.out rfl) HO2.out)
    have HPR := hm7 (query5_any _ _ _ _ _ _ HPB.out)
    have HQ2 : Hid (q < W2.heap.size) := hrl
    have HP2 : Hid (p < W2.heap.size) := HA2.out.lt
    have HB3 := hm7 (below1 W2 (.cells #[.slice ta tn tc, .int .i64 0, .int .i64 (s.size : Int), .int .i64 0, .map none, .int .i64 0] 109))
    clear hsl HPB HTK HK1 HR1 HK2 HFQ
    obtain ⟨gp, hgp⟩ : ∃ gp, W2.heap.size = gp := ⟨_, rfl⟩
    obtain ⟨sl, hsl⟩ : ∃ sl, s.size = sl := ⟨_, rfl⟩
    have HWG : Hid (w.heap.size ≤ W2.heap.size) := HB2.out.size
    cases hr : qy5 T s.size with
    | error f =>
      rw [hr] at hR
      subst hR
      have HE := hm7 (QyP.err HPR.out hr)
      clear hr HPR hgp hsl
      go_wp2_with (go_at_call 42; refine HE.out.mono ?_; rintro e W4 ⟨rfl, hf⟩; have HR4 := hm7 ((HR2.out.below HB3.out).fr hf fun e => by have := HQ2.out; omega); have HA4 := hm7 ((HA2.out.below HB3.out).fr hf fun e => by have := HP2.out; omega); have HB4 := hm7 (Fr.low ((Fr.of (P := fun b => w.heap.size ≤ b) (HB2.out.trans (HB3.out.mono HWG.out))).trans hf fun b _ e => by have := HWG.out; omega) (Nat.le_refl _)); clear hf c0 c1 f0 f1 hrl)
      refine leaves_cons (f := 82) (args := #[.pointer (some ⟨q, 0, none⟩)]) (by simp) (by simp [go_sem]) ?_
      refine (catchQ_panic q f.1 f.2 [] _ ⟨_, _, HR4.out⟩).mono ?_
      rintro e u' w'' ⟨rfl, rfl, rfl⟩
      have HR5 := hm7 (pair_put (a := .int .i64 f.1) (b := .int .i64 f.2) HR4.out)
      have HA5 := hm7 (HA4.out.fr (P := fun b => b = q) (((Fr.refl (fun b => b = q) _).set (i := 0) (v := .int .i64 f.1) (Or.inl rfl)).set (i := 1) (v := .int .i64 f.2) (Or.inl rfl)) HPQ.out)
      have z0 := HR5.out.cell (i := 0) rfl
      have z1 := HR5.out.cell (i := 1) rfl
      have y0 := HA5.out.cell (i := 0) rfl
      have y1 := HA5.out.cell (i := 1) rfl
      have y2 := HA5.out.cell (i := 2) rfl
      have y3 := HA5.out.cell (i := 3) rfl
      have y4 := HA5.out.cell (i := 4) rfl
      have HB5 : Hid (Below w.heap.size w ((W4.setCell ⟨q, 0, none⟩ (.int .i64 f.1)).setCell ⟨q, 1, none⟩ (.int .i64 f.2))) := (HB4.out.setCell (p := ⟨q, 0, none⟩) HQW.out _).setCell (p := ⟨q, 1, none⟩) HQW.out _
      simp [Leaves, settle, results, Tryz.results41, go_sem, z0, z1, y0, y1, y2, y3, y4]
      exact ⟨HB5.out, at0, .slice none 0 0, f.1, f.2, rfl, World.ownsRow_nil _ _ _ _, rfl, rfl, rfl⟩
    | ok x =>
      rw [hr] at hR
      subst hR
      have HE := hm7 (QyP.ok HPR.out hr)
      clear hr HPR hgp hsl
      obtain ⟨⟨xk, xn, xs⟩, xm, xl⟩ := x
      have hpq : p ≠ q := HPQ.out
      have hqp : q ≠ p := fun e => hpq e.symm
      go_wp2_with (go_at_call 42; refine HE.out.mono ?_; rintro e W4 ⟨y, rfl, hy, hf⟩; obtain ⟨ya, yc, hyf, -⟩ := row7_form hy; generalize hyn : List.length _ = yn at hyf; subst hyf; have HYN := hm7 hyn; have HYY := hm7 hy; have HR4 := hm7 ((HR2.out.below HB3.out).fr hf fun e => by have := HQ2.out; omega); have HA4 := hm7 ((HA2.out.below HB3.out).fr hf fun e => by have := HP2.out; omega); have HB4 := hm7 (Fr.low ((Fr.of (P := fun b => w.heap.size ≤ b) (HB2.out.trans (HB3.out.mono HWG.out))).trans hf fun b _ e => by have := HWG.out; omega) (Nat.le_refl _)); clear hf hy hyn c0 c1 f0 f1 hrl; have r0 := HR4.out.cell (i := 0) rfl; have r1 := HR4.out.cell (i := 1) rfl; have f0 := HR4.out.froz 0; have f1 := HR4.out.froz 1; have hrl := HR4.out.lt; have a0 := HA4.out.cell (i := 0) rfl; have a1 := HA4.out.cell (i := 1) rfl; have a2 := HA4.out.cell (i := 2) rfl; have a3 := HA4.out.cell (i := 3) rfl; have a4 := HA4.out.cell (i := 4) rfl; have k0 := HA4.out.froz 0; have k1 := HA4.out.froz 1; have k2 := HA4.out.froz 2; have k3 := HA4.out.froz 3; have k4 := HA4.out.froz 4; have hal := HA4.out.lt)
      refine leaves_cons (f := 82) (args := #[.pointer (some ⟨q, 0, none⟩)]) (by simp) (by simp [go_sem]) ?_
      refine (catchQ_idle ⟨q, 0, none⟩ _).mono ?_
      rintro e u' w'' ⟨rfl, rfl, rfl⟩
      clear r0 r1 f0 f1 hrl a0 a1 a2 a3 a4 k0 k1 k2 k3 k4 hal
      have HA5 := hm7 (store5a (a := .int .i64 xk) (b := .int .i64 xn) (c := .string xs) (d := .string xm) (e := .slice ya yn yc) HA4.out)
      have HFP : Hid (Fr (fun b => b = p) W4 (((((W4.setCell ⟨p, 0, none⟩ (.int .i64 xk)).setCell ⟨p, 1, none⟩ (.int .i64 xn)).setCell ⟨p, 2, none⟩ (.string xs)).setCell ⟨p, 3, none⟩ (.string xm)).setCell ⟨p, 4, none⟩ (.slice ya yn yc))) := (((((Fr.refl (fun b => b = p) _).set (Or.inl rfl)).set (Or.inl rfl)).set (Or.inl rfl)).set (Or.inl rfl)).set (Or.inl rfl)
      have HB5 : Hid (Below w.heap.size w (((((W4.setCell ⟨p, 0, none⟩ (.int .i64 xk)).setCell ⟨p, 1, none⟩ (.int .i64 xn)).setCell ⟨p, 2, none⟩ (.string xs)).setCell ⟨p, 3, none⟩ (.string xm)).setCell ⟨p, 4, none⟩ (.slice ya yn yc))) := ((((HB4.out.setCell (p := ⟨p, 0, none⟩) HPW.out _).setCell (p := ⟨p, 1, none⟩) HPW.out _).setCell (p := ⟨p, 2, none⟩) HPW.out _).setCell (p := ⟨p, 3, none⟩) HPW.out _).setCell (p := ⟨p, 4, none⟩) HPW.out _
      have HR5 := hm7 (HR4.out.fr HFP.out fun e => hqp e)
      have HY5 := hm7 (Ot5.fr HYY.out HFP.out fun b hb e => by have := HB3.out.size; have := HP2.out; omega)
      revert HA5 HFP HB5 HR5 HY5
      generalize ((((W4.setCell ⟨p, 0, none⟩ (.int .i64 xk)).setCell ⟨p, 1, none⟩ (.int .i64 xn)).setCell ⟨p, 2, none⟩ (.string xs)).setCell ⟨p, 3, none⟩ (.string xm)).setCell ⟨p, 4, none⟩ (.slice ya yn yc) = W5'
      intro HA5 HFP HB5 HR5 HY5
      have HFQ6 : Hid (Fr (fun b => b = q) W5' ((W5'.setCell ⟨q, 0, none⟩ (.int .i64 0)).setCell ⟨q, 1, none⟩ (.int .i64 0))) := ((Fr.refl (fun b => b = q) _).set (Or.inl rfl)).set (Or.inl rfl)
      have HR6 := hm7 (pair_put (a := .int .i64 0) (b := .int .i64 0) HR5.out)
      have HA6 := hm7 (HA5.out.fr HFQ6.out hpq)
      have HY6 := hm7 (Ot5.fr HY5.out HFQ6.out fun b hb e => by have := HB3.out.size; have := HQ2.out; omega)
      have HB6 : Hid (Below w.heap.size w ((W5'.setCell ⟨q, 0, none⟩ (.int .i64 0)).setCell ⟨q, 1, none⟩ (.int .i64 0))) := (HB5.out.setCell (p := ⟨q, 0, none⟩) HQW.out _).setCell (p := ⟨q, 1, none⟩) HQW.out _
      have z0 := HR6.out.cell (i := 0) rfl
      have z1 := HR6.out.cell (i := 1) rfl
      have y0 := HA6.out.cell (i := 0) rfl
      have y1 := HA6.out.cell (i := 1) rfl
      have y2 := HA6.out.cell (i := 2) rfl
      have y3 := HA6.out.cell (i := 3) rfl
      have y4 := HA6.out.cell (i := 4) rfl
      revert z0 z1 y0 y1 y2 y3 y4 HY6 HB6
      clear HFQ6 HR6 HA6
      generalize (W5'.setCell ⟨q, 0, none⟩ (.int .i64 0)).setCell ⟨q, 1, none⟩ (.int .i64 0) = W6'
      intro HY6 HB6 z0 z1 y0 y1 y2 y3 y4
      have HWS : Hid (w.heap.size ≤ (W2.alloc (.cells #[.slice ta tn tc, .int .i64 0, .int .i64 (s.size : Int), .int .i64 0, .map none, .int .i64 0] 109)).heap.size) := Nat.le_trans HWG.out HB3.out.size
      simp [Leaves, settle, results, Tryz.results41, go_sem, z0, z1, y0, y1, y2, y3, y4]
      exact ⟨HB6.out, ⟨⟨xk, xn, xs⟩, xm, xl⟩, .slice ya yn yc, 0, 0, rfl, Ot5.mono5 HY6.out HWS.out, rfl, rfl, rfl⟩
  · have hc1 : (c == 0) = false := by simp [hc]
    have hc2 : (c != 0) = true := by simp [hc]
    rw [if_neg hc] at hR
    subst hR
    have HE0 : Hid (W2.setCell ⟨p, 0, none⟩ (.int .i64 0) = W2) := HA2.out.keep (i := 0) rfl
    have HE1 : Hid (W2.setCell ⟨p, 1, none⟩ (.int .i64 0) = W2) := HA2.out.keep (i := 1) rfl
    have HE2 : Hid (W2.setCell ⟨p, 2, none⟩ (.string ⟨#[]⟩) = W2) := HA2.out.keep (i := 2) rfl
    have HE3 : Hid (W2.setCell ⟨p, 3, none⟩ (.string ⟨#[]⟩) = W2) := HA2.out.keep (i := 3) rfl
    have HE4 : Hid (W2.setCell ⟨p, 4, none⟩ (.slice none 0 0) = W2) := HA2.out.keep (i := 4) rfl
    have HE5 : Hid (W2.setCell ⟨q, 0, none⟩ (.int .i64 c) = W2) := HR2.out.keep (i := 0) rfl
    have HE6 : Hid (W2.setCell ⟨q, 1, none⟩ (.int .i64 a) = W2) := HR2.out.keep (i := 1) rfl
    have a0 := HA2.out.cell (i := 0) rfl
    have a1 := HA2.out.cell (i := 1) rfl
    have a2 := HA2.out.cell (i := 2) rfl
    have a3 := HA2.out.cell (i := 3) rfl
    have a4 := HA2.out.cell (i := 4) rfl
    have k0 := HA2.out.froz 0
    have k1 := HA2.out.froz 1
    have k2 := HA2.out.froz 2
    have k3 := HA2.out.froz 3
    have k4 := HA2.out.froz 4
    have hal := HA2.out.lt
    have hpq : p ≠ q := HPQ.out
    have hqp : q ≠ p := fun e => hpq e.symm
    go_upto_region 3 with fail
    go_region
    rw [HE0.out, HE1.out, HE2.out, HE3.out, HE4.out, HE5.out, HE6.out]
    clear a0 a1 a2 a3 a4 k0 k1 k2 k3 k4 hal c0 c1 f0 f1 hrl
    have HR6 := hm7 (HR2.out.below (below_drewN (Below.refl _ _) 1))
    have HA6 := hm7 (HA2.out.below (below_drewN (Below.refl _ _) 1))
    have HB5 : Hid (Below w.heap.size w W2.drew) := HB2.out.drew
    go_wp2
    have z0 : W2.drew.cell? ⟨q, 0, none⟩ = some (.int .i64 c) := HR6.out.cell (i := 0) rfl
    have z1 : W2.drew.cell? ⟨q, 1, none⟩ = some (.int .i64 a) := HR6.out.cell (i := 1) rfl
    have y0 : W2.drew.cell? ⟨p, 0, none⟩ = some (.int .i64 0) := HA6.out.cell (i := 0) rfl
    have y1 : W2.drew.cell? ⟨p, 1, none⟩ = some (.int .i64 0) := HA6.out.cell (i := 1) rfl
    have y2 : W2.drew.cell? ⟨p, 2, none⟩ = some (.string ⟨#[]⟩) := HA6.out.cell (i := 2) rfl
    have y3 : W2.drew.cell? ⟨p, 3, none⟩ = some (.string ⟨#[]⟩) := HA6.out.cell (i := 3) rfl
    have y4 : W2.drew.cell? ⟨p, 4, none⟩ = some (.slice none 0 0) := HA6.out.cell (i := 4) rfl
    show Leaves _ _ _ _ _ _ _
    simp [Leaves, results, Tryz.results41, go_sem, z0, z1, y0, y1, y2, y3, y4]
    exact ⟨HB5.out, at0, .slice none 0 0, c, a, rfl, World.ownsRow_nil _ _ _ _, rfl, rfl, rfl⟩
set_option maxRecDepth 20000 in
set_option maxHeartbeats 2000000 in
theorem query_any (s : ByteArray) (hs : s.size ≤ 9000000) (w : World) (hE : EnvOk w) (hO : OpsOk w) :
    Calls Tryz.prog 14 #[.string s] w (ReQ w (qg5 s 32768)) := by
  obtain ⟨t1, t2, t3⟩ := two5 w #[.int .i64 0, .int .i64 0, .string ⟨#[]⟩, .string ⟨#[]⟩, .slice none 0 0] #[.int .i64 0, .int .i64 0] 42 26
  have HB0 := hm7 t3
  have HR0 := hm7 t1
  have HA0 := hm7 t2
  have HRD := hm7 (readQ_any s 32768 hs (by decide) _ (hE.later HB0.out) (hO.fr (P := fun _ => False) (Fr.of HB0.out) fun h => h))
  have HZ0 : Hid (w.heap.size + 1 < ((w.alloc (.cells #[.int .i64 0, .int .i64 0, .string ⟨#[]⟩, .string ⟨#[]⟩, .slice none 0 0] 42)).alloc (.cells #[.int .i64 0, .int .i64 0] 26)).heap.size) := HR0.out.lt
  obtain ⟨R, hR⟩ : ∃ R, qg5 s 32768 = R := ⟨_, rfl⟩
  rw [hR] at HRD ⊢
  clear hE hO hR t1 t2 t3
  obtain ⟨Y0, hY0⟩ : ∃ Y0, (w.alloc (.cells #[.int .i64 0, .int .i64 0, .string ⟨#[]⟩, .string ⟨#[]⟩, .slice none 0 0] 42)).alloc (.cells #[.int .i64 0, .int .i64 0] 26) = Y0 := ⟨_, rfl⟩
  rw [hY0] at HB0 HR0 HA0 HRD HZ0
  have HY0 := hm7 hY0
  obtain ⟨p, hp⟩ : ∃ p, w.heap.size = p := ⟨_, rfl⟩
  obtain ⟨q, hq⟩ : ∃ q, p + 1 = q := ⟨_, rfl⟩
  rw [hp] at HA0 HR0 HZ0
  rw [hq] at HR0 HZ0
  have HP := hm7 hp
  have HQ := hm7 hq
  have hpq : p ≠ q := by omega
  have hqp : q ≠ p := by omega
  clear hY0 hp hq
  go_enter Tryz.func14, Tryz.ntmps14
  go_upto_region 1 with fail
  rw [HY0.out, HP.out, HQ.out]
  clear HY0
  go_wp2_with (go_at_call 41; refine HRD.out.mono ?_; rintro e W1 ⟨hb, x, y, c, a, rfl, hy, hm⟩; obtain ⟨⟨xk, xn, xs⟩, xm, xl⟩ := x; obtain ⟨ya, yc, hyf, -⟩ := row7_form hy; generalize hyn : List.length _ = yn at hyf; subst hyf; have HYN := hm7 hyn; have HYY := hm7 hy; have HM := hm7 hm; have HR1 := hm7 (HR0.out.below hb); have HA1 := hm7 (HA0.out.below hb); have HB1 := hm7 (HB0.out.trans (hb.mono HB0.out.size)); clear hb hm hy hyn; have r0 := HR1.out.cell (i := 0) rfl; have r1 := HR1.out.cell (i := 1) rfl; have f0 := HR1.out.froz 0; have f1 := HR1.out.froz 1; have hrl := HR1.out.lt; have a0 := HA1.out.cell (i := 0) rfl; have a1 := HA1.out.cell (i := 1) rfl; have a2 := HA1.out.cell (i := 2) rfl; have a3 := HA1.out.cell (i := 3) rfl; have a4 := HA1.out.cell (i := 4) rfl; have k0 := HA1.out.froz 0; have k1 := HA1.out.froz 1; have k2 := HA1.out.froz 2; have k3 := HA1.out.froz 3; have k4 := HA1.out.froz 4; have hal := HA1.out.lt)
  clear r0 r1 f0 f1 hrl a0 a1 a2 a3 a4 k0 k1 k2 k3 k4 hal
  have HPW : Hid (w.heap.size ≤ p) := by show _ ≤ _; rw [HP.out]; exact Nat.le_refl _
  have HQW : Hid (w.heap.size ≤ q) := by show _ ≤ _; rw [HP.out, ← HQ.out]; exact Nat.le_succ _
  have HPY : Hid (p < Y0.heap.size) := HA0.out.lt
  have HA5 := hm7 (store5a (a := .int .i64 xk) (b := .int .i64 xn) (c := .string xs) (d := .string xm) (e := .slice ya yn yc) HA1.out)
  have HFP : Hid (Fr (fun b => b = p) W1 (((((W1.setCell ⟨p, 0, none⟩ (.int .i64 xk)).setCell ⟨p, 1, none⟩ (.int .i64 xn)).setCell ⟨p, 2, none⟩ (.string xs)).setCell ⟨p, 3, none⟩ (.string xm)).setCell ⟨p, 4, none⟩ (.slice ya yn yc))) := (((((Fr.refl (fun b => b = p) _).set (Or.inl rfl)).set (Or.inl rfl)).set (Or.inl rfl)).set (Or.inl rfl)).set (Or.inl rfl)
  have HB5 : Hid (Below w.heap.size w (((((W1.setCell ⟨p, 0, none⟩ (.int .i64 xk)).setCell ⟨p, 1, none⟩ (.int .i64 xn)).setCell ⟨p, 2, none⟩ (.string xs)).setCell ⟨p, 3, none⟩ (.string xm)).setCell ⟨p, 4, none⟩ (.slice ya yn yc))) := ((((HB1.out.setCell (p := ⟨p, 0, none⟩) HPW.out _).setCell (p := ⟨p, 1, none⟩) HPW.out _).setCell (p := ⟨p, 2, none⟩) HPW.out _).setCell (p := ⟨p, 3, none⟩) HPW.out _).setCell (p := ⟨p, 4, none⟩) HPW.out _
  have HR5 := hm7 (HR1.out.fr HFP.out fun e => hqp e)
  have HY5 := hm7 (Ot5.fr HYY.out HFP.out fun b hb e => by have := HPY.out; omega)
  revert HA5 HFP HB5 HR5 HY5
  generalize ((((W1.setCell ⟨p, 0, none⟩ (.int .i64 xk)).setCell ⟨p, 1, none⟩ (.int .i64 xn)).setCell ⟨p, 2, none⟩ (.string xs)).setCell ⟨p, 3, none⟩ (.string xm)).setCell ⟨p, 4, none⟩ (.slice ya yn yc) = W5'
  intro HA5 HFP HB5 HR5 HY5
  have HFQ6 : Hid (Fr (fun b => b = q) W5' ((W5'.setCell ⟨q, 0, none⟩ (.int .i64 c)).setCell ⟨q, 1, none⟩ (.int .i64 a))) := ((Fr.refl (fun b => b = q) _).set (Or.inl rfl)).set (Or.inl rfl)
  have HR6 := hm7 (pair_put (a := .int .i64 c) (b := .int .i64 a) HR5.out)
  have HA6 := hm7 (HA5.out.fr HFQ6.out hpq)
  have HY6 := hm7 (Ot5.fr HY5.out HFQ6.out fun b hb e => by have := HZ0.out; omega)
  have HB6 : Hid (Below w.heap.size w ((W5'.setCell ⟨q, 0, none⟩ (.int .i64 c)).setCell ⟨q, 1, none⟩ (.int .i64 a))) := (HB5.out.setCell (p := ⟨q, 0, none⟩) HQW.out _).setCell (p := ⟨q, 1, none⟩) HQW.out _
  have z0 := HR6.out.cell (i := 0) rfl
  have z1 := HR6.out.cell (i := 1) rfl
  have y0 := HA6.out.cell (i := 0) rfl
  have y1 := HA6.out.cell (i := 1) rfl
  have y2 := HA6.out.cell (i := 2) rfl
  have y3 := HA6.out.cell (i := 3) rfl
  have y4 := HA6.out.cell (i := 4) rfl
  refine bodyPost_ret (v := .tuple #[At.v ⟨⟨xk, xn, xs⟩, xm, xl⟩ (.slice ya yn yc), .agg #[.int .i64 c, .int .i64 a]]) (by simp [results, Tryz.results14, go_sem, z0, z1, y0, y1, y2, y3, y4]) rfl ?_
  exact ⟨HB6.out, ⟨⟨xk, xn, xs⟩, xm, xl⟩, .slice ya yn yc, c, a, rfl, Ot5.mono5 HY6.out HB0.out.size, HM.out⟩
end Go.Proofs.YtcpjiahdaplhlaaGreatDoor
