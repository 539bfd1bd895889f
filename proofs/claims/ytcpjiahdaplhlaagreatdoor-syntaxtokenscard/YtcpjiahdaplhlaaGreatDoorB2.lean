import Derived.Test.YtcpjiahdaplhlaaGreatDoorSY2
import Derived.Laws.AppendOwnNone
import GoSem.Op.String
import Derived.Laws.Strings
import Derived.Test.YtcpjiahdaplhlaaGreatDoorSY0
import Derived.Laws.Cover1
import Derived.Laws.IdiomStrings
import Derived.Deep.QuietTactic
import Derived.BigQuiet
/-
  syntax: take, whole; variable, meaning.
-/
namespace Go.Proofs.YtcpjiahdaplhlaaGreatDoor
open Go.RowKit
attribute [local go_sem ↓] Go.wp_at_zero Go.wp_at_succ

theorem W5.of {c : Pk} {w w' : World} (h : Below w.heap.size w w') : Fr (W5 c) w w' := Fr.of h
theorem take5_any (ks : List Int) (kv : Value) (c : Pk) (s : Ps) (w : World) (h : PZ c w s) (hk : Nm5 w kv ks) (h0 : (0 : Int) ∉ ks) :
    Calls Tryz.prog 85 #[.pointer (some ⟨c.g, 0, none⟩), kv] w (P5P c w (fun (t : Tk) v _ => v = t.v) (tk5 c.T c.L ks s)) := by
  unfold tk5
  cases ht : c.T[s.nx]? with
  | none =>
    have e1 : kd5 c.T s 0 = 0 := by unfold kd5; rw [Nat.add_zero, ht]; rfl
    have e2 : pl5 c.T c.L s = c.L := by unfold pl5; rw [ht]; rfl
    have := take5_no ks kv c s w h hk (by rw [e1]; exact h0)
    rw [e2] at this
    exact this.mono fun e w' ⟨h1, h2⟩ => ⟨W5.of h2, h1⟩
  | some t =>
    by_cases hm : t.k ∈ ks
    · simp only [if_pos hm]
      exact (take5_ok t ks kv c s w h hk ht hm).mono fun e w' ⟨h1, h2, h3⟩ => ⟨h3, _, h1, rfl, h2⟩
    · simp only [if_neg hm]
      have e1 : kd5 c.T s 0 = t.k := by unfold kd5; rw [Nat.add_zero, ht]; rfl
      have e2 : pl5 c.T c.L s = t.a := by unfold pl5; rw [ht]; rfl
      have := take5_no ks kv c s w h hk (by rw [e1]; exact hm)
      rw [e2] at this
      exact this.mono fun e w' ⟨h1, h2⟩ => ⟨W5.of h2, h1⟩
/-- What take answers is the next token. -/
theorem tk5_some {T : List Tk} {L : Nat} {ks : List Int} {s s' : Ps} {t : Tk} (h : tk5 T L ks s = .ok (t, s')) : T[s.nx]? = some t ∧ t.k ∈ ks ∧ s' = ⟨s.nx + 1, s.op, s.vs, s.nm⟩ := by
  unfold tk5 at h
  cases ht : T[s.nx]? with
  | none => rw [ht] at h; simp at h
  | some u =>
    rw [ht] at h
    by_cases hm : u.k ∈ ks
    · simp only [if_pos hm, Except.ok.injEq, Prod.mk.injEq] at h
      obtain ⟨rfl, rfl⟩ := h
      exact ⟨rfl, hm, rfl⟩
    · simp [if_neg hm] at h
def us5 : ByteArray := ⟨#[95]⟩
def nput (f : ByteArray → Option Nat) (x : ByteArray) (n : Nat) : ByteArray → Option Nat := fun y => if y = x then some n else f y
/-- A variable's number. -/
def va5 (x : ByteArray) (s : Ps) : Nat × Ps :=
  if (s.nm x).isSome = true ∧ x ≠ us5 then ((s.nm x).getD 0, s) else (s.vs, ⟨s.nx, s.op, s.vs + 1, nput s.nm x s.vs⟩)
theorem PZ.named {c : Pk} {w W1 : World} {s : Ps} {n : Nat} {x : ByteArray} (h : PZ c w s) (hv : s.vs < s.nx) (hn : n ≤ s.vs + 1) (hm : Mp Tryz.prog 9 W1 c.mb n (mput (fun y => (s.nm y).map fun k => .int .i64 (k : Int)) x (.int .i64 (s.vs : Int)))) (hg : w.grownBy W1 (some c.mb)) :
    PZ c (W1.setCell ⟨c.g, 5, none⟩ (.int .i64 ((s.vs : Int) + 1))) ⟨s.nx, s.op, s.vs + 1, nput s.nm x s.vs⟩ ∧ Fr (W5 c) w (W1.setCell ⟨c.g, 5, none⟩ (.int .i64 ((s.vs : Int) + 1))) := by
  have f1 : Fr (fun b => b = c.mb) w W1 := Fr.grown hg fun k e => (Option.some.inj e).symm
  have f2 : Fr (fun b => b = c.g) W1 (W1.setCell ⟨c.g, 5, none⟩ (.int .i64 ((s.vs : Int) + 1))) := (Fr.refl _ _).set (Or.inl rfl)
  have f3 : Fr (W5 c) w (W1.setCell ⟨c.g, 5, none⟩ (.int .i64 ((s.vs : Int) + 1))) := (f1.mono (Q := W5 c) fun b _ e => Or.inr e).trans f2 fun b _ e => Or.inl e
  refine ⟨⟨?_, h.t.fr f3 fun b _ hF e => ?_, ⟨n, hn, ?_⟩, h.le, hv, h.ob, h.ne, h.gN, h.mN, Nat.le_trans h.Nw f3.size, h.ok, h.o.fr f3 (fun e => by rcases e with e | e; exact h.og.1 e.symm; exact h.og.2.1 e.symm), h.og⟩, f3⟩
  · have := (h.b.fr f1 h.ne).set 5 (.int .i64 ((s.vs : Int) + 1))
    simpa using this
  · rcases e with e | e
    · exact hF.1 e
    · exact hF.2.1 e
  · have e : (mput (fun y => (s.nm y).map fun k => Value.int .i64 (k : Int)) x (.int .i64 (s.vs : Int))) = fun y => (nput s.nm x s.vs y).map fun k => Value.int .i64 (k : Int) := by
      funext y
      unfold mput nput
      by_cases hy : y = x <;> simp [hy]
    rw [e] at hm
    exact hm.fr f2 fun e => h.ne e.symm
theorem zero5 (X : World) : (zeroValue 3).run Tryz.prog X = .ok (.int .i64 0) X := by kernel_rfl
theorem us5_ne {x : ByteArray} (h : x ≠ us5) : (x.toList == [95]) = false := by
  rw [ByteArray.toList_eq, beq_eq_false_iff_ne]
  intro e
  apply h
  obtain ⟨⟨a⟩⟩ := x
  simp at e
  unfold us5
  rw [e]
set_option maxRecDepth 20000 in
set_option maxHeartbeats 1000000 in
theorem variable5_any (x : ByteArray) (hx : x.size ≤ 2000000) (c : Pk) (s : Ps) (w : World) (h : PZ c w s) (hv : s.vs < s.nx) :
    Calls Tryz.prog 209 #[.pointer (some ⟨c.g, 0, none⟩), .string x] w fun e w' => e = .returned (.int .i64 ((va5 x s).1 : Int)) ∧ PZ c w' (va5 x s).2 ∧ Fr (W5 c) w w' := by
  obtain ⟨n, hn, hm⟩ := h.m
  have hlk := hm.has Tryz.underlying9 Tryz.underlying107 (zero5 w) (s := x) (by unfold maxLen; omega)
  have hst := hm.store Tryz.underlying9 Tryz.underlying107 (s := x) (by have := h.vb; have := h.le; have := h.ok.l; unfold maxLen; omega) (by unfold maxLen; omega) (.int .i64 (s.vs : Int))
  have c4 := h.b.cell (i := 4) rfl
  have c5 := h.b.cell (i := 5) rfl
  have hgl := h.b.lt
  have HZ := hm7 h
  have hvb : s.vs ≤ 2000000 := by have := h.vb; have := h.le; have := h.ok.l; omega
  by_cases hh : (s.nm x).isSome = true ∧ x ≠ us5
  · obtain ⟨k, hk⟩ : ∃ k, s.nm x = some k := Option.isSome_iff_exists.1 hh.1
    have e1 : va5 x s = (k, s) := by unfold va5; rw [if_pos hh, hk]; rfl
    rw [e1]
    replace hlk : (Instr.lookup 107 (.map (some c.mb)) (.string x) true).run Tryz.prog w = .ok (.tuple #[.int .i64 (k : Int), .bool true]) w := by rw [hlk]; simp [hk]
    have hu := us5_ne hh.2
    clear hst hh h hm hk e1
    generalize c.g = g at *
    generalize c.mb = mb at *
    go_enter Tryz.func209, Tryz.ntmps209
    go_wp2
    go_ret
    exact ⟨rfl, HZ.out, Fr.refl _ _⟩
  · have e1 : va5 x s = (s.vs, ⟨s.nx, s.op, s.vs + 1, nput s.nm x s.vs⟩) := by unfold va5; rw [if_neg hh]
    rw [e1]
    obtain ⟨W1, hrun, hmp, hgr⟩ := hst
    have hle : (if ((s.nm x).map fun k => Value.int .i64 (k : Int)).isSome then n else n + 1) ≤ s.vs + 1 := by split <;> omega
    obtain ⟨hz, hf⟩ := h.named hv hle hmp hgr
    have HZ1 := hm7 hz
    have HF1 := hm7 hf
    have hb1 : Bk W1 c.g _ 109 := h.b.fr (Fr.grown (P := fun b => b = c.mb) hgr fun k e => (Option.some.inj e).symm) h.ne
    have d5 := hb1.cell (i := 5) rfl
    have df := hb1.froz 5
    have dl := hb1.lt
    clear hz hf hb1 hmp hgr hle h hm e1
    by_cases hs : (s.nm x).isSome = true
    · have hxu : x = us5 := Classical.byContradiction fun e => hh ⟨hs, e⟩
      subst hxu
      obtain ⟨k, hk⟩ : ∃ k, s.nm us5 = some k := Option.isSome_iff_exists.1 hs
      replace hlk : (Instr.lookup 107 (.map (some c.mb)) (.string us5) true).run Tryz.prog w = .ok (.tuple #[.int .i64 (k : Int), .bool true]) w := by rw [hlk]; simp [hk]
      clear hh hs hk
      generalize c.g = g at *
      generalize c.mb = mb at *
      generalize s.vs = vs at *
      unfold us5 at *
      go_enter Tryz.func209, Tryz.ntmps209
      go_wp2
      go_ret
      exact ⟨rfl, HZ1.out, HF1.out⟩
    · have hk : s.nm x = none := by simpa using hs
      replace hlk : (Instr.lookup 107 (.map (some c.mb)) (.string x) true).run Tryz.prog w = .ok (.tuple #[.int .i64 0, .bool false]) w := by rw [hlk]; simp [hk]
      clear hh hs hk
      generalize c.g = g at *
      generalize c.mb = mb at *
      generalize s.vs = vs at *
      go_enter Tryz.func209, Tryz.ntmps209
      go_wp2
      go_ret
      exact ⟨rfl, HZ1.out, HF1.out⟩
end Go.Proofs.YtcpjiahdaplhlaaGreatDoor
/-
  syntax: meaning, term, who. (Written by SY4.py.)
-/
namespace Go.Proofs.YtcpjiahdaplhlaaGreatDoor
open Go.RowKit
attribute [local go_sem ↓] Go.wp_at_zero Go.wp_at_succ

theorem two5 (w : World) (c0 c1 : Array Value) (t0 t1 : TypeId) : Bk ((w.alloc (.cells c0 t0)).alloc (.cells c1 t1)) (w.heap.size + 1) c1 t1 ∧ Bk ((w.alloc (.cells c0 t0)).alloc (.cells c1 t1)) w.heap.size c0 t0 ∧ Below w.heap.size w ((w.alloc (.cells c0 t0)).alloc (.cells c1 t1)) := by
  refine ⟨?_, (Bk.new _ _ _).below (below1 _ _), (below1 w (.cells c0 t0)).trans ((below1 _ _).mono (below1 w (.cells c0 t0)).size)⟩
  have := Bk.new (w.alloc (.cells c0 t0)) c1 t1
  rw [show (w.alloc (.cells c0 t0)).heap.size = w.heap.size + 1 by simp] at this
  exact this
theorem PZ.nw {c : Pk} {w : World} {s : Ps} {r : Nat} (h : PZ c w s) (hr : w.heap.size ≤ r) : ¬ W5 c r ∧ c.N ≤ r :=
  ⟨fun e => by rcases e with e | e <;> (have := h.gN; have := h.mN; have := h.Nw; omega), Nat.le_trans h.Nw hr⟩
theorem store3y {w : World} {g : Nat} {t : TypeId} {z0 z1 z2 a b c : Value} (h : Bk w g #[z0, z1, z2] t) : Bk (((w.setCell ⟨g, 0, none⟩ a).setCell ⟨g, 1, none⟩ b).setCell ⟨g, 2, none⟩ c) g #[a, b, c] t := by
  have := ((h.set 0 a).set 1 b).set 2 c
  simpa using this
theorem PZ.off3 {c : Pk} {w : World} {s : Ps} {r : Nat} {x y z : Value} (h : PZ c w s) (hr : c.N ≤ r) : PZ c (((w.setCell ⟨r, 0, none⟩ x).setCell ⟨r, 1, none⟩ y).setCell ⟨r, 2, none⟩ z) s := ((h.off hr).off hr).off hr
theorem fr_off3 {P : Nat → Prop} {w0 w : World} {r : Nat} {x y z : Value} (h : Fr P w0 w) (hr : w0.heap.size ≤ r) : Fr P w0 (((w.setCell ⟨r, 0, none⟩ x).setCell ⟨r, 1, none⟩ y).setCell ⟨r, 2, none⟩ z) := ((h.set (Or.inr hr)).set (Or.inr hr)).set (Or.inr hr)
/-- What a token means. -/
def mean5 (t : Tk) (s : Ps) : Tm × Ps := if t.k = 2 then (⟨3, ((va5 t.x s).1 : Int), ⟨#[]⟩⟩, (va5 t.x s).2) else if t.k = 4 then (⟨1, t.n, ⟨#[]⟩⟩, s) else (⟨2, 0, t.x⟩, s)
set_option maxRecDepth 20000 in
set_option maxHeartbeats 1000000 in
theorem meaning5_any (t : Tk) (hx : t.x.size ≤ 2000000) (c : Pk) (s : Ps) (w : World) (h : PZ c w s) (hv : s.vs < s.nx) :
    Calls Tryz.prog 192 #[.pointer (some ⟨c.g, 0, none⟩), t.v] w fun e w' => e = .returned (mean5 t s).1.v ∧ PZ c w' (mean5 t s).2 ∧ Fr (W5 c) w w' := by
  obtain ⟨r1, r0, hb0⟩ := two5 w #[.int .i64 t.k, .string t.x, .int .i64 t.n, .int .i64 t.a, .int .i64 t.e] #[.int .i64 0, .int .i64 0, .string ⟨#[]⟩] 64 39
  have HV : Hid (∀ X : World, PZ c X s → Calls Tryz.prog 209 #[.pointer (some ⟨c.g, 0, none⟩), .string t.x] X fun e w' => e = .returned (.int .i64 ((va5 t.x s).1 : Int)) ∧ PZ c w' (va5 t.x s).2 ∧ Fr (W5 c) X w') := fun X hX => variable5_any t.x hx c s X hX hv
  obtain ⟨k1, k2⟩ := h.nw (r := w.heap.size + 1) (by omega)
  have HK1 := hm7 k1
  have HK2 := hm7 k2
  have HB0 := hm7 hb0
  have HZ0 := hm7 (h.below hb0)
  have HR0 := hm7 r1
  have HT0 := hm7 r0
  have HWZ : Hid (w.heap.size ≤ w.heap.size + 1) := Nat.le_succ _
  obtain ⟨Y0, hY0⟩ : ∃ Y0, (w.alloc (.cells #[.int .i64 t.k, .string t.x, .int .i64 t.n, .int .i64 t.a, .int .i64 t.e] 64)).alloc (.cells #[.int .i64 0, .int .i64 0, .string ⟨#[]⟩] 39) = Y0 := ⟨_, rfl⟩
  rw [hY0] at HB0 HZ0 HR0 HT0
  have HY0 := hm7 hY0
  obtain ⟨q, hq⟩ : ∃ q, w.heap.size = q := ⟨_, rfl⟩
  rw [hq] at HK1 HK2 HR0 HT0
  have HQ := hm7 hq
  unfold mean5
  clear h r1 r0 hb0 k1 k2 hY0 hq
  obtain ⟨tk, tx, tn, ta, te⟩ := t
  dsimp only at *
  have d0 := HT0.out.cell (i := 0) rfl
  have d1 := HT0.out.cell (i := 1) rfl
  have d2 := HT0.out.cell (i := 2) rfl
  have r0 := HR0.out.cell (i := 0) rfl
  have r1 := HR0.out.cell (i := 1) rfl
  have r2 := HR0.out.cell (i := 2) rfl
  have f0 := HR0.out.froz 0
  have f1 := HR0.out.froz 1
  have f2 := HR0.out.froz 2
  have hrl := HR0.out.lt
  have HQW : Hid (w.heap.size ≤ q + 1) := by show _ ≤ _; rw [HQ.out]; exact Nat.le_succ _
  by_cases h2 : tk = 2
  · rw [if_pos h2]
    obtain ⟨vn, hvn⟩ : ∃ vn : Nat, (va5 tx s).1 = vn := ⟨_, rfl⟩
    obtain ⟨vs', hvs⟩ : ∃ u, (va5 tx s).2 = u := ⟨_, rfl⟩
    rw [hvn, hvs] at HV ⊢
    subst h2
    clear hvn hvs
    go_enter Tryz.func192, Tryz.ntmps192
    go_upto_region 1 with fail
    rw [HY0.out, HQ.out]
    clear HY0
    go_upto_region 4 with (go_at_call 209; refine (HV.out _ HZ0.out).mono ?_; rintro e W1 ⟨rfl, hz, hf⟩; have HZ1 := hm7 hz; have HF1 := hm7 (W5.of (c := c) HB0.out |>.tr hf); have HR1 := hm7 (HR0.out.fr hf HK1.out); have r0' := HR1.out.cell (i := 0) rfl; have r1' := HR1.out.cell (i := 1) rfl; have r2' := HR1.out.cell (i := 2) rfl; have f0' := HR1.out.froz 0; have f1' := HR1.out.froz 1; have f2' := HR1.out.froz 2; have hrl' := HR1.out.lt; clear hz hf d0 d1 d2 r0 r1 r2 f0 f1 f2 hrl HR0)
    all_goals skip
    have HRZ := hm7 (store3y HR1.out (a := .int .i64 3) (b := .int .i64 (vn : Int)) (c := .string ⟨#[]⟩))
    have z0 := HRZ.out.cell (i := 0) rfl
    have z1 := HRZ.out.cell (i := 1) rfl
    have z2 := HRZ.out.cell (i := 2) rfl
    have HZ2 := hm7 (HZ1.out.off3 (x := .int .i64 3) (y := .int .i64 (vn : Int)) (z := .string ⟨#[]⟩) HK2.out)
    have HF2 := hm7 (fr_off3 (x := .int .i64 3) (y := .int .i64 (vn : Int)) (z := .string ⟨#[]⟩) HF1.out HQW.out)
    try go_wp2
    refine bodyPost_ret (v := .agg #[.int .i64 3, .int .i64 (vn : Int), .string ⟨#[]⟩]) (by simp [results, Tryz.results192, go_sem, z0, z1, z2]) rfl ?_
    exact ⟨rfl, HZ2.out, HF2.out⟩
  · have h2' : (tk == 2) = false := by simp [h2]
    rw [if_neg h2]
    by_cases h4 : tk = 4
    · rw [if_pos h4]
      subst h4
      have HRZ := hm7 (store3y HR0.out (a := .int .i64 1) (b := .int .i64 tn) (c := .string ⟨#[]⟩))
      have z0 := HRZ.out.cell (i := 0) rfl
      have z1 := HRZ.out.cell (i := 1) rfl
      have z2 := HRZ.out.cell (i := 2) rfl
      have HZ2 := hm7 (HZ0.out.off3 (x := .int .i64 1) (y := .int .i64 tn) (z := .string ⟨#[]⟩) HK2.out)
      have HF2 := hm7 (fr_off3 (x := .int .i64 1) (y := .int .i64 tn) (z := .string ⟨#[]⟩) (W5.of (c := c) HB0.out) HQW.out)
      clear HV
      go_enter Tryz.func192, Tryz.ntmps192
      go_upto_region 1 with fail
      rw [HY0.out, HQ.out]
      clear HY0
      go_wp2
      refine bodyPost_ret (v := .agg #[.int .i64 1, .int .i64 tn, .string ⟨#[]⟩]) (by simp [results, Tryz.results192, go_sem, z0, z1, z2]) rfl ?_
      exact ⟨rfl, HZ2.out, HF2.out⟩
    · have h4' : (tk == 4) = false := by simp [h4]
      rw [if_neg h4]
      have HRZ := hm7 (store3y HR0.out (a := .int .i64 2) (b := .int .i64 0) (c := .string tx))
      have z0 := HRZ.out.cell (i := 0) rfl
      have z1 := HRZ.out.cell (i := 1) rfl
      have z2 := HRZ.out.cell (i := 2) rfl
      have HZ2 := hm7 (HZ0.out.off3 (x := .int .i64 2) (y := .int .i64 0) (z := .string tx) HK2.out)
      have HF2 := hm7 (fr_off3 (x := .int .i64 2) (y := .int .i64 0) (z := .string tx) (W5.of (c := c) HB0.out) HQW.out)
      clear HV
      go_enter Tryz.func192, Tryz.ntmps192
      go_upto_region 1 with fail
      rw [HY0.out, HQ.out]
      clear HY0
      go_wp2
      refine bodyPost_ret (v := .agg #[.int .i64 2, .int .i64 0, .string tx]) (by simp [results, Tryz.results192, go_sem, z0, z1, z2]) rfl ?_
      exact ⟨rfl, HZ2.out, HF2.out⟩
def tm5 (T : List Tk) (L : Nat) (s : Ps) : R5 Tm := (tk5 T L [1, 3, 2, 4] s).and fun t s => .ok (mean5 t s)
set_option maxRecDepth 20000 in
set_option maxHeartbeats 1000000 in
theorem term5_any (c : Pk) (s : Ps) (w : World) (h : PZ c w s) :
    Calls Tryz.prog 160 #[.pointer (some ⟨c.g, 0, none⟩)] w (P5P c w (fun (t : Tm) v _ => v = t.v) (tm5 c.T c.L s)) := by
  obtain ⟨k1, r1, hb0⟩ := two5 w #[.int .i64 0, .int .i64 0, .string ⟨#[]⟩] #[.int .i64 1, .int .i64 3, .int .i64 2, .int .i64 4] 39 3
  have HTK := hm7 (take5_any [1, 3, 2, 4] (.slice (some ⟨w.heap.size + 1, 0, none⟩) 4 4) c s _ (h.below hb0) (Nm5.bk (ks := [1, 3, 2, 4]) k1 rfl (by decide)) (by decide))
  obtain ⟨n1, n2⟩ := h.nw (r := w.heap.size) (Nat.le_refl _)
  have HN1 := hm7 n1
  have HN2 := hm7 n2
  have HB0 := hm7 hb0
  have HR0 := hm7 r1
  have HX : Hid (∀ t ∈ c.T, t.x.size ≤ 2000000) := h.ok.x
  have HVB : Hid (s.vs ≤ s.nx) := h.vb
  obtain ⟨Y0, hY0⟩ : ∃ Y0, (w.alloc (.cells #[.int .i64 0, .int .i64 0, .string ⟨#[]⟩] 39)).alloc (.cells #[.int .i64 1, .int .i64 3, .int .i64 2, .int .i64 4] 3) = Y0 := ⟨_, rfl⟩
  rw [hY0] at HTK HB0 HR0
  have HY0 := hm7 hY0
  obtain ⟨q, hq⟩ : ∃ q, w.heap.size = q := ⟨_, rfl⟩
  rw [hq] at HTK HN1 HN2 HR0
  have HQ := hm7 hq
  clear h k1 r1 hb0 n1 n2 hY0 hq
  unfold tm5
  cases hr : tk5 c.T c.L [1, 3, 2, 4] s with
  | error f =>
    have HE := hm7 (P5P.err HTK.out hr)
    clear HTK hr
    show Calls _ _ _ _ (P5P c w _ (.error f))
    generalize c.g = g at *
    go_enter Tryz.func160, Tryz.ntmps160
    go_wp2_with (go_at_call 85; first | rw [HY0.out] | skip; first | rw [HQ.out] | skip; refine HE.out.mono ?_; rintro e W1 ⟨rfl, hf⟩; have HF1 := hm7 (W5.of (c := c) HB0.out |>.tr hf); clear hf)
    exact ⟨rfl, HF1.out, rfl⟩
  | ok p =>
    obtain ⟨t, s1⟩ := p
    have HE := hm7 (P5P.ok HTK.out hr)
    obtain ⟨ht, -, hs1⟩ := tk5_some hr
    have hxs := HX.out t (List.mem_of_getElem? ht)
    have hvs : s1.vs < s1.nx := by rw [hs1]; have := HVB.out; show s.vs < s.nx + 1; omega
    have HM : Hid (∀ X : World, PZ c X s1 → Calls Tryz.prog 192 #[.pointer (some ⟨c.g, 0, none⟩), t.v] X fun e w' => e = .returned (mean5 t s1).1.v ∧ PZ c w' (mean5 t s1).2 ∧ Fr (W5 c) X w') := fun X hX => meaning5_any t hxs c s1 X hX hvs
    clear HTK hr hxs hvs hs1 ht
    show Calls _ _ _ _ (P5P c w _ (.ok (mean5 t s1)))
    obtain ⟨mt, hmt⟩ : ∃ m, mean5 t s1 = m := ⟨_, rfl⟩
    rw [hmt] at HM ⊢
    clear hmt
    obtain ⟨⟨mk, mn, ms⟩, s2⟩ := mt
    obtain ⟨tk, tx, tn, ta, te⟩ := t
    dsimp only at HM
    have HQW : Hid (w.heap.size ≤ q) := by show _ ≤ _; rw [HQ.out]; exact Nat.le_refl _
    generalize hg : c.g = g at *
    clear hg
    go_enter Tryz.func160, Tryz.ntmps160
    go_wp2_with (first
      | (go_at_call 85; (first | rw [HY0.out] | skip); (first | rw [HQ.out] | skip); refine HE.out.mono ?_; rintro e W1 ⟨v1, rfl, rfl, hz, hf⟩; have HZ1 := hm7 hz; have HF1 := hm7 (W5.of (c := c) HB0.out |>.tr hf); have HR1 := hm7 (HR0.out.fr hf HN1.out); clear hz hf)
      | (go_at_call 192; refine (HM.out _ HZ1.out).mono ?_; rintro e W2 ⟨rfl, hz, hf⟩; have HZ2 := hm7 hz; have HF2 := hm7 (HF1.out.tr hf); have HR2 := hm7 (HR1.out.fr hf HN1.out); have r0' := HR2.out.cell (i := 0) rfl; have r1' := HR2.out.cell (i := 1) rfl; have r2' := HR2.out.cell (i := 2) rfl; have f0' := HR2.out.froz 0; have f1' := HR2.out.froz 1; have f2' := HR2.out.froz 2; have hrl' := HR2.out.lt; clear hz hf))
    have HRZ := hm7 (store3y HR2.out (a := .int .i64 mk) (b := .int .i64 mn) (c := .string ms))
    have z0 := HRZ.out.cell (i := 0) rfl
    have z1 := HRZ.out.cell (i := 1) rfl
    have z2 := HRZ.out.cell (i := 2) rfl
    have HZ3 := hm7 (HZ2.out.off3 (x := .int .i64 mk) (y := .int .i64 mn) (z := .string ms) HN2.out)
    have HF3 := hm7 (fr_off3 (x := .int .i64 mk) (y := .int .i64 mn) (z := .string ms) HF2.out HQW.out)
    refine bodyPost_ret (v := .agg #[.int .i64 mk, .int .i64 mn, .string ms]) (by simp [results, Tryz.results160, go_sem, z0, z1, z2]) rfl ?_
    exact ⟨HF3.out, _, rfl, rfl, HZ3.out⟩
def who5 (T : List Tk) (L : Nat) (s : Ps) : R5 Tm := (tk5 T L [1, 3, 2] s).and fun t s => .ok (mean5 t s)
set_option maxRecDepth 20000 in
set_option maxHeartbeats 1000000 in
theorem whoP5_any (c : Pk) (s : Ps) (w : World) (h : PZ c w s) :
    Calls Tryz.prog 158 #[.pointer (some ⟨c.g, 0, none⟩)] w (P5P c w (fun (t : Tm) v _ => v = t.v) (who5 c.T c.L s)) := by
  obtain ⟨k1, r1, hb0⟩ := two5 w #[.int .i64 0, .int .i64 0, .string ⟨#[]⟩] #[.int .i64 1, .int .i64 3, .int .i64 2] 39 3
  have HTK := hm7 (take5_any [1, 3, 2] (.slice (some ⟨w.heap.size + 1, 0, none⟩) 3 3) c s _ (h.below hb0) (Nm5.bk (ks := [1, 3, 2]) k1 rfl (by decide)) (by decide))
  obtain ⟨n1, n2⟩ := h.nw (r := w.heap.size) (Nat.le_refl _)
  have HN1 := hm7 n1
  have HN2 := hm7 n2
  have HB0 := hm7 hb0
  have HR0 := hm7 r1
  have HX : Hid (∀ t ∈ c.T, t.x.size ≤ 2000000) := h.ok.x
  have HVB : Hid (s.vs ≤ s.nx) := h.vb
  obtain ⟨Y0, hY0⟩ : ∃ Y0, (w.alloc (.cells #[.int .i64 0, .int .i64 0, .string ⟨#[]⟩] 39)).alloc (.cells #[.int .i64 1, .int .i64 3, .int .i64 2] 3) = Y0 := ⟨_, rfl⟩
  rw [hY0] at HTK HB0 HR0
  have HY0 := hm7 hY0
  obtain ⟨q, hq⟩ : ∃ q, w.heap.size = q := ⟨_, rfl⟩
  rw [hq] at HTK HN1 HN2 HR0
  have HQ := hm7 hq
  clear h k1 r1 hb0 n1 n2 hY0 hq
  unfold who5
  cases hr : tk5 c.T c.L [1, 3, 2] s with
  | error f =>
    have HE := hm7 (P5P.err HTK.out hr)
    clear HTK hr
    show Calls _ _ _ _ (P5P c w _ (.error f))
    generalize c.g = g at *
    go_enter Tryz.func158, Tryz.ntmps158
    go_wp2_with (go_at_call 85; first | rw [HY0.out] | skip; first | rw [HQ.out] | skip; refine HE.out.mono ?_; rintro e W1 ⟨rfl, hf⟩; have HF1 := hm7 (W5.of (c := c) HB0.out |>.tr hf); clear hf)
    exact ⟨rfl, HF1.out, rfl⟩
  | ok p =>
    obtain ⟨t, s1⟩ := p
    have HE := hm7 (P5P.ok HTK.out hr)
    obtain ⟨ht, -, hs1⟩ := tk5_some hr
    have hxs := HX.out t (List.mem_of_getElem? ht)
    have hvs : s1.vs < s1.nx := by rw [hs1]; have := HVB.out; show s.vs < s.nx + 1; omega
    have HM : Hid (∀ X : World, PZ c X s1 → Calls Tryz.prog 192 #[.pointer (some ⟨c.g, 0, none⟩), t.v] X fun e w' => e = .returned (mean5 t s1).1.v ∧ PZ c w' (mean5 t s1).2 ∧ Fr (W5 c) X w') := fun X hX => meaning5_any t hxs c s1 X hX hvs
    clear HTK hr hxs hvs hs1 ht
    show Calls _ _ _ _ (P5P c w _ (.ok (mean5 t s1)))
    obtain ⟨mt, hmt⟩ : ∃ m, mean5 t s1 = m := ⟨_, rfl⟩
    rw [hmt] at HM ⊢
    clear hmt
    obtain ⟨⟨mk, mn, ms⟩, s2⟩ := mt
    obtain ⟨tk, tx, tn, ta, te⟩ := t
    dsimp only at HM
    have HQW : Hid (w.heap.size ≤ q) := by show _ ≤ _; rw [HQ.out]; exact Nat.le_refl _
    generalize hg : c.g = g at *
    clear hg
    go_enter Tryz.func158, Tryz.ntmps158
    go_wp2_with (first
      | (go_at_call 85; (first | rw [HY0.out] | skip); (first | rw [HQ.out] | skip); refine HE.out.mono ?_; rintro e W1 ⟨v1, rfl, rfl, hz, hf⟩; have HZ1 := hm7 hz; have HF1 := hm7 (W5.of (c := c) HB0.out |>.tr hf); have HR1 := hm7 (HR0.out.fr hf HN1.out); clear hz hf)
      | (go_at_call 192; refine (HM.out _ HZ1.out).mono ?_; rintro e W2 ⟨rfl, hz, hf⟩; have HZ2 := hm7 hz; have HF2 := hm7 (HF1.out.tr hf); have HR2 := hm7 (HR1.out.fr hf HN1.out); have r0' := HR2.out.cell (i := 0) rfl; have r1' := HR2.out.cell (i := 1) rfl; have r2' := HR2.out.cell (i := 2) rfl; have f0' := HR2.out.froz 0; have f1' := HR2.out.froz 1; have f2' := HR2.out.froz 2; have hrl' := HR2.out.lt; clear hz hf))
    have HRZ := hm7 (store3y HR2.out (a := .int .i64 mk) (b := .int .i64 mn) (c := .string ms))
    have z0 := HRZ.out.cell (i := 0) rfl
    have z1 := HRZ.out.cell (i := 1) rfl
    have z2 := HRZ.out.cell (i := 2) rfl
    have HZ3 := hm7 (HZ2.out.off3 (x := .int .i64 mk) (y := .int .i64 mn) (z := .string ms) HN2.out)
    have HF3 := hm7 (fr_off3 (x := .int .i64 mk) (y := .int .i64 mn) (z := .string ms) HF2.out HQW.out)
    refine bodyPost_ret (v := .agg #[.int .i64 mk, .int .i64 mn, .string ms]) (by simp [results, Tryz.results158, go_sem, z0, z1, z2]) rfl ?_
    exact ⟨HF3.out, _, rfl, rfl, HZ3.out⟩
end Go.Proofs.YtcpjiahdaplhlaaGreatDoor
/-
  syntax: lists of terms; args.
-/
namespace Go.Proofs.YtcpjiahdaplhlaaGreatDoor
open Go.RowKit
attribute [local go_sem ↓] Go.wp_at_zero Go.wp_at_succ

theorem info5 {P : Program} {e : TypeId} {z : Value} {s b : Nat} (h : (P.info? e).map (fun i => (i.zero, i.size, i.bytes)) = some (some z, s, b)) : ∃ i, P.info? e = some i ∧ i.zero = some z ∧ i.size = s ∧ i.bytes = b := by
  cases hi : P.info? e with
  | none => rw [hi] at h; simp at h
  | some i =>
    rw [hi] at h
    simp only [Option.map_some, Option.some.injEq, Prod.mk.injEq] at h
    exact ⟨i, rfl, h.1, h.2.1, h.2.2⟩
/-- append of one, whatever it is. -/
theorem gapp5 {T e : TypeId} {z : Value} {by_ size : Nat} (hT : Tryz.prog.underlying T = some (.slice e)) (hI : (Tryz.prog.info? e).map (fun i => (i.zero, i.size, i.bytes)) = some (some z, size, by_)) (hz : z.cells.size = size) (hsz : 0 < size) (hby : by_ ≤ 1000)
    {ops : Array Oper} {rest : List Oper} {o : Oper} {a : Act} {Q : Exit → Act → World → Prop} {w : World} (hgd : o.guard = none) (s x : Operand)
    (ho : o.op = .call { callee := .builtin .append, args := #[s, x], argTypes := #[T, T] }) (base : Nat) (v : Value) (n : Nat) (l : List Value) (hs : a.eval s = v) (hown : w.ownsRow base e size v n l)
    (b : Nat) (y : Array Value) (hx : a.eval x = .slice (some ⟨b, 0, none⟩) 1 1) (hblk : Bk w b y e) (hy : y.size = size) (hone : ∀ u ∈ y.toList, u.oneCell' = true) (hlen : n ≤ 100000000) (hbase : base ≤ w.heap.size)
    (h : ∀ g cap w', w'.ownsRow base e size (.slice (some ⟨g, 0, none⟩) (n + 1) cap) (n + 1) (l ++ y.toList) → w.grownBy w' v.ownBlock → (v.ownBlock = some g ∨ g = w.heap.size) → g < w'.heap.size → wpList Tryz.prog ops Q rest (a.put o.dst (.slice (some ⟨g, 0, none⟩) (n + 1) cap)) w') : wpList Tryz.prog ops Q (o :: rest) a w := by
  obtain ⟨i, hi, h0, h1, h2⟩ := info5 hI
  refine wpList_append_lies _ hgd s x T ho base e i z size by_ hT hi h0 h1 h2 hz hsz v n l hs hown ⟨b, 0, none⟩ 1 1 y.toList hx (by simp [hy]) ?_ hone (by omega) (by unfold maxLen; omega) (Nat.le_trans (Nat.mul_le_mul (show n + 1 ≤ 100000001 by omega) hby) (by decide)) hbase _ rfl h
  intro j u hj
  exact World.news_of_block (cs := y) (t := e) (fr := (0, 0)) hblk j u (by simpa using hj)
theorem Tryz.infoTerm5 : (Tryz.prog.info? 39).map (fun i => (i.zero, i.size, i.bytes)) = some (some (.agg #[.int .i64 0, .int .i64 0, .string ⟨#[]⟩]), 3, 32) := by kernel_rfl
def tc5 (l : List Tm) : List Value := l.flatMap fun t => [.int .i64 t.k, .int .i64 t.n, .string t.s]
/-- Terms that the call has laid. -/
def Ot5 (w : World) (base : Nat) (v : Value) (l : List Tm) : Prop := w.ownsRow base 39 3 v l.length (tc5 l)
theorem Ot5.fr {P : Nat → Prop} {w w' : World} {base : Nat} {v : Value} {l : List Tm} (h : Ot5 w base v l) (hf : Fr P w w') (hP : ∀ b, base ≤ b → ¬ P b) : Ot5 w' base v l :=
  row7_fr h hf fun g hg => hP g (World.ownsRow.lt h g hg).1
theorem Ot5.below {w w' : World} {base : Nat} {v : Value} {l : List Tm} (h : Ot5 w base v l) (hb : Below w.heap.size w w') : Ot5 w' base v l := row7_below h hb
theorem Ot5.mono5 {w : World} {b b' : Nat} {v : Value} {l : List Tm} (h : Ot5 w b v l) (hb : b' ≤ b) : Ot5 w b' v l := by
  refine ⟨h.1, ?_⟩
  rcases h.2 with hn | ⟨g, cap, cur, hv, hbb, hg, rest⟩
  · exact Or.inl hn
  · exact Or.inr ⟨g, cap, cur, hv, Nat.le_trans hb hbb, hg, rest⟩
theorem Ot5.one {w : World} {b base : Nat} {t : Tm} (h : Bk w b #[.int .i64 t.k, .int .i64 t.n, .string t.s] 39) (hb : base ≤ b) : Ot5 w base (.slice (some ⟨b, 0, none⟩) 1 1) [t] :=
  ⟨rfl, Or.inr ⟨b, 1, _, rfl, hb, h, Nat.le_refl _, by unfold maxLen; omega, rfl, rfl⟩⟩
theorem Ot5.snoc {w : World} {base n : Nat} {v : Value} {l : List Tm} {k m : Int} {x : ByteArray} (hn : l.length = n) (h : w.ownsRow base 39 3 v (n + 1) (tc5 l ++ [.int .i64 k, .int .i64 m, .string x])) : Ot5 w base v (l ++ [⟨k, m, x⟩]) := by
  subst hn
  unfold Ot5
  rw [List.length_append, List.length_singleton, show tc5 (l ++ [⟨k, m, x⟩]) = tc5 l ++ [.int .i64 k, .int .i64 m, .string x] by simp [tc5]]
  exact h
/-- A list, with signs between: from what is there on. -/
def ls5 {α : Type} (one : Ps → R5 α) (T : List Tk) (L : Nat) (b : Int) : Nat → List α → Ps → R5 (List α)
  | 0, acc, s => .ok (acc, s)
  | f + 1, acc, s => if kd5 T s 0 = b then (tk5 T L [b] s).and fun _ s => (one s).and fun a s => ls5 one T L b f (acc ++ [a]) s else .ok (acc, s)
def list5 {α : Type} (one : Ps → R5 α) (T : List Tk) (L : Nat) (b : Int) (s : Ps) : R5 (List α) := (one s).and fun a s => ls5 one T L b (T.length + 1) [a] s
theorem kd5_some {T : List Tk} {L : Nat} {s : Ps} {b : Int} (h : kd5 T s 0 = b) (hb : b ≠ 0) : ∃ t, T[s.nx]? = some t ∧ tk5 T L [b] s = .ok (t, ⟨s.nx + 1, s.op, s.vs, s.nm⟩) ∧ s.nx < T.length := by
  unfold kd5 at h
  rw [Nat.add_zero] at h
  cases ht : T[s.nx]? with
  | none => rw [ht] at h; exact absurd h.symm hb
  | some t =>
    rw [ht] at h
    have h1 : t.k = b := h
    refine ⟨t, rfl, ?_, (List.getElem?_eq_some_iff.1 ht).1⟩
    unfold tk5
    rw [ht]
    simp [h1]
theorem mean5_nx (t : Tk) (s : Ps) : (mean5 t s).2.nx = s.nx := by
  unfold mean5 va5
  (repeat' split) <;> rfl
theorem tm5_nx {T : List Tk} {L : Nat} {s s' : Ps} {t : Tm} (h : tm5 T L s = .ok (t, s')) : s'.nx = s.nx + 1 := by
  unfold tm5 at h
  cases hr : tk5 T L [1, 3, 2, 4] s with
  | error f => rw [hr] at h; cases h
  | ok p =>
    obtain ⟨u, s1⟩ := p
    rw [hr] at h
    obtain ⟨-, -, rfl⟩ := tk5_some hr
    have h1 : mean5 u ⟨s.nx + 1, s.op, s.vs, s.nm⟩ = (t, s') := Except.ok.inj h
    have := mean5_nx u ⟨s.nx + 1, s.op, s.vs, s.nm⟩
    rw [h1] at this
    exact this
set_option maxRecDepth 20000 in
set_option maxHeartbeats 2000000 in
theorem listT5_any (c : Pk) (s : Ps) (w : World) (h : PZ c w s) :
    Calls Tryz.prog 159 #[.pointer (some ⟨c.g, 0, none⟩), .func (.func 160) #[.pointer (some ⟨c.g, 0, none⟩)] #[], .int .i64 8] w (P5P c w (fun (l : List Tm) v w' => Ot5 w' w.heap.size v l) (list5 (tm5 c.T c.L) c.T c.L 8 s)) := by
  have hT := h.ok.l
  have hNw := h.Nw
  have HTM : Hid (∀ (X : World) (s : Ps), PZ c X s → Calls Tryz.prog 160 #[.pointer (some ⟨c.g, 0, none⟩)] X (P5P c X (fun (t : Tm) v _ => v = t.v) (tm5 c.T c.L s))) := fun X s hX => term5_any c s X hX
  have HKD : Hid (∀ (X : World) (s : Ps), PZ c X s → Calls Tryz.prog 124 #[.pointer (some ⟨c.g, 0, none⟩), .int .i64 0] X fun e w' => e = .returned (.int .i64 (kd5 c.T s 0)) ∧ Below X.heap.size X w') := fun X s hX => kind5_0 c s X hX
  have HWB : Hid (∀ b, w.heap.size ≤ b → ¬ W5 c b) := fun b hb => (h.nw hb).1
  obtain ⟨R, hR⟩ : ∃ R, list5 (tm5 c.T c.L) c.T c.L 8 s = R := ⟨_, rfl⟩
  rw [hR]
  unfold list5 at hR
  have h1 := HTM.out w s h
  cases hr : tm5 c.T c.L s with
  | error f =>
    have HE := hm7 (P5P.err h1 hr)
    rw [hr] at hR
    subst hR
    clear h1 hr h
    show Calls _ _ _ _ (P5P c w _ (.error f))
    go_enter Tryz.func159, Tryz.ntmps159
    go_wp2_with (go_at_call 160; refine HE.out.mono ?_; rintro e W1 ⟨rfl, hf⟩)
    exact ⟨rfl, hf, rfl⟩
  | ok p =>
    obtain ⟨⟨tk, tn, tx⟩, s1⟩ := p
    have HE := hm7 (P5P.ok h1 hr)
    rw [hr] at hR
    have HR := hm7 (show ls5 (tm5 c.T c.L) c.T c.L 8 (c.T.length + 1) [⟨tk, tn, tx⟩] s1 = R from hR)
    have HNX := hm7 (tm5_nx hr)
    have HNW := hm7 hNw
    clear h1 hr h hR hNw
    go_enter Tryz.func159, Tryz.ntmps159
    go_wp2_with (go_at_call 160; refine HE.out.mono ?_; rintro e W1 ⟨v1, rfl, rfl, hz, hf⟩; have HZ1 := hm7 (hz.below (below1 W1 (.cells #[.int .i64 tk, .int .i64 tn, .string tx] 39))); have HF1 := hm7 (hf.then (below1 W1 (.cells #[.int .i64 tk, .int .i64 tn, .string tx] 39))); have HO1 := hm7 (Ot5.one (t := ⟨tk, tn, tx⟩) (base := w.heap.size) (Bk.new W1 #[.int .i64 tk, .int .i64 tn, .string tx] 39) hf.size); have hs1 := HNX.out; clear hz hf)
    go_loopg [7] (c.T.length + 1) (fun f u wr => ∃ (acc : List Tm) (s : Ps), ls5 (tm5 c.T c.L) c.T c.L 8 f acc s = R ∧ c.T.length < s.nx + f ∧ acc.length ≤ s.nx ∧ Ot5 wr w.heap.size u acc ∧ PZ c wr s ∧ Fr (W5 c) w wr)
    case atStart => exact ⟨[⟨tk, tn, tx⟩], s1, HR.out, by omega, by rw [hs1]; simp, HO1.out, HZ1.out, HF1.out⟩
    case round =>
      obtain ⟨acc, s2, hls, hfl, hal, ho, hz, hf⟩ := hrel
      have HLS := hm7 hls
      have HAL := hm7 hal
      have HO := hm7 ho
      have HZ := hm7 hz
      have HF := hm7 hf
      have hle := hz.le
      have hsz := hf.size
      clear hls hal ho hz hf HR HZ1 HF1 HO1
      obtain ⟨ua, uc, huf, -⟩ := row7_form HO.out
      obtain ⟨an, han⟩ : ∃ n, acc.length = n := ⟨_, rfl⟩
      rw [han] at huf
      have HAN := hm7 han
      have HOW : Hid (wr.ownsRow w.heap.size 39 3 u7 an (tc5 acc)) := by have := HO.out; unfold Ot5 at this; rw [han] at this; exact this
      subst huf
      have han2 : an ≤ 2000000 := by have := HAL.out; omega
      clear han
      cases gk with
      | zero => omega
      | succ f =>
        have HK := hm7 (HKD.out wr s2 HZ.out)
        by_cases hk : kd5 c.T s2 0 = 8
        · obtain ⟨t0, ht0, htk, hlt⟩ := kd5_some (L := c.L) hk (by decide)
          have HTK : Hid (∀ X : World, Below wr.heap.size wr X → Calls Tryz.prog 85 #[.pointer (some ⟨c.g, 0, none⟩), .slice (some ⟨X.heap.size, 0, none⟩) 1 1] (X.alloc (.cells #[.int .i64 8] 3)) fun e w' => ∃ v, e = .returned v ∧ v = t0.v ∧ PZ c w' ⟨s2.nx + 1, s2.op, s2.vs, s2.nm⟩ ∧ Fr (W5 c) (X.alloc (.cells #[.int .i64 8] 3)) w') := fun X hX =>
            P5P.ok (take5_any [8] (.slice (some ⟨X.heap.size, 0, none⟩) 1 1) c s2 _ ((HZ.out.below hX).below (below1 _ _)) (Nm5.bk (ks := [8]) (Bk.new X #[.int .i64 8] 3) rfl (by decide)) (by decide)) htk
          have hls2 := HLS.out
          unfold ls5 at hls2
          rw [if_pos hk, htk] at hls2
          rw [hk] at HK
          have HL2 := hm7 (show ((tm5 c.T c.L ⟨s2.nx + 1, s2.op, s2.vs, s2.nm⟩).and fun a s => ls5 (tm5 c.T c.L) c.T c.L 8 f (acc ++ [a]) s) = R from hls2)
          clear hls2 htk ht0
          obtain ⟨tk0, tx0, tn0, ta0, te0⟩ := t0
          cases hr2 : tm5 c.T c.L ⟨s2.nx + 1, s2.op, s2.vs, s2.nm⟩ with
          | error f2 =>
            have HR2 : Hid (R = .error f2) := by have := HL2.out; rw [hr2] at this; exact this.symm
            have HE2 : Hid (∀ X : World, PZ c X ⟨s2.nx + 1, s2.op, s2.vs, s2.nm⟩ → Calls Tryz.prog 160 #[.pointer (some ⟨c.g, 0, none⟩)] X fun e w' => e = .panicked [pF f2] ∧ Fr (W5 c) X w') := fun X hX => P5P.err (HTM.out X _ hX) hr2
            clear hr2 HL2 HLS
            go_wp2_with (first
              | (go_at_call 124; refine HK.out.mono ?_; rintro e W2 ⟨rfl, hb⟩; have HB2 := hm7 hb; clear hb)
              | (go_at_call 85; refine (HTK.out _ HB2.out).mono ?_; rintro e W3 ⟨v3, rfl, rfl, hz, hf⟩; have HZ3 := hm7 hz; have HF3 := hm7 (((HF.out.then HB2.out).then (below1 _ _)).tr hf); clear hz hf)
              | (go_at_call 160; refine (HE2.out _ HZ3.out).mono ?_; rintro e W4 ⟨rfl, hf⟩; have HF4 := hm7 (HF3.out.tr hf); clear hf))
            refine ⟨rfl, ?_⟩
            rw [HR2.out]
            exact ⟨HF4.out, rfl⟩
          | ok p2 =>
            obtain ⟨⟨uk, un, ux⟩, s3⟩ := p2
            have HR3 : Hid (ls5 (tm5 c.T c.L) c.T c.L 8 f (acc ++ [⟨uk, un, ux⟩]) s3 = R) := by have := HL2.out; rw [hr2] at this; exact this
            have HE2 : Hid (∀ X : World, PZ c X ⟨s2.nx + 1, s2.op, s2.vs, s2.nm⟩ → Calls Tryz.prog 160 #[.pointer (some ⟨c.g, 0, none⟩)] X fun e w' => ∃ v, e = .returned v ∧ v = Tm.v ⟨uk, un, ux⟩ ∧ PZ c w' s3 ∧ Fr (W5 c) X w') := fun X hX => P5P.ok (HTM.out X _ hX) hr2
            have hnx3 : s3.nx = s2.nx + 1 + 1 := tm5_nx hr2
            have HN3 := hm7 hnx3
            clear hr2 HL2 HLS hnx3
            go_wp2_with (first
              | (go_at_call 124; refine HK.out.mono ?_; rintro e W2 ⟨rfl, hb⟩; have HB2 := hm7 hb; clear hb)
              | (go_at_call 85; refine (HTK.out _ HB2.out).mono ?_; rintro e W3 ⟨v3, rfl, rfl, hz, hf⟩; have HZ3 := hm7 hz; have HF3 := hm7 (((HF.out.then HB2.out).then (below1 _ _)).tr hf); have HO3 := hm7 (row7_fr (row7_below (row7_below HOW.out HB2.out) (below1 _ _)) hf fun b hb => HWB.out b (World.ownsRow.lt HOW.out b hb).1); clear hz hf)
              | (go_at_call 160; refine (HE2.out _ HZ3.out).mono ?_; rintro e W4 ⟨v4, rfl, rfl, hz, hf⟩; have HZ4 := hm7 (hz.below (below1 W4 (.cells #[.int .i64 uk, .int .i64 un, .string ux] 39))); have HF4 := hm7 ((HF3.out.tr hf).then (below1 W4 (.cells #[.int .i64 uk, .int .i64 un, .string ux] 39))); have HO4 := hm7 (row7_below (row7_fr HO3.out hf fun b hb => HWB.out b (World.ownsRow.lt HO3.out b hb).1) (below1 W4 (.cells #[.int .i64 uk, .int .i64 un, .string ux] 39))); have hz4 := (HF3.out.tr hf).size; clear hz hf)
              | (at_builtin; refine gapp5 Tryz.underlying40 Tryz.infoTerm5 rfl (by decide) (by decide) rfl _ _ rfl w.heap.size (.slice ua an uc) an (tc5 acc) rfl HO4.out W4.heap.size #[.int .i64 uk, .int .i64 un, .string ux] rfl (Bk.new _ _ _) rfl (by simp [Value.oneCell']) (by omega) (by simp; omega) ?_; intro g5 q5 w5 ho5 hg5 hv5 hl5; have HO5 := hm7 (Ot5.snoc HAN.out ho5); have HG5 : Hid (Fr (fun b => w.heap.size ≤ b) (W4.alloc (.cells #[.int .i64 uk, .int .i64 un, .string ux] 39)) w5) := Fr.grown hg5 fun b hb => (World.ownsRow.lt HO4.out b hb).1; clear ho5 hg5 hv5 hl5))
            have HZ5 := hm7 (HZ4.out.fr HG5.out fun b hb e => by have := HNW.out; omega)
            have HF5 := hm7 (HF4.out.trans HG5.out fun b hb e => by omega)
            go_roundg f
            case measure => omega
            case rel => exact ⟨acc ++ [⟨uk, un, ux⟩], s3, HR3.out, by have := HN3.out; omega, by have := HN3.out; have := HAL.out; rw [List.length_append, List.length_singleton]; omega, HO5.out, HZ5.out, HF5.out⟩
        · have hR2 := HLS.out
          unfold ls5 at hR2
          rw [if_neg hk] at hR2
          obtain ⟨kk, hkk⟩ : ∃ kk, kd5 c.T s2 0 = kk := ⟨_, rfl⟩
          rw [hkk] at HK hk
          have hk2 : (kk == 8) = false := by simp [hk]
          have HR2 := hm7 hR2
          clear hR2 hkk HLS
          go_wp2_with (go_at_call 124; refine HK.out.mono ?_; rintro e W2 ⟨rfl, hb⟩; have HB2 := hm7 hb; clear hb)
          go_ret
          rw [← HR2.out]
          exact ⟨HF.out.then HB2.out, _, rfl, HO.out.below HB2.out, HZ.out.below HB2.out⟩
end Go.Proofs.YtcpjiahdaplhlaaGreatDoor
/-
  Texts in their order, as plain mathematics.
-/
namespace Go.Proofs.YtcpjiahdaplhlaaGreatDoor
namespace M

def bl := Go.Op.bytesLess
def at_ (s : ByteArray) (j : Nat) : Int := if h : j < s.size then (s[j].toNat : Int) else 0
end M
end Go.Proofs.YtcpjiahdaplhlaaGreatDoor
/-
  cmp.Compare of numbers and of texts; Compare of terms; the same of the reference.
-/
namespace Go.Proofs.YtcpjiahdaplhlaaGreatDoor
open Go.RowKit

theorem toList_inj {a b : ByteArray} (h : a.toList = b.toList) : a = b := by
  rw [ByteArray.toList_eq, ByteArray.toList_eq] at h
  exact ByteArray.ext (Array.toList_inj.1 h)
end Go.Proofs.YtcpjiahdaplhlaaGreatDoor
