/-
  wire: law 23's must: the document's answer to a call. (Written by WRE.py.)
-/
import Derived.Test.YtboomeeipnfbmabWRD
namespace Go.Proofs.Ytboomeeipnfbmab
open Go.RowKit
attribute [local go_sem ↓] Go.wp_at_zero Go.wp_at_succ

def MuQ (B : Nat) (T : Nat → Prop) (v : Value) (s : WrW) (o : OvW) (Y : World) (e : Ending) (Y' : World) : Prop :=
  ∃ (tv : Value) (T' : Nat → Prop), e = .returned tv ∧ TdM (fun x => Y.heap.size ≤ x ∧ ¬ T' x) Y' tv (tolW s o) ∧ RzW B T' v (stpW s o) Y' ∧ (∀ x, T' x → T x ∨ Y.heap.size ≤ x) ∧ Fr T Y Y'
/-- What a call of the document's wire leaves, in one form. -/
structure CrW (B : Nat) (T : Nat → Prop) (v : Value) (s' : WrW) (t : TdW) (bv rv : Value) (Y Y' : World) : Prop where
  f : Fr T Y Y'
  r : ∃ T' : Nat → Prop, RzW B T' v s' Y' ∧ (∀ x, T' x → T x ∨ Y.heap.size ≤ x) ∧ LbW (fun x => Y.heap.size ≤ x ∧ ¬ T' x) Y' bv t.b ∧ LmW (fun x => Y.heap.size ≤ x ∧ ¬ T' x) Y' rv t.r
theorem CrW.rq {B : Nat} {T : Nat → Prop} {v : Value} {s : WrW} {t : TdW} {Y Y' : World} (h : RqW B T v s Y Y') (hb : t.b = []) (hr : t.r = []) : CrW B T v s t (.slice none 0 0) (.slice none 0 0) Y Y' := by
  obtain ⟨hf, T', h1, h2⟩ := h
  exact ⟨hf, T', h1, h2, by rw [hb]; exact LbW.nil _ _, by rw [hr]; exact LmW.nil _ _⟩
theorem CrW.own {B : Nat} {T : Nat → Prop} {v u : Value} {s : WrW} {t : TdW} {Y Y' : World} (ht : ∀ x, T x → x < Y.heap.size) (hf : Fr T Y Y') (h1 : RzW B T v s Y') (ho : OwW Y' Y.heap.size u t.b) (hy : bytW t.b) (hr : t.r = []) : CrW B T v s t u (.slice none 0 0) Y Y' :=
  ⟨hf, T, h1, fun x hx => Or.inl hx, (ho.lb hy).mono fun x _ hx => ⟨hx.1, fun e => by have := ht x e; omega⟩, by rw [hr]; exact LmW.nil _ _⟩
/-- .. and behind it the answer is laid in two blocks. -/
theorem CrW.end_ {B : Nat} {T : Nat → Prop} {v : Value} {s' s : WrW} {o : OvW} {bv rv : Value} {Y Y3 Y4 Y6 : World} (h : CrW B T v s' (tolW s o) bv rv Y3 Y4) (hs : s' = stpW s o) (hz : Y3.heap.size = Y.heap.size + 3) (hb : Below Y.heap.size Y Y3) (ht : ∀ x, T x → x < Y.heap.size)
    (hf : Fr (fun x => x = Y.heap.size + 1 ∨ x = Y.heap.size + 2) Y4 Y6) : MuQ B T v s o Y (.returned (.agg #[.int .i64 (tolW s o).n, bv, .int .i64 (tolW s o).e, rv])) Y6 := by
  obtain ⟨h1, T', h2, h3, h4, h5⟩ := h
  have hT : ∀ x, T' x → ¬ (x = Y.heap.size + 1 ∨ x = Y.heap.size + 2) := fun x hx e => by
    rcases h3 x hx with hx | hx
    · have := ht x hx; omega
    · omega
  have hs4 := h1.size
  refine ⟨_, T', rfl, ⟨_, _, rfl, (h4.fr hf fun x _ hx e => by have := hx.1; omega).mono fun x _ hx => ⟨by have := hx.1; omega, hx.2⟩, (h5.fr hf fun x _ hx e => by have := hx.1; omega).mono fun x _ hx => ⟨by have := hx.1; omega, hx.2⟩⟩, by rw [← hs]; exact h2.fr hf fun x _ hx => hT x hx, fun x hx => (h3 x hx).imp id fun h => by omega, ?_⟩
  refine ((Fr.of hb).trans h1 fun x _ hx => hx).trans hf fun x hx e => ?_
  omega
set_option maxRecDepth 20000 in
set_option maxHeartbeats 2000000 in
theorem mustW_0 (k : Int) (hk : k < 1 ∨ 10 < k) {B : Nat} {T G : Nat → Prop} {v bv : Value} {s : WrW} {n m q : Int} {b : List Int} {Y : World} (h : RzW B T v s Y) (hb : LbW G Y bv b) (_hG : ∀ x, T x → ¬ G x) :
    Calls Try.prog 20 #[v, opvW ⟨k, n, m, q, b⟩ bv] Y (MuQ B T v s ⟨k, n, m, q, b⟩ Y) := by
  unfold opvW
  simp only
  obtain ⟨g, rfl⟩ := h.ptr
  obtain ⟨ba, bc, hbv, -⟩ := hb.form
  have ht : ∀ x, T x → x < Y.heap.size := fun x hx => (h.t x hx).2
  have HT := hm7 ht
  obtain ⟨bn, hbn⟩ : ∃ bn, b.length = bn := ⟨_, rfl⟩
  rw [hbn] at hbv
  subst hbv
  obtain ⟨Y3, hY3⟩ : ∃ Y3, ((Y.alloc (.cells #[.int .i64 k, .int .i64 n, .int .i64 m, .int .i64 q, .slice ba bn bc] 50)).alloc (.cells #[.int .i64 0, .slice none 0 0, .int .i64 0, .slice none 0 0] 46)).alloc (.cells #[.int .i64 0, .slice none 0 0, .int .i64 0, .slice none 0 0] 46) = Y3 := ⟨_, rfl⟩
  have hz : Y3.heap.size = Y.heap.size + 3 := by rw [← hY3]; simp
  have hb3 : Below Y.heap.size Y Y3 := by rw [← hY3]; exact ((below1 _ _).alloc (by simp) _).alloc (by simp; omega) _
  have k0 : Bk Y3 Y.heap.size #[.int .i64 k, .int .i64 n, .int .i64 m, .int .i64 q, .slice ba bn bc] 50 := by rw [← hY3]; exact ((Bk.new _ _ _).below (below1 _ _)).below (below1 _ _)
  have k1 : Bk Y3 (Y.heap.size + 1) #[.int .i64 0, .slice none 0 0, .int .i64 0, .slice none 0 0] 46 := by rw [← hY3]; have := Bk.new (Y.alloc (.cells #[.int .i64 k, .int .i64 n, .int .i64 m, .int .i64 q, .slice ba bn bc] 50)) #[.int .i64 0, .slice none 0 0, .int .i64 0, .slice none 0 0] 46; simp only [size_alloc7] at this; exact this.below (below1 _ _)
  have k2 : Bk Y3 (Y.heap.size + 1 + 1) #[.int .i64 0, .slice none 0 0, .int .i64 0, .slice none 0 0] 46 := by rw [← hY3]; have := Bk.new ((Y.alloc (.cells #[.int .i64 k, .int .i64 n, .int .i64 m, .int .i64 q, .slice ba bn bc] 50)).alloc (.cells #[.int .i64 0, .slice none 0 0, .int .i64 0, .slice none 0 0] 46)) #[.int .i64 0, .slice none 0 0, .int .i64 0, .slice none 0 0] 46; simp only [size_alloc7] at this; exact this
  have c0 : Y3.cell? ⟨Y.heap.size, 0, none⟩ = some (.int .i64 k) := k0.cell rfl
  have c1 : Y3.cell? ⟨Y.heap.size, 1, none⟩ = some (.int .i64 n) := k0.cell rfl
  have c2 : Y3.cell? ⟨Y.heap.size, 2, none⟩ = some (.int .i64 m) := k0.cell rfl
  have c3 : Y3.cell? ⟨Y.heap.size, 3, none⟩ = some (.int .i64 q) := k0.cell rfl
  have c4 : Y3.cell? ⟨Y.heap.size, 4, none⟩ = some (.slice ba bn bc) := k0.cell rfl
  have K1 := hm7 k1
  have K2 := hm7 k2
  have HB3 := hm7 hb3
  have HZ := hm7 hz
  have HY := hm7 (byW_byt h.ok n)
  have hkk : ∀ j : Int, 1 ≤ j → j ≤ 10 → (k == j) = false := fun j _ _ => by simp; omega
  have e1 := hkk 1 (by omega) (by omega)
  have e2 := hkk 2 (by omega) (by omega)
  have e3 := hkk 3 (by omega) (by omega)
  have e4 := hkk 4 (by omega) (by omega)
  have e5 := hkk 5 (by omega) (by omega)
  have e6 := hkk 6 (by omega) (by omega)
  have e7 := hkk 7 (by omega) (by omega)
  have e8 := hkk 8 (by omega) (by omega)
  have e9 := hkk 9 (by omega) (by omega)
  have e10 := hkk 10 (by omega) (by omega)
  have H3 := hm7 (h.below hb3)
  have p0 : Y3.cell? ⟨Y.heap.size + 1 + 1, 0, none⟩ = some (.int .i64 0) := k2.cell rfl
  have p1 : Y3.cell? ⟨Y.heap.size + 1 + 1, 1, none⟩ = some (.slice none 0 0) := k2.cell rfl
  have p2 : Y3.cell? ⟨Y.heap.size + 1 + 1, 2, none⟩ = some (.int .i64 0) := k2.cell rfl
  have p3 : Y3.cell? ⟨Y.heap.size + 1 + 1, 3, none⟩ = some (.slice none 0 0) := k2.cell rfl
  have r0 : Y3.cell? ⟨Y.heap.size + 1, 0, none⟩ = some (.int .i64 0) := k1.cell rfl
  have r1 : Y3.cell? ⟨Y.heap.size + 1, 1, none⟩ = some (.slice none 0 0) := k1.cell rfl
  have r2 : Y3.cell? ⟨Y.heap.size + 1, 2, none⟩ = some (.int .i64 0) := k1.cell rfl
  have r3 : Y3.cell? ⟨Y.heap.size + 1, 3, none⟩ = some (.slice none 0 0) := k1.cell rfl
  have fz := k2.froz
  have fr := k1.froz
  have HKK := hm7 hk
  clear h hb _hG hbn k0 k1 k2 hb3 hkk hk
  go_enter Try.func20, Try.ntmps20
  go_wp2
  have hZ : Bk ((((Y3.setCell ⟨Y.heap.size + 1, 0, none⟩ (.int .i64 0)).setCell ⟨Y.heap.size + 1, 1, none⟩ (.slice none 0 0)).setCell ⟨Y.heap.size + 1, 2, none⟩ (.int .i64 0)).setCell ⟨Y.heap.size + 1, 3, none⟩ (.slice none 0 0)) (Y.heap.size + 1) #[.int .i64 0, .slice none 0 0, .int .i64 0, .slice none 0 0] 46 := ((((K1.out.set 0 (.int .i64 0)).set 1 (.slice none 0 0)).set 2 (.int .i64 0)).set 3 (.slice none 0 0))
  have hF : Fr (fun x => x = Y.heap.size + 1 ∨ x = Y.heap.size + 2) Y3 ((((Y3.setCell ⟨Y.heap.size + 1, 0, none⟩ (.int .i64 0)).setCell ⟨Y.heap.size + 1, 1, none⟩ (.slice none 0 0)).setCell ⟨Y.heap.size + 1, 2, none⟩ (.int .i64 0)).setCell ⟨Y.heap.size + 1, 3, none⟩ (.slice none 0 0)) := (Fr.set (i := 3) (v := .slice none 0 0) (Fr.set (i := 2) (v := .int .i64 0) (Fr.set (i := 1) (v := .slice none 0 0) (Fr.set (i := 0) (v := .int .i64 0) (Fr.refl (fun x => x = Y.heap.size + 1 ∨ x = Y.heap.size + 2) Y3) (Or.inl (Or.inl rfl))) (Or.inl (Or.inl rfl))) (Or.inl (Or.inl rfl))) (Or.inl (Or.inl rfl)))
  have htol : tolW s ⟨k, n, m, q, b⟩ = ⟨0, [], 0, []⟩ := by unfold tolW; simp only; repeat rw [if_neg (by have := HKK.out; omega)]
  have hst : stpW s ⟨k, n, m, q, b⟩ = s := by unfold stpW; simp only; repeat rw [if_neg (by have := HKK.out; omega)]
  have hcr : CrW B T _ s (tolW s ⟨k, n, m, q, b⟩) (.slice none 0 0) (.slice none 0 0) Y3 Y3 := CrW.rq (RqW.keep H3.out (Below.refl _ _)) (by rw [htol]) (by rw [htol])
  have hE := hcr.end_ hst.symm HZ.out HB3.out HT.out hF
  rw [htol] at hE
  exact ⟨rfl, _, ret_tdW Try.results20 _ _ (Y.heap.size + 1) _ _ _ _ rfl hZ, hE⟩
set_option maxRecDepth 20000 in
set_option maxHeartbeats 2000000 in
theorem mustW_1 {B : Nat} {T G : Nat → Prop} {v bv : Value} {s : WrW} {n m q : Int} {b : List Int} {Y : World} (h : RzW B T v s Y) (hb : LbW G Y bv b) (hG : ∀ x, T x → ¬ G x) :
    Calls Try.prog 20 #[v, opvW ⟨1, n, m, q, b⟩ bv] Y (MuQ B T v s ⟨1, n, m, q, b⟩ Y) := by
  unfold opvW
  simp only
  obtain ⟨g, rfl⟩ := h.ptr
  obtain ⟨ba, bc, hbv, -⟩ := hb.form
  have ht : ∀ x, T x → x < Y.heap.size := fun x hx => (h.t x hx).2
  have HT := hm7 ht
  obtain ⟨bn, hbn⟩ : ∃ bn, b.length = bn := ⟨_, rfl⟩
  rw [hbn] at hbv
  subst hbv
  obtain ⟨Y3, hY3⟩ : ∃ Y3, ((Y.alloc (.cells #[.int .i64 1, .int .i64 n, .int .i64 m, .int .i64 q, .slice ba bn bc] 50)).alloc (.cells #[.int .i64 0, .slice none 0 0, .int .i64 0, .slice none 0 0] 46)).alloc (.cells #[.int .i64 0, .slice none 0 0, .int .i64 0, .slice none 0 0] 46) = Y3 := ⟨_, rfl⟩
  have hz : Y3.heap.size = Y.heap.size + 3 := by rw [← hY3]; simp
  have hb3 : Below Y.heap.size Y Y3 := by rw [← hY3]; exact ((below1 _ _).alloc (by simp) _).alloc (by simp; omega) _
  have k0 : Bk Y3 Y.heap.size #[.int .i64 1, .int .i64 n, .int .i64 m, .int .i64 q, .slice ba bn bc] 50 := by rw [← hY3]; exact ((Bk.new _ _ _).below (below1 _ _)).below (below1 _ _)
  have k1 : Bk Y3 (Y.heap.size + 1) #[.int .i64 0, .slice none 0 0, .int .i64 0, .slice none 0 0] 46 := by rw [← hY3]; have := Bk.new (Y.alloc (.cells #[.int .i64 1, .int .i64 n, .int .i64 m, .int .i64 q, .slice ba bn bc] 50)) #[.int .i64 0, .slice none 0 0, .int .i64 0, .slice none 0 0] 46; simp only [size_alloc7] at this; exact this.below (below1 _ _)
  have k2 : Bk Y3 (Y.heap.size + 1 + 1) #[.int .i64 0, .slice none 0 0, .int .i64 0, .slice none 0 0] 46 := by rw [← hY3]; have := Bk.new ((Y.alloc (.cells #[.int .i64 1, .int .i64 n, .int .i64 m, .int .i64 q, .slice ba bn bc] 50)).alloc (.cells #[.int .i64 0, .slice none 0 0, .int .i64 0, .slice none 0 0] 46)) #[.int .i64 0, .slice none 0 0, .int .i64 0, .slice none 0 0] 46; simp only [size_alloc7] at this; exact this
  have c0 : Y3.cell? ⟨Y.heap.size, 0, none⟩ = some (.int .i64 1) := k0.cell rfl
  have c1 : Y3.cell? ⟨Y.heap.size, 1, none⟩ = some (.int .i64 n) := k0.cell rfl
  have c2 : Y3.cell? ⟨Y.heap.size, 2, none⟩ = some (.int .i64 m) := k0.cell rfl
  have c3 : Y3.cell? ⟨Y.heap.size, 3, none⟩ = some (.int .i64 q) := k0.cell rfl
  have c4 : Y3.cell? ⟨Y.heap.size, 4, none⟩ = some (.slice ba bn bc) := k0.cell rfl
  have K1 := hm7 k1
  have K2 := hm7 k2
  have HB3 := hm7 hb3
  have HZ := hm7 hz
  have HY := hm7 (byW_byt h.ok n)
  have HC := hm7 (rsendW_any (h.below hb3) (hb.below hb3) hG)
  have H3 := hm7 (h.below hb3)
  clear h hb hG hbn k0 k1 k2 hb3
  go_enter Try.func20, Try.ntmps20
  go_wp2_with (go_at_call 23; refine HC.out.mono ?_; rintro e Y4 ⟨rfl, hq⟩; have hcr := CrW.rq (t := tolW s ⟨1, n, m, q, b⟩) hq rfl rfl; have j1 : Bk Y4 (Y.heap.size + 1) _ 46 := K1.out.fr hcr.f (fun e => by have := HT.out _ e; omega); have j2 : Bk Y4 (Y.heap.size + 1 + 1) _ 46 := K2.out.fr hcr.f (fun e => by have := HT.out _ e; omega); have p0 : Y4.cell? ⟨Y.heap.size + 1 + 1, 0, none⟩ = some (.int .i64 0) := j2.cell rfl; have p1 : Y4.cell? ⟨Y.heap.size + 1 + 1, 1, none⟩ = some (.slice none 0 0) := j2.cell rfl; have p2 : Y4.cell? ⟨Y.heap.size + 1 + 1, 2, none⟩ = some (.int .i64 0) := j2.cell rfl; have p3 : Y4.cell? ⟨Y.heap.size + 1 + 1, 3, none⟩ = some (.slice none 0 0) := j2.cell rfl; have r0 : Y4.cell? ⟨Y.heap.size + 1, 0, none⟩ = some (.int .i64 0) := j1.cell rfl; have r1 : Y4.cell? ⟨Y.heap.size + 1, 1, none⟩ = some (.slice none 0 0) := j1.cell rfl; have r2 : Y4.cell? ⟨Y.heap.size + 1, 2, none⟩ = some (.int .i64 0) := j1.cell rfl; have r3 : Y4.cell? ⟨Y.heap.size + 1, 3, none⟩ = some (.slice none 0 0) := j1.cell rfl; have fz := j2.froz; have fr := j1.froz; have HCR := hm7 hcr; have J1 := hm7 j1; have J2 := hm7 j2; clear hcr j1 j2; clear hq)
  have hZ : Bk ((((((Y4.setCell ⟨Y.heap.size + 1 + 1, 0, none⟩ (.int .i64 (sndN s b))).setCell ⟨Y.heap.size + 1 + 1, 2, none⟩ (.int .i64 (sndE s b))).setCell ⟨Y.heap.size + 1, 0, none⟩ (.int .i64 (sndN s b))).setCell ⟨Y.heap.size + 1, 1, none⟩ (.slice none 0 0)).setCell ⟨Y.heap.size + 1, 2, none⟩ (.int .i64 (sndE s b))).setCell ⟨Y.heap.size + 1, 3, none⟩ (.slice none 0 0)) (Y.heap.size + 1) #[.int .i64 (sndN s b), .slice none 0 0, .int .i64 (sndE s b), .slice none 0 0] 46 := (((((Bk.off (Bk.off J1.out (by omega)) (by omega)).set 0 (.int .i64 (sndN s b))).set 1 (.slice none 0 0)).set 2 (.int .i64 (sndE s b))).set 3 (.slice none 0 0))
  have hF : Fr (fun x => x = Y.heap.size + 1 ∨ x = Y.heap.size + 2) Y4 ((((((Y4.setCell ⟨Y.heap.size + 1 + 1, 0, none⟩ (.int .i64 (sndN s b))).setCell ⟨Y.heap.size + 1 + 1, 2, none⟩ (.int .i64 (sndE s b))).setCell ⟨Y.heap.size + 1, 0, none⟩ (.int .i64 (sndN s b))).setCell ⟨Y.heap.size + 1, 1, none⟩ (.slice none 0 0)).setCell ⟨Y.heap.size + 1, 2, none⟩ (.int .i64 (sndE s b))).setCell ⟨Y.heap.size + 1, 3, none⟩ (.slice none 0 0)) := (Fr.set (i := 3) (v := .slice none 0 0) (Fr.set (i := 2) (v := .int .i64 (sndE s b)) (Fr.set (i := 1) (v := .slice none 0 0) (Fr.set (i := 0) (v := .int .i64 (sndN s b)) (Fr.set (i := 2) (v := .int .i64 (sndE s b)) (Fr.set (i := 0) (v := .int .i64 (sndN s b)) (Fr.refl (fun x => x = Y.heap.size + 1 ∨ x = Y.heap.size + 2) Y4) (Or.inl (Or.inr rfl))) (Or.inl (Or.inr rfl))) (Or.inl (Or.inl rfl))) (Or.inl (Or.inl rfl))) (Or.inl (Or.inl rfl))) (Or.inl (Or.inl rfl)))
  have hE := HCR.out.end_ (s := s) (o := ⟨1, n, m, q, b⟩) rfl HZ.out HB3.out HT.out hF
  exact ⟨rfl, _, ret_tdW Try.results20 _ _ (Y.heap.size + 1) _ _ _ _ rfl hZ, hE⟩
set_option maxRecDepth 20000 in
set_option maxHeartbeats 2000000 in
theorem mustW_2 {B : Nat} {T G : Nat → Prop} {v bv : Value} {s : WrW} {n m q : Int} {b : List Int} {Y : World} (h : RzW B T v s Y) (hb : LbW G Y bv b) (_hG : ∀ x, T x → ¬ G x) :
    Calls Try.prog 20 #[v, opvW ⟨2, n, m, q, b⟩ bv] Y (MuQ B T v s ⟨2, n, m, q, b⟩ Y) := by
  unfold opvW
  simp only
  obtain ⟨g, rfl⟩ := h.ptr
  obtain ⟨ba, bc, hbv, -⟩ := hb.form
  have ht : ∀ x, T x → x < Y.heap.size := fun x hx => (h.t x hx).2
  have HT := hm7 ht
  obtain ⟨bn, hbn⟩ : ∃ bn, b.length = bn := ⟨_, rfl⟩
  rw [hbn] at hbv
  subst hbv
  obtain ⟨Y3, hY3⟩ : ∃ Y3, ((Y.alloc (.cells #[.int .i64 2, .int .i64 n, .int .i64 m, .int .i64 q, .slice ba bn bc] 50)).alloc (.cells #[.int .i64 0, .slice none 0 0, .int .i64 0, .slice none 0 0] 46)).alloc (.cells #[.int .i64 0, .slice none 0 0, .int .i64 0, .slice none 0 0] 46) = Y3 := ⟨_, rfl⟩
  have hz : Y3.heap.size = Y.heap.size + 3 := by rw [← hY3]; simp
  have hb3 : Below Y.heap.size Y Y3 := by rw [← hY3]; exact ((below1 _ _).alloc (by simp) _).alloc (by simp; omega) _
  have k0 : Bk Y3 Y.heap.size #[.int .i64 2, .int .i64 n, .int .i64 m, .int .i64 q, .slice ba bn bc] 50 := by rw [← hY3]; exact ((Bk.new _ _ _).below (below1 _ _)).below (below1 _ _)
  have k1 : Bk Y3 (Y.heap.size + 1) #[.int .i64 0, .slice none 0 0, .int .i64 0, .slice none 0 0] 46 := by rw [← hY3]; have := Bk.new (Y.alloc (.cells #[.int .i64 2, .int .i64 n, .int .i64 m, .int .i64 q, .slice ba bn bc] 50)) #[.int .i64 0, .slice none 0 0, .int .i64 0, .slice none 0 0] 46; simp only [size_alloc7] at this; exact this.below (below1 _ _)
  have k2 : Bk Y3 (Y.heap.size + 1 + 1) #[.int .i64 0, .slice none 0 0, .int .i64 0, .slice none 0 0] 46 := by rw [← hY3]; have := Bk.new ((Y.alloc (.cells #[.int .i64 2, .int .i64 n, .int .i64 m, .int .i64 q, .slice ba bn bc] 50)).alloc (.cells #[.int .i64 0, .slice none 0 0, .int .i64 0, .slice none 0 0] 46)) #[.int .i64 0, .slice none 0 0, .int .i64 0, .slice none 0 0] 46; simp only [size_alloc7] at this; exact this
  have c0 : Y3.cell? ⟨Y.heap.size, 0, none⟩ = some (.int .i64 2) := k0.cell rfl
  have c1 : Y3.cell? ⟨Y.heap.size, 1, none⟩ = some (.int .i64 n) := k0.cell rfl
  have c2 : Y3.cell? ⟨Y.heap.size, 2, none⟩ = some (.int .i64 m) := k0.cell rfl
  have c3 : Y3.cell? ⟨Y.heap.size, 3, none⟩ = some (.int .i64 q) := k0.cell rfl
  have c4 : Y3.cell? ⟨Y.heap.size, 4, none⟩ = some (.slice ba bn bc) := k0.cell rfl
  have K1 := hm7 k1
  have K2 := hm7 k2
  have HB3 := hm7 hb3
  have HZ := hm7 hz
  have HY := hm7 (byW_byt h.ok n)
  have HC := hm7 (rlookW_any (h.below hb3) n)
  have H3 := hm7 (h.below hb3)
  clear h hb _hG hbn k0 k1 k2 hb3
  go_enter Try.func20, Try.ntmps20
  go_wp2_with (go_at_call 37; refine HC.out.mono ?_; rintro e Y4 ⟨u, rfl, hu, hq⟩; have hcr := CrW.own (t := tolW s ⟨2, n, m, q, b⟩) (fun x hx => Nat.lt_of_lt_of_le (HT.out x hx) HB3.out.size) (Fr.of hq) (H3.out.below hq) hu HY.out rfl; obtain ⟨ra, rc, rfl, -⟩ := row7_form hu; obtain ⟨rn, hrn⟩ : ∃ rn, (byW s n).length = rn := ⟨_, rfl⟩; rw [hrn] at hcr ⊢; clear hu; have j1 : Bk Y4 (Y.heap.size + 1) _ 46 := K1.out.fr hcr.f (fun e => by have := HT.out _ e; omega); have j2 : Bk Y4 (Y.heap.size + 1 + 1) _ 46 := K2.out.fr hcr.f (fun e => by have := HT.out _ e; omega); have p0 : Y4.cell? ⟨Y.heap.size + 1 + 1, 0, none⟩ = some (.int .i64 0) := j2.cell rfl; have p1 : Y4.cell? ⟨Y.heap.size + 1 + 1, 1, none⟩ = some (.slice none 0 0) := j2.cell rfl; have p2 : Y4.cell? ⟨Y.heap.size + 1 + 1, 2, none⟩ = some (.int .i64 0) := j2.cell rfl; have p3 : Y4.cell? ⟨Y.heap.size + 1 + 1, 3, none⟩ = some (.slice none 0 0) := j2.cell rfl; have r0 : Y4.cell? ⟨Y.heap.size + 1, 0, none⟩ = some (.int .i64 0) := j1.cell rfl; have r1 : Y4.cell? ⟨Y.heap.size + 1, 1, none⟩ = some (.slice none 0 0) := j1.cell rfl; have r2 : Y4.cell? ⟨Y.heap.size + 1, 2, none⟩ = some (.int .i64 0) := j1.cell rfl; have r3 : Y4.cell? ⟨Y.heap.size + 1, 3, none⟩ = some (.slice none 0 0) := j1.cell rfl; have fz := j2.froz; have fr := j1.froz; have HCR := hm7 hcr; have J1 := hm7 j1; have J2 := hm7 j2; clear hcr j1 j2; clear hq)
  have hZ : Bk ((((((Y4.setCell ⟨Y.heap.size + 1 + 1, 1, none⟩ (.slice ra rn rc)).setCell ⟨Y.heap.size + 1 + 1, 2, none⟩ (.int .i64 (lokE s n))).setCell ⟨Y.heap.size + 1, 0, none⟩ (.int .i64 0)).setCell ⟨Y.heap.size + 1, 1, none⟩ (.slice ra rn rc)).setCell ⟨Y.heap.size + 1, 2, none⟩ (.int .i64 (lokE s n))).setCell ⟨Y.heap.size + 1, 3, none⟩ (.slice none 0 0)) (Y.heap.size + 1) #[.int .i64 0, .slice ra rn rc, .int .i64 (lokE s n), .slice none 0 0] 46 := (((((Bk.off (Bk.off J1.out (by omega)) (by omega)).set 0 (.int .i64 0)).set 1 (.slice ra rn rc)).set 2 (.int .i64 (lokE s n))).set 3 (.slice none 0 0))
  have hF : Fr (fun x => x = Y.heap.size + 1 ∨ x = Y.heap.size + 2) Y4 ((((((Y4.setCell ⟨Y.heap.size + 1 + 1, 1, none⟩ (.slice ra rn rc)).setCell ⟨Y.heap.size + 1 + 1, 2, none⟩ (.int .i64 (lokE s n))).setCell ⟨Y.heap.size + 1, 0, none⟩ (.int .i64 0)).setCell ⟨Y.heap.size + 1, 1, none⟩ (.slice ra rn rc)).setCell ⟨Y.heap.size + 1, 2, none⟩ (.int .i64 (lokE s n))).setCell ⟨Y.heap.size + 1, 3, none⟩ (.slice none 0 0)) := (Fr.set (i := 3) (v := .slice none 0 0) (Fr.set (i := 2) (v := .int .i64 (lokE s n)) (Fr.set (i := 1) (v := .slice ra rn rc) (Fr.set (i := 0) (v := .int .i64 0) (Fr.set (i := 2) (v := .int .i64 (lokE s n)) (Fr.set (i := 1) (v := .slice ra rn rc) (Fr.refl (fun x => x = Y.heap.size + 1 ∨ x = Y.heap.size + 2) Y4) (Or.inl (Or.inr rfl))) (Or.inl (Or.inr rfl))) (Or.inl (Or.inl rfl))) (Or.inl (Or.inl rfl))) (Or.inl (Or.inl rfl))) (Or.inl (Or.inl rfl)))
  have hE := HCR.out.end_ (s := s) (o := ⟨2, n, m, q, b⟩) rfl HZ.out HB3.out HT.out hF
  exact ⟨rfl, _, ret_tdW Try.results20 _ _ (Y.heap.size + 1) _ _ _ _ rfl hZ, hE⟩
set_option maxRecDepth 20000 in
set_option maxHeartbeats 2000000 in
theorem mustW_3 {B : Nat} {T G : Nat → Prop} {v bv : Value} {s : WrW} {n m q : Int} {b : List Int} {Y : World} (h : RzW B T v s Y) (hb : LbW G Y bv b) (_hG : ∀ x, T x → ¬ G x) :
    Calls Try.prog 20 #[v, opvW ⟨3, n, m, q, b⟩ bv] Y (MuQ B T v s ⟨3, n, m, q, b⟩ Y) := by
  unfold opvW
  simp only
  obtain ⟨g, rfl⟩ := h.ptr
  obtain ⟨ba, bc, hbv, -⟩ := hb.form
  have ht : ∀ x, T x → x < Y.heap.size := fun x hx => (h.t x hx).2
  have HT := hm7 ht
  obtain ⟨bn, hbn⟩ : ∃ bn, b.length = bn := ⟨_, rfl⟩
  rw [hbn] at hbv
  subst hbv
  obtain ⟨Y3, hY3⟩ : ∃ Y3, ((Y.alloc (.cells #[.int .i64 3, .int .i64 n, .int .i64 m, .int .i64 q, .slice ba bn bc] 50)).alloc (.cells #[.int .i64 0, .slice none 0 0, .int .i64 0, .slice none 0 0] 46)).alloc (.cells #[.int .i64 0, .slice none 0 0, .int .i64 0, .slice none 0 0] 46) = Y3 := ⟨_, rfl⟩
  have hz : Y3.heap.size = Y.heap.size + 3 := by rw [← hY3]; simp
  have hb3 : Below Y.heap.size Y Y3 := by rw [← hY3]; exact ((below1 _ _).alloc (by simp) _).alloc (by simp; omega) _
  have k0 : Bk Y3 Y.heap.size #[.int .i64 3, .int .i64 n, .int .i64 m, .int .i64 q, .slice ba bn bc] 50 := by rw [← hY3]; exact ((Bk.new _ _ _).below (below1 _ _)).below (below1 _ _)
  have k1 : Bk Y3 (Y.heap.size + 1) #[.int .i64 0, .slice none 0 0, .int .i64 0, .slice none 0 0] 46 := by rw [← hY3]; have := Bk.new (Y.alloc (.cells #[.int .i64 3, .int .i64 n, .int .i64 m, .int .i64 q, .slice ba bn bc] 50)) #[.int .i64 0, .slice none 0 0, .int .i64 0, .slice none 0 0] 46; simp only [size_alloc7] at this; exact this.below (below1 _ _)
  have k2 : Bk Y3 (Y.heap.size + 1 + 1) #[.int .i64 0, .slice none 0 0, .int .i64 0, .slice none 0 0] 46 := by rw [← hY3]; have := Bk.new ((Y.alloc (.cells #[.int .i64 3, .int .i64 n, .int .i64 m, .int .i64 q, .slice ba bn bc] 50)).alloc (.cells #[.int .i64 0, .slice none 0 0, .int .i64 0, .slice none 0 0] 46)) #[.int .i64 0, .slice none 0 0, .int .i64 0, .slice none 0 0] 46; simp only [size_alloc7] at this; exact this
  have c0 : Y3.cell? ⟨Y.heap.size, 0, none⟩ = some (.int .i64 3) := k0.cell rfl
  have c1 : Y3.cell? ⟨Y.heap.size, 1, none⟩ = some (.int .i64 n) := k0.cell rfl
  have c2 : Y3.cell? ⟨Y.heap.size, 2, none⟩ = some (.int .i64 m) := k0.cell rfl
  have c3 : Y3.cell? ⟨Y.heap.size, 3, none⟩ = some (.int .i64 q) := k0.cell rfl
  have c4 : Y3.cell? ⟨Y.heap.size, 4, none⟩ = some (.slice ba bn bc) := k0.cell rfl
  have K1 := hm7 k1
  have K2 := hm7 k2
  have HB3 := hm7 hb3
  have HZ := hm7 hz
  have HY := hm7 (byW_byt h.ok n)
  have HC := hm7 (rtakeW_any (h.below hb3) n)
  have H3 := hm7 (h.below hb3)
  clear h hb _hG hbn k0 k1 k2 hb3
  go_enter Try.func20, Try.ntmps20
  go_wp2_with (go_at_call 38; refine HC.out.mono ?_; rintro e Y4 ⟨u, rfl, hu, hq, hq2⟩; have hcr := CrW.own (t := tolW s ⟨3, n, m, q, b⟩) (fun x hx => Nat.lt_of_lt_of_le (HT.out x hx) HB3.out.size) hq hq2 hu HY.out rfl; obtain ⟨ra, rc, rfl, -⟩ := row7_form hu; obtain ⟨rn, hrn⟩ : ∃ rn, (byW s n).length = rn := ⟨_, rfl⟩; rw [hrn] at hcr ⊢; clear hu; have j1 : Bk Y4 (Y.heap.size + 1) _ 46 := K1.out.fr hcr.f (fun e => by have := HT.out _ e; omega); have j2 : Bk Y4 (Y.heap.size + 1 + 1) _ 46 := K2.out.fr hcr.f (fun e => by have := HT.out _ e; omega); have p0 : Y4.cell? ⟨Y.heap.size + 1 + 1, 0, none⟩ = some (.int .i64 0) := j2.cell rfl; have p1 : Y4.cell? ⟨Y.heap.size + 1 + 1, 1, none⟩ = some (.slice none 0 0) := j2.cell rfl; have p2 : Y4.cell? ⟨Y.heap.size + 1 + 1, 2, none⟩ = some (.int .i64 0) := j2.cell rfl; have p3 : Y4.cell? ⟨Y.heap.size + 1 + 1, 3, none⟩ = some (.slice none 0 0) := j2.cell rfl; have r0 : Y4.cell? ⟨Y.heap.size + 1, 0, none⟩ = some (.int .i64 0) := j1.cell rfl; have r1 : Y4.cell? ⟨Y.heap.size + 1, 1, none⟩ = some (.slice none 0 0) := j1.cell rfl; have r2 : Y4.cell? ⟨Y.heap.size + 1, 2, none⟩ = some (.int .i64 0) := j1.cell rfl; have r3 : Y4.cell? ⟨Y.heap.size + 1, 3, none⟩ = some (.slice none 0 0) := j1.cell rfl; have fz := j2.froz; have fr := j1.froz; have HCR := hm7 hcr; have J1 := hm7 j1; have J2 := hm7 j2; clear hcr j1 j2; clear hq)
  have hZ : Bk ((((((Y4.setCell ⟨Y.heap.size + 1 + 1, 1, none⟩ (.slice ra rn rc)).setCell ⟨Y.heap.size + 1 + 1, 2, none⟩ (.int .i64 (lokE s n))).setCell ⟨Y.heap.size + 1, 0, none⟩ (.int .i64 0)).setCell ⟨Y.heap.size + 1, 1, none⟩ (.slice ra rn rc)).setCell ⟨Y.heap.size + 1, 2, none⟩ (.int .i64 (lokE s n))).setCell ⟨Y.heap.size + 1, 3, none⟩ (.slice none 0 0)) (Y.heap.size + 1) #[.int .i64 0, .slice ra rn rc, .int .i64 (lokE s n), .slice none 0 0] 46 := (((((Bk.off (Bk.off J1.out (by omega)) (by omega)).set 0 (.int .i64 0)).set 1 (.slice ra rn rc)).set 2 (.int .i64 (lokE s n))).set 3 (.slice none 0 0))
  have hF : Fr (fun x => x = Y.heap.size + 1 ∨ x = Y.heap.size + 2) Y4 ((((((Y4.setCell ⟨Y.heap.size + 1 + 1, 1, none⟩ (.slice ra rn rc)).setCell ⟨Y.heap.size + 1 + 1, 2, none⟩ (.int .i64 (lokE s n))).setCell ⟨Y.heap.size + 1, 0, none⟩ (.int .i64 0)).setCell ⟨Y.heap.size + 1, 1, none⟩ (.slice ra rn rc)).setCell ⟨Y.heap.size + 1, 2, none⟩ (.int .i64 (lokE s n))).setCell ⟨Y.heap.size + 1, 3, none⟩ (.slice none 0 0)) := (Fr.set (i := 3) (v := .slice none 0 0) (Fr.set (i := 2) (v := .int .i64 (lokE s n)) (Fr.set (i := 1) (v := .slice ra rn rc) (Fr.set (i := 0) (v := .int .i64 0) (Fr.set (i := 2) (v := .int .i64 (lokE s n)) (Fr.set (i := 1) (v := .slice ra rn rc) (Fr.refl (fun x => x = Y.heap.size + 1 ∨ x = Y.heap.size + 2) Y4) (Or.inl (Or.inr rfl))) (Or.inl (Or.inr rfl))) (Or.inl (Or.inl rfl))) (Or.inl (Or.inl rfl))) (Or.inl (Or.inl rfl))) (Or.inl (Or.inl rfl)))
  have hE := HCR.out.end_ (s := s) (o := ⟨3, n, m, q, b⟩) rfl HZ.out HB3.out HT.out hF
  exact ⟨rfl, _, ret_tdW Try.results20 _ _ (Y.heap.size + 1) _ _ _ _ rfl hZ, hE⟩
set_option maxRecDepth 20000 in
set_option maxHeartbeats 2000000 in
theorem mustW_4 {B : Nat} {T G : Nat → Prop} {v bv : Value} {s : WrW} {n m q : Int} {b : List Int} {Y : World} (h : RzW B T v s Y) (hb : LbW G Y bv b) (_hG : ∀ x, T x → ¬ G x) :
    Calls Try.prog 20 #[v, opvW ⟨4, n, m, q, b⟩ bv] Y (MuQ B T v s ⟨4, n, m, q, b⟩ Y) := by
  unfold opvW
  simp only
  obtain ⟨g, rfl⟩ := h.ptr
  obtain ⟨ba, bc, hbv, -⟩ := hb.form
  have ht : ∀ x, T x → x < Y.heap.size := fun x hx => (h.t x hx).2
  have HT := hm7 ht
  obtain ⟨bn, hbn⟩ : ∃ bn, b.length = bn := ⟨_, rfl⟩
  rw [hbn] at hbv
  subst hbv
  obtain ⟨Y3, hY3⟩ : ∃ Y3, ((Y.alloc (.cells #[.int .i64 4, .int .i64 n, .int .i64 m, .int .i64 q, .slice ba bn bc] 50)).alloc (.cells #[.int .i64 0, .slice none 0 0, .int .i64 0, .slice none 0 0] 46)).alloc (.cells #[.int .i64 0, .slice none 0 0, .int .i64 0, .slice none 0 0] 46) = Y3 := ⟨_, rfl⟩
  have hz : Y3.heap.size = Y.heap.size + 3 := by rw [← hY3]; simp
  have hb3 : Below Y.heap.size Y Y3 := by rw [← hY3]; exact ((below1 _ _).alloc (by simp) _).alloc (by simp; omega) _
  have k0 : Bk Y3 Y.heap.size #[.int .i64 4, .int .i64 n, .int .i64 m, .int .i64 q, .slice ba bn bc] 50 := by rw [← hY3]; exact ((Bk.new _ _ _).below (below1 _ _)).below (below1 _ _)
  have k1 : Bk Y3 (Y.heap.size + 1) #[.int .i64 0, .slice none 0 0, .int .i64 0, .slice none 0 0] 46 := by rw [← hY3]; have := Bk.new (Y.alloc (.cells #[.int .i64 4, .int .i64 n, .int .i64 m, .int .i64 q, .slice ba bn bc] 50)) #[.int .i64 0, .slice none 0 0, .int .i64 0, .slice none 0 0] 46; simp only [size_alloc7] at this; exact this.below (below1 _ _)
  have k2 : Bk Y3 (Y.heap.size + 1 + 1) #[.int .i64 0, .slice none 0 0, .int .i64 0, .slice none 0 0] 46 := by rw [← hY3]; have := Bk.new ((Y.alloc (.cells #[.int .i64 4, .int .i64 n, .int .i64 m, .int .i64 q, .slice ba bn bc] 50)).alloc (.cells #[.int .i64 0, .slice none 0 0, .int .i64 0, .slice none 0 0] 46)) #[.int .i64 0, .slice none 0 0, .int .i64 0, .slice none 0 0] 46; simp only [size_alloc7] at this; exact this
  have c0 : Y3.cell? ⟨Y.heap.size, 0, none⟩ = some (.int .i64 4) := k0.cell rfl
  have c1 : Y3.cell? ⟨Y.heap.size, 1, none⟩ = some (.int .i64 n) := k0.cell rfl
  have c2 : Y3.cell? ⟨Y.heap.size, 2, none⟩ = some (.int .i64 m) := k0.cell rfl
  have c3 : Y3.cell? ⟨Y.heap.size, 3, none⟩ = some (.int .i64 q) := k0.cell rfl
  have c4 : Y3.cell? ⟨Y.heap.size, 4, none⟩ = some (.slice ba bn bc) := k0.cell rfl
  have K1 := hm7 k1
  have K2 := hm7 k2
  have HB3 := hm7 hb3
  have HZ := hm7 hz
  have HY := hm7 (byW_byt h.ok n)
  have HC := hm7 (rdropW_any (h.below hb3) n)
  have H3 := hm7 (h.below hb3)
  clear h hb _hG hbn k0 k1 k2 hb3
  go_enter Try.func20, Try.ntmps20
  go_wp2_with (go_at_call 39; refine HC.out.mono ?_; rintro e Y4 ⟨rfl, hq⟩; have hcr := CrW.rq (t := tolW s ⟨4, n, m, q, b⟩) hq rfl rfl; have j1 : Bk Y4 (Y.heap.size + 1) _ 46 := K1.out.fr hcr.f (fun e => by have := HT.out _ e; omega); have j2 : Bk Y4 (Y.heap.size + 1 + 1) _ 46 := K2.out.fr hcr.f (fun e => by have := HT.out _ e; omega); have p0 : Y4.cell? ⟨Y.heap.size + 1 + 1, 0, none⟩ = some (.int .i64 0) := j2.cell rfl; have p1 : Y4.cell? ⟨Y.heap.size + 1 + 1, 1, none⟩ = some (.slice none 0 0) := j2.cell rfl; have p2 : Y4.cell? ⟨Y.heap.size + 1 + 1, 2, none⟩ = some (.int .i64 0) := j2.cell rfl; have p3 : Y4.cell? ⟨Y.heap.size + 1 + 1, 3, none⟩ = some (.slice none 0 0) := j2.cell rfl; have r0 : Y4.cell? ⟨Y.heap.size + 1, 0, none⟩ = some (.int .i64 0) := j1.cell rfl; have r1 : Y4.cell? ⟨Y.heap.size + 1, 1, none⟩ = some (.slice none 0 0) := j1.cell rfl; have r2 : Y4.cell? ⟨Y.heap.size + 1, 2, none⟩ = some (.int .i64 0) := j1.cell rfl; have r3 : Y4.cell? ⟨Y.heap.size + 1, 3, none⟩ = some (.slice none 0 0) := j1.cell rfl; have fz := j2.froz; have fr := j1.froz; have HCR := hm7 hcr; have J1 := hm7 j1; have J2 := hm7 j2; clear hcr j1 j2; clear hq)
  have hZ : Bk (((((Y4.setCell ⟨Y.heap.size + 1 + 1, 2, none⟩ (.int .i64 (lokE s n))).setCell ⟨Y.heap.size + 1, 0, none⟩ (.int .i64 0)).setCell ⟨Y.heap.size + 1, 1, none⟩ (.slice none 0 0)).setCell ⟨Y.heap.size + 1, 2, none⟩ (.int .i64 (lokE s n))).setCell ⟨Y.heap.size + 1, 3, none⟩ (.slice none 0 0)) (Y.heap.size + 1) #[.int .i64 0, .slice none 0 0, .int .i64 (lokE s n), .slice none 0 0] 46 := (((((Bk.off J1.out (by omega)).set 0 (.int .i64 0)).set 1 (.slice none 0 0)).set 2 (.int .i64 (lokE s n))).set 3 (.slice none 0 0))
  have hF : Fr (fun x => x = Y.heap.size + 1 ∨ x = Y.heap.size + 2) Y4 (((((Y4.setCell ⟨Y.heap.size + 1 + 1, 2, none⟩ (.int .i64 (lokE s n))).setCell ⟨Y.heap.size + 1, 0, none⟩ (.int .i64 0)).setCell ⟨Y.heap.size + 1, 1, none⟩ (.slice none 0 0)).setCell ⟨Y.heap.size + 1, 2, none⟩ (.int .i64 (lokE s n))).setCell ⟨Y.heap.size + 1, 3, none⟩ (.slice none 0 0)) := (Fr.set (i := 3) (v := .slice none 0 0) (Fr.set (i := 2) (v := .int .i64 (lokE s n)) (Fr.set (i := 1) (v := .slice none 0 0) (Fr.set (i := 0) (v := .int .i64 0) (Fr.set (i := 2) (v := .int .i64 (lokE s n)) (Fr.refl (fun x => x = Y.heap.size + 1 ∨ x = Y.heap.size + 2) Y4) (Or.inl (Or.inr rfl))) (Or.inl (Or.inl rfl))) (Or.inl (Or.inl rfl))) (Or.inl (Or.inl rfl))) (Or.inl (Or.inl rfl)))
  have hE := HCR.out.end_ (s := s) (o := ⟨4, n, m, q, b⟩) rfl HZ.out HB3.out HT.out hF
  exact ⟨rfl, _, ret_tdW Try.results20 _ _ (Y.heap.size + 1) _ _ _ _ rfl hZ, hE⟩
set_option maxRecDepth 20000 in
set_option maxHeartbeats 2000000 in
theorem mustW_5 {B : Nat} {T G : Nat → Prop} {v bv : Value} {s : WrW} {n m q : Int} {b : List Int} {Y : World} (h : RzW B T v s Y) (hb : LbW G Y bv b) (_hG : ∀ x, T x → ¬ G x) :
    Calls Try.prog 20 #[v, opvW ⟨5, n, m, q, b⟩ bv] Y (MuQ B T v s ⟨5, n, m, q, b⟩ Y) := by
  unfold opvW
  simp only
  obtain ⟨g, rfl⟩ := h.ptr
  obtain ⟨ba, bc, hbv, -⟩ := hb.form
  have ht : ∀ x, T x → x < Y.heap.size := fun x hx => (h.t x hx).2
  have HT := hm7 ht
  obtain ⟨bn, hbn⟩ : ∃ bn, b.length = bn := ⟨_, rfl⟩
  rw [hbn] at hbv
  subst hbv
  obtain ⟨Y3, hY3⟩ : ∃ Y3, ((Y.alloc (.cells #[.int .i64 5, .int .i64 n, .int .i64 m, .int .i64 q, .slice ba bn bc] 50)).alloc (.cells #[.int .i64 0, .slice none 0 0, .int .i64 0, .slice none 0 0] 46)).alloc (.cells #[.int .i64 0, .slice none 0 0, .int .i64 0, .slice none 0 0] 46) = Y3 := ⟨_, rfl⟩
  have hz : Y3.heap.size = Y.heap.size + 3 := by rw [← hY3]; simp
  have hb3 : Below Y.heap.size Y Y3 := by rw [← hY3]; exact ((below1 _ _).alloc (by simp) _).alloc (by simp; omega) _
  have k0 : Bk Y3 Y.heap.size #[.int .i64 5, .int .i64 n, .int .i64 m, .int .i64 q, .slice ba bn bc] 50 := by rw [← hY3]; exact ((Bk.new _ _ _).below (below1 _ _)).below (below1 _ _)
  have k1 : Bk Y3 (Y.heap.size + 1) #[.int .i64 0, .slice none 0 0, .int .i64 0, .slice none 0 0] 46 := by rw [← hY3]; have := Bk.new (Y.alloc (.cells #[.int .i64 5, .int .i64 n, .int .i64 m, .int .i64 q, .slice ba bn bc] 50)) #[.int .i64 0, .slice none 0 0, .int .i64 0, .slice none 0 0] 46; simp only [size_alloc7] at this; exact this.below (below1 _ _)
  have k2 : Bk Y3 (Y.heap.size + 1 + 1) #[.int .i64 0, .slice none 0 0, .int .i64 0, .slice none 0 0] 46 := by rw [← hY3]; have := Bk.new ((Y.alloc (.cells #[.int .i64 5, .int .i64 n, .int .i64 m, .int .i64 q, .slice ba bn bc] 50)).alloc (.cells #[.int .i64 0, .slice none 0 0, .int .i64 0, .slice none 0 0] 46)) #[.int .i64 0, .slice none 0 0, .int .i64 0, .slice none 0 0] 46; simp only [size_alloc7] at this; exact this
  have c0 : Y3.cell? ⟨Y.heap.size, 0, none⟩ = some (.int .i64 5) := k0.cell rfl
  have c1 : Y3.cell? ⟨Y.heap.size, 1, none⟩ = some (.int .i64 n) := k0.cell rfl
  have c2 : Y3.cell? ⟨Y.heap.size, 2, none⟩ = some (.int .i64 m) := k0.cell rfl
  have c3 : Y3.cell? ⟨Y.heap.size, 3, none⟩ = some (.int .i64 q) := k0.cell rfl
  have c4 : Y3.cell? ⟨Y.heap.size, 4, none⟩ = some (.slice ba bn bc) := k0.cell rfl
  have K1 := hm7 k1
  have K2 := hm7 k2
  have HB3 := hm7 hb3
  have HZ := hm7 hz
  have HY := hm7 (byW_byt h.ok n)
  have HC := hm7 (rcpyW_any (h.below hb3) n)
  have H3 := hm7 (h.below hb3)
  clear h hb _hG hbn k0 k1 k2 hb3
  go_enter Try.func20, Try.ntmps20
  go_wp2_with (go_at_call 40; refine HC.out.mono ?_; rintro e Y4 ⟨rfl, hq⟩; have hcr := CrW.rq (t := tolW s ⟨5, n, m, q, b⟩) hq rfl rfl; have j1 : Bk Y4 (Y.heap.size + 1) _ 46 := K1.out.fr hcr.f (fun e => by have := HT.out _ e; omega); have j2 : Bk Y4 (Y.heap.size + 1 + 1) _ 46 := K2.out.fr hcr.f (fun e => by have := HT.out _ e; omega); have p0 : Y4.cell? ⟨Y.heap.size + 1 + 1, 0, none⟩ = some (.int .i64 0) := j2.cell rfl; have p1 : Y4.cell? ⟨Y.heap.size + 1 + 1, 1, none⟩ = some (.slice none 0 0) := j2.cell rfl; have p2 : Y4.cell? ⟨Y.heap.size + 1 + 1, 2, none⟩ = some (.int .i64 0) := j2.cell rfl; have p3 : Y4.cell? ⟨Y.heap.size + 1 + 1, 3, none⟩ = some (.slice none 0 0) := j2.cell rfl; have r0 : Y4.cell? ⟨Y.heap.size + 1, 0, none⟩ = some (.int .i64 0) := j1.cell rfl; have r1 : Y4.cell? ⟨Y.heap.size + 1, 1, none⟩ = some (.slice none 0 0) := j1.cell rfl; have r2 : Y4.cell? ⟨Y.heap.size + 1, 2, none⟩ = some (.int .i64 0) := j1.cell rfl; have r3 : Y4.cell? ⟨Y.heap.size + 1, 3, none⟩ = some (.slice none 0 0) := j1.cell rfl; have fz := j2.froz; have fr := j1.froz; have HCR := hm7 hcr; have J1 := hm7 j1; have J2 := hm7 j2; clear hcr j1 j2; clear hq)
  have hZ : Bk ((((((Y4.setCell ⟨Y.heap.size + 1 + 1, 0, none⟩ (.int .i64 (cpyN s n))).setCell ⟨Y.heap.size + 1 + 1, 2, none⟩ (.int .i64 (cpyE s n))).setCell ⟨Y.heap.size + 1, 0, none⟩ (.int .i64 (cpyN s n))).setCell ⟨Y.heap.size + 1, 1, none⟩ (.slice none 0 0)).setCell ⟨Y.heap.size + 1, 2, none⟩ (.int .i64 (cpyE s n))).setCell ⟨Y.heap.size + 1, 3, none⟩ (.slice none 0 0)) (Y.heap.size + 1) #[.int .i64 (cpyN s n), .slice none 0 0, .int .i64 (cpyE s n), .slice none 0 0] 46 := (((((Bk.off (Bk.off J1.out (by omega)) (by omega)).set 0 (.int .i64 (cpyN s n))).set 1 (.slice none 0 0)).set 2 (.int .i64 (cpyE s n))).set 3 (.slice none 0 0))
  have hF : Fr (fun x => x = Y.heap.size + 1 ∨ x = Y.heap.size + 2) Y4 ((((((Y4.setCell ⟨Y.heap.size + 1 + 1, 0, none⟩ (.int .i64 (cpyN s n))).setCell ⟨Y.heap.size + 1 + 1, 2, none⟩ (.int .i64 (cpyE s n))).setCell ⟨Y.heap.size + 1, 0, none⟩ (.int .i64 (cpyN s n))).setCell ⟨Y.heap.size + 1, 1, none⟩ (.slice none 0 0)).setCell ⟨Y.heap.size + 1, 2, none⟩ (.int .i64 (cpyE s n))).setCell ⟨Y.heap.size + 1, 3, none⟩ (.slice none 0 0)) := (Fr.set (i := 3) (v := .slice none 0 0) (Fr.set (i := 2) (v := .int .i64 (cpyE s n)) (Fr.set (i := 1) (v := .slice none 0 0) (Fr.set (i := 0) (v := .int .i64 (cpyN s n)) (Fr.set (i := 2) (v := .int .i64 (cpyE s n)) (Fr.set (i := 0) (v := .int .i64 (cpyN s n)) (Fr.refl (fun x => x = Y.heap.size + 1 ∨ x = Y.heap.size + 2) Y4) (Or.inl (Or.inr rfl))) (Or.inl (Or.inr rfl))) (Or.inl (Or.inl rfl))) (Or.inl (Or.inl rfl))) (Or.inl (Or.inl rfl))) (Or.inl (Or.inl rfl)))
  have hE := HCR.out.end_ (s := s) (o := ⟨5, n, m, q, b⟩) rfl HZ.out HB3.out HT.out hF
  exact ⟨rfl, _, ret_tdW Try.results20 _ _ (Y.heap.size + 1) _ _ _ _ rfl hZ, hE⟩
set_option maxRecDepth 20000 in
set_option maxHeartbeats 2000000 in
theorem mustW_6 {B : Nat} {T G : Nat → Prop} {v bv : Value} {s : WrW} {n m q : Int} {b : List Int} {Y : World} (h : RzW B T v s Y) (hb : LbW G Y bv b) (_hG : ∀ x, T x → ¬ G x) :
    Calls Try.prog 20 #[v, opvW ⟨6, n, m, q, b⟩ bv] Y (MuQ B T v s ⟨6, n, m, q, b⟩ Y) := by
  unfold opvW
  simp only
  obtain ⟨g, rfl⟩ := h.ptr
  obtain ⟨ba, bc, hbv, -⟩ := hb.form
  have ht : ∀ x, T x → x < Y.heap.size := fun x hx => (h.t x hx).2
  have HT := hm7 ht
  obtain ⟨bn, hbn⟩ : ∃ bn, b.length = bn := ⟨_, rfl⟩
  rw [hbn] at hbv
  subst hbv
  obtain ⟨Y3, hY3⟩ : ∃ Y3, ((Y.alloc (.cells #[.int .i64 6, .int .i64 n, .int .i64 m, .int .i64 q, .slice ba bn bc] 50)).alloc (.cells #[.int .i64 0, .slice none 0 0, .int .i64 0, .slice none 0 0] 46)).alloc (.cells #[.int .i64 0, .slice none 0 0, .int .i64 0, .slice none 0 0] 46) = Y3 := ⟨_, rfl⟩
  have hz : Y3.heap.size = Y.heap.size + 3 := by rw [← hY3]; simp
  have hb3 : Below Y.heap.size Y Y3 := by rw [← hY3]; exact ((below1 _ _).alloc (by simp) _).alloc (by simp; omega) _
  have k0 : Bk Y3 Y.heap.size #[.int .i64 6, .int .i64 n, .int .i64 m, .int .i64 q, .slice ba bn bc] 50 := by rw [← hY3]; exact ((Bk.new _ _ _).below (below1 _ _)).below (below1 _ _)
  have k1 : Bk Y3 (Y.heap.size + 1) #[.int .i64 0, .slice none 0 0, .int .i64 0, .slice none 0 0] 46 := by rw [← hY3]; have := Bk.new (Y.alloc (.cells #[.int .i64 6, .int .i64 n, .int .i64 m, .int .i64 q, .slice ba bn bc] 50)) #[.int .i64 0, .slice none 0 0, .int .i64 0, .slice none 0 0] 46; simp only [size_alloc7] at this; exact this.below (below1 _ _)
  have k2 : Bk Y3 (Y.heap.size + 1 + 1) #[.int .i64 0, .slice none 0 0, .int .i64 0, .slice none 0 0] 46 := by rw [← hY3]; have := Bk.new ((Y.alloc (.cells #[.int .i64 6, .int .i64 n, .int .i64 m, .int .i64 q, .slice ba bn bc] 50)).alloc (.cells #[.int .i64 0, .slice none 0 0, .int .i64 0, .slice none 0 0] 46)) #[.int .i64 0, .slice none 0 0, .int .i64 0, .slice none 0 0] 46; simp only [size_alloc7] at this; exact this
  have c0 : Y3.cell? ⟨Y.heap.size, 0, none⟩ = some (.int .i64 6) := k0.cell rfl
  have c1 : Y3.cell? ⟨Y.heap.size, 1, none⟩ = some (.int .i64 n) := k0.cell rfl
  have c2 : Y3.cell? ⟨Y.heap.size, 2, none⟩ = some (.int .i64 m) := k0.cell rfl
  have c3 : Y3.cell? ⟨Y.heap.size, 3, none⟩ = some (.int .i64 q) := k0.cell rfl
  have c4 : Y3.cell? ⟨Y.heap.size, 4, none⟩ = some (.slice ba bn bc) := k0.cell rfl
  have K1 := hm7 k1
  have K2 := hm7 k2
  have HB3 := hm7 hb3
  have HZ := hm7 hz
  have HY := hm7 (byW_byt h.ok n)
  have HC := hm7 (rswpW_any (h.below hb3) n m)
  have H3 := hm7 (h.below hb3)
  clear h hb _hG hbn k0 k1 k2 hb3
  go_enter Try.func20, Try.ntmps20
  go_wp2_with (go_at_call 41; refine HC.out.mono ?_; rintro e Y4 ⟨rfl, hq⟩; have hcr := CrW.rq (t := tolW s ⟨6, n, m, q, b⟩) hq rfl rfl; have j1 : Bk Y4 (Y.heap.size + 1) _ 46 := K1.out.fr hcr.f (fun e => by have := HT.out _ e; omega); have j2 : Bk Y4 (Y.heap.size + 1 + 1) _ 46 := K2.out.fr hcr.f (fun e => by have := HT.out _ e; omega); have p0 : Y4.cell? ⟨Y.heap.size + 1 + 1, 0, none⟩ = some (.int .i64 0) := j2.cell rfl; have p1 : Y4.cell? ⟨Y.heap.size + 1 + 1, 1, none⟩ = some (.slice none 0 0) := j2.cell rfl; have p2 : Y4.cell? ⟨Y.heap.size + 1 + 1, 2, none⟩ = some (.int .i64 0) := j2.cell rfl; have p3 : Y4.cell? ⟨Y.heap.size + 1 + 1, 3, none⟩ = some (.slice none 0 0) := j2.cell rfl; have r0 : Y4.cell? ⟨Y.heap.size + 1, 0, none⟩ = some (.int .i64 0) := j1.cell rfl; have r1 : Y4.cell? ⟨Y.heap.size + 1, 1, none⟩ = some (.slice none 0 0) := j1.cell rfl; have r2 : Y4.cell? ⟨Y.heap.size + 1, 2, none⟩ = some (.int .i64 0) := j1.cell rfl; have r3 : Y4.cell? ⟨Y.heap.size + 1, 3, none⟩ = some (.slice none 0 0) := j1.cell rfl; have fz := j2.froz; have fr := j1.froz; have HCR := hm7 hcr; have J1 := hm7 j1; have J2 := hm7 j2; clear hcr j1 j2; clear hq)
  have hZ : Bk (((((Y4.setCell ⟨Y.heap.size + 1 + 1, 2, none⟩ (.int .i64 (swpE s n m))).setCell ⟨Y.heap.size + 1, 0, none⟩ (.int .i64 0)).setCell ⟨Y.heap.size + 1, 1, none⟩ (.slice none 0 0)).setCell ⟨Y.heap.size + 1, 2, none⟩ (.int .i64 (swpE s n m))).setCell ⟨Y.heap.size + 1, 3, none⟩ (.slice none 0 0)) (Y.heap.size + 1) #[.int .i64 0, .slice none 0 0, .int .i64 (swpE s n m), .slice none 0 0] 46 := (((((Bk.off J1.out (by omega)).set 0 (.int .i64 0)).set 1 (.slice none 0 0)).set 2 (.int .i64 (swpE s n m))).set 3 (.slice none 0 0))
  have hF : Fr (fun x => x = Y.heap.size + 1 ∨ x = Y.heap.size + 2) Y4 (((((Y4.setCell ⟨Y.heap.size + 1 + 1, 2, none⟩ (.int .i64 (swpE s n m))).setCell ⟨Y.heap.size + 1, 0, none⟩ (.int .i64 0)).setCell ⟨Y.heap.size + 1, 1, none⟩ (.slice none 0 0)).setCell ⟨Y.heap.size + 1, 2, none⟩ (.int .i64 (swpE s n m))).setCell ⟨Y.heap.size + 1, 3, none⟩ (.slice none 0 0)) := (Fr.set (i := 3) (v := .slice none 0 0) (Fr.set (i := 2) (v := .int .i64 (swpE s n m)) (Fr.set (i := 1) (v := .slice none 0 0) (Fr.set (i := 0) (v := .int .i64 0) (Fr.set (i := 2) (v := .int .i64 (swpE s n m)) (Fr.refl (fun x => x = Y.heap.size + 1 ∨ x = Y.heap.size + 2) Y4) (Or.inl (Or.inr rfl))) (Or.inl (Or.inl rfl))) (Or.inl (Or.inl rfl))) (Or.inl (Or.inl rfl))) (Or.inl (Or.inl rfl)))
  have hE := HCR.out.end_ (s := s) (o := ⟨6, n, m, q, b⟩) rfl HZ.out HB3.out HT.out hF
  exact ⟨rfl, _, ret_tdW Try.results20 _ _ (Y.heap.size + 1) _ _ _ _ rfl hZ, hE⟩
set_option maxRecDepth 20000 in
set_option maxHeartbeats 2000000 in
theorem mustW_7 {B : Nat} {T G : Nat → Prop} {v bv : Value} {s : WrW} {n m q : Int} {b : List Int} {Y : World} (h : RzW B T v s Y) (hb : LbW G Y bv b) (_hG : ∀ x, T x → ¬ G x) :
    Calls Try.prog 20 #[v, opvW ⟨7, n, m, q, b⟩ bv] Y (MuQ B T v s ⟨7, n, m, q, b⟩ Y) := by
  unfold opvW
  simp only
  obtain ⟨g, rfl⟩ := h.ptr
  obtain ⟨ba, bc, hbv, -⟩ := hb.form
  have ht : ∀ x, T x → x < Y.heap.size := fun x hx => (h.t x hx).2
  have HT := hm7 ht
  obtain ⟨bn, hbn⟩ : ∃ bn, b.length = bn := ⟨_, rfl⟩
  rw [hbn] at hbv
  subst hbv
  obtain ⟨Y3, hY3⟩ : ∃ Y3, ((Y.alloc (.cells #[.int .i64 7, .int .i64 n, .int .i64 m, .int .i64 q, .slice ba bn bc] 50)).alloc (.cells #[.int .i64 0, .slice none 0 0, .int .i64 0, .slice none 0 0] 46)).alloc (.cells #[.int .i64 0, .slice none 0 0, .int .i64 0, .slice none 0 0] 46) = Y3 := ⟨_, rfl⟩
  have hz : Y3.heap.size = Y.heap.size + 3 := by rw [← hY3]; simp
  have hb3 : Below Y.heap.size Y Y3 := by rw [← hY3]; exact ((below1 _ _).alloc (by simp) _).alloc (by simp; omega) _
  have k0 : Bk Y3 Y.heap.size #[.int .i64 7, .int .i64 n, .int .i64 m, .int .i64 q, .slice ba bn bc] 50 := by rw [← hY3]; exact ((Bk.new _ _ _).below (below1 _ _)).below (below1 _ _)
  have k1 : Bk Y3 (Y.heap.size + 1) #[.int .i64 0, .slice none 0 0, .int .i64 0, .slice none 0 0] 46 := by rw [← hY3]; have := Bk.new (Y.alloc (.cells #[.int .i64 7, .int .i64 n, .int .i64 m, .int .i64 q, .slice ba bn bc] 50)) #[.int .i64 0, .slice none 0 0, .int .i64 0, .slice none 0 0] 46; simp only [size_alloc7] at this; exact this.below (below1 _ _)
  have k2 : Bk Y3 (Y.heap.size + 1 + 1) #[.int .i64 0, .slice none 0 0, .int .i64 0, .slice none 0 0] 46 := by rw [← hY3]; have := Bk.new ((Y.alloc (.cells #[.int .i64 7, .int .i64 n, .int .i64 m, .int .i64 q, .slice ba bn bc] 50)).alloc (.cells #[.int .i64 0, .slice none 0 0, .int .i64 0, .slice none 0 0] 46)) #[.int .i64 0, .slice none 0 0, .int .i64 0, .slice none 0 0] 46; simp only [size_alloc7] at this; exact this
  have c0 : Y3.cell? ⟨Y.heap.size, 0, none⟩ = some (.int .i64 7) := k0.cell rfl
  have c1 : Y3.cell? ⟨Y.heap.size, 1, none⟩ = some (.int .i64 n) := k0.cell rfl
  have c2 : Y3.cell? ⟨Y.heap.size, 2, none⟩ = some (.int .i64 m) := k0.cell rfl
  have c3 : Y3.cell? ⟨Y.heap.size, 3, none⟩ = some (.int .i64 q) := k0.cell rfl
  have c4 : Y3.cell? ⟨Y.heap.size, 4, none⟩ = some (.slice ba bn bc) := k0.cell rfl
  have K1 := hm7 k1
  have K2 := hm7 k2
  have HB3 := hm7 hb3
  have HZ := hm7 hz
  have HY := hm7 (byW_byt h.ok n)
  have HC := hm7 (rflpW_any (h.below hb3) n m q)
  have H3 := hm7 (h.below hb3)
  clear h hb _hG hbn k0 k1 k2 hb3
  go_enter Try.func20, Try.ntmps20
  go_wp2_with (go_at_call 42; refine HC.out.mono ?_; rintro e Y4 ⟨rfl, hq⟩; have hcr := CrW.rq (t := tolW s ⟨7, n, m, q, b⟩) hq rfl rfl; have j1 : Bk Y4 (Y.heap.size + 1) _ 46 := K1.out.fr hcr.f (fun e => by have := HT.out _ e; omega); have j2 : Bk Y4 (Y.heap.size + 1 + 1) _ 46 := K2.out.fr hcr.f (fun e => by have := HT.out _ e; omega); have p0 : Y4.cell? ⟨Y.heap.size + 1 + 1, 0, none⟩ = some (.int .i64 0) := j2.cell rfl; have p1 : Y4.cell? ⟨Y.heap.size + 1 + 1, 1, none⟩ = some (.slice none 0 0) := j2.cell rfl; have p2 : Y4.cell? ⟨Y.heap.size + 1 + 1, 2, none⟩ = some (.int .i64 0) := j2.cell rfl; have p3 : Y4.cell? ⟨Y.heap.size + 1 + 1, 3, none⟩ = some (.slice none 0 0) := j2.cell rfl; have r0 : Y4.cell? ⟨Y.heap.size + 1, 0, none⟩ = some (.int .i64 0) := j1.cell rfl; have r1 : Y4.cell? ⟨Y.heap.size + 1, 1, none⟩ = some (.slice none 0 0) := j1.cell rfl; have r2 : Y4.cell? ⟨Y.heap.size + 1, 2, none⟩ = some (.int .i64 0) := j1.cell rfl; have r3 : Y4.cell? ⟨Y.heap.size + 1, 3, none⟩ = some (.slice none 0 0) := j1.cell rfl; have fz := j2.froz; have fr := j1.froz; have HCR := hm7 hcr; have J1 := hm7 j1; have J2 := hm7 j2; clear hcr j1 j2; clear hq)
  have hZ : Bk (((((Y4.setCell ⟨Y.heap.size + 1 + 1, 2, none⟩ (.int .i64 (flpE s n m))).setCell ⟨Y.heap.size + 1, 0, none⟩ (.int .i64 0)).setCell ⟨Y.heap.size + 1, 1, none⟩ (.slice none 0 0)).setCell ⟨Y.heap.size + 1, 2, none⟩ (.int .i64 (flpE s n m))).setCell ⟨Y.heap.size + 1, 3, none⟩ (.slice none 0 0)) (Y.heap.size + 1) #[.int .i64 0, .slice none 0 0, .int .i64 (flpE s n m), .slice none 0 0] 46 := (((((Bk.off J1.out (by omega)).set 0 (.int .i64 0)).set 1 (.slice none 0 0)).set 2 (.int .i64 (flpE s n m))).set 3 (.slice none 0 0))
  have hF : Fr (fun x => x = Y.heap.size + 1 ∨ x = Y.heap.size + 2) Y4 (((((Y4.setCell ⟨Y.heap.size + 1 + 1, 2, none⟩ (.int .i64 (flpE s n m))).setCell ⟨Y.heap.size + 1, 0, none⟩ (.int .i64 0)).setCell ⟨Y.heap.size + 1, 1, none⟩ (.slice none 0 0)).setCell ⟨Y.heap.size + 1, 2, none⟩ (.int .i64 (flpE s n m))).setCell ⟨Y.heap.size + 1, 3, none⟩ (.slice none 0 0)) := (Fr.set (i := 3) (v := .slice none 0 0) (Fr.set (i := 2) (v := .int .i64 (flpE s n m)) (Fr.set (i := 1) (v := .slice none 0 0) (Fr.set (i := 0) (v := .int .i64 0) (Fr.set (i := 2) (v := .int .i64 (flpE s n m)) (Fr.refl (fun x => x = Y.heap.size + 1 ∨ x = Y.heap.size + 2) Y4) (Or.inl (Or.inr rfl))) (Or.inl (Or.inl rfl))) (Or.inl (Or.inl rfl))) (Or.inl (Or.inl rfl))) (Or.inl (Or.inl rfl)))
  have hE := HCR.out.end_ (s := s) (o := ⟨7, n, m, q, b⟩) rfl HZ.out HB3.out HT.out hF
  exact ⟨rfl, _, ret_tdW Try.results20 _ _ (Y.heap.size + 1) _ _ _ _ rfl hZ, hE⟩
set_option maxRecDepth 20000 in
set_option maxHeartbeats 2000000 in
theorem mustW_8 {B : Nat} {T G : Nat → Prop} {v bv : Value} {s : WrW} {n m q : Int} {b : List Int} {Y : World} (h : RzW B T v s Y) (hb : LbW G Y bv b) (_hG : ∀ x, T x → ¬ G x) :
    Calls Try.prog 20 #[v, opvW ⟨8, n, m, q, b⟩ bv] Y (MuQ B T v s ⟨8, n, m, q, b⟩ Y) := by
  unfold opvW
  simp only
  obtain ⟨g, rfl⟩ := h.ptr
  obtain ⟨ba, bc, hbv, -⟩ := hb.form
  have ht : ∀ x, T x → x < Y.heap.size := fun x hx => (h.t x hx).2
  have HT := hm7 ht
  obtain ⟨bn, hbn⟩ : ∃ bn, b.length = bn := ⟨_, rfl⟩
  rw [hbn] at hbv
  subst hbv
  obtain ⟨Y3, hY3⟩ : ∃ Y3, ((Y.alloc (.cells #[.int .i64 8, .int .i64 n, .int .i64 m, .int .i64 q, .slice ba bn bc] 50)).alloc (.cells #[.int .i64 0, .slice none 0 0, .int .i64 0, .slice none 0 0] 46)).alloc (.cells #[.int .i64 0, .slice none 0 0, .int .i64 0, .slice none 0 0] 46) = Y3 := ⟨_, rfl⟩
  have hz : Y3.heap.size = Y.heap.size + 3 := by rw [← hY3]; simp
  have hb3 : Below Y.heap.size Y Y3 := by rw [← hY3]; exact ((below1 _ _).alloc (by simp) _).alloc (by simp; omega) _
  have k0 : Bk Y3 Y.heap.size #[.int .i64 8, .int .i64 n, .int .i64 m, .int .i64 q, .slice ba bn bc] 50 := by rw [← hY3]; exact ((Bk.new _ _ _).below (below1 _ _)).below (below1 _ _)
  have k1 : Bk Y3 (Y.heap.size + 1) #[.int .i64 0, .slice none 0 0, .int .i64 0, .slice none 0 0] 46 := by rw [← hY3]; have := Bk.new (Y.alloc (.cells #[.int .i64 8, .int .i64 n, .int .i64 m, .int .i64 q, .slice ba bn bc] 50)) #[.int .i64 0, .slice none 0 0, .int .i64 0, .slice none 0 0] 46; simp only [size_alloc7] at this; exact this.below (below1 _ _)
  have k2 : Bk Y3 (Y.heap.size + 1 + 1) #[.int .i64 0, .slice none 0 0, .int .i64 0, .slice none 0 0] 46 := by rw [← hY3]; have := Bk.new ((Y.alloc (.cells #[.int .i64 8, .int .i64 n, .int .i64 m, .int .i64 q, .slice ba bn bc] 50)).alloc (.cells #[.int .i64 0, .slice none 0 0, .int .i64 0, .slice none 0 0] 46)) #[.int .i64 0, .slice none 0 0, .int .i64 0, .slice none 0 0] 46; simp only [size_alloc7] at this; exact this
  have c0 : Y3.cell? ⟨Y.heap.size, 0, none⟩ = some (.int .i64 8) := k0.cell rfl
  have c1 : Y3.cell? ⟨Y.heap.size, 1, none⟩ = some (.int .i64 n) := k0.cell rfl
  have c2 : Y3.cell? ⟨Y.heap.size, 2, none⟩ = some (.int .i64 m) := k0.cell rfl
  have c3 : Y3.cell? ⟨Y.heap.size, 3, none⟩ = some (.int .i64 q) := k0.cell rfl
  have c4 : Y3.cell? ⟨Y.heap.size, 4, none⟩ = some (.slice ba bn bc) := k0.cell rfl
  have K1 := hm7 k1
  have K2 := hm7 k2
  have HB3 := hm7 hb3
  have HZ := hm7 hz
  have HY := hm7 (byW_byt h.ok n)
  have HC := hm7 (rcutW_any (h.below hb3) n m)
  have H3 := hm7 (h.below hb3)
  clear h hb _hG hbn k0 k1 k2 hb3
  go_enter Try.func20, Try.ntmps20
  go_wp2_with (go_at_call 43; refine HC.out.mono ?_; rintro e Y4 ⟨rfl, hq⟩; have hcr := CrW.rq (t := tolW s ⟨8, n, m, q, b⟩) hq rfl rfl; have j1 : Bk Y4 (Y.heap.size + 1) _ 46 := K1.out.fr hcr.f (fun e => by have := HT.out _ e; omega); have j2 : Bk Y4 (Y.heap.size + 1 + 1) _ 46 := K2.out.fr hcr.f (fun e => by have := HT.out _ e; omega); have p0 : Y4.cell? ⟨Y.heap.size + 1 + 1, 0, none⟩ = some (.int .i64 0) := j2.cell rfl; have p1 : Y4.cell? ⟨Y.heap.size + 1 + 1, 1, none⟩ = some (.slice none 0 0) := j2.cell rfl; have p2 : Y4.cell? ⟨Y.heap.size + 1 + 1, 2, none⟩ = some (.int .i64 0) := j2.cell rfl; have p3 : Y4.cell? ⟨Y.heap.size + 1 + 1, 3, none⟩ = some (.slice none 0 0) := j2.cell rfl; have r0 : Y4.cell? ⟨Y.heap.size + 1, 0, none⟩ = some (.int .i64 0) := j1.cell rfl; have r1 : Y4.cell? ⟨Y.heap.size + 1, 1, none⟩ = some (.slice none 0 0) := j1.cell rfl; have r2 : Y4.cell? ⟨Y.heap.size + 1, 2, none⟩ = some (.int .i64 0) := j1.cell rfl; have r3 : Y4.cell? ⟨Y.heap.size + 1, 3, none⟩ = some (.slice none 0 0) := j1.cell rfl; have fz := j2.froz; have fr := j1.froz; have HCR := hm7 hcr; have J1 := hm7 j1; have J2 := hm7 j2; clear hcr j1 j2; clear hq)
  have hZ : Bk (((((Y4.setCell ⟨Y.heap.size + 1 + 1, 2, none⟩ (.int .i64 (cutE s n m))).setCell ⟨Y.heap.size + 1, 0, none⟩ (.int .i64 0)).setCell ⟨Y.heap.size + 1, 1, none⟩ (.slice none 0 0)).setCell ⟨Y.heap.size + 1, 2, none⟩ (.int .i64 (cutE s n m))).setCell ⟨Y.heap.size + 1, 3, none⟩ (.slice none 0 0)) (Y.heap.size + 1) #[.int .i64 0, .slice none 0 0, .int .i64 (cutE s n m), .slice none 0 0] 46 := (((((Bk.off J1.out (by omega)).set 0 (.int .i64 0)).set 1 (.slice none 0 0)).set 2 (.int .i64 (cutE s n m))).set 3 (.slice none 0 0))
  have hF : Fr (fun x => x = Y.heap.size + 1 ∨ x = Y.heap.size + 2) Y4 (((((Y4.setCell ⟨Y.heap.size + 1 + 1, 2, none⟩ (.int .i64 (cutE s n m))).setCell ⟨Y.heap.size + 1, 0, none⟩ (.int .i64 0)).setCell ⟨Y.heap.size + 1, 1, none⟩ (.slice none 0 0)).setCell ⟨Y.heap.size + 1, 2, none⟩ (.int .i64 (cutE s n m))).setCell ⟨Y.heap.size + 1, 3, none⟩ (.slice none 0 0)) := (Fr.set (i := 3) (v := .slice none 0 0) (Fr.set (i := 2) (v := .int .i64 (cutE s n m)) (Fr.set (i := 1) (v := .slice none 0 0) (Fr.set (i := 0) (v := .int .i64 0) (Fr.set (i := 2) (v := .int .i64 (cutE s n m)) (Fr.refl (fun x => x = Y.heap.size + 1 ∨ x = Y.heap.size + 2) Y4) (Or.inl (Or.inr rfl))) (Or.inl (Or.inl rfl))) (Or.inl (Or.inl rfl))) (Or.inl (Or.inl rfl))) (Or.inl (Or.inl rfl)))
  have hE := HCR.out.end_ (s := s) (o := ⟨8, n, m, q, b⟩) rfl HZ.out HB3.out HT.out hF
  exact ⟨rfl, _, ret_tdW Try.results20 _ _ (Y.heap.size + 1) _ _ _ _ rfl hZ, hE⟩
set_option maxRecDepth 20000 in
set_option maxHeartbeats 2000000 in
theorem mustW_9 {B : Nat} {T G : Nat → Prop} {v bv : Value} {s : WrW} {n m q : Int} {b : List Int} {Y : World} (h : RzW B T v s Y) (hb : LbW G Y bv b) (_hG : ∀ x, T x → ¬ G x) :
    Calls Try.prog 20 #[v, opvW ⟨9, n, m, q, b⟩ bv] Y (MuQ B T v s ⟨9, n, m, q, b⟩ Y) := by
  unfold opvW
  simp only
  obtain ⟨g, rfl⟩ := h.ptr
  obtain ⟨ba, bc, hbv, -⟩ := hb.form
  have ht : ∀ x, T x → x < Y.heap.size := fun x hx => (h.t x hx).2
  have HT := hm7 ht
  obtain ⟨bn, hbn⟩ : ∃ bn, b.length = bn := ⟨_, rfl⟩
  rw [hbn] at hbv
  subst hbv
  obtain ⟨Y3, hY3⟩ : ∃ Y3, ((Y.alloc (.cells #[.int .i64 9, .int .i64 n, .int .i64 m, .int .i64 q, .slice ba bn bc] 50)).alloc (.cells #[.int .i64 0, .slice none 0 0, .int .i64 0, .slice none 0 0] 46)).alloc (.cells #[.int .i64 0, .slice none 0 0, .int .i64 0, .slice none 0 0] 46) = Y3 := ⟨_, rfl⟩
  have hz : Y3.heap.size = Y.heap.size + 3 := by rw [← hY3]; simp
  have hb3 : Below Y.heap.size Y Y3 := by rw [← hY3]; exact ((below1 _ _).alloc (by simp) _).alloc (by simp; omega) _
  have k0 : Bk Y3 Y.heap.size #[.int .i64 9, .int .i64 n, .int .i64 m, .int .i64 q, .slice ba bn bc] 50 := by rw [← hY3]; exact ((Bk.new _ _ _).below (below1 _ _)).below (below1 _ _)
  have k1 : Bk Y3 (Y.heap.size + 1) #[.int .i64 0, .slice none 0 0, .int .i64 0, .slice none 0 0] 46 := by rw [← hY3]; have := Bk.new (Y.alloc (.cells #[.int .i64 9, .int .i64 n, .int .i64 m, .int .i64 q, .slice ba bn bc] 50)) #[.int .i64 0, .slice none 0 0, .int .i64 0, .slice none 0 0] 46; simp only [size_alloc7] at this; exact this.below (below1 _ _)
  have k2 : Bk Y3 (Y.heap.size + 1 + 1) #[.int .i64 0, .slice none 0 0, .int .i64 0, .slice none 0 0] 46 := by rw [← hY3]; have := Bk.new ((Y.alloc (.cells #[.int .i64 9, .int .i64 n, .int .i64 m, .int .i64 q, .slice ba bn bc] 50)).alloc (.cells #[.int .i64 0, .slice none 0 0, .int .i64 0, .slice none 0 0] 46)) #[.int .i64 0, .slice none 0 0, .int .i64 0, .slice none 0 0] 46; simp only [size_alloc7] at this; exact this
  have c0 : Y3.cell? ⟨Y.heap.size, 0, none⟩ = some (.int .i64 9) := k0.cell rfl
  have c1 : Y3.cell? ⟨Y.heap.size, 1, none⟩ = some (.int .i64 n) := k0.cell rfl
  have c2 : Y3.cell? ⟨Y.heap.size, 2, none⟩ = some (.int .i64 m) := k0.cell rfl
  have c3 : Y3.cell? ⟨Y.heap.size, 3, none⟩ = some (.int .i64 q) := k0.cell rfl
  have c4 : Y3.cell? ⟨Y.heap.size, 4, none⟩ = some (.slice ba bn bc) := k0.cell rfl
  have K1 := hm7 k1
  have K2 := hm7 k2
  have HB3 := hm7 hb3
  have HZ := hm7 hz
  have HY := hm7 (byW_byt h.ok n)
  have HC := hm7 (rnextW_any (h.below hb3))
  have H3 := hm7 (h.below hb3)
  clear h hb _hG hbn k0 k1 k2 hb3
  go_enter Try.func20, Try.ntmps20
  go_wp2_with (go_at_call 32; refine HC.out.mono ?_; rintro e Y4 ⟨rfl, mm, hq⟩; have hcr : CrW B T _ s (tolW s ⟨9, n, m, q, b⟩) (.slice none 0 0) (.slice none 0 0) Y3 Y4 := CrW.rq (RqW.keep H3.out (by rw [hq]; exact ⟨rfl, rfl, rfl, Nat.le_refl _, fun _ _ => rfl⟩)) rfl rfl; have j1 : Bk Y4 (Y.heap.size + 1) _ 46 := K1.out.fr hcr.f (fun e => by have := HT.out _ e; omega); have j2 : Bk Y4 (Y.heap.size + 1 + 1) _ 46 := K2.out.fr hcr.f (fun e => by have := HT.out _ e; omega); have p0 : Y4.cell? ⟨Y.heap.size + 1 + 1, 0, none⟩ = some (.int .i64 0) := j2.cell rfl; have p1 : Y4.cell? ⟨Y.heap.size + 1 + 1, 1, none⟩ = some (.slice none 0 0) := j2.cell rfl; have p2 : Y4.cell? ⟨Y.heap.size + 1 + 1, 2, none⟩ = some (.int .i64 0) := j2.cell rfl; have p3 : Y4.cell? ⟨Y.heap.size + 1 + 1, 3, none⟩ = some (.slice none 0 0) := j2.cell rfl; have r0 : Y4.cell? ⟨Y.heap.size + 1, 0, none⟩ = some (.int .i64 0) := j1.cell rfl; have r1 : Y4.cell? ⟨Y.heap.size + 1, 1, none⟩ = some (.slice none 0 0) := j1.cell rfl; have r2 : Y4.cell? ⟨Y.heap.size + 1, 2, none⟩ = some (.int .i64 0) := j1.cell rfl; have r3 : Y4.cell? ⟨Y.heap.size + 1, 3, none⟩ = some (.slice none 0 0) := j1.cell rfl; have fz := j2.froz; have fr := j1.froz; have HCR := hm7 hcr; have J1 := hm7 j1; have J2 := hm7 j2; clear hcr j1 j2; clear hq)
  have hZ : Bk (((((Y4.setCell ⟨Y.heap.size + 1 + 1, 0, none⟩ (.int .i64 (nxtW s))).setCell ⟨Y.heap.size + 1, 0, none⟩ (.int .i64 (nxtW s))).setCell ⟨Y.heap.size + 1, 1, none⟩ (.slice none 0 0)).setCell ⟨Y.heap.size + 1, 2, none⟩ (.int .i64 0)).setCell ⟨Y.heap.size + 1, 3, none⟩ (.slice none 0 0)) (Y.heap.size + 1) #[.int .i64 (nxtW s), .slice none 0 0, .int .i64 0, .slice none 0 0] 46 := (((((Bk.off J1.out (by omega)).set 0 (.int .i64 (nxtW s))).set 1 (.slice none 0 0)).set 2 (.int .i64 0)).set 3 (.slice none 0 0))
  have hF : Fr (fun x => x = Y.heap.size + 1 ∨ x = Y.heap.size + 2) Y4 (((((Y4.setCell ⟨Y.heap.size + 1 + 1, 0, none⟩ (.int .i64 (nxtW s))).setCell ⟨Y.heap.size + 1, 0, none⟩ (.int .i64 (nxtW s))).setCell ⟨Y.heap.size + 1, 1, none⟩ (.slice none 0 0)).setCell ⟨Y.heap.size + 1, 2, none⟩ (.int .i64 0)).setCell ⟨Y.heap.size + 1, 3, none⟩ (.slice none 0 0)) := (Fr.set (i := 3) (v := .slice none 0 0) (Fr.set (i := 2) (v := .int .i64 0) (Fr.set (i := 1) (v := .slice none 0 0) (Fr.set (i := 0) (v := .int .i64 (nxtW s)) (Fr.set (i := 0) (v := .int .i64 (nxtW s)) (Fr.refl (fun x => x = Y.heap.size + 1 ∨ x = Y.heap.size + 2) Y4) (Or.inl (Or.inr rfl))) (Or.inl (Or.inl rfl))) (Or.inl (Or.inl rfl))) (Or.inl (Or.inl rfl))) (Or.inl (Or.inl rfl)))
  have hE := HCR.out.end_ (s := s) (o := ⟨9, n, m, q, b⟩) rfl HZ.out HB3.out HT.out hF
  exact ⟨rfl, _, ret_tdW Try.results20 _ _ (Y.heap.size + 1) _ _ _ _ rfl hZ, hE⟩
set_option maxRecDepth 20000 in
set_option maxHeartbeats 2000000 in
theorem mustW_10 {B : Nat} {T G : Nat → Prop} {v bv : Value} {s : WrW} {n m q : Int} {b : List Int} {Y : World} (h : RzW B T v s Y) (hb : LbW G Y bv b) (_hG : ∀ x, T x → ¬ G x) :
    Calls Try.prog 20 #[v, opvW ⟨10, n, m, q, b⟩ bv] Y (MuQ B T v s ⟨10, n, m, q, b⟩ Y) := by
  unfold opvW
  simp only
  obtain ⟨g, rfl⟩ := h.ptr
  obtain ⟨ba, bc, hbv, -⟩ := hb.form
  have ht : ∀ x, T x → x < Y.heap.size := fun x hx => (h.t x hx).2
  have HT := hm7 ht
  obtain ⟨bn, hbn⟩ : ∃ bn, b.length = bn := ⟨_, rfl⟩
  rw [hbn] at hbv
  subst hbv
  obtain ⟨Y3, hY3⟩ : ∃ Y3, ((Y.alloc (.cells #[.int .i64 10, .int .i64 n, .int .i64 m, .int .i64 q, .slice ba bn bc] 50)).alloc (.cells #[.int .i64 0, .slice none 0 0, .int .i64 0, .slice none 0 0] 46)).alloc (.cells #[.int .i64 0, .slice none 0 0, .int .i64 0, .slice none 0 0] 46) = Y3 := ⟨_, rfl⟩
  have hz : Y3.heap.size = Y.heap.size + 3 := by rw [← hY3]; simp
  have hb3 : Below Y.heap.size Y Y3 := by rw [← hY3]; exact ((below1 _ _).alloc (by simp) _).alloc (by simp; omega) _
  have k0 : Bk Y3 Y.heap.size #[.int .i64 10, .int .i64 n, .int .i64 m, .int .i64 q, .slice ba bn bc] 50 := by rw [← hY3]; exact ((Bk.new _ _ _).below (below1 _ _)).below (below1 _ _)
  have k1 : Bk Y3 (Y.heap.size + 1) #[.int .i64 0, .slice none 0 0, .int .i64 0, .slice none 0 0] 46 := by rw [← hY3]; have := Bk.new (Y.alloc (.cells #[.int .i64 10, .int .i64 n, .int .i64 m, .int .i64 q, .slice ba bn bc] 50)) #[.int .i64 0, .slice none 0 0, .int .i64 0, .slice none 0 0] 46; simp only [size_alloc7] at this; exact this.below (below1 _ _)
  have k2 : Bk Y3 (Y.heap.size + 1 + 1) #[.int .i64 0, .slice none 0 0, .int .i64 0, .slice none 0 0] 46 := by rw [← hY3]; have := Bk.new ((Y.alloc (.cells #[.int .i64 10, .int .i64 n, .int .i64 m, .int .i64 q, .slice ba bn bc] 50)).alloc (.cells #[.int .i64 0, .slice none 0 0, .int .i64 0, .slice none 0 0] 46)) #[.int .i64 0, .slice none 0 0, .int .i64 0, .slice none 0 0] 46; simp only [size_alloc7] at this; exact this
  have c0 : Y3.cell? ⟨Y.heap.size, 0, none⟩ = some (.int .i64 10) := k0.cell rfl
  have c1 : Y3.cell? ⟨Y.heap.size, 1, none⟩ = some (.int .i64 n) := k0.cell rfl
  have c2 : Y3.cell? ⟨Y.heap.size, 2, none⟩ = some (.int .i64 m) := k0.cell rfl
  have c3 : Y3.cell? ⟨Y.heap.size, 3, none⟩ = some (.int .i64 q) := k0.cell rfl
  have c4 : Y3.cell? ⟨Y.heap.size, 4, none⟩ = some (.slice ba bn bc) := k0.cell rfl
  have K1 := hm7 k1
  have K2 := hm7 k2
  have HB3 := hm7 hb3
  have HZ := hm7 hz
  have HY := hm7 (byW_byt h.ok n)
  have HC := hm7 (rwaitW_any (h.below hb3))
  have H3 := hm7 (h.below hb3)
  clear h hb _hG hbn k0 k1 k2 hb3
  go_enter Try.func20, Try.ntmps20
  go_wp2_with (go_at_call 30; refine HC.out.mono ?_; rintro e Y4 ⟨u, rfl, hu, hq⟩; have hcr : CrW B T _ s (tolW s ⟨10, n, m, q, b⟩) (.slice none 0 0) u Y3 Y4 := ⟨Fr.of hq, T, H3.out.below hq, fun x hx => Or.inl hx, LbW.nil _ _, hu.mono fun x _ hx => ⟨hx, fun e => by have := HT.out x e; have := HZ.out; omega⟩⟩; obtain ⟨ra, rc, rfl, -⟩ := hu.form; obtain ⟨rn, hrn⟩ : ∃ rn, s.row.length = rn := ⟨_, rfl⟩; rw [hrn] at hcr ⊢; clear hu; have j1 : Bk Y4 (Y.heap.size + 1) _ 46 := K1.out.fr hcr.f (fun e => by have := HT.out _ e; omega); have j2 : Bk Y4 (Y.heap.size + 1 + 1) _ 46 := K2.out.fr hcr.f (fun e => by have := HT.out _ e; omega); have p0 : Y4.cell? ⟨Y.heap.size + 1 + 1, 0, none⟩ = some (.int .i64 0) := j2.cell rfl; have p1 : Y4.cell? ⟨Y.heap.size + 1 + 1, 1, none⟩ = some (.slice none 0 0) := j2.cell rfl; have p2 : Y4.cell? ⟨Y.heap.size + 1 + 1, 2, none⟩ = some (.int .i64 0) := j2.cell rfl; have p3 : Y4.cell? ⟨Y.heap.size + 1 + 1, 3, none⟩ = some (.slice none 0 0) := j2.cell rfl; have r0 : Y4.cell? ⟨Y.heap.size + 1, 0, none⟩ = some (.int .i64 0) := j1.cell rfl; have r1 : Y4.cell? ⟨Y.heap.size + 1, 1, none⟩ = some (.slice none 0 0) := j1.cell rfl; have r2 : Y4.cell? ⟨Y.heap.size + 1, 2, none⟩ = some (.int .i64 0) := j1.cell rfl; have r3 : Y4.cell? ⟨Y.heap.size + 1, 3, none⟩ = some (.slice none 0 0) := j1.cell rfl; have fz := j2.froz; have fr := j1.froz; have HCR := hm7 hcr; have J1 := hm7 j1; have J2 := hm7 j2; clear hcr j1 j2; clear hq)
  have hZ : Bk (((((Y4.setCell ⟨Y.heap.size + 1 + 1, 3, none⟩ (.slice ra rn rc)).setCell ⟨Y.heap.size + 1, 0, none⟩ (.int .i64 0)).setCell ⟨Y.heap.size + 1, 1, none⟩ (.slice none 0 0)).setCell ⟨Y.heap.size + 1, 2, none⟩ (.int .i64 0)).setCell ⟨Y.heap.size + 1, 3, none⟩ (.slice ra rn rc)) (Y.heap.size + 1) #[.int .i64 0, .slice none 0 0, .int .i64 0, .slice ra rn rc] 46 := (((((Bk.off J1.out (by omega)).set 0 (.int .i64 0)).set 1 (.slice none 0 0)).set 2 (.int .i64 0)).set 3 (.slice ra rn rc))
  have hF : Fr (fun x => x = Y.heap.size + 1 ∨ x = Y.heap.size + 2) Y4 (((((Y4.setCell ⟨Y.heap.size + 1 + 1, 3, none⟩ (.slice ra rn rc)).setCell ⟨Y.heap.size + 1, 0, none⟩ (.int .i64 0)).setCell ⟨Y.heap.size + 1, 1, none⟩ (.slice none 0 0)).setCell ⟨Y.heap.size + 1, 2, none⟩ (.int .i64 0)).setCell ⟨Y.heap.size + 1, 3, none⟩ (.slice ra rn rc)) := (Fr.set (i := 3) (v := .slice ra rn rc) (Fr.set (i := 2) (v := .int .i64 0) (Fr.set (i := 1) (v := .slice none 0 0) (Fr.set (i := 0) (v := .int .i64 0) (Fr.set (i := 3) (v := .slice ra rn rc) (Fr.refl (fun x => x = Y.heap.size + 1 ∨ x = Y.heap.size + 2) Y4) (Or.inl (Or.inr rfl))) (Or.inl (Or.inl rfl))) (Or.inl (Or.inl rfl))) (Or.inl (Or.inl rfl))) (Or.inl (Or.inl rfl)))
  have hE := HCR.out.end_ (s := s) (o := ⟨10, n, m, q, b⟩) rfl HZ.out HB3.out HT.out hF
  exact ⟨rfl, _, ret_tdW Try.results20 _ _ (Y.heap.size + 1) _ _ _ _ rfl hZ, hE⟩
theorem mustW_any {B : Nat} {T G : Nat → Prop} {v bv : Value} {s : WrW} {o : OvW} {Y : World} (h : RzW B T v s Y) (hb : LbW G Y bv o.b) (hG : ∀ x, T x → ¬ G x) : Calls Try.prog 20 #[v, opvW o bv] Y (MuQ B T v s o Y) := by
  obtain ⟨k, n, m, q, b⟩ := o
  by_cases k1 : k = 1
  · subst k1; exact mustW_1 h hb hG
  by_cases k2 : k = 2
  · subst k2; exact mustW_2 h hb hG
  by_cases k3 : k = 3
  · subst k3; exact mustW_3 h hb hG
  by_cases k4 : k = 4
  · subst k4; exact mustW_4 h hb hG
  by_cases k5 : k = 5
  · subst k5; exact mustW_5 h hb hG
  by_cases k6 : k = 6
  · subst k6; exact mustW_6 h hb hG
  by_cases k7 : k = 7
  · subst k7; exact mustW_7 h hb hG
  by_cases k8 : k = 8
  · subst k8; exact mustW_8 h hb hG
  by_cases k9 : k = 9
  · subst k9; exact mustW_9 h hb hG
  by_cases k10 : k = 10
  · subst k10; exact mustW_10 h hb hG
  exact mustW_0 k (by omega) h hb hG
end Go.Proofs.Ytboomeeipnfbmab
