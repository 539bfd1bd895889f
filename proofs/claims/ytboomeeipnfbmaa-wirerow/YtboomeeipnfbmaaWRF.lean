/-
  wire: law 23's do: the program's answer to a call. (Written by WRF.py.)
-/
import Derived.Test.YtboomeeipnfbmaaWP1
namespace Go.Proofs.Ytboomeeipnfbmaa
open Go.RowKit
attribute [local go_sem ↓] Go.wp_at_zero Go.wp_at_succ

theorem OzW.lb {Y : World} {base : Nat} {u : Value} {l : List Int} (h : OzW Y base u l) : LbW (fun x => base ≤ x) Y u l := by
  obtain ⟨hy, h | ⟨rfl, a, rfl⟩⟩ := h
  · exact (h.lb hy).mono fun x _ hx => hx.1
  · exact ⟨a, 0, rfl, Nat.le_refl _, by omega, hy, Or.inl ⟨rfl, fun _ => rfl⟩⟩
theorem OmW.lm {base : Nat} {Y : World} {u : Value} {Z : List (MsW × Value)} (h : OmW base Y u Z) : LmW (fun x => base ≤ x) Y u (Z.map Prod.fst) := by
  rcases h.o with ho | ⟨rfl, a, rfl⟩
  · obtain ⟨a, cap, hu, hc⟩ := row7_form ho
    have hcap : cap ≤ 9223372036854775807 := by
      rcases ho.2 with ⟨e, -⟩ | ⟨g, c, cur, e, -, -, -, hc2, -⟩
      · rw [hu] at e; simp only [Value.slice.injEq] at e; omega
      · rw [hu] at e; simp only [Value.slice.injEq] at e; unfold maxLen at hc2; omega
    refine ⟨a, cap, by rw [List.length_map]; exact hu, by rw [List.length_map]; exact hc, hcap, ?_⟩
    subst hu
    rcases ho.2 with ⟨e, hn⟩ | ⟨g, c, cur, e, hb, hg, hn, -⟩
    · simp only [Value.slice.injEq] at e
      obtain ⟨rfl, -, rfl⟩ := e
      have : Z = [] := List.eq_nil_of_length_eq_zero hn
      subst this
      exact Or.inl ⟨rfl, fun _ => rfl⟩
    · simp only [Value.slice.injEq] at e
      obtain ⟨rfl, -, rfl⟩ := e
      refine Or.inr ⟨g, 0, rfl, (Array.getElem?_eq_some_iff.1 hg).1, hb, fun i m hm => ?_⟩
      rw [List.getElem?_map, Option.map_eq_some_iff] at hm
      obtain ⟨z, hz, rfl⟩ := hm
      have hc : (Z.map zcW)[i]? = some (zcW z) := by rw [List.getElem?_map, hz]; rfl
      obtain ⟨c1, c2⟩ := twoW_get hc
      obtain ⟨_, e1, -, -, k1, -⟩ := row7_at ho c1
      cases e1
      obtain ⟨_, e2, -, -, k2, -⟩ := row7_at ho c2
      cases e2
      exact ⟨by rw [Nat.zero_add]; exact k1, z.2, by rw [Nat.zero_add]; exact k2, (h.b z (List.mem_of_getElem? hz)).lb⟩
  · exact ⟨a, 0, rfl, Nat.le_refl _, by omega, Or.inl ⟨rfl, fun _ => rfl⟩⟩
theorem ret_doW {fn : Func} {i j : Nat} (hf : fn.results = #[.cell i 45, .tmp j]) (tmps : Array Value) (w : World) (g : Nat) (a b c d : Value)
    (h4 : tmps[i]?.getD undef = .pointer (some ⟨g, 0, none⟩)) (h5 : tmps[j]?.getD undef = .bool true) (h : Bk w g #[a, b, c, d] 45) : (results fn tmps).run Try.prog w = .ok (.tuple #[.agg #[a, b, c, d], .bool true]) w := by
  have c0 : w.cell? ⟨g, 0, none⟩ = some a := h.cell rfl
  have c1 : w.cell? ⟨g, 1, none⟩ = some b := h.cell rfl
  have c2 : w.cell? ⟨g, 2, none⟩ = some c := h.cell rfl
  have c3 : w.cell? ⟨g, 3, none⟩ = some d := h.cell rfl
  simp [results, hf, h4, h5, go_sem, c0, c1, c2, c3]
def DoQ (B : Nat) (T : Nat → Prop) (v : Value) (s : WrW) (o : OvW) (Y : World) (e : Ending) (Y' : World) : Prop :=
  ∃ (tv : Value) (T' : Nat → Prop), e = .returned (.tuple #[tv, .bool true]) ∧ TdM (fun x => (T x ∨ Y.heap.size ≤ x) ∧ ¬ T' x) Y' tv (tolW s o) ∧ WzW B T' v (stpW s o) Y' ∧ (∀ x, T' x → T x ∨ Y.heap.size ≤ x) ∧ Fr T Y Y'
/-- What a call of the program's wire leaves, in one form. -/
structure CdW (B : Nat) (T : Nat → Prop) (v : Value) (s' : WrW) (t : TdW) (bv rv : Value) (Y Y' : World) : Prop where
  f : Fr T Y Y'
  r : ∃ T' : Nat → Prop, WzW B T' v s' Y' ∧ (∀ x, T' x → T x ∨ Y.heap.size ≤ x) ∧ LbW (fun x => (T x ∨ Y.heap.size ≤ x) ∧ ¬ T' x) Y' bv t.b ∧ LmW (fun x => (T x ∨ Y.heap.size ≤ x) ∧ ¬ T' x) Y' rv t.r
theorem WqW.keep {B : Nat} {T : Nat → Prop} {v : Value} {s : WrW} {Y Y' : World} (h : WzW B T v s Y) (hb : Below Y.heap.size Y Y') : WqW B T v s Y Y' := ⟨Fr.of hb, T, h.below hb, fun _ hx => Or.inl hx⟩
theorem CdW.rq {B : Nat} {T : Nat → Prop} {v : Value} {s : WrW} {t : TdW} {Y Y' : World} (h : WqW B T v s Y Y') (hb : t.b = []) (hr : t.r = []) : CdW B T v s t (.slice none 0 0) (.slice none 0 0) Y Y' := by
  obtain ⟨hf, T', h1, h2⟩ := h
  exact ⟨hf, T', h1, h2, by rw [hb]; exact LbW.nil _ _, by rw [hr]; exact LmW.nil _ _⟩
theorem CdW.end2_ {B : Nat} {T P : Nat → Prop} {v : Value} {s' s : WrW} {o : OvW} {bv rv : Value} {Y Y3 Y4 Y6 : World} (h : CdW B T v s' (tolW s o) bv rv Y3 Y4) (hs : s' = stpW s o) (hz : Y.heap.size ≤ Y3.heap.size) (hb : Below Y.heap.size Y Y3) (ht : ∀ x, T x → x < Y.heap.size) (hP : ∀ x, P x → Y.heap.size ≤ x ∧ x < Y3.heap.size)
    (hf : Fr P Y4 Y6) : DoQ B T v s o Y (.returned (.tuple #[.agg #[.int .i64 (tolW s o).n, bv, .int .i64 (tolW s o).e, rv], .bool true])) Y6 := by
  obtain ⟨h1, T', h2, h3, h4, h5⟩ := h
  have key : ∀ x, (T x ∨ Y3.heap.size ≤ x) → ¬ P x := fun x hx e => by
    have hp := hP x e
    rcases hx with hx | hx
    · have := ht x hx; omega
    · omega
  have out : ∀ x, (T x ∨ Y3.heap.size ≤ x) → (T x ∨ Y.heap.size ≤ x) := fun x hx => hx.imp id fun h => by omega
  refine ⟨_, T', rfl, ⟨_, _, rfl, (h4.fr hf fun x _ hx => key x hx.1).mono fun x _ hx => ⟨out x hx.1, hx.2⟩, (h5.fr hf fun x _ hx => key x hx.1).mono fun x _ hx => ⟨out x hx.1, hx.2⟩⟩, by rw [← hs]; exact h2.fr hf fun x _ hx => key x (h3 x hx), fun x hx => out x (h3 x hx), ?_⟩
  refine ((Fr.of hb).trans h1 fun x _ hx => hx).trans hf fun x hx e => ?_
  have := hP x e
  omega
theorem CdW.end_ {B : Nat} {T : Nat → Prop} {v : Value} {s' s : WrW} {o : OvW} {bv rv : Value} {Y Y3 Y4 Y6 : World} (h : CdW B T v s' (tolW s o) bv rv Y3 Y4) (hs : s' = stpW s o) (hz : Y3.heap.size = Y.heap.size + 3) (hb : Below Y.heap.size Y Y3) (ht : ∀ x, T x → x < Y.heap.size)
    (hf : Fr (fun x => x = Y.heap.size + 1 ∨ x = Y.heap.size + 2) Y4 Y6) : DoQ B T v s o Y (.returned (.tuple #[.agg #[.int .i64 (tolW s o).n, bv, .int .i64 (tolW s o).e, rv], .bool true])) Y6 :=
  h.end2_ hs (by omega) hb ht (fun x hx => by omega) hf
set_option maxRecDepth 20000 in
set_option maxHeartbeats 4000000 in
theorem doW_0 (k : Int) (hk : k < 1 ∨ 10 < k) {B : Nat} {T G : Nat → Prop} {v bv : Value} {s : WrW} {n m q : Int} {b : List Int} {Y : World} (h : WzW B T v s Y) (hb : LbW G Y bv b) (_hl : b.length ≤ 140737488351232) :
    Calls Try.prog 19 #[v, opvW ⟨k, n, m, q, b⟩ bv] Y (DoQ B T v s ⟨k, n, m, q, b⟩ Y) := by
  unfold opvW
  simp only
  obtain ⟨g, rfl⟩ := h.ptr
  obtain ⟨ba, bc, hbv, hbc⟩ := hb.form
  have ht : ∀ x, T x → x < Y.heap.size := h.lt
  have HT := hm7 ht
  obtain ⟨bn, hbn⟩ : ∃ bn, b.length = bn := ⟨_, rfl⟩
  rw [hbn] at hbv hbc
  subst hbv
  obtain ⟨Y3, hY3⟩ : ∃ Y3, ((Y.alloc (.cells #[.int .i64 k, .int .i64 n, .int .i64 m, .int .i64 q, .slice ba bn bc] 42)).alloc (.cells #[.int .i64 0, .slice none 0 0, .int .i64 0, .slice none 0 0] 45)).alloc (.cells #[.int .i64 0, .slice none 0 0, .int .i64 0, .slice none 0 0] 45) = Y3 := ⟨_, rfl⟩
  have hz : Y3.heap.size = Y.heap.size + 3 := by rw [← hY3]; simp
  have hb3 : Below Y.heap.size Y Y3 := by rw [← hY3]; exact ((below1 _ _).alloc (by simp) _).alloc (by simp; omega) _
  have k0 : Bk Y3 Y.heap.size #[.int .i64 k, .int .i64 n, .int .i64 m, .int .i64 q, .slice ba bn bc] 42 := by rw [← hY3]; exact ((Bk.new _ _ _).below (below1 _ _)).below (below1 _ _)
  have k1 : Bk Y3 (Y.heap.size + 1) #[.int .i64 0, .slice none 0 0, .int .i64 0, .slice none 0 0] 45 := by rw [← hY3]; have := Bk.new (Y.alloc (.cells #[.int .i64 k, .int .i64 n, .int .i64 m, .int .i64 q, .slice ba bn bc] 42)) #[.int .i64 0, .slice none 0 0, .int .i64 0, .slice none 0 0] 45; simp only [size_alloc7] at this; exact this.below (below1 _ _)
  have k2 : Bk Y3 (Y.heap.size + 1 + 1) #[.int .i64 0, .slice none 0 0, .int .i64 0, .slice none 0 0] 45 := by rw [← hY3]; have := Bk.new ((Y.alloc (.cells #[.int .i64 k, .int .i64 n, .int .i64 m, .int .i64 q, .slice ba bn bc] 42)).alloc (.cells #[.int .i64 0, .slice none 0 0, .int .i64 0, .slice none 0 0] 45)) #[.int .i64 0, .slice none 0 0, .int .i64 0, .slice none 0 0] 45; simp only [size_alloc7] at this; exact this
  have c0 : Y3.cell? ⟨Y.heap.size, 0, none⟩ = some (.int .i64 k) := k0.cell rfl
  have c1 : Y3.cell? ⟨Y.heap.size, 1, none⟩ = some (.int .i64 n) := k0.cell rfl
  have c2 : Y3.cell? ⟨Y.heap.size, 2, none⟩ = some (.int .i64 m) := k0.cell rfl
  have c3 : Y3.cell? ⟨Y.heap.size, 3, none⟩ = some (.int .i64 q) := k0.cell rfl
  have c4 : Y3.cell? ⟨Y.heap.size, 4, none⟩ = some (.slice ba bn bc) := k0.cell rfl
  have K1 := hm7 k1
  have K2 := hm7 k2
  have HB3 := hm7 hb3
  have HZ := hm7 hz
  have hkk : ∀ j : Int, 1 ≤ j → j ≤ 10 → (k == j) = false := fun j _ _ => by simp; omega
  have e1 := hkk 1 (by omega) (by omega)
  have e2 := hkk 2 (by omega) (by omega)
  have e3 := hkk 3 (by omega) (by omega)
  have e4 := hkk 4 (by omega) (by omega)
  have e5 := hkk 5 (by omega) (by omega)
  have e6 := hkk 6 (by omega) (by omega)
  have e7 := hkk 7 (by omega) (by omega)
  have e8 := hkk 8 (by omega) (by omega)
  have e9 := hkk 9 (by omega) (by omega)
  have e10 := hkk 10 (by omega) (by omega)
  have H3 := hm7 (h.below hb3)
  have j1 := k1
  have j2 := k2
  have p0 : Y3.cell? ⟨Y.heap.size + 1 + 1, 0, none⟩ = some (.int .i64 0) := j2.cell rfl
  have p1 : Y3.cell? ⟨Y.heap.size + 1 + 1, 1, none⟩ = some (.slice none 0 0) := j2.cell rfl
  have p2 : Y3.cell? ⟨Y.heap.size + 1 + 1, 2, none⟩ = some (.int .i64 0) := j2.cell rfl
  have p3 : Y3.cell? ⟨Y.heap.size + 1 + 1, 3, none⟩ = some (.slice none 0 0) := j2.cell rfl
  have r0 : Y3.cell? ⟨Y.heap.size + 1, 0, none⟩ = some (.int .i64 0) := j1.cell rfl
  have r1 : Y3.cell? ⟨Y.heap.size + 1, 1, none⟩ = some (.slice none 0 0) := j1.cell rfl
  have r2 : Y3.cell? ⟨Y.heap.size + 1, 2, none⟩ = some (.int .i64 0) := j1.cell rfl
  have r3 : Y3.cell? ⟨Y.heap.size + 1, 3, none⟩ = some (.slice none 0 0) := j1.cell rfl
  have fz := j2.froz
  have fr := j1.froz
  have HKK := hm7 hk
  clear h hb hbn k0 k1 k2 hb3 hkk hk hbc _hl j1 j2
  go_enter Try.func19, Try.ntmps19
  go_wp2
  have hZ : Bk ((((Y3.setCell ⟨Y.heap.size + 1, 0, none⟩ (.int .i64 0)).setCell ⟨Y.heap.size + 1, 1, none⟩ (.slice none 0 0)).setCell ⟨Y.heap.size + 1, 2, none⟩ (.int .i64 0)).setCell ⟨Y.heap.size + 1, 3, none⟩ (.slice none 0 0)) (Y.heap.size + 1) #[.int .i64 0, .slice none 0 0, .int .i64 0, .slice none 0 0] 45 := ((((K1.out.set 0 (.int .i64 0)).set 1 (.slice none 0 0)).set 2 (.int .i64 0)).set 3 (.slice none 0 0))
  have hF : Fr (fun x => x = Y.heap.size + 1 ∨ x = Y.heap.size + 2) Y3 ((((Y3.setCell ⟨Y.heap.size + 1, 0, none⟩ (.int .i64 0)).setCell ⟨Y.heap.size + 1, 1, none⟩ (.slice none 0 0)).setCell ⟨Y.heap.size + 1, 2, none⟩ (.int .i64 0)).setCell ⟨Y.heap.size + 1, 3, none⟩ (.slice none 0 0)) := (Fr.set (i := 3) (v := .slice none 0 0) (Fr.set (i := 2) (v := .int .i64 0) (Fr.set (i := 1) (v := .slice none 0 0) (Fr.set (i := 0) (v := .int .i64 0) (Fr.refl (fun x => x = Y.heap.size + 1 ∨ x = Y.heap.size + 2) Y3) (Or.inl (Or.inl rfl))) (Or.inl (Or.inl rfl))) (Or.inl (Or.inl rfl))) (Or.inl (Or.inl rfl)))
  have htol : tolW s ⟨k, n, m, q, b⟩ = ⟨0, [], 0, []⟩ := by unfold tolW; simp only; repeat rw [if_neg (by have := HKK.out; omega)]
  have hst : stpW s ⟨k, n, m, q, b⟩ = s := by unfold stpW; simp only; repeat rw [if_neg (by have := HKK.out; omega)]
  have hcr : CdW B T _ s (tolW s ⟨k, n, m, q, b⟩) (.slice none 0 0) (.slice none 0 0) Y3 Y3 := CdW.rq (WqW.keep H3.out (Below.refl _ _)) (by rw [htol]) (by rw [htol])
  have hE := hcr.end_ hst.symm HZ.out HB3.out HT.out hF
  rw [htol] at hE
  exact ⟨rfl, _, ret_doW Try.results19 _ _ (Y.heap.size + 1) _ _ _ _ rfl rfl hZ, hE⟩
theorem six_srcW {w : World} {b : Nat} {e : TypeId} (h : Bk w b #[.int .u8 7, .int .u8 11, .int .u8 13, .int .u8 17, .int .u8 19, .int .u8 23] e) : (Value.slice (some ⟨b, 0, none⟩) 6 6 = .slice none 0 0 ∧ 6 = 0 ∧ ubW [7, 11, 13, 17, 19, 23] = []) ∨ ∃ (ad : Addr) (c : Nat), Value.slice (some ⟨b, 0, none⟩) 6 6 = .slice (some ad) 6 c ∧ (ubW [7, 11, 13, 17, 19, 23]).length = 6 * 1 ∧ ∀ (j : Nat) x, (ubW [7, 11, 13, 17, 19, 23])[j]? = some x → w.cell? (ad.add j) = some x := by
  refine Or.inr ⟨⟨b, 0, none⟩, 6, rfl, rfl, fun j x hx => ?_⟩
  exact World.news_of_block (cs := #[.int .u8 7, .int .u8 11, .int .u8 13, .int .u8 17, .int .u8 19, .int .u8 23]) (t := e) (fr := (0, 0)) h j x (by simpa [ubW] using hx)
theorem byt6W : bytW [7, 11, 13, 17, 19, 23] := by intro x hx; simp at hx; omega
set_option maxRecDepth 20000 in
set_option maxHeartbeats 4000000 in
theorem doW_1 {B : Nat} {T G : Nat → Prop} {v bv : Value} {s : WrW} {n m q : Int} {b : List Int} {Y : World} (h : WzW B T v s Y) (hb : LbW G Y bv b) (_hl : b.length ≤ 140737488351232) :
    Calls Try.prog 19 #[v, opvW ⟨1, n, m, q, b⟩ bv] Y (DoQ B T v s ⟨1, n, m, q, b⟩ Y) := by
  unfold opvW
  simp only
  obtain ⟨g, rfl⟩ := h.ptr
  obtain ⟨ba, bc, hbv, hbc⟩ := hb.form
  have ht : ∀ x, T x → x < Y.heap.size := h.lt
  have HT := hm7 ht
  obtain ⟨bn, hbn⟩ : ∃ bn, b.length = bn := ⟨_, rfl⟩
  rw [hbn] at hbv hbc
  subst hbv
  obtain ⟨Y3, hY3⟩ : ∃ Y3, ((Y.alloc (.cells #[.int .i64 1, .int .i64 n, .int .i64 m, .int .i64 q, .slice ba bn bc] 42)).alloc (.cells #[.int .i64 0, .slice none 0 0, .int .i64 0, .slice none 0 0] 45)).alloc (.cells #[.int .i64 0, .slice none 0 0, .int .i64 0, .slice none 0 0] 45) = Y3 := ⟨_, rfl⟩
  have hz : Y3.heap.size = Y.heap.size + 3 := by rw [← hY3]; simp
  have hb3 : Below Y.heap.size Y Y3 := by rw [← hY3]; exact ((below1 _ _).alloc (by simp) _).alloc (by simp; omega) _
  have k0 : Bk Y3 Y.heap.size #[.int .i64 1, .int .i64 n, .int .i64 m, .int .i64 q, .slice ba bn bc] 42 := by rw [← hY3]; exact ((Bk.new _ _ _).below (below1 _ _)).below (below1 _ _)
  have k1 : Bk Y3 (Y.heap.size + 1) #[.int .i64 0, .slice none 0 0, .int .i64 0, .slice none 0 0] 45 := by rw [← hY3]; have := Bk.new (Y.alloc (.cells #[.int .i64 1, .int .i64 n, .int .i64 m, .int .i64 q, .slice ba bn bc] 42)) #[.int .i64 0, .slice none 0 0, .int .i64 0, .slice none 0 0] 45; simp only [size_alloc7] at this; exact this.below (below1 _ _)
  have k2 : Bk Y3 (Y.heap.size + 1 + 1) #[.int .i64 0, .slice none 0 0, .int .i64 0, .slice none 0 0] 45 := by rw [← hY3]; have := Bk.new ((Y.alloc (.cells #[.int .i64 1, .int .i64 n, .int .i64 m, .int .i64 q, .slice ba bn bc] 42)).alloc (.cells #[.int .i64 0, .slice none 0 0, .int .i64 0, .slice none 0 0] 45)) #[.int .i64 0, .slice none 0 0, .int .i64 0, .slice none 0 0] 45; simp only [size_alloc7] at this; exact this
  have c0 : Y3.cell? ⟨Y.heap.size, 0, none⟩ = some (.int .i64 1) := k0.cell rfl
  have c1 : Y3.cell? ⟨Y.heap.size, 1, none⟩ = some (.int .i64 n) := k0.cell rfl
  have c2 : Y3.cell? ⟨Y.heap.size, 2, none⟩ = some (.int .i64 m) := k0.cell rfl
  have c3 : Y3.cell? ⟨Y.heap.size, 3, none⟩ = some (.int .i64 q) := k0.cell rfl
  have c4 : Y3.cell? ⟨Y.heap.size, 4, none⟩ = some (.slice ba bn bc) := k0.cell rfl
  have K1 := hm7 k1
  have K2 := hm7 k2
  have HB3 := hm7 hb3
  have HZ := hm7 hz
  have HB := hm7 (hb.below hb3)
  have HC := hm7 (ccopyW_any G (.slice ba bn bc) b Y3 (hb.below hb3) (by omega))
  have H3 := hm7 (h.below hb3)
  have HBN := hm7 hbn
  have HBY := hm7 hb.y
  have hbn2 : bn ≤ 140737488351232 := by omega
  have hz4 : Y.heap.size < Y3.heap.size := by omega
  have k0c := fun (W : World) (hf : Fr (fun x => T x ∨ Y3.heap.size ≤ x) Y3 W) => ((k0.fr hf (fun e => by rcases e with e | e; (have := ht _ e; omega); omega)).cell (i := 4) rfl : W.cell? ⟨Y.heap.size, 4, none⟩ = some (.slice ba bn bc))
  have KC := hm7 k0c
  clear h hb hbn k0 k1 k2 hb3 hbc _hl k0c
  go_enter Try.func19, Try.ntmps19
  go_upto_region 5 with (first
    | (go_at_call 20; refine HC.out.mono ?_; rintro e Y4 ⟨cv, rfl, hu4, hb4⟩; obtain ⟨ca, cc, rfl, -⟩ := row7_form hu4; unfold OwW at hu4; rw [HBN.out] at hu4 ⊢; have HU4 := hm7 hu4; have HB4 := hm7 hb4; have hs4 := hb4.size; clear hu4 hb4)
    | (at_builtin; refine gappW Try.underlying24 Try.infoU8W rfl (by omega) rfl _ _ rfl Y3.heap.size (.slice ca bn cc) bn (ubW b) rfl (row7_below HU4.out (below1 _ _)) (.slice (some ⟨Y4.heap.size, 0, none⟩) 6 6) 6 (ubW [7, 11, 13, 17, 19, 23]) rfl (six_srcW (Bk.new Y4 #[.int .u8 7, .int .u8 11, .int .u8 13, .int .u8 17, .int .u8 19, .int .u8 23] 5)) (ubW_one _) (by omega) (by omega) (by simp; omega) ?_; intro fv Y5 ho5 hg5 hv5; obtain ⟨fa, fc, rfl, hfc⟩ := row7_form ho5; have ho5' : OwW Y5 Y3.heap.size (.slice fa (bn + 6) fc) (b ++ [7, 11, 13, 17, 19, 23]) := by {unfold OwW; rw [List.length_append, HBN.out, ubW_app]; exact ho5}; have hb5 : Below Y3.heap.size Y3 Y5 := (HB4.out.trans ((below1 _ _).mono hs4)).trans ((Fr.own hg5).mono (fun x hx e => (World.ownsRow.lt HU4.out x e).1) |>.low (by simp; omega)); have HO5 := hm7 ho5'; have HB5 := hm7 hb5; have hs5 := hb5.size; clear ho5 hg5 hv5 ho5' hb5))
  have hy5 : bytW (b ++ [7, 11, 13, 17, 19, 23]) := fun x hx => (List.mem_append.1 hx).elim (HBY.out x) (byt6W x)
  have HY5 := hm7 hy5
  have hlb5 := HO5.out.lb hy5
  have HL5 : Hid ((b ++ [7, 11, 13, 17, 19, 23]).length = bn + 6) := by show _ = _; rw [List.length_append, HBN.out]; rfl
  have HK := hm7 (ccopyW_any _ (.slice fa (bn + 6) fc) (b ++ [7, 11, 13, 17, 19, 23]) Y5 hlb5 (by rw [HL5.out]; omega))
  clear hlb5
  go_upto_region 6 with (go_at_call 20; refine HK.out.mono ?_; rintro e Y6 ⟨kv, rfl, hu6, hb6⟩; obtain ⟨ka, kc, rfl, -⟩ := row7_form hu6; rw [HL5.out]; have HU6 := hm7 hu6; have HB6 := hm7 hb6; have hs6 := hb6.size; clear hu6 hb6)
  have hb36 : Below Y3.heap.size Y3 Y6 := HB5.out.trans (HB6.out.mono hs5)
  have HB36 := hm7 hb36
  have c46 := KC.out Y6 (Fr.of hb36)
  have ho6 : OwW Y6 Y3.heap.size (.slice fa (bn + 6) fc) (b ++ [7, 11, 13, 17, 19, 23]) := row7_below HO5.out HB6.out
  have HO6 := hm7 ho6
  have hlb6 := ho6.lb HY5.out
  have htk := hlb6.take (k := bn) (by omega)
  have etk : (b ++ [7, 11, 13, 17, 19, 23]).take bn = b := by rw [← HBN.out]; simp
  rw [etk] at htk
  have HS := hm7 (wsendW_any (H3.out.below hb36) htk (fun x hx hF => by have := HT.out x hx; have := hF.1; omega))
  have HL6 := hm7 hlb6
  have HKK := hm7 HU6.out.lb
  have i0 : (0 : Int) ≤ (bn : Int) := by omega
  have i1 : (bn : Int) ≤ (fc : Int) := by omega
  have j1 : Bk Y6 (Y.heap.size + 1) _ 45 := K1.out.below hb36
  have j2 : Bk Y6 (Y.heap.size + 1 + 1) _ 45 := K2.out.below hb36
  have J16 := hm7 j1
  have J26 := hm7 j2
  obtain ⟨fb, fc', efa, hfb, -⟩ := World.ownsRow.form ho6 (by rw [HL5.out]; omega)
  rw [HL5.out] at efa
  simp only [Value.slice.injEq] at efa
  obtain ⟨rfl, -, rfl⟩ := efa
  have hfbl := World.ownsRow.lt ho6 fb rfl
  have hkl := hm7 (World.ownsRow.lt HU6.out)
  have HFT : Hid (∀ x, Y3.heap.size ≤ x → ¬ T x) := fun x hx e => by have := HT.out x e; omega
  have hk6 := HU6.out.lb HY5.out
  rw [HL5.out] at hk6
  have HK6 := hm7 hk6
  clear hb36 hlb6 htk etk j1 j2 hy5 ho6 hk6
  go_upto_region 7 with (go_at_call 10; refine HS.out.mono ?_; rintro e Y7 ⟨rfl, hq⟩; have hcd := CdW.rq (t := tolW s ⟨1, n, m, q, b⟩) hq rfl rfl; have j1 : Bk Y7 (Y.heap.size + 1) _ 45 := J16.out.fr hcd.f (fun e => by have := HT.out _ e; omega); have j2 : Bk Y7 (Y.heap.size + 1 + 1) _ 45 := J26.out.fr hcd.f (fun e => by have := HT.out _ e; omega); have p0 : Y7.cell? ⟨Y.heap.size + 1 + 1, 0, none⟩ = some (.int .i64 0) := j2.cell rfl; have p1 : Y7.cell? ⟨Y.heap.size + 1 + 1, 1, none⟩ = some (.slice none 0 0) := j2.cell rfl; have p2 : Y7.cell? ⟨Y.heap.size + 1 + 1, 2, none⟩ = some (.int .i64 0) := j2.cell rfl; have p3 : Y7.cell? ⟨Y.heap.size + 1 + 1, 3, none⟩ = some (.slice none 0 0) := j2.cell rfl; have r0 : Y7.cell? ⟨Y.heap.size + 1, 0, none⟩ = some (.int .i64 0) := j1.cell rfl; have r1 : Y7.cell? ⟨Y.heap.size + 1, 1, none⟩ = some (.slice none 0 0) := j1.cell rfl; have r2 : Y7.cell? ⟨Y.heap.size + 1, 2, none⟩ = some (.int .i64 0) := j1.cell rfl; have r3 : Y7.cell? ⟨Y.heap.size + 1, 3, none⟩ = some (.slice none 0 0) := j1.cell rfl; have fz := j2.froz; have fr := j1.froz; have HCD := hm7 hcd; have J17 := hm7 j1; have J27 := hm7 j2; clear hcd hq j1 j2)
  obtain ⟨Y8, hY8⟩ : ∃ Y8, ((Y7.setCell ⟨Y.heap.size + 1 + 1, 0, none⟩ (.int .i64 (sndN s b))).setCell ⟨Y.heap.size + 1 + 1, 2, none⟩ (.int .i64 (sndE s b))) = Y8 := ⟨_, rfl⟩
  have hf78 : Fr (fun x => x = Y.heap.size + 1 + 1) Y7 Y8 := by rw [← hY8]; exact ((Fr.refl (fun x => x = Y.heap.size + 1 + 1) Y7).set (Or.inl rfl)).set (Or.inl rfl)
  have hz8 : Y8.heap.size = Y7.heap.size := by rw [← hY8]; simp
  have j28 : Bk Y8 (Y.heap.size + 1 + 1) #[.int .i64 (sndN s b), .slice none 0 0, .int .i64 (sndE s b), .slice none 0 0] 45 := by rw [← hY8]; exact (J27.out.set 0 _).set 2 _
  have j18 : Bk Y8 (Y.heap.size + 1) #[.int .i64 0, .slice none 0 0, .int .i64 0, .slice none 0 0] 45 := J17.out.fr hf78 (by omega)
  have hf68 : Fr (fun x => T x ∨ x = Y.heap.size + 1 + 1) Y6 Y8 := (HCD.out.f.mono fun x _ h => Or.inl h).trans hf78 fun x _ h => Or.inr h
  have hnf : ∀ x, Y3.heap.size ≤ x → ¬ (T x ∨ x = Y.heap.size + 1 + 1) := fun x hx e => by
    rcases e with e | e
    · exact HFT.out x hx e
    · omega
  have ho8 : OwW Y8 Y3.heap.size (.slice (some ⟨fb, 0, none⟩) (bn + 6) fc) (b ++ [7, 11, 13, 17, 19, 23]) := row7_fr HO6.out hf68 fun x hx => hnf x (World.ownsRow.lt HO6.out x hx).1
  have hl8 := ho8.lb HY5.out
  have hk8 := HK6.out.fr hf68 fun x _ hx => hnf x (by have := hx.1; omega)
  have HSM := sameW_any _ _ (b ++ [7, 11, 13, 17, 19, 23]) (b ++ [7, 11, 13, 17, 19, 23]) _ _ Y8 hl8 hk8
  rw [decide_eq_true rfl] at HSM
  have HSM2 := hm7 HSM
  have HO8 := hm7 ho8
  have J18 := hm7 j18
  have J28 := hm7 j28
  have HF78 := hm7 hf78
  try rw [hY8]
  clear hY8 ho8 hl8 hk8 HSM j18 j28 hf78 hf68 hnf
  go_wp2_with (go_at_call 12; refine HSM2.out.mono ?_; rintro e Y9 ⟨rfl, d9, rfl⟩)
  go_loopg [10] (bn + 6) (fun gg i wr => ∃ (j : Nat) (l' : List Int), j + gg = bn + 6 ∧ i = .int .i64 j ∧ l'.length = bn + 6 ∧ OwW wr Y3.heap.size (.slice (some ⟨fb, 0, none⟩) (bn + 6) fc) l' ∧ Fr (fun x => x = fb) Y8 wr)
  case atStart => exact ⟨0, b ++ [7, 11, 13, 17, 19, 23], by omega, rfl, HL5.out, row7 HO8.out fun _ _ => rfl, Fr.of ⟨rfl, rfl, rfl, Nat.le_refl _, fun _ _ => rfl⟩⟩
  case round =>
    obtain ⟨j, l', hj, rfl, hl', ho, hf⟩ := hrel
    have HO := hm7 ho
    have HF := hm7 hf
    have HLL := hm7 hl'
    cases gk with
    | succ gg =>
      have hlt : (j : Int) < ((bn + 6 : Nat) : Int) := by omega
      have j0 : (0 : Int) ≤ (j : Int) := by omega
      obtain ⟨x, hx⟩ : ∃ x, l'[j]? = some x := ⟨_, List.getElem?_eq_getElem (by omega)⟩
      have ho2 := ho
      unfold OwW at ho2
      rw [hl'] at ho2
      obtain ⟨_, e9, -, -, q0, q1⟩ := row7_at ho2 (i := j) (u := .int .u8 x) (by simp [ubW, hx])
      cases e9
      clear ho hf hl' ho2 hx
      go_wp2
      go_roundg gg
      case measure => omega
      case rel => exact ⟨j + 1, l'.set j _, by omega, by go_num, by rw [List.length_set]; exact HLL.out, HO.out.put HLL.out, HF.out.set (Or.inl rfl)⟩
    | zero =>
      have hlt : ¬ (j : Int) < ((bn + 6 : Nat) : Int) := by omega
      have j1 : Bk wr (Y.heap.size + 1) _ 45 := J18.out.fr hf (by omega)
      have j2 : Bk wr (Y.heap.size + 1 + 1) _ 45 := J28.out.fr hf (by omega)
      have p0 : wr.cell? ⟨Y.heap.size + 1 + 1, 0, none⟩ = some (.int .i64 (sndN s b)) := j2.cell rfl
      have p1 : wr.cell? ⟨Y.heap.size + 1 + 1, 1, none⟩ = some (.slice none 0 0) := j2.cell rfl
      have p2 : wr.cell? ⟨Y.heap.size + 1 + 1, 2, none⟩ = some (.int .i64 (sndE s b)) := j2.cell rfl
      have p3 : wr.cell? ⟨Y.heap.size + 1 + 1, 3, none⟩ = some (.slice none 0 0) := j2.cell rfl
      have r0 : wr.cell? ⟨Y.heap.size + 1, 0, none⟩ = some (.int .i64 0) := j1.cell rfl
      have r1 : wr.cell? ⟨Y.heap.size + 1, 1, none⟩ = some (.slice none 0 0) := j1.cell rfl
      have r2 : wr.cell? ⟨Y.heap.size + 1, 2, none⟩ = some (.int .i64 0) := j1.cell rfl
      have r3 : wr.cell? ⟨Y.heap.size + 1, 3, none⟩ = some (.slice none 0 0) := j1.cell rfl
      have fr2 := j1.froz
      have JR := hm7 j1
      clear ho hf hl' j1 j2
      go_wp2
      have hZ : Bk ((((wr.setCell ⟨Y.heap.size + 1, 0, none⟩ (.int .i64 (sndN s b))).setCell ⟨Y.heap.size + 1, 1, none⟩ (.slice none 0 0)).setCell ⟨Y.heap.size + 1, 2, none⟩ (.int .i64 (sndE s b))).setCell ⟨Y.heap.size + 1, 3, none⟩ (.slice none 0 0)) (Y.heap.size + 1) #[.int .i64 (sndN s b), .slice none 0 0, .int .i64 (sndE s b), .slice none 0 0] 45 := ((((JR.out.set 0 (.int .i64 (sndN s b))).set 1 (.slice none 0 0)).set 2 (.int .i64 (sndE s b))).set 3 (.slice none 0 0))
      have hF : Fr (fun x => x = Y.heap.size + 1 ∨ x = Y.heap.size + 2) wr ((((wr.setCell ⟨Y.heap.size + 1, 0, none⟩ (.int .i64 (sndN s b))).setCell ⟨Y.heap.size + 1, 1, none⟩ (.slice none 0 0)).setCell ⟨Y.heap.size + 1, 2, none⟩ (.int .i64 (sndE s b))).setCell ⟨Y.heap.size + 1, 3, none⟩ (.slice none 0 0)) := (Fr.set (i := 3) (v := .slice none 0 0) (Fr.set (i := 2) (v := .int .i64 (sndE s b)) (Fr.set (i := 1) (v := .slice none 0 0) (Fr.set (i := 0) (v := .int .i64 (sndN s b)) (Fr.refl (fun x => x = Y.heap.size + 1 ∨ x = Y.heap.size + 2) wr) (Or.inl (Or.inl rfl))) (Or.inl (Or.inl rfl))) (Or.inl (Or.inl rfl))) (Or.inl (Or.inl rfl)))
      have hF2 : Fr (fun x => x = Y.heap.size + 1 ∨ x = Y.heap.size + 2 ∨ x = fb) Y7 ((((wr.setCell ⟨Y.heap.size + 1, 0, none⟩ (.int .i64 (sndN s b))).setCell ⟨Y.heap.size + 1, 1, none⟩ (.slice none 0 0)).setCell ⟨Y.heap.size + 1, 2, none⟩ (.int .i64 (sndE s b))).setCell ⟨Y.heap.size + 1, 3, none⟩ (.slice none 0 0)) := ((HF78.out.mono fun x _ h => Or.inr (Or.inl h)).trans (HF.out.mono fun x _ h => Or.inr (Or.inr h)) fun x _ h => h).trans hF fun x _ h => h.elim Or.inl fun h => Or.inr (Or.inl h)
      have hE := HCD.out.end2_ (s := s) (o := ⟨1, n, m, q, b⟩) rfl (by omega) (HB3.out.trans (HB36.out.mono (by omega))) HT.out (fun x hx => by rcases hx with hx | hx | hx <;> omega) hF2
      exact ⟨rfl, _, ret_doW Try.results19 _ _ (Y.heap.size + 1) _ _ _ _ rfl rfl hZ, hE⟩
set_option maxRecDepth 20000 in
set_option maxHeartbeats 4000000 in
theorem doW_2 {B : Nat} {T G : Nat → Prop} {v bv : Value} {s : WrW} {n m q : Int} {b : List Int} {Y : World} (h : WzW B T v s Y) (hb : LbW G Y bv b) (_hl : b.length ≤ 140737488351232) :
    Calls Try.prog 19 #[v, opvW ⟨2, n, m, q, b⟩ bv] Y (DoQ B T v s ⟨2, n, m, q, b⟩ Y) := by
  unfold opvW
  simp only
  obtain ⟨g, rfl⟩ := h.ptr
  obtain ⟨ba, bc, hbv, hbc⟩ := hb.form
  have ht : ∀ x, T x → x < Y.heap.size := h.lt
  have HT := hm7 ht
  obtain ⟨bn, hbn⟩ : ∃ bn, b.length = bn := ⟨_, rfl⟩
  rw [hbn] at hbv hbc
  subst hbv
  obtain ⟨Y3, hY3⟩ : ∃ Y3, ((Y.alloc (.cells #[.int .i64 2, .int .i64 n, .int .i64 m, .int .i64 q, .slice ba bn bc] 42)).alloc (.cells #[.int .i64 0, .slice none 0 0, .int .i64 0, .slice none 0 0] 45)).alloc (.cells #[.int .i64 0, .slice none 0 0, .int .i64 0, .slice none 0 0] 45) = Y3 := ⟨_, rfl⟩
  have hz : Y3.heap.size = Y.heap.size + 3 := by rw [← hY3]; simp
  have hb3 : Below Y.heap.size Y Y3 := by rw [← hY3]; exact ((below1 _ _).alloc (by simp) _).alloc (by simp; omega) _
  have k0 : Bk Y3 Y.heap.size #[.int .i64 2, .int .i64 n, .int .i64 m, .int .i64 q, .slice ba bn bc] 42 := by rw [← hY3]; exact ((Bk.new _ _ _).below (below1 _ _)).below (below1 _ _)
  have k1 : Bk Y3 (Y.heap.size + 1) #[.int .i64 0, .slice none 0 0, .int .i64 0, .slice none 0 0] 45 := by rw [← hY3]; have := Bk.new (Y.alloc (.cells #[.int .i64 2, .int .i64 n, .int .i64 m, .int .i64 q, .slice ba bn bc] 42)) #[.int .i64 0, .slice none 0 0, .int .i64 0, .slice none 0 0] 45; simp only [size_alloc7] at this; exact this.below (below1 _ _)
  have k2 : Bk Y3 (Y.heap.size + 1 + 1) #[.int .i64 0, .slice none 0 0, .int .i64 0, .slice none 0 0] 45 := by rw [← hY3]; have := Bk.new ((Y.alloc (.cells #[.int .i64 2, .int .i64 n, .int .i64 m, .int .i64 q, .slice ba bn bc] 42)).alloc (.cells #[.int .i64 0, .slice none 0 0, .int .i64 0, .slice none 0 0] 45)) #[.int .i64 0, .slice none 0 0, .int .i64 0, .slice none 0 0] 45; simp only [size_alloc7] at this; exact this
  have c0 : Y3.cell? ⟨Y.heap.size, 0, none⟩ = some (.int .i64 2) := k0.cell rfl
  have c1 : Y3.cell? ⟨Y.heap.size, 1, none⟩ = some (.int .i64 n) := k0.cell rfl
  have c2 : Y3.cell? ⟨Y.heap.size, 2, none⟩ = some (.int .i64 m) := k0.cell rfl
  have c3 : Y3.cell? ⟨Y.heap.size, 3, none⟩ = some (.int .i64 q) := k0.cell rfl
  have c4 : Y3.cell? ⟨Y.heap.size, 4, none⟩ = some (.slice ba bn bc) := k0.cell rfl
  have K1 := hm7 k1
  have K2 := hm7 k2
  have HB3 := hm7 hb3
  have HZ := hm7 hz
  have HC := hm7 (wlookW_any (h.below hb3) n)
  have H3 := hm7 (h.below hb3)
  clear h hb hbn k0 k1 k2 hb3 hbc _hl
  go_enter Try.func19, Try.ntmps19
  go_wp2_with (go_at_call 15; refine HC.out.mono ?_; rintro e Y4 ⟨u, rfl, hu, hq⟩; have hcr : CdW B T _ s (tolW s ⟨2, n, m, q, b⟩) u (.slice none 0 0) Y3 Y4 := ⟨Fr.of hq, T, H3.out.below hq, fun x hx => Or.inl hx, hu.lb.mono fun x _ hx => ⟨Or.inr hx, fun e => by have := HT.out x e; have := HZ.out; omega⟩, LmW.nil _ _⟩; obtain ⟨ra, rc, rfl, -⟩ := hu.lb.form; obtain ⟨rn, hrn⟩ : ∃ rn, (byW s n).length = rn := ⟨_, rfl⟩; rw [hrn] at hcr ⊢; clear hu; have j1 : Bk Y4 (Y.heap.size + 1) _ 45 := K1.out.fr hcr.f (fun e => by have := HT.out _ e; omega); have j2 : Bk Y4 (Y.heap.size + 1 + 1) _ 45 := K2.out.fr hcr.f (fun e => by have := HT.out _ e; omega); have p0 : Y4.cell? ⟨Y.heap.size + 1 + 1, 0, none⟩ = some (.int .i64 0) := j2.cell rfl; have p1 : Y4.cell? ⟨Y.heap.size + 1 + 1, 1, none⟩ = some (.slice none 0 0) := j2.cell rfl; have p2 : Y4.cell? ⟨Y.heap.size + 1 + 1, 2, none⟩ = some (.int .i64 0) := j2.cell rfl; have p3 : Y4.cell? ⟨Y.heap.size + 1 + 1, 3, none⟩ = some (.slice none 0 0) := j2.cell rfl; have r0 : Y4.cell? ⟨Y.heap.size + 1, 0, none⟩ = some (.int .i64 0) := j1.cell rfl; have r1 : Y4.cell? ⟨Y.heap.size + 1, 1, none⟩ = some (.slice none 0 0) := j1.cell rfl; have r2 : Y4.cell? ⟨Y.heap.size + 1, 2, none⟩ = some (.int .i64 0) := j1.cell rfl; have r3 : Y4.cell? ⟨Y.heap.size + 1, 3, none⟩ = some (.slice none 0 0) := j1.cell rfl; have fz := j2.froz; have fr := j1.froz; have HCR := hm7 hcr; have J1 := hm7 j1; have J2 := hm7 j2; clear hcr j1 j2 hq)
  have hZ : Bk ((((((Y4.setCell ⟨Y.heap.size + 1 + 1, 1, none⟩ (.slice ra rn rc)).setCell ⟨Y.heap.size + 1 + 1, 2, none⟩ (.int .i64 (lokE s n))).setCell ⟨Y.heap.size + 1, 0, none⟩ (.int .i64 0)).setCell ⟨Y.heap.size + 1, 1, none⟩ (.slice ra rn rc)).setCell ⟨Y.heap.size + 1, 2, none⟩ (.int .i64 (lokE s n))).setCell ⟨Y.heap.size + 1, 3, none⟩ (.slice none 0 0)) (Y.heap.size + 1) #[.int .i64 0, .slice ra rn rc, .int .i64 (lokE s n), .slice none 0 0] 45 := (((((Bk.off (Bk.off J1.out (by omega)) (by omega)).set 0 (.int .i64 0)).set 1 (.slice ra rn rc)).set 2 (.int .i64 (lokE s n))).set 3 (.slice none 0 0))
  have hF : Fr (fun x => x = Y.heap.size + 1 ∨ x = Y.heap.size + 2) Y4 ((((((Y4.setCell ⟨Y.heap.size + 1 + 1, 1, none⟩ (.slice ra rn rc)).setCell ⟨Y.heap.size + 1 + 1, 2, none⟩ (.int .i64 (lokE s n))).setCell ⟨Y.heap.size + 1, 0, none⟩ (.int .i64 0)).setCell ⟨Y.heap.size + 1, 1, none⟩ (.slice ra rn rc)).setCell ⟨Y.heap.size + 1, 2, none⟩ (.int .i64 (lokE s n))).setCell ⟨Y.heap.size + 1, 3, none⟩ (.slice none 0 0)) := (Fr.set (i := 3) (v := .slice none 0 0) (Fr.set (i := 2) (v := .int .i64 (lokE s n)) (Fr.set (i := 1) (v := .slice ra rn rc) (Fr.set (i := 0) (v := .int .i64 0) (Fr.set (i := 2) (v := .int .i64 (lokE s n)) (Fr.set (i := 1) (v := .slice ra rn rc) (Fr.refl (fun x => x = Y.heap.size + 1 ∨ x = Y.heap.size + 2) Y4) (Or.inl (Or.inr rfl))) (Or.inl (Or.inr rfl))) (Or.inl (Or.inl rfl))) (Or.inl (Or.inl rfl))) (Or.inl (Or.inl rfl))) (Or.inl (Or.inl rfl)))
  have hE := HCR.out.end_ (s := s) (o := ⟨2, n, m, q, b⟩) rfl HZ.out HB3.out HT.out hF
  exact ⟨rfl, _, ret_doW Try.results19 _ _ (Y.heap.size + 1) _ _ _ _ rfl rfl hZ, hE⟩
set_option maxRecDepth 20000 in
set_option maxHeartbeats 4000000 in
theorem doW_3 {B : Nat} {T G : Nat → Prop} {v bv : Value} {s : WrW} {n m q : Int} {b : List Int} {Y : World} (h : WzW B T v s Y) (hb : LbW G Y bv b) (_hl : b.length ≤ 140737488351232) :
    Calls Try.prog 19 #[v, opvW ⟨3, n, m, q, b⟩ bv] Y (DoQ B T v s ⟨3, n, m, q, b⟩ Y) := by
  unfold opvW
  simp only
  obtain ⟨g, rfl⟩ := h.ptr
  obtain ⟨ba, bc, hbv, hbc⟩ := hb.form
  have ht : ∀ x, T x → x < Y.heap.size := h.lt
  have HT := hm7 ht
  obtain ⟨bn, hbn⟩ : ∃ bn, b.length = bn := ⟨_, rfl⟩
  rw [hbn] at hbv hbc
  subst hbv
  obtain ⟨Y3, hY3⟩ : ∃ Y3, ((Y.alloc (.cells #[.int .i64 3, .int .i64 n, .int .i64 m, .int .i64 q, .slice ba bn bc] 42)).alloc (.cells #[.int .i64 0, .slice none 0 0, .int .i64 0, .slice none 0 0] 45)).alloc (.cells #[.int .i64 0, .slice none 0 0, .int .i64 0, .slice none 0 0] 45) = Y3 := ⟨_, rfl⟩
  have hz : Y3.heap.size = Y.heap.size + 3 := by rw [← hY3]; simp
  have hb3 : Below Y.heap.size Y Y3 := by rw [← hY3]; exact ((below1 _ _).alloc (by simp) _).alloc (by simp; omega) _
  have k0 : Bk Y3 Y.heap.size #[.int .i64 3, .int .i64 n, .int .i64 m, .int .i64 q, .slice ba bn bc] 42 := by rw [← hY3]; exact ((Bk.new _ _ _).below (below1 _ _)).below (below1 _ _)
  have k1 : Bk Y3 (Y.heap.size + 1) #[.int .i64 0, .slice none 0 0, .int .i64 0, .slice none 0 0] 45 := by rw [← hY3]; have := Bk.new (Y.alloc (.cells #[.int .i64 3, .int .i64 n, .int .i64 m, .int .i64 q, .slice ba bn bc] 42)) #[.int .i64 0, .slice none 0 0, .int .i64 0, .slice none 0 0] 45; simp only [size_alloc7] at this; exact this.below (below1 _ _)
  have k2 : Bk Y3 (Y.heap.size + 1 + 1) #[.int .i64 0, .slice none 0 0, .int .i64 0, .slice none 0 0] 45 := by rw [← hY3]; have := Bk.new ((Y.alloc (.cells #[.int .i64 3, .int .i64 n, .int .i64 m, .int .i64 q, .slice ba bn bc] 42)).alloc (.cells #[.int .i64 0, .slice none 0 0, .int .i64 0, .slice none 0 0] 45)) #[.int .i64 0, .slice none 0 0, .int .i64 0, .slice none 0 0] 45; simp only [size_alloc7] at this; exact this
  have c0 : Y3.cell? ⟨Y.heap.size, 0, none⟩ = some (.int .i64 3) := k0.cell rfl
  have c1 : Y3.cell? ⟨Y.heap.size, 1, none⟩ = some (.int .i64 n) := k0.cell rfl
  have c2 : Y3.cell? ⟨Y.heap.size, 2, none⟩ = some (.int .i64 m) := k0.cell rfl
  have c3 : Y3.cell? ⟨Y.heap.size, 3, none⟩ = some (.int .i64 q) := k0.cell rfl
  have c4 : Y3.cell? ⟨Y.heap.size, 4, none⟩ = some (.slice ba bn bc) := k0.cell rfl
  have K1 := hm7 k1
  have K2 := hm7 k2
  have HB3 := hm7 hb3
  have HZ := hm7 hz
  have HC := hm7 (wtakeW_any (h.below hb3) n)
  have H3 := hm7 (h.below hb3)
  clear h hb hbn k0 k1 k2 hb3 hbc _hl
  go_enter Try.func19, Try.ntmps19
  go_wp2_with (go_at_call 11; refine HC.out.mono ?_; rintro e Y4 ⟨u, T', rfl, hu, hq, hq2, hq3⟩; have hcr : CdW B T _ (takS s n) (tolW s ⟨3, n, m, q, b⟩) u (.slice none 0 0) Y3 Y4 := ⟨hq2, T', hu, hq, hq3, LmW.nil _ _⟩; obtain ⟨ra, rc, rfl, -⟩ := hq3.form; obtain ⟨rn, hrn⟩ : ∃ rn, (byW s n).length = rn := ⟨_, rfl⟩; rw [hrn] at hcr ⊢; clear hu hq2 hq3; have j1 : Bk Y4 (Y.heap.size + 1) _ 45 := K1.out.fr hcr.f (fun e => by have := HT.out _ e; omega); have j2 : Bk Y4 (Y.heap.size + 1 + 1) _ 45 := K2.out.fr hcr.f (fun e => by have := HT.out _ e; omega); have p0 : Y4.cell? ⟨Y.heap.size + 1 + 1, 0, none⟩ = some (.int .i64 0) := j2.cell rfl; have p1 : Y4.cell? ⟨Y.heap.size + 1 + 1, 1, none⟩ = some (.slice none 0 0) := j2.cell rfl; have p2 : Y4.cell? ⟨Y.heap.size + 1 + 1, 2, none⟩ = some (.int .i64 0) := j2.cell rfl; have p3 : Y4.cell? ⟨Y.heap.size + 1 + 1, 3, none⟩ = some (.slice none 0 0) := j2.cell rfl; have r0 : Y4.cell? ⟨Y.heap.size + 1, 0, none⟩ = some (.int .i64 0) := j1.cell rfl; have r1 : Y4.cell? ⟨Y.heap.size + 1, 1, none⟩ = some (.slice none 0 0) := j1.cell rfl; have r2 : Y4.cell? ⟨Y.heap.size + 1, 2, none⟩ = some (.int .i64 0) := j1.cell rfl; have r3 : Y4.cell? ⟨Y.heap.size + 1, 3, none⟩ = some (.slice none 0 0) := j1.cell rfl; have fz := j2.froz; have fr := j1.froz; have HCR := hm7 hcr; have J1 := hm7 j1; have J2 := hm7 j2; clear hcr j1 j2 hq)
  have hZ : Bk ((((((Y4.setCell ⟨Y.heap.size + 1 + 1, 1, none⟩ (.slice ra rn rc)).setCell ⟨Y.heap.size + 1 + 1, 2, none⟩ (.int .i64 (lokE s n))).setCell ⟨Y.heap.size + 1, 0, none⟩ (.int .i64 0)).setCell ⟨Y.heap.size + 1, 1, none⟩ (.slice ra rn rc)).setCell ⟨Y.heap.size + 1, 2, none⟩ (.int .i64 (lokE s n))).setCell ⟨Y.heap.size + 1, 3, none⟩ (.slice none 0 0)) (Y.heap.size + 1) #[.int .i64 0, .slice ra rn rc, .int .i64 (lokE s n), .slice none 0 0] 45 := (((((Bk.off (Bk.off J1.out (by omega)) (by omega)).set 0 (.int .i64 0)).set 1 (.slice ra rn rc)).set 2 (.int .i64 (lokE s n))).set 3 (.slice none 0 0))
  have hF : Fr (fun x => x = Y.heap.size + 1 ∨ x = Y.heap.size + 2) Y4 ((((((Y4.setCell ⟨Y.heap.size + 1 + 1, 1, none⟩ (.slice ra rn rc)).setCell ⟨Y.heap.size + 1 + 1, 2, none⟩ (.int .i64 (lokE s n))).setCell ⟨Y.heap.size + 1, 0, none⟩ (.int .i64 0)).setCell ⟨Y.heap.size + 1, 1, none⟩ (.slice ra rn rc)).setCell ⟨Y.heap.size + 1, 2, none⟩ (.int .i64 (lokE s n))).setCell ⟨Y.heap.size + 1, 3, none⟩ (.slice none 0 0)) := (Fr.set (i := 3) (v := .slice none 0 0) (Fr.set (i := 2) (v := .int .i64 (lokE s n)) (Fr.set (i := 1) (v := .slice ra rn rc) (Fr.set (i := 0) (v := .int .i64 0) (Fr.set (i := 2) (v := .int .i64 (lokE s n)) (Fr.set (i := 1) (v := .slice ra rn rc) (Fr.refl (fun x => x = Y.heap.size + 1 ∨ x = Y.heap.size + 2) Y4) (Or.inl (Or.inr rfl))) (Or.inl (Or.inr rfl))) (Or.inl (Or.inl rfl))) (Or.inl (Or.inl rfl))) (Or.inl (Or.inl rfl))) (Or.inl (Or.inl rfl)))
  have hE := HCR.out.end_ (s := s) (o := ⟨3, n, m, q, b⟩) rfl HZ.out HB3.out HT.out hF
  exact ⟨rfl, _, ret_doW Try.results19 _ _ (Y.heap.size + 1) _ _ _ _ rfl rfl hZ, hE⟩
set_option maxRecDepth 20000 in
set_option maxHeartbeats 4000000 in
theorem doW_4 {B : Nat} {T G : Nat → Prop} {v bv : Value} {s : WrW} {n m q : Int} {b : List Int} {Y : World} (h : WzW B T v s Y) (hb : LbW G Y bv b) (_hl : b.length ≤ 140737488351232) :
    Calls Try.prog 19 #[v, opvW ⟨4, n, m, q, b⟩ bv] Y (DoQ B T v s ⟨4, n, m, q, b⟩ Y) := by
  unfold opvW
  simp only
  obtain ⟨g, rfl⟩ := h.ptr
  obtain ⟨ba, bc, hbv, hbc⟩ := hb.form
  have ht : ∀ x, T x → x < Y.heap.size := h.lt
  have HT := hm7 ht
  obtain ⟨bn, hbn⟩ : ∃ bn, b.length = bn := ⟨_, rfl⟩
  rw [hbn] at hbv hbc
  subst hbv
  obtain ⟨Y3, hY3⟩ : ∃ Y3, ((Y.alloc (.cells #[.int .i64 4, .int .i64 n, .int .i64 m, .int .i64 q, .slice ba bn bc] 42)).alloc (.cells #[.int .i64 0, .slice none 0 0, .int .i64 0, .slice none 0 0] 45)).alloc (.cells #[.int .i64 0, .slice none 0 0, .int .i64 0, .slice none 0 0] 45) = Y3 := ⟨_, rfl⟩
  have hz : Y3.heap.size = Y.heap.size + 3 := by rw [← hY3]; simp
  have hb3 : Below Y.heap.size Y Y3 := by rw [← hY3]; exact ((below1 _ _).alloc (by simp) _).alloc (by simp; omega) _
  have k0 : Bk Y3 Y.heap.size #[.int .i64 4, .int .i64 n, .int .i64 m, .int .i64 q, .slice ba bn bc] 42 := by rw [← hY3]; exact ((Bk.new _ _ _).below (below1 _ _)).below (below1 _ _)
  have k1 : Bk Y3 (Y.heap.size + 1) #[.int .i64 0, .slice none 0 0, .int .i64 0, .slice none 0 0] 45 := by rw [← hY3]; have := Bk.new (Y.alloc (.cells #[.int .i64 4, .int .i64 n, .int .i64 m, .int .i64 q, .slice ba bn bc] 42)) #[.int .i64 0, .slice none 0 0, .int .i64 0, .slice none 0 0] 45; simp only [size_alloc7] at this; exact this.below (below1 _ _)
  have k2 : Bk Y3 (Y.heap.size + 1 + 1) #[.int .i64 0, .slice none 0 0, .int .i64 0, .slice none 0 0] 45 := by rw [← hY3]; have := Bk.new ((Y.alloc (.cells #[.int .i64 4, .int .i64 n, .int .i64 m, .int .i64 q, .slice ba bn bc] 42)).alloc (.cells #[.int .i64 0, .slice none 0 0, .int .i64 0, .slice none 0 0] 45)) #[.int .i64 0, .slice none 0 0, .int .i64 0, .slice none 0 0] 45; simp only [size_alloc7] at this; exact this
  have c0 : Y3.cell? ⟨Y.heap.size, 0, none⟩ = some (.int .i64 4) := k0.cell rfl
  have c1 : Y3.cell? ⟨Y.heap.size, 1, none⟩ = some (.int .i64 n) := k0.cell rfl
  have c2 : Y3.cell? ⟨Y.heap.size, 2, none⟩ = some (.int .i64 m) := k0.cell rfl
  have c3 : Y3.cell? ⟨Y.heap.size, 3, none⟩ = some (.int .i64 q) := k0.cell rfl
  have c4 : Y3.cell? ⟨Y.heap.size, 4, none⟩ = some (.slice ba bn bc) := k0.cell rfl
  have K1 := hm7 k1
  have K2 := hm7 k2
  have HB3 := hm7 hb3
  have HZ := hm7 hz
  have HC := hm7 (wdropW_any (h.below hb3) n)
  have H3 := hm7 (h.below hb3)
  clear h hb hbn k0 k1 k2 hb3 hbc _hl
  go_enter Try.func19, Try.ntmps19
  go_wp2_with (go_at_call 14; refine HC.out.mono ?_; rintro e Y4 ⟨rfl, hq⟩; have hcr := CdW.rq (t := tolW s ⟨4, n, m, q, b⟩) hq rfl rfl; have j1 : Bk Y4 (Y.heap.size + 1) _ 45 := K1.out.fr hcr.f (fun e => by have := HT.out _ e; omega); have j2 : Bk Y4 (Y.heap.size + 1 + 1) _ 45 := K2.out.fr hcr.f (fun e => by have := HT.out _ e; omega); have p0 : Y4.cell? ⟨Y.heap.size + 1 + 1, 0, none⟩ = some (.int .i64 0) := j2.cell rfl; have p1 : Y4.cell? ⟨Y.heap.size + 1 + 1, 1, none⟩ = some (.slice none 0 0) := j2.cell rfl; have p2 : Y4.cell? ⟨Y.heap.size + 1 + 1, 2, none⟩ = some (.int .i64 0) := j2.cell rfl; have p3 : Y4.cell? ⟨Y.heap.size + 1 + 1, 3, none⟩ = some (.slice none 0 0) := j2.cell rfl; have r0 : Y4.cell? ⟨Y.heap.size + 1, 0, none⟩ = some (.int .i64 0) := j1.cell rfl; have r1 : Y4.cell? ⟨Y.heap.size + 1, 1, none⟩ = some (.slice none 0 0) := j1.cell rfl; have r2 : Y4.cell? ⟨Y.heap.size + 1, 2, none⟩ = some (.int .i64 0) := j1.cell rfl; have r3 : Y4.cell? ⟨Y.heap.size + 1, 3, none⟩ = some (.slice none 0 0) := j1.cell rfl; have fz := j2.froz; have fr := j1.froz; have HCR := hm7 hcr; have J1 := hm7 j1; have J2 := hm7 j2; clear hcr j1 j2 hq)
  have hZ : Bk (((((Y4.setCell ⟨Y.heap.size + 1 + 1, 2, none⟩ (.int .i64 (lokE s n))).setCell ⟨Y.heap.size + 1, 0, none⟩ (.int .i64 0)).setCell ⟨Y.heap.size + 1, 1, none⟩ (.slice none 0 0)).setCell ⟨Y.heap.size + 1, 2, none⟩ (.int .i64 (lokE s n))).setCell ⟨Y.heap.size + 1, 3, none⟩ (.slice none 0 0)) (Y.heap.size + 1) #[.int .i64 0, .slice none 0 0, .int .i64 (lokE s n), .slice none 0 0] 45 := (((((Bk.off J1.out (by omega)).set 0 (.int .i64 0)).set 1 (.slice none 0 0)).set 2 (.int .i64 (lokE s n))).set 3 (.slice none 0 0))
  have hF : Fr (fun x => x = Y.heap.size + 1 ∨ x = Y.heap.size + 2) Y4 (((((Y4.setCell ⟨Y.heap.size + 1 + 1, 2, none⟩ (.int .i64 (lokE s n))).setCell ⟨Y.heap.size + 1, 0, none⟩ (.int .i64 0)).setCell ⟨Y.heap.size + 1, 1, none⟩ (.slice none 0 0)).setCell ⟨Y.heap.size + 1, 2, none⟩ (.int .i64 (lokE s n))).setCell ⟨Y.heap.size + 1, 3, none⟩ (.slice none 0 0)) := (Fr.set (i := 3) (v := .slice none 0 0) (Fr.set (i := 2) (v := .int .i64 (lokE s n)) (Fr.set (i := 1) (v := .slice none 0 0) (Fr.set (i := 0) (v := .int .i64 0) (Fr.set (i := 2) (v := .int .i64 (lokE s n)) (Fr.refl (fun x => x = Y.heap.size + 1 ∨ x = Y.heap.size + 2) Y4) (Or.inl (Or.inr rfl))) (Or.inl (Or.inl rfl))) (Or.inl (Or.inl rfl))) (Or.inl (Or.inl rfl))) (Or.inl (Or.inl rfl)))
  have hE := HCR.out.end_ (s := s) (o := ⟨4, n, m, q, b⟩) rfl HZ.out HB3.out HT.out hF
  exact ⟨rfl, _, ret_doW Try.results19 _ _ (Y.heap.size + 1) _ _ _ _ rfl rfl hZ, hE⟩
set_option maxRecDepth 20000 in
set_option maxHeartbeats 4000000 in
theorem doW_5 {B : Nat} {T G : Nat → Prop} {v bv : Value} {s : WrW} {n m q : Int} {b : List Int} {Y : World} (h : WzW B T v s Y) (hb : LbW G Y bv b) (_hl : b.length ≤ 140737488351232) :
    Calls Try.prog 19 #[v, opvW ⟨5, n, m, q, b⟩ bv] Y (DoQ B T v s ⟨5, n, m, q, b⟩ Y) := by
  unfold opvW
  simp only
  obtain ⟨g, rfl⟩ := h.ptr
  obtain ⟨ba, bc, hbv, hbc⟩ := hb.form
  have ht : ∀ x, T x → x < Y.heap.size := h.lt
  have HT := hm7 ht
  obtain ⟨bn, hbn⟩ : ∃ bn, b.length = bn := ⟨_, rfl⟩
  rw [hbn] at hbv hbc
  subst hbv
  obtain ⟨Y3, hY3⟩ : ∃ Y3, ((Y.alloc (.cells #[.int .i64 5, .int .i64 n, .int .i64 m, .int .i64 q, .slice ba bn bc] 42)).alloc (.cells #[.int .i64 0, .slice none 0 0, .int .i64 0, .slice none 0 0] 45)).alloc (.cells #[.int .i64 0, .slice none 0 0, .int .i64 0, .slice none 0 0] 45) = Y3 := ⟨_, rfl⟩
  have hz : Y3.heap.size = Y.heap.size + 3 := by rw [← hY3]; simp
  have hb3 : Below Y.heap.size Y Y3 := by rw [← hY3]; exact ((below1 _ _).alloc (by simp) _).alloc (by simp; omega) _
  have k0 : Bk Y3 Y.heap.size #[.int .i64 5, .int .i64 n, .int .i64 m, .int .i64 q, .slice ba bn bc] 42 := by rw [← hY3]; exact ((Bk.new _ _ _).below (below1 _ _)).below (below1 _ _)
  have k1 : Bk Y3 (Y.heap.size + 1) #[.int .i64 0, .slice none 0 0, .int .i64 0, .slice none 0 0] 45 := by rw [← hY3]; have := Bk.new (Y.alloc (.cells #[.int .i64 5, .int .i64 n, .int .i64 m, .int .i64 q, .slice ba bn bc] 42)) #[.int .i64 0, .slice none 0 0, .int .i64 0, .slice none 0 0] 45; simp only [size_alloc7] at this; exact this.below (below1 _ _)
  have k2 : Bk Y3 (Y.heap.size + 1 + 1) #[.int .i64 0, .slice none 0 0, .int .i64 0, .slice none 0 0] 45 := by rw [← hY3]; have := Bk.new ((Y.alloc (.cells #[.int .i64 5, .int .i64 n, .int .i64 m, .int .i64 q, .slice ba bn bc] 42)).alloc (.cells #[.int .i64 0, .slice none 0 0, .int .i64 0, .slice none 0 0] 45)) #[.int .i64 0, .slice none 0 0, .int .i64 0, .slice none 0 0] 45; simp only [size_alloc7] at this; exact this
  have c0 : Y3.cell? ⟨Y.heap.size, 0, none⟩ = some (.int .i64 5) := k0.cell rfl
  have c1 : Y3.cell? ⟨Y.heap.size, 1, none⟩ = some (.int .i64 n) := k0.cell rfl
  have c2 : Y3.cell? ⟨Y.heap.size, 2, none⟩ = some (.int .i64 m) := k0.cell rfl
  have c3 : Y3.cell? ⟨Y.heap.size, 3, none⟩ = some (.int .i64 q) := k0.cell rfl
  have c4 : Y3.cell? ⟨Y.heap.size, 4, none⟩ = some (.slice ba bn bc) := k0.cell rfl
  have K1 := hm7 k1
  have K2 := hm7 k2
  have HB3 := hm7 hb3
  have HZ := hm7 hz
  have HC := hm7 (wcpyW_any (h.below hb3) n)
  have H3 := hm7 (h.below hb3)
  clear h hb hbn k0 k1 k2 hb3 hbc _hl
  go_enter Try.func19, Try.ntmps19
  go_wp2_with (go_at_call 13; refine HC.out.mono ?_; rintro e Y4 ⟨rfl, hq⟩; have hcr := CdW.rq (t := tolW s ⟨5, n, m, q, b⟩) hq rfl rfl; have j1 : Bk Y4 (Y.heap.size + 1) _ 45 := K1.out.fr hcr.f (fun e => by have := HT.out _ e; omega); have j2 : Bk Y4 (Y.heap.size + 1 + 1) _ 45 := K2.out.fr hcr.f (fun e => by have := HT.out _ e; omega); have p0 : Y4.cell? ⟨Y.heap.size + 1 + 1, 0, none⟩ = some (.int .i64 0) := j2.cell rfl; have p1 : Y4.cell? ⟨Y.heap.size + 1 + 1, 1, none⟩ = some (.slice none 0 0) := j2.cell rfl; have p2 : Y4.cell? ⟨Y.heap.size + 1 + 1, 2, none⟩ = some (.int .i64 0) := j2.cell rfl; have p3 : Y4.cell? ⟨Y.heap.size + 1 + 1, 3, none⟩ = some (.slice none 0 0) := j2.cell rfl; have r0 : Y4.cell? ⟨Y.heap.size + 1, 0, none⟩ = some (.int .i64 0) := j1.cell rfl; have r1 : Y4.cell? ⟨Y.heap.size + 1, 1, none⟩ = some (.slice none 0 0) := j1.cell rfl; have r2 : Y4.cell? ⟨Y.heap.size + 1, 2, none⟩ = some (.int .i64 0) := j1.cell rfl; have r3 : Y4.cell? ⟨Y.heap.size + 1, 3, none⟩ = some (.slice none 0 0) := j1.cell rfl; have fz := j2.froz; have fr := j1.froz; have HCR := hm7 hcr; have J1 := hm7 j1; have J2 := hm7 j2; clear hcr j1 j2 hq)
  have hZ : Bk ((((((Y4.setCell ⟨Y.heap.size + 1 + 1, 0, none⟩ (.int .i64 (cpyN s n))).setCell ⟨Y.heap.size + 1 + 1, 2, none⟩ (.int .i64 (cpyE s n))).setCell ⟨Y.heap.size + 1, 0, none⟩ (.int .i64 (cpyN s n))).setCell ⟨Y.heap.size + 1, 1, none⟩ (.slice none 0 0)).setCell ⟨Y.heap.size + 1, 2, none⟩ (.int .i64 (cpyE s n))).setCell ⟨Y.heap.size + 1, 3, none⟩ (.slice none 0 0)) (Y.heap.size + 1) #[.int .i64 (cpyN s n), .slice none 0 0, .int .i64 (cpyE s n), .slice none 0 0] 45 := (((((Bk.off (Bk.off J1.out (by omega)) (by omega)).set 0 (.int .i64 (cpyN s n))).set 1 (.slice none 0 0)).set 2 (.int .i64 (cpyE s n))).set 3 (.slice none 0 0))
  have hF : Fr (fun x => x = Y.heap.size + 1 ∨ x = Y.heap.size + 2) Y4 ((((((Y4.setCell ⟨Y.heap.size + 1 + 1, 0, none⟩ (.int .i64 (cpyN s n))).setCell ⟨Y.heap.size + 1 + 1, 2, none⟩ (.int .i64 (cpyE s n))).setCell ⟨Y.heap.size + 1, 0, none⟩ (.int .i64 (cpyN s n))).setCell ⟨Y.heap.size + 1, 1, none⟩ (.slice none 0 0)).setCell ⟨Y.heap.size + 1, 2, none⟩ (.int .i64 (cpyE s n))).setCell ⟨Y.heap.size + 1, 3, none⟩ (.slice none 0 0)) := (Fr.set (i := 3) (v := .slice none 0 0) (Fr.set (i := 2) (v := .int .i64 (cpyE s n)) (Fr.set (i := 1) (v := .slice none 0 0) (Fr.set (i := 0) (v := .int .i64 (cpyN s n)) (Fr.set (i := 2) (v := .int .i64 (cpyE s n)) (Fr.set (i := 0) (v := .int .i64 (cpyN s n)) (Fr.refl (fun x => x = Y.heap.size + 1 ∨ x = Y.heap.size + 2) Y4) (Or.inl (Or.inr rfl))) (Or.inl (Or.inr rfl))) (Or.inl (Or.inl rfl))) (Or.inl (Or.inl rfl))) (Or.inl (Or.inl rfl))) (Or.inl (Or.inl rfl)))
  have hE := HCR.out.end_ (s := s) (o := ⟨5, n, m, q, b⟩) rfl HZ.out HB3.out HT.out hF
  exact ⟨rfl, _, ret_doW Try.results19 _ _ (Y.heap.size + 1) _ _ _ _ rfl rfl hZ, hE⟩
set_option maxRecDepth 20000 in
set_option maxHeartbeats 4000000 in
theorem doW_6 {B : Nat} {T G : Nat → Prop} {v bv : Value} {s : WrW} {n m q : Int} {b : List Int} {Y : World} (h : WzW B T v s Y) (hb : LbW G Y bv b) (_hl : b.length ≤ 140737488351232) :
    Calls Try.prog 19 #[v, opvW ⟨6, n, m, q, b⟩ bv] Y (DoQ B T v s ⟨6, n, m, q, b⟩ Y) := by
  unfold opvW
  simp only
  obtain ⟨g, rfl⟩ := h.ptr
  obtain ⟨ba, bc, hbv, hbc⟩ := hb.form
  have ht : ∀ x, T x → x < Y.heap.size := h.lt
  have HT := hm7 ht
  obtain ⟨bn, hbn⟩ : ∃ bn, b.length = bn := ⟨_, rfl⟩
  rw [hbn] at hbv hbc
  subst hbv
  obtain ⟨Y3, hY3⟩ : ∃ Y3, ((Y.alloc (.cells #[.int .i64 6, .int .i64 n, .int .i64 m, .int .i64 q, .slice ba bn bc] 42)).alloc (.cells #[.int .i64 0, .slice none 0 0, .int .i64 0, .slice none 0 0] 45)).alloc (.cells #[.int .i64 0, .slice none 0 0, .int .i64 0, .slice none 0 0] 45) = Y3 := ⟨_, rfl⟩
  have hz : Y3.heap.size = Y.heap.size + 3 := by rw [← hY3]; simp
  have hb3 : Below Y.heap.size Y Y3 := by rw [← hY3]; exact ((below1 _ _).alloc (by simp) _).alloc (by simp; omega) _
  have k0 : Bk Y3 Y.heap.size #[.int .i64 6, .int .i64 n, .int .i64 m, .int .i64 q, .slice ba bn bc] 42 := by rw [← hY3]; exact ((Bk.new _ _ _).below (below1 _ _)).below (below1 _ _)
  have k1 : Bk Y3 (Y.heap.size + 1) #[.int .i64 0, .slice none 0 0, .int .i64 0, .slice none 0 0] 45 := by rw [← hY3]; have := Bk.new (Y.alloc (.cells #[.int .i64 6, .int .i64 n, .int .i64 m, .int .i64 q, .slice ba bn bc] 42)) #[.int .i64 0, .slice none 0 0, .int .i64 0, .slice none 0 0] 45; simp only [size_alloc7] at this; exact this.below (below1 _ _)
  have k2 : Bk Y3 (Y.heap.size + 1 + 1) #[.int .i64 0, .slice none 0 0, .int .i64 0, .slice none 0 0] 45 := by rw [← hY3]; have := Bk.new ((Y.alloc (.cells #[.int .i64 6, .int .i64 n, .int .i64 m, .int .i64 q, .slice ba bn bc] 42)).alloc (.cells #[.int .i64 0, .slice none 0 0, .int .i64 0, .slice none 0 0] 45)) #[.int .i64 0, .slice none 0 0, .int .i64 0, .slice none 0 0] 45; simp only [size_alloc7] at this; exact this
  have c0 : Y3.cell? ⟨Y.heap.size, 0, none⟩ = some (.int .i64 6) := k0.cell rfl
  have c1 : Y3.cell? ⟨Y.heap.size, 1, none⟩ = some (.int .i64 n) := k0.cell rfl
  have c2 : Y3.cell? ⟨Y.heap.size, 2, none⟩ = some (.int .i64 m) := k0.cell rfl
  have c3 : Y3.cell? ⟨Y.heap.size, 3, none⟩ = some (.int .i64 q) := k0.cell rfl
  have c4 : Y3.cell? ⟨Y.heap.size, 4, none⟩ = some (.slice ba bn bc) := k0.cell rfl
  have K1 := hm7 k1
  have K2 := hm7 k2
  have HB3 := hm7 hb3
  have HZ := hm7 hz
  have HC := hm7 (wswpW_any (h.below hb3) n m)
  have H3 := hm7 (h.below hb3)
  clear h hb hbn k0 k1 k2 hb3 hbc _hl
  go_enter Try.func19, Try.ntmps19
  go_wp2_with (go_at_call 16; refine HC.out.mono ?_; rintro e Y4 ⟨rfl, hq⟩; have hcr := CdW.rq (t := tolW s ⟨6, n, m, q, b⟩) hq rfl rfl; have j1 : Bk Y4 (Y.heap.size + 1) _ 45 := K1.out.fr hcr.f (fun e => by have := HT.out _ e; omega); have j2 : Bk Y4 (Y.heap.size + 1 + 1) _ 45 := K2.out.fr hcr.f (fun e => by have := HT.out _ e; omega); have p0 : Y4.cell? ⟨Y.heap.size + 1 + 1, 0, none⟩ = some (.int .i64 0) := j2.cell rfl; have p1 : Y4.cell? ⟨Y.heap.size + 1 + 1, 1, none⟩ = some (.slice none 0 0) := j2.cell rfl; have p2 : Y4.cell? ⟨Y.heap.size + 1 + 1, 2, none⟩ = some (.int .i64 0) := j2.cell rfl; have p3 : Y4.cell? ⟨Y.heap.size + 1 + 1, 3, none⟩ = some (.slice none 0 0) := j2.cell rfl; have r0 : Y4.cell? ⟨Y.heap.size + 1, 0, none⟩ = some (.int .i64 0) := j1.cell rfl; have r1 : Y4.cell? ⟨Y.heap.size + 1, 1, none⟩ = some (.slice none 0 0) := j1.cell rfl; have r2 : Y4.cell? ⟨Y.heap.size + 1, 2, none⟩ = some (.int .i64 0) := j1.cell rfl; have r3 : Y4.cell? ⟨Y.heap.size + 1, 3, none⟩ = some (.slice none 0 0) := j1.cell rfl; have fz := j2.froz; have fr := j1.froz; have HCR := hm7 hcr; have J1 := hm7 j1; have J2 := hm7 j2; clear hcr j1 j2 hq)
  have hZ : Bk (((((Y4.setCell ⟨Y.heap.size + 1 + 1, 2, none⟩ (.int .i64 (swpE s n m))).setCell ⟨Y.heap.size + 1, 0, none⟩ (.int .i64 0)).setCell ⟨Y.heap.size + 1, 1, none⟩ (.slice none 0 0)).setCell ⟨Y.heap.size + 1, 2, none⟩ (.int .i64 (swpE s n m))).setCell ⟨Y.heap.size + 1, 3, none⟩ (.slice none 0 0)) (Y.heap.size + 1) #[.int .i64 0, .slice none 0 0, .int .i64 (swpE s n m), .slice none 0 0] 45 := (((((Bk.off J1.out (by omega)).set 0 (.int .i64 0)).set 1 (.slice none 0 0)).set 2 (.int .i64 (swpE s n m))).set 3 (.slice none 0 0))
  have hF : Fr (fun x => x = Y.heap.size + 1 ∨ x = Y.heap.size + 2) Y4 (((((Y4.setCell ⟨Y.heap.size + 1 + 1, 2, none⟩ (.int .i64 (swpE s n m))).setCell ⟨Y.heap.size + 1, 0, none⟩ (.int .i64 0)).setCell ⟨Y.heap.size + 1, 1, none⟩ (.slice none 0 0)).setCell ⟨Y.heap.size + 1, 2, none⟩ (.int .i64 (swpE s n m))).setCell ⟨Y.heap.size + 1, 3, none⟩ (.slice none 0 0)) := (Fr.set (i := 3) (v := .slice none 0 0) (Fr.set (i := 2) (v := .int .i64 (swpE s n m)) (Fr.set (i := 1) (v := .slice none 0 0) (Fr.set (i := 0) (v := .int .i64 0) (Fr.set (i := 2) (v := .int .i64 (swpE s n m)) (Fr.refl (fun x => x = Y.heap.size + 1 ∨ x = Y.heap.size + 2) Y4) (Or.inl (Or.inr rfl))) (Or.inl (Or.inl rfl))) (Or.inl (Or.inl rfl))) (Or.inl (Or.inl rfl))) (Or.inl (Or.inl rfl)))
  have hE := HCR.out.end_ (s := s) (o := ⟨6, n, m, q, b⟩) rfl HZ.out HB3.out HT.out hF
  exact ⟨rfl, _, ret_doW Try.results19 _ _ (Y.heap.size + 1) _ _ _ _ rfl rfl hZ, hE⟩
set_option maxRecDepth 20000 in
set_option maxHeartbeats 4000000 in
theorem doW_7 {B : Nat} {T G : Nat → Prop} {v bv : Value} {s : WrW} {n m q : Int} {b : List Int} {Y : World} (h : WzW B T v s Y) (hb : LbW G Y bv b) (_hl : b.length ≤ 140737488351232) :
    Calls Try.prog 19 #[v, opvW ⟨7, n, m, q, b⟩ bv] Y (DoQ B T v s ⟨7, n, m, q, b⟩ Y) := by
  unfold opvW
  simp only
  obtain ⟨g, rfl⟩ := h.ptr
  obtain ⟨ba, bc, hbv, hbc⟩ := hb.form
  have ht : ∀ x, T x → x < Y.heap.size := h.lt
  have HT := hm7 ht
  obtain ⟨bn, hbn⟩ : ∃ bn, b.length = bn := ⟨_, rfl⟩
  rw [hbn] at hbv hbc
  subst hbv
  obtain ⟨Y3, hY3⟩ : ∃ Y3, ((Y.alloc (.cells #[.int .i64 7, .int .i64 n, .int .i64 m, .int .i64 q, .slice ba bn bc] 42)).alloc (.cells #[.int .i64 0, .slice none 0 0, .int .i64 0, .slice none 0 0] 45)).alloc (.cells #[.int .i64 0, .slice none 0 0, .int .i64 0, .slice none 0 0] 45) = Y3 := ⟨_, rfl⟩
  have hz : Y3.heap.size = Y.heap.size + 3 := by rw [← hY3]; simp
  have hb3 : Below Y.heap.size Y Y3 := by rw [← hY3]; exact ((below1 _ _).alloc (by simp) _).alloc (by simp; omega) _
  have k0 : Bk Y3 Y.heap.size #[.int .i64 7, .int .i64 n, .int .i64 m, .int .i64 q, .slice ba bn bc] 42 := by rw [← hY3]; exact ((Bk.new _ _ _).below (below1 _ _)).below (below1 _ _)
  have k1 : Bk Y3 (Y.heap.size + 1) #[.int .i64 0, .slice none 0 0, .int .i64 0, .slice none 0 0] 45 := by rw [← hY3]; have := Bk.new (Y.alloc (.cells #[.int .i64 7, .int .i64 n, .int .i64 m, .int .i64 q, .slice ba bn bc] 42)) #[.int .i64 0, .slice none 0 0, .int .i64 0, .slice none 0 0] 45; simp only [size_alloc7] at this; exact this.below (below1 _ _)
  have k2 : Bk Y3 (Y.heap.size + 1 + 1) #[.int .i64 0, .slice none 0 0, .int .i64 0, .slice none 0 0] 45 := by rw [← hY3]; have := Bk.new ((Y.alloc (.cells #[.int .i64 7, .int .i64 n, .int .i64 m, .int .i64 q, .slice ba bn bc] 42)).alloc (.cells #[.int .i64 0, .slice none 0 0, .int .i64 0, .slice none 0 0] 45)) #[.int .i64 0, .slice none 0 0, .int .i64 0, .slice none 0 0] 45; simp only [size_alloc7] at this; exact this
  have c0 : Y3.cell? ⟨Y.heap.size, 0, none⟩ = some (.int .i64 7) := k0.cell rfl
  have c1 : Y3.cell? ⟨Y.heap.size, 1, none⟩ = some (.int .i64 n) := k0.cell rfl
  have c2 : Y3.cell? ⟨Y.heap.size, 2, none⟩ = some (.int .i64 m) := k0.cell rfl
  have c3 : Y3.cell? ⟨Y.heap.size, 3, none⟩ = some (.int .i64 q) := k0.cell rfl
  have c4 : Y3.cell? ⟨Y.heap.size, 4, none⟩ = some (.slice ba bn bc) := k0.cell rfl
  have K1 := hm7 k1
  have K2 := hm7 k2
  have HB3 := hm7 hb3
  have HZ := hm7 hz
  have HC := hm7 (wflpW_any (h.below hb3) n m q)
  have H3 := hm7 (h.below hb3)
  clear h hb hbn k0 k1 k2 hb3 hbc _hl
  go_enter Try.func19, Try.ntmps19
  go_wp2_with (go_at_call 17; refine HC.out.mono ?_; rintro e Y4 ⟨rfl, hq⟩; have hcr := CdW.rq (t := tolW s ⟨7, n, m, q, b⟩) hq rfl rfl; have j1 : Bk Y4 (Y.heap.size + 1) _ 45 := K1.out.fr hcr.f (fun e => by have := HT.out _ e; omega); have j2 : Bk Y4 (Y.heap.size + 1 + 1) _ 45 := K2.out.fr hcr.f (fun e => by have := HT.out _ e; omega); have p0 : Y4.cell? ⟨Y.heap.size + 1 + 1, 0, none⟩ = some (.int .i64 0) := j2.cell rfl; have p1 : Y4.cell? ⟨Y.heap.size + 1 + 1, 1, none⟩ = some (.slice none 0 0) := j2.cell rfl; have p2 : Y4.cell? ⟨Y.heap.size + 1 + 1, 2, none⟩ = some (.int .i64 0) := j2.cell rfl; have p3 : Y4.cell? ⟨Y.heap.size + 1 + 1, 3, none⟩ = some (.slice none 0 0) := j2.cell rfl; have r0 : Y4.cell? ⟨Y.heap.size + 1, 0, none⟩ = some (.int .i64 0) := j1.cell rfl; have r1 : Y4.cell? ⟨Y.heap.size + 1, 1, none⟩ = some (.slice none 0 0) := j1.cell rfl; have r2 : Y4.cell? ⟨Y.heap.size + 1, 2, none⟩ = some (.int .i64 0) := j1.cell rfl; have r3 : Y4.cell? ⟨Y.heap.size + 1, 3, none⟩ = some (.slice none 0 0) := j1.cell rfl; have fz := j2.froz; have fr := j1.froz; have HCR := hm7 hcr; have J1 := hm7 j1; have J2 := hm7 j2; clear hcr j1 j2 hq)
  have hZ : Bk (((((Y4.setCell ⟨Y.heap.size + 1 + 1, 2, none⟩ (.int .i64 (flpE s n m))).setCell ⟨Y.heap.size + 1, 0, none⟩ (.int .i64 0)).setCell ⟨Y.heap.size + 1, 1, none⟩ (.slice none 0 0)).setCell ⟨Y.heap.size + 1, 2, none⟩ (.int .i64 (flpE s n m))).setCell ⟨Y.heap.size + 1, 3, none⟩ (.slice none 0 0)) (Y.heap.size + 1) #[.int .i64 0, .slice none 0 0, .int .i64 (flpE s n m), .slice none 0 0] 45 := (((((Bk.off J1.out (by omega)).set 0 (.int .i64 0)).set 1 (.slice none 0 0)).set 2 (.int .i64 (flpE s n m))).set 3 (.slice none 0 0))
  have hF : Fr (fun x => x = Y.heap.size + 1 ∨ x = Y.heap.size + 2) Y4 (((((Y4.setCell ⟨Y.heap.size + 1 + 1, 2, none⟩ (.int .i64 (flpE s n m))).setCell ⟨Y.heap.size + 1, 0, none⟩ (.int .i64 0)).setCell ⟨Y.heap.size + 1, 1, none⟩ (.slice none 0 0)).setCell ⟨Y.heap.size + 1, 2, none⟩ (.int .i64 (flpE s n m))).setCell ⟨Y.heap.size + 1, 3, none⟩ (.slice none 0 0)) := (Fr.set (i := 3) (v := .slice none 0 0) (Fr.set (i := 2) (v := .int .i64 (flpE s n m)) (Fr.set (i := 1) (v := .slice none 0 0) (Fr.set (i := 0) (v := .int .i64 0) (Fr.set (i := 2) (v := .int .i64 (flpE s n m)) (Fr.refl (fun x => x = Y.heap.size + 1 ∨ x = Y.heap.size + 2) Y4) (Or.inl (Or.inr rfl))) (Or.inl (Or.inl rfl))) (Or.inl (Or.inl rfl))) (Or.inl (Or.inl rfl))) (Or.inl (Or.inl rfl)))
  have hE := HCR.out.end_ (s := s) (o := ⟨7, n, m, q, b⟩) rfl HZ.out HB3.out HT.out hF
  exact ⟨rfl, _, ret_doW Try.results19 _ _ (Y.heap.size + 1) _ _ _ _ rfl rfl hZ, hE⟩
set_option maxRecDepth 20000 in
set_option maxHeartbeats 4000000 in
theorem doW_8 {B : Nat} {T G : Nat → Prop} {v bv : Value} {s : WrW} {n m q : Int} {b : List Int} {Y : World} (h : WzW B T v s Y) (hb : LbW G Y bv b) (_hl : b.length ≤ 140737488351232) :
    Calls Try.prog 19 #[v, opvW ⟨8, n, m, q, b⟩ bv] Y (DoQ B T v s ⟨8, n, m, q, b⟩ Y) := by
  unfold opvW
  simp only
  obtain ⟨g, rfl⟩ := h.ptr
  obtain ⟨ba, bc, hbv, hbc⟩ := hb.form
  have ht : ∀ x, T x → x < Y.heap.size := h.lt
  have HT := hm7 ht
  obtain ⟨bn, hbn⟩ : ∃ bn, b.length = bn := ⟨_, rfl⟩
  rw [hbn] at hbv hbc
  subst hbv
  obtain ⟨Y3, hY3⟩ : ∃ Y3, ((Y.alloc (.cells #[.int .i64 8, .int .i64 n, .int .i64 m, .int .i64 q, .slice ba bn bc] 42)).alloc (.cells #[.int .i64 0, .slice none 0 0, .int .i64 0, .slice none 0 0] 45)).alloc (.cells #[.int .i64 0, .slice none 0 0, .int .i64 0, .slice none 0 0] 45) = Y3 := ⟨_, rfl⟩
  have hz : Y3.heap.size = Y.heap.size + 3 := by rw [← hY3]; simp
  have hb3 : Below Y.heap.size Y Y3 := by rw [← hY3]; exact ((below1 _ _).alloc (by simp) _).alloc (by simp; omega) _
  have k0 : Bk Y3 Y.heap.size #[.int .i64 8, .int .i64 n, .int .i64 m, .int .i64 q, .slice ba bn bc] 42 := by rw [← hY3]; exact ((Bk.new _ _ _).below (below1 _ _)).below (below1 _ _)
  have k1 : Bk Y3 (Y.heap.size + 1) #[.int .i64 0, .slice none 0 0, .int .i64 0, .slice none 0 0] 45 := by rw [← hY3]; have := Bk.new (Y.alloc (.cells #[.int .i64 8, .int .i64 n, .int .i64 m, .int .i64 q, .slice ba bn bc] 42)) #[.int .i64 0, .slice none 0 0, .int .i64 0, .slice none 0 0] 45; simp only [size_alloc7] at this; exact this.below (below1 _ _)
  have k2 : Bk Y3 (Y.heap.size + 1 + 1) #[.int .i64 0, .slice none 0 0, .int .i64 0, .slice none 0 0] 45 := by rw [← hY3]; have := Bk.new ((Y.alloc (.cells #[.int .i64 8, .int .i64 n, .int .i64 m, .int .i64 q, .slice ba bn bc] 42)).alloc (.cells #[.int .i64 0, .slice none 0 0, .int .i64 0, .slice none 0 0] 45)) #[.int .i64 0, .slice none 0 0, .int .i64 0, .slice none 0 0] 45; simp only [size_alloc7] at this; exact this
  have c0 : Y3.cell? ⟨Y.heap.size, 0, none⟩ = some (.int .i64 8) := k0.cell rfl
  have c1 : Y3.cell? ⟨Y.heap.size, 1, none⟩ = some (.int .i64 n) := k0.cell rfl
  have c2 : Y3.cell? ⟨Y.heap.size, 2, none⟩ = some (.int .i64 m) := k0.cell rfl
  have c3 : Y3.cell? ⟨Y.heap.size, 3, none⟩ = some (.int .i64 q) := k0.cell rfl
  have c4 : Y3.cell? ⟨Y.heap.size, 4, none⟩ = some (.slice ba bn bc) := k0.cell rfl
  have K1 := hm7 k1
  have K2 := hm7 k2
  have HB3 := hm7 hb3
  have HZ := hm7 hz
  have HC := hm7 (wcutW_any (h.below hb3) n m)
  have H3 := hm7 (h.below hb3)
  clear h hb hbn k0 k1 k2 hb3 hbc _hl
  go_enter Try.func19, Try.ntmps19
  go_wp2_with (go_at_call 18; refine HC.out.mono ?_; rintro e Y4 ⟨rfl, hq⟩; have hcr := CdW.rq (t := tolW s ⟨8, n, m, q, b⟩) hq rfl rfl; have j1 : Bk Y4 (Y.heap.size + 1) _ 45 := K1.out.fr hcr.f (fun e => by have := HT.out _ e; omega); have j2 : Bk Y4 (Y.heap.size + 1 + 1) _ 45 := K2.out.fr hcr.f (fun e => by have := HT.out _ e; omega); have p0 : Y4.cell? ⟨Y.heap.size + 1 + 1, 0, none⟩ = some (.int .i64 0) := j2.cell rfl; have p1 : Y4.cell? ⟨Y.heap.size + 1 + 1, 1, none⟩ = some (.slice none 0 0) := j2.cell rfl; have p2 : Y4.cell? ⟨Y.heap.size + 1 + 1, 2, none⟩ = some (.int .i64 0) := j2.cell rfl; have p3 : Y4.cell? ⟨Y.heap.size + 1 + 1, 3, none⟩ = some (.slice none 0 0) := j2.cell rfl; have r0 : Y4.cell? ⟨Y.heap.size + 1, 0, none⟩ = some (.int .i64 0) := j1.cell rfl; have r1 : Y4.cell? ⟨Y.heap.size + 1, 1, none⟩ = some (.slice none 0 0) := j1.cell rfl; have r2 : Y4.cell? ⟨Y.heap.size + 1, 2, none⟩ = some (.int .i64 0) := j1.cell rfl; have r3 : Y4.cell? ⟨Y.heap.size + 1, 3, none⟩ = some (.slice none 0 0) := j1.cell rfl; have fz := j2.froz; have fr := j1.froz; have HCR := hm7 hcr; have J1 := hm7 j1; have J2 := hm7 j2; clear hcr j1 j2 hq)
  have hZ : Bk (((((Y4.setCell ⟨Y.heap.size + 1 + 1, 2, none⟩ (.int .i64 (cutE s n m))).setCell ⟨Y.heap.size + 1, 0, none⟩ (.int .i64 0)).setCell ⟨Y.heap.size + 1, 1, none⟩ (.slice none 0 0)).setCell ⟨Y.heap.size + 1, 2, none⟩ (.int .i64 (cutE s n m))).setCell ⟨Y.heap.size + 1, 3, none⟩ (.slice none 0 0)) (Y.heap.size + 1) #[.int .i64 0, .slice none 0 0, .int .i64 (cutE s n m), .slice none 0 0] 45 := (((((Bk.off J1.out (by omega)).set 0 (.int .i64 0)).set 1 (.slice none 0 0)).set 2 (.int .i64 (cutE s n m))).set 3 (.slice none 0 0))
  have hF : Fr (fun x => x = Y.heap.size + 1 ∨ x = Y.heap.size + 2) Y4 (((((Y4.setCell ⟨Y.heap.size + 1 + 1, 2, none⟩ (.int .i64 (cutE s n m))).setCell ⟨Y.heap.size + 1, 0, none⟩ (.int .i64 0)).setCell ⟨Y.heap.size + 1, 1, none⟩ (.slice none 0 0)).setCell ⟨Y.heap.size + 1, 2, none⟩ (.int .i64 (cutE s n m))).setCell ⟨Y.heap.size + 1, 3, none⟩ (.slice none 0 0)) := (Fr.set (i := 3) (v := .slice none 0 0) (Fr.set (i := 2) (v := .int .i64 (cutE s n m)) (Fr.set (i := 1) (v := .slice none 0 0) (Fr.set (i := 0) (v := .int .i64 0) (Fr.set (i := 2) (v := .int .i64 (cutE s n m)) (Fr.refl (fun x => x = Y.heap.size + 1 ∨ x = Y.heap.size + 2) Y4) (Or.inl (Or.inr rfl))) (Or.inl (Or.inl rfl))) (Or.inl (Or.inl rfl))) (Or.inl (Or.inl rfl))) (Or.inl (Or.inl rfl)))
  have hE := HCR.out.end_ (s := s) (o := ⟨8, n, m, q, b⟩) rfl HZ.out HB3.out HT.out hF
  exact ⟨rfl, _, ret_doW Try.results19 _ _ (Y.heap.size + 1) _ _ _ _ rfl rfl hZ, hE⟩
set_option maxRecDepth 20000 in
set_option maxHeartbeats 4000000 in
theorem doW_9 {B : Nat} {T G : Nat → Prop} {v bv : Value} {s : WrW} {n m q : Int} {b : List Int} {Y : World} (h : WzW B T v s Y) (hb : LbW G Y bv b) (_hl : b.length ≤ 140737488351232) :
    Calls Try.prog 19 #[v, opvW ⟨9, n, m, q, b⟩ bv] Y (DoQ B T v s ⟨9, n, m, q, b⟩ Y) := by
  unfold opvW
  simp only
  obtain ⟨g, rfl⟩ := h.ptr
  obtain ⟨ba, bc, hbv, hbc⟩ := hb.form
  have ht : ∀ x, T x → x < Y.heap.size := h.lt
  have HT := hm7 ht
  obtain ⟨bn, hbn⟩ : ∃ bn, b.length = bn := ⟨_, rfl⟩
  rw [hbn] at hbv hbc
  subst hbv
  obtain ⟨Y3, hY3⟩ : ∃ Y3, ((Y.alloc (.cells #[.int .i64 9, .int .i64 n, .int .i64 m, .int .i64 q, .slice ba bn bc] 42)).alloc (.cells #[.int .i64 0, .slice none 0 0, .int .i64 0, .slice none 0 0] 45)).alloc (.cells #[.int .i64 0, .slice none 0 0, .int .i64 0, .slice none 0 0] 45) = Y3 := ⟨_, rfl⟩
  have hz : Y3.heap.size = Y.heap.size + 3 := by rw [← hY3]; simp
  have hb3 : Below Y.heap.size Y Y3 := by rw [← hY3]; exact ((below1 _ _).alloc (by simp) _).alloc (by simp; omega) _
  have k0 : Bk Y3 Y.heap.size #[.int .i64 9, .int .i64 n, .int .i64 m, .int .i64 q, .slice ba bn bc] 42 := by rw [← hY3]; exact ((Bk.new _ _ _).below (below1 _ _)).below (below1 _ _)
  have k1 : Bk Y3 (Y.heap.size + 1) #[.int .i64 0, .slice none 0 0, .int .i64 0, .slice none 0 0] 45 := by rw [← hY3]; have := Bk.new (Y.alloc (.cells #[.int .i64 9, .int .i64 n, .int .i64 m, .int .i64 q, .slice ba bn bc] 42)) #[.int .i64 0, .slice none 0 0, .int .i64 0, .slice none 0 0] 45; simp only [size_alloc7] at this; exact this.below (below1 _ _)
  have k2 : Bk Y3 (Y.heap.size + 1 + 1) #[.int .i64 0, .slice none 0 0, .int .i64 0, .slice none 0 0] 45 := by rw [← hY3]; have := Bk.new ((Y.alloc (.cells #[.int .i64 9, .int .i64 n, .int .i64 m, .int .i64 q, .slice ba bn bc] 42)).alloc (.cells #[.int .i64 0, .slice none 0 0, .int .i64 0, .slice none 0 0] 45)) #[.int .i64 0, .slice none 0 0, .int .i64 0, .slice none 0 0] 45; simp only [size_alloc7] at this; exact this
  have c0 : Y3.cell? ⟨Y.heap.size, 0, none⟩ = some (.int .i64 9) := k0.cell rfl
  have c1 : Y3.cell? ⟨Y.heap.size, 1, none⟩ = some (.int .i64 n) := k0.cell rfl
  have c2 : Y3.cell? ⟨Y.heap.size, 2, none⟩ = some (.int .i64 m) := k0.cell rfl
  have c3 : Y3.cell? ⟨Y.heap.size, 3, none⟩ = some (.int .i64 q) := k0.cell rfl
  have c4 : Y3.cell? ⟨Y.heap.size, 4, none⟩ = some (.slice ba bn bc) := k0.cell rfl
  have K1 := hm7 k1
  have K2 := hm7 k2
  have HB3 := hm7 hb3
  have HZ := hm7 hz
  have HC := hm7 (wnextW_any (h.below hb3))
  have H3 := hm7 (h.below hb3)
  clear h hb hbn k0 k1 k2 hb3 hbc _hl
  go_enter Try.func19, Try.ntmps19
  go_wp2_with (go_at_call 25; refine HC.out.mono ?_; rintro e Y4 ⟨rfl, hq⟩; have hcr : CdW B T _ s (tolW s ⟨9, n, m, q, b⟩) (.slice none 0 0) (.slice none 0 0) Y3 Y4 := CdW.rq (WqW.keep H3.out hq) rfl rfl; have j1 : Bk Y4 (Y.heap.size + 1) _ 45 := K1.out.fr hcr.f (fun e => by have := HT.out _ e; omega); have j2 : Bk Y4 (Y.heap.size + 1 + 1) _ 45 := K2.out.fr hcr.f (fun e => by have := HT.out _ e; omega); have p0 : Y4.cell? ⟨Y.heap.size + 1 + 1, 0, none⟩ = some (.int .i64 0) := j2.cell rfl; have p1 : Y4.cell? ⟨Y.heap.size + 1 + 1, 1, none⟩ = some (.slice none 0 0) := j2.cell rfl; have p2 : Y4.cell? ⟨Y.heap.size + 1 + 1, 2, none⟩ = some (.int .i64 0) := j2.cell rfl; have p3 : Y4.cell? ⟨Y.heap.size + 1 + 1, 3, none⟩ = some (.slice none 0 0) := j2.cell rfl; have r0 : Y4.cell? ⟨Y.heap.size + 1, 0, none⟩ = some (.int .i64 0) := j1.cell rfl; have r1 : Y4.cell? ⟨Y.heap.size + 1, 1, none⟩ = some (.slice none 0 0) := j1.cell rfl; have r2 : Y4.cell? ⟨Y.heap.size + 1, 2, none⟩ = some (.int .i64 0) := j1.cell rfl; have r3 : Y4.cell? ⟨Y.heap.size + 1, 3, none⟩ = some (.slice none 0 0) := j1.cell rfl; have fz := j2.froz; have fr := j1.froz; have HCR := hm7 hcr; have J1 := hm7 j1; have J2 := hm7 j2; clear hcr j1 j2 hq)
  have hZ : Bk (((((Y4.setCell ⟨Y.heap.size + 1 + 1, 0, none⟩ (.int .i64 (nxtW s))).setCell ⟨Y.heap.size + 1, 0, none⟩ (.int .i64 (nxtW s))).setCell ⟨Y.heap.size + 1, 1, none⟩ (.slice none 0 0)).setCell ⟨Y.heap.size + 1, 2, none⟩ (.int .i64 0)).setCell ⟨Y.heap.size + 1, 3, none⟩ (.slice none 0 0)) (Y.heap.size + 1) #[.int .i64 (nxtW s), .slice none 0 0, .int .i64 0, .slice none 0 0] 45 := (((((Bk.off J1.out (by omega)).set 0 (.int .i64 (nxtW s))).set 1 (.slice none 0 0)).set 2 (.int .i64 0)).set 3 (.slice none 0 0))
  have hF : Fr (fun x => x = Y.heap.size + 1 ∨ x = Y.heap.size + 2) Y4 (((((Y4.setCell ⟨Y.heap.size + 1 + 1, 0, none⟩ (.int .i64 (nxtW s))).setCell ⟨Y.heap.size + 1, 0, none⟩ (.int .i64 (nxtW s))).setCell ⟨Y.heap.size + 1, 1, none⟩ (.slice none 0 0)).setCell ⟨Y.heap.size + 1, 2, none⟩ (.int .i64 0)).setCell ⟨Y.heap.size + 1, 3, none⟩ (.slice none 0 0)) := (Fr.set (i := 3) (v := .slice none 0 0) (Fr.set (i := 2) (v := .int .i64 0) (Fr.set (i := 1) (v := .slice none 0 0) (Fr.set (i := 0) (v := .int .i64 (nxtW s)) (Fr.set (i := 0) (v := .int .i64 (nxtW s)) (Fr.refl (fun x => x = Y.heap.size + 1 ∨ x = Y.heap.size + 2) Y4) (Or.inl (Or.inr rfl))) (Or.inl (Or.inl rfl))) (Or.inl (Or.inl rfl))) (Or.inl (Or.inl rfl))) (Or.inl (Or.inl rfl)))
  have hE := HCR.out.end_ (s := s) (o := ⟨9, n, m, q, b⟩) rfl HZ.out HB3.out HT.out hF
  exact ⟨rfl, _, ret_doW Try.results19 _ _ (Y.heap.size + 1) _ _ _ _ rfl rfl hZ, hE⟩
set_option maxRecDepth 20000 in
set_option maxHeartbeats 4000000 in
theorem doW_10 {B : Nat} {T G : Nat → Prop} {v bv : Value} {s : WrW} {n m q : Int} {b : List Int} {Y : World} (h : WzW B T v s Y) (hb : LbW G Y bv b) (_hl : b.length ≤ 140737488351232) :
    Calls Try.prog 19 #[v, opvW ⟨10, n, m, q, b⟩ bv] Y (DoQ B T v s ⟨10, n, m, q, b⟩ Y) := by
  unfold opvW
  simp only
  obtain ⟨g, rfl⟩ := h.ptr
  obtain ⟨ba, bc, hbv, hbc⟩ := hb.form
  have ht : ∀ x, T x → x < Y.heap.size := h.lt
  have HT := hm7 ht
  obtain ⟨bn, hbn⟩ : ∃ bn, b.length = bn := ⟨_, rfl⟩
  rw [hbn] at hbv hbc
  subst hbv
  obtain ⟨Y3, hY3⟩ : ∃ Y3, ((Y.alloc (.cells #[.int .i64 10, .int .i64 n, .int .i64 m, .int .i64 q, .slice ba bn bc] 42)).alloc (.cells #[.int .i64 0, .slice none 0 0, .int .i64 0, .slice none 0 0] 45)).alloc (.cells #[.int .i64 0, .slice none 0 0, .int .i64 0, .slice none 0 0] 45) = Y3 := ⟨_, rfl⟩
  have hz : Y3.heap.size = Y.heap.size + 3 := by rw [← hY3]; simp
  have hb3 : Below Y.heap.size Y Y3 := by rw [← hY3]; exact ((below1 _ _).alloc (by simp) _).alloc (by simp; omega) _
  have k0 : Bk Y3 Y.heap.size #[.int .i64 10, .int .i64 n, .int .i64 m, .int .i64 q, .slice ba bn bc] 42 := by rw [← hY3]; exact ((Bk.new _ _ _).below (below1 _ _)).below (below1 _ _)
  have k1 : Bk Y3 (Y.heap.size + 1) #[.int .i64 0, .slice none 0 0, .int .i64 0, .slice none 0 0] 45 := by rw [← hY3]; have := Bk.new (Y.alloc (.cells #[.int .i64 10, .int .i64 n, .int .i64 m, .int .i64 q, .slice ba bn bc] 42)) #[.int .i64 0, .slice none 0 0, .int .i64 0, .slice none 0 0] 45; simp only [size_alloc7] at this; exact this.below (below1 _ _)
  have k2 : Bk Y3 (Y.heap.size + 1 + 1) #[.int .i64 0, .slice none 0 0, .int .i64 0, .slice none 0 0] 45 := by rw [← hY3]; have := Bk.new ((Y.alloc (.cells #[.int .i64 10, .int .i64 n, .int .i64 m, .int .i64 q, .slice ba bn bc] 42)).alloc (.cells #[.int .i64 0, .slice none 0 0, .int .i64 0, .slice none 0 0] 45)) #[.int .i64 0, .slice none 0 0, .int .i64 0, .slice none 0 0] 45; simp only [size_alloc7] at this; exact this
  have c0 : Y3.cell? ⟨Y.heap.size, 0, none⟩ = some (.int .i64 10) := k0.cell rfl
  have c1 : Y3.cell? ⟨Y.heap.size, 1, none⟩ = some (.int .i64 n) := k0.cell rfl
  have c2 : Y3.cell? ⟨Y.heap.size, 2, none⟩ = some (.int .i64 m) := k0.cell rfl
  have c3 : Y3.cell? ⟨Y.heap.size, 3, none⟩ = some (.int .i64 q) := k0.cell rfl
  have c4 : Y3.cell? ⟨Y.heap.size, 4, none⟩ = some (.slice ba bn bc) := k0.cell rfl
  have K1 := hm7 k1
  have K2 := hm7 k2
  have HB3 := hm7 hb3
  have HZ := hm7 hz
  have HC := hm7 (wwaitW_any (h.below hb3))
  have H3 := hm7 (h.below hb3)
  clear h hb hbn k0 k1 k2 hb3 hbc _hl
  go_enter Try.func19, Try.ntmps19
  go_wp2_with (go_at_call 22; refine HC.out.mono ?_; rintro e Y4 ⟨u, ZZ, rfl, hzz, hu, hq⟩; have hlm := hu.lm; rw [hzz] at hlm; have hcr : CdW B T _ s (tolW s ⟨10, n, m, q, b⟩) (.slice none 0 0) u Y3 Y4 := ⟨Fr.of hq, T, H3.out.below hq, fun x hx => Or.inl hx, LbW.nil _ _, hlm.mono fun x _ hx => ⟨Or.inr hx, fun e => by have := HT.out x e; have := HZ.out; omega⟩⟩; obtain ⟨ra, rc, rfl, -⟩ := hlm.form; obtain ⟨rn, hrn⟩ : ∃ rn, s.row.length = rn := ⟨_, rfl⟩; rw [hrn] at hcr ⊢; clear hu hlm hzz; have j1 : Bk Y4 (Y.heap.size + 1) _ 45 := K1.out.fr hcr.f (fun e => by have := HT.out _ e; omega); have j2 : Bk Y4 (Y.heap.size + 1 + 1) _ 45 := K2.out.fr hcr.f (fun e => by have := HT.out _ e; omega); have p0 : Y4.cell? ⟨Y.heap.size + 1 + 1, 0, none⟩ = some (.int .i64 0) := j2.cell rfl; have p1 : Y4.cell? ⟨Y.heap.size + 1 + 1, 1, none⟩ = some (.slice none 0 0) := j2.cell rfl; have p2 : Y4.cell? ⟨Y.heap.size + 1 + 1, 2, none⟩ = some (.int .i64 0) := j2.cell rfl; have p3 : Y4.cell? ⟨Y.heap.size + 1 + 1, 3, none⟩ = some (.slice none 0 0) := j2.cell rfl; have r0 : Y4.cell? ⟨Y.heap.size + 1, 0, none⟩ = some (.int .i64 0) := j1.cell rfl; have r1 : Y4.cell? ⟨Y.heap.size + 1, 1, none⟩ = some (.slice none 0 0) := j1.cell rfl; have r2 : Y4.cell? ⟨Y.heap.size + 1, 2, none⟩ = some (.int .i64 0) := j1.cell rfl; have r3 : Y4.cell? ⟨Y.heap.size + 1, 3, none⟩ = some (.slice none 0 0) := j1.cell rfl; have fz := j2.froz; have fr := j1.froz; have HCR := hm7 hcr; have J1 := hm7 j1; have J2 := hm7 j2; clear hcr j1 j2 hq)
  have hZ : Bk (((((Y4.setCell ⟨Y.heap.size + 1 + 1, 3, none⟩ (.slice ra rn rc)).setCell ⟨Y.heap.size + 1, 0, none⟩ (.int .i64 0)).setCell ⟨Y.heap.size + 1, 1, none⟩ (.slice none 0 0)).setCell ⟨Y.heap.size + 1, 2, none⟩ (.int .i64 0)).setCell ⟨Y.heap.size + 1, 3, none⟩ (.slice ra rn rc)) (Y.heap.size + 1) #[.int .i64 0, .slice none 0 0, .int .i64 0, .slice ra rn rc] 45 := (((((Bk.off J1.out (by omega)).set 0 (.int .i64 0)).set 1 (.slice none 0 0)).set 2 (.int .i64 0)).set 3 (.slice ra rn rc))
  have hF : Fr (fun x => x = Y.heap.size + 1 ∨ x = Y.heap.size + 2) Y4 (((((Y4.setCell ⟨Y.heap.size + 1 + 1, 3, none⟩ (.slice ra rn rc)).setCell ⟨Y.heap.size + 1, 0, none⟩ (.int .i64 0)).setCell ⟨Y.heap.size + 1, 1, none⟩ (.slice none 0 0)).setCell ⟨Y.heap.size + 1, 2, none⟩ (.int .i64 0)).setCell ⟨Y.heap.size + 1, 3, none⟩ (.slice ra rn rc)) := (Fr.set (i := 3) (v := .slice ra rn rc) (Fr.set (i := 2) (v := .int .i64 0) (Fr.set (i := 1) (v := .slice none 0 0) (Fr.set (i := 0) (v := .int .i64 0) (Fr.set (i := 3) (v := .slice ra rn rc) (Fr.refl (fun x => x = Y.heap.size + 1 ∨ x = Y.heap.size + 2) Y4) (Or.inl (Or.inr rfl))) (Or.inl (Or.inl rfl))) (Or.inl (Or.inl rfl))) (Or.inl (Or.inl rfl))) (Or.inl (Or.inl rfl)))
  have hE := HCR.out.end_ (s := s) (o := ⟨10, n, m, q, b⟩) rfl HZ.out HB3.out HT.out hF
  exact ⟨rfl, _, ret_doW Try.results19 _ _ (Y.heap.size + 1) _ _ _ _ rfl rfl hZ, hE⟩
theorem doW_any {B : Nat} {T G : Nat → Prop} {v bv : Value} {s : WrW} {o : OvW} {Y : World} (h : WzW B T v s Y) (hb : LbW G Y bv o.b) (hl : o.b.length ≤ 140737488351232) : Calls Try.prog 19 #[v, opvW o bv] Y (DoQ B T v s o Y) := by
  obtain ⟨k, n, m, q, b⟩ := o
  by_cases k1 : k = 1
  · subst k1; exact doW_1 h hb hl
  by_cases k2 : k = 2
  · subst k2; exact doW_2 h hb hl
  by_cases k3 : k = 3
  · subst k3; exact doW_3 h hb hl
  by_cases k4 : k = 4
  · subst k4; exact doW_4 h hb hl
  by_cases k5 : k = 5
  · subst k5; exact doW_5 h hb hl
  by_cases k6 : k = 6
  · subst k6; exact doW_6 h hb hl
  by_cases k7 : k = 7
  · subst k7; exact doW_7 h hb hl
  by_cases k8 : k = 8
  · subst k8; exact doW_8 h hb hl
  by_cases k9 : k = 9
  · subst k9; exact doW_9 h hb hl
  by_cases k10 : k = 10
  · subst k10; exact doW_10 h hb hl
  exact doW_0 k (by omega) h hb hl
end Go.Proofs.Ytboomeeipnfbmaa
