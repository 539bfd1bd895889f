/-
  The codec reads: read of an atom, with what it gives up; ReadAtom.
-/
import Derived.Test.YtelcoihmiglceaaCD10
import Derived.Defers
import Derived.Recover
namespace Go.Proofs.Ytelcoihmiglceaa
open Go.RowKit

theorem run_assert (w : World) (v : Value) (x : TypeId) : (Instr.typeAssert (.iface 42 v) x 42 false).run Try.prog w = .ok v w := by
  simp [Instr.typeAssert, run_underlying Try.underlying42]
theorem catchA_panic (p : Addr) (x c : Int) (older : List PanicEntry) (w : World) (hc : w.cell? p = some (.int .i64 x)) (hz : w.frozen? p = false) :
    CallsD Try.prog 74 #[.pointer (some p)] (.panicking (pE c :: older)) w fun e u' w' =>
      e = .returned (.tuple #[]) ∧ u' = .panicking ({ v := .iface 42 (.int .i64 c), recovered := true } :: older) ∧ w' = w.setCell p (.int .i64 c) := by
  refine callsD_of_wpS Try.func74 rfl fun c₀ cs hu => ?_
  unfold pE at hu
  apply wpS_seq
  apply wpS_region
  simp [wpOpsS, go_sem, recoverD, hu, Try.ntmps74, Exit.thenS]
  have hta := run_assert
  refine wpS_of_wp ?_
  change Code.wp _ _ _ { tmps := #[.pointer (some p), .iface 42 (.int .i64 c), .iface 42 (.int .i64 c), undef, undef, undef, undef], defers := [] } w
  go_wp2
  exact ⟨rfl, _, rfl, _, by simp [results, Try.results74], rfl, rfl, rfl⟩
theorem catchA_idle (p : Addr) (w : World) :
    CallsD Try.prog 74 #[.pointer (some p)] .returning w fun e u' w' => e = .returned (.tuple #[]) ∧ u' = .returning ∧ w' = w := by
  refine callsD_of_wpS Try.func74 rfl fun c₀ cs hu => ?_
  apply wpS_seq
  apply wpS_region
  simp [wpOpsS, go_sem, recoverD, hu, Try.ntmps74, Exit.thenS]
  refine wpS_of_wp ?_
  change Code.wp _ _ _ { tmps := #[.pointer (some p), .nilIface, .nilIface, undef, undef, undef, undef], defers := [] } w
  go_wp2
  exact ⟨rfl, .returning, by rw [← hu], _, by simp [results, Try.results74], rfl, rfl, rfl⟩
/-- Bytes that are handed to a reader. -/
def Bh (w : World) (v : Value) (l : List Int) : Prop := byt l ∧ ∃ b o cap, v = .slice (some ⟨b, o, none⟩) l.length cap ∧ l.length < cap ∧ l.length < 1000000000000000000 ∧ b < w.heap.size ∧ ∀ (i : Nat) (x : Int), l[i]? = some x → w.cell? ⟨b, o + i, none⟩ = some (.int .u8 x)
theorem Bh.rd {w : World} {v : Value} {l : List Int} (h : Bh w v l) {X : World} (hb : Below w.heap.size w X) : RdS (X.alloc (.cells #[v] 109)) X.heap.size l := by
  obtain ⟨hy, b, o, cap, rfl, h0, h1, h2, h3⟩ := h
  have hbb := hb.trans (((below1 X (.cells #[.slice (some ⟨b, o, none⟩) l.length cap] 109))).mono hb.size)
  exact ⟨hy, _, Blk.new _ _ _, b, o, cap, rfl, h0, h1, Nat.lt_of_lt_of_le h2 hb.size, Nat.lt_of_lt_of_le h2 hbb.size, fun i x hx => cell_step hbb h2 (h3 i x hx)⟩
theorem bcell1 {w : World} {g : Nat} {v : Value} {t : TypeId} (h : Blk w g #[v] t) : w.cell? ⟨g, 0, none⟩ = some v := h.one.1
set_option maxRecDepth 20000 in
set_option maxHeartbeats 4000000 in
theorem readA_ok (v : Value) (l : List Int) (w : World) (h : Bh w v l) (a : At) (hr : rAtom l = .ok (a, [])) :
    Calls Try.prog 41 #[v, .func (.func 42) #[] #[]] w fun e w' => ∃ y, e = .returned (.tuple #[a.v y, .int .i64 0]) ∧ OwnT w' w.heap.size y a.args ∧ Below w.heap.size w w' := by
  have hmf : ∀ (fn : Fn) (first cap : Array Value) (w : World), (Instr.makeFunc fn first cap).run Try.prog w = .ok (.func fn first cap) w := fun _ _ _ _ => rfl
  have HR : Hid (RdS (((w.alloc (.cells #[.int .i64 0, .int .i64 0, .string ⟨#[]⟩, .string ⟨#[]⟩, .slice none 0 0] 34)).alloc (.cells #[.int .i64 0] 42)).alloc (.cells #[v] 109)) (w.heap.size + 1 + 1) l) := by
    have := h.rd (below2 w (.cells #[.int .i64 0, .int .i64 0, .string ⟨#[]⟩, .string ⟨#[]⟩, .slice none 0 0] 34) (.cells #[.int .i64 0] 42))
    rwa [show ((w.alloc (.cells #[.int .i64 0, .int .i64 0, .string ⟨#[]⟩, .string ⟨#[]⟩, .slice none 0 0] 34)).alloc (.cells #[.int .i64 0] 42)).heap.size = w.heap.size + 1 + 1 by simp] at this
  obtain ⟨-, b, o, cap, rfl, -, -, -, -⟩ := h
  have HO1 : Hid (Blk (((w.alloc (.cells #[.int .i64 0, .int .i64 0, .string ⟨#[]⟩, .string ⟨#[]⟩, .slice none 0 0] 34)).alloc (.cells #[.int .i64 0] 42)).alloc (.cells #[.slice (some ⟨b, o, none⟩) l.length cap] 109)) w.heap.size #[.int .i64 0, .int .i64 0, .string ⟨#[]⟩, .string ⟨#[]⟩, .slice none 0 0] 34) := (Blk.old _ _ _ _).later (below1 _ _)
  have HO2 : Hid (Blk (((w.alloc (.cells #[.int .i64 0, .int .i64 0, .string ⟨#[]⟩, .string ⟨#[]⟩, .slice none 0 0] 34)).alloc (.cells #[.int .i64 0] 42)).alloc (.cells #[.slice (some ⟨b, o, none⟩) l.length cap] 109)) (w.heap.size + 1) #[.int .i64 0] 42) := (Blk.new2 _ _ _ _).later (below1 _ _)
  have HL : Hid (Below w.heap.size w (((w.alloc (.cells #[.int .i64 0, .int .i64 0, .string ⟨#[]⟩, .string ⟨#[]⟩, .slice none 0 0] 34)).alloc (.cells #[.int .i64 0] 42)).alloc (.cells #[.slice (some ⟨b, o, none⟩) l.length cap] 109))) := (below2 _ _ _).alloc (by simp; omega) _
  have HN : Hid (∀ (g : Nat) (X : World), RdS X g l → Calls Try.prog 42 #[.pointer (some ⟨g, 0, none⟩)] X fun e w' => ∃ v, e = .returned v ∧ (∃ y, v = a.v y ∧ OwnT w' X.heap.size y a.args) ∧ RdS w' g [] ∧ Bv g X.heap.size X w') := fun g X hX => RdP.ok (atom8_any g l X hX) hr
  clear hr
  obtain ⟨⟨tk, tn, tt⟩, nm, m⟩ := a
  go_enter_defers Try.func41, Try.ntmps41
  go_wp2_with (go_at_call 42; refine (HN.out _ _ HR.out).mono ?_; rintro e w1 ⟨v1, rfl, ⟨y, rfl, ho⟩, ⟨-, v2, hk, b2, o2, cap2, rfl, -⟩, hb⟩; obtain ⟨a4, n4, c4, rfl⟩ := ownT_form8 ho; have c0 := bcell1 hk; obtain ⟨p0, p1, p2, p3, p4⟩ := five (HO1.out.bl hb (by omega)); obtain ⟨f0, f1, f2, f3, f4⟩ := ff5 (HO1.out.bl hb (by omega)); obtain ⟨q0, qf⟩ := (HO2.out.bl hb (by omega)).one; have hz1 : w.heap.size + 3 ≤ w1.heap.size := (by have := hb.size; simp at this; omega); have hz2 : w.heap.size + 1 + 1 < w1.heap.size := (by omega); have hz3 : w.heap.size + 1 < w1.heap.size := (by omega); have hz4 : w.heap.size < w1.heap.size := (by omega); have HB1 : Hid (Below w.heap.size w w1) := HL.out.trans ((hb.mono (by simp; omega)).below (by omega)); have HO : Hid (OwnT w1 (w.heap.size + 3) (.slice a4 n4 c4) m) := ho.mono (by simp); clear hb ho hk)
  refine leaves_cons (f := 74) (args := #[.pointer (some ⟨w.heap.size + 1, 0, none⟩)]) (by simp) (by simp [go_sem]) ?_
  refine (catchA_idle ⟨w.heap.size + 1, 0, none⟩ _).mono ?_
  rintro e u' w'' ⟨rfl, rfl, rfl⟩
  simp [Leaves, settle, results, Try.results41, go_sem, p0, p1, p2, p3, p4, q0, hz3, hz4]
  refine ⟨((((((((HO.out.set (by omega)).set (by omega)).set (by omega)).set (by omega)).set (by omega)).set (by omega)).later (below1 _ _)).mono (by omega)), ?_⟩
  exact (((((((HB1.out.setCell (p := ⟨w.heap.size, 0, none⟩) (Nat.le_refl _) _).setCell (p := ⟨w.heap.size, 1, none⟩) (Nat.le_refl _) _).setCell (p := ⟨w.heap.size, 2, none⟩) (Nat.le_refl _) _).setCell (p := ⟨w.heap.size, 3, none⟩) (Nat.le_refl _) _).setCell (p := ⟨w.heap.size, 4, none⟩) (Nat.le_refl _) _).setCell (p := ⟨w.heap.size + 1, 0, none⟩) (Nat.le_succ _) _).alloc (by simp; omega) _)
set_option maxRecDepth 20000 in
set_option maxHeartbeats 4000000 in
theorem readA_no (v : Value) (l : List Int) (w : World) (h : Bh w v l) (c : Int) (hr : rAtom l = .error c) :
    Calls Try.prog 41 #[v, .func (.func 42) #[] #[]] w fun e w' => e = .returned (.tuple #[At.v ⟨zt, ⟨#[]⟩, []⟩ (.slice none 0 0), .int .i64 c]) ∧ Below w.heap.size w w' := by
  have hmf : ∀ (fn : Fn) (first cap : Array Value) (w : World), (Instr.makeFunc fn first cap).run Try.prog w = .ok (.func fn first cap) w := fun _ _ _ _ => rfl
  have HR : Hid (RdS (((w.alloc (.cells #[.int .i64 0, .int .i64 0, .string ⟨#[]⟩, .string ⟨#[]⟩, .slice none 0 0] 34)).alloc (.cells #[.int .i64 0] 42)).alloc (.cells #[v] 109)) (w.heap.size + 1 + 1) l) := by
    have := h.rd (below2 w (.cells #[.int .i64 0, .int .i64 0, .string ⟨#[]⟩, .string ⟨#[]⟩, .slice none 0 0] 34) (.cells #[.int .i64 0] 42))
    rwa [show ((w.alloc (.cells #[.int .i64 0, .int .i64 0, .string ⟨#[]⟩, .string ⟨#[]⟩, .slice none 0 0] 34)).alloc (.cells #[.int .i64 0] 42)).heap.size = w.heap.size + 1 + 1 by simp] at this
  obtain ⟨-, b, o, cap, rfl, -, -, -, -⟩ := h
  have HO1 : Hid (Blk (((w.alloc (.cells #[.int .i64 0, .int .i64 0, .string ⟨#[]⟩, .string ⟨#[]⟩, .slice none 0 0] 34)).alloc (.cells #[.int .i64 0] 42)).alloc (.cells #[.slice (some ⟨b, o, none⟩) l.length cap] 109)) w.heap.size #[.int .i64 0, .int .i64 0, .string ⟨#[]⟩, .string ⟨#[]⟩, .slice none 0 0] 34) := (Blk.old _ _ _ _).later (below1 _ _)
  have HO2 : Hid (Blk (((w.alloc (.cells #[.int .i64 0, .int .i64 0, .string ⟨#[]⟩, .string ⟨#[]⟩, .slice none 0 0] 34)).alloc (.cells #[.int .i64 0] 42)).alloc (.cells #[.slice (some ⟨b, o, none⟩) l.length cap] 109)) (w.heap.size + 1) #[.int .i64 0] 42) := (Blk.new2 _ _ _ _).later (below1 _ _)
  have HL : Hid (Below w.heap.size w (((w.alloc (.cells #[.int .i64 0, .int .i64 0, .string ⟨#[]⟩, .string ⟨#[]⟩, .slice none 0 0] 34)).alloc (.cells #[.int .i64 0] 42)).alloc (.cells #[.slice (some ⟨b, o, none⟩) l.length cap] 109))) := (below2 _ _ _).alloc (by simp; omega) _
  have HN : Hid (∀ (g : Nat) (X : World), RdS X g l → Calls Try.prog 42 #[.pointer (some ⟨g, 0, none⟩)] X fun e w' => e = .panicked [pE c] ∧ Bv g X.heap.size X w') := fun g X hX => RdP.err (atom8_any g l X hX) hr
  clear hr
  go_enter_defers Try.func41, Try.ntmps41
  go_wp2_with (go_at_call 42; refine (HN.out _ _ HR.out).mono ?_; rintro e w1 ⟨rfl, hb⟩; obtain ⟨p0, p1, p2, p3, p4⟩ := five (HO1.out.bl hb (by omega)); obtain ⟨q0, qf⟩ := (HO2.out.bl hb (by omega)).one; have hz1 : w.heap.size + 3 ≤ w1.heap.size := (by have := hb.size; simp at this; omega); have HB1 : Hid (Below w.heap.size w w1) := HL.out.trans ((hb.mono (by simp; omega)).below (by omega)); clear hb)
  refine leaves_cons (f := 74) (args := #[.pointer (some ⟨w.heap.size + 1, 0, none⟩)]) (by simp) (by simp [go_sem]) ?_
  refine (catchA_panic ⟨w.heap.size + 1, 0, none⟩ 0 c [] _ q0 qf).mono ?_
  rintro e u' w'' ⟨rfl, rfl, rfl⟩
  simp [Leaves, settle, results, Try.results41, go_sem, p0, p1, p2, p3, p4, q0, zt]
  exact HB1.out.setCell (p := ⟨w.heap.size + 1, 0, none⟩) (Nat.le_succ _) _
set_option maxRecDepth 20000 in
set_option maxHeartbeats 4000000 in
theorem readA_tail (v : Value) (l : List Int) (w : World) (h : Bh w v l) (a : At) (r : List Int) (hne : r ≠ []) (hr : rAtom l = .ok (a, r)) :
    Calls Try.prog 41 #[v, .func (.func 42) #[] #[]] w fun e w' => e = .returned (.tuple #[At.v ⟨zt, ⟨#[]⟩, []⟩ (.slice none 0 0), .int .i64 62]) ∧ Below w.heap.size w w' := by
  have hmf : ∀ (fn : Fn) (first cap : Array Value) (w : World), (Instr.makeFunc fn first cap).run Try.prog w = .ok (.func fn first cap) w := fun _ _ _ _ => rfl
  have HR : Hid (RdS (((w.alloc (.cells #[.int .i64 0, .int .i64 0, .string ⟨#[]⟩, .string ⟨#[]⟩, .slice none 0 0] 34)).alloc (.cells #[.int .i64 0] 42)).alloc (.cells #[v] 109)) (w.heap.size + 1 + 1) l) := by
    have := h.rd (below2 w (.cells #[.int .i64 0, .int .i64 0, .string ⟨#[]⟩, .string ⟨#[]⟩, .slice none 0 0] 34) (.cells #[.int .i64 0] 42))
    rwa [show ((w.alloc (.cells #[.int .i64 0, .int .i64 0, .string ⟨#[]⟩, .string ⟨#[]⟩, .slice none 0 0] 34)).alloc (.cells #[.int .i64 0] 42)).heap.size = w.heap.size + 1 + 1 by simp] at this
  obtain ⟨-, b, o, cap, rfl, -, -, -, -⟩ := h
  have HO1 : Hid (Blk (((w.alloc (.cells #[.int .i64 0, .int .i64 0, .string ⟨#[]⟩, .string ⟨#[]⟩, .slice none 0 0] 34)).alloc (.cells #[.int .i64 0] 42)).alloc (.cells #[.slice (some ⟨b, o, none⟩) l.length cap] 109)) w.heap.size #[.int .i64 0, .int .i64 0, .string ⟨#[]⟩, .string ⟨#[]⟩, .slice none 0 0] 34) := (Blk.old _ _ _ _).later (below1 _ _)
  have HO2 : Hid (Blk (((w.alloc (.cells #[.int .i64 0, .int .i64 0, .string ⟨#[]⟩, .string ⟨#[]⟩, .slice none 0 0] 34)).alloc (.cells #[.int .i64 0] 42)).alloc (.cells #[.slice (some ⟨b, o, none⟩) l.length cap] 109)) (w.heap.size + 1) #[.int .i64 0] 42) := (Blk.new2 _ _ _ _).later (below1 _ _)
  have HL : Hid (Below w.heap.size w (((w.alloc (.cells #[.int .i64 0, .int .i64 0, .string ⟨#[]⟩, .string ⟨#[]⟩, .slice none 0 0] 34)).alloc (.cells #[.int .i64 0] 42)).alloc (.cells #[.slice (some ⟨b, o, none⟩) l.length cap] 109))) := (below2 _ _ _).alloc (by simp; omega) _
  have HN : Hid (∀ (g : Nat) (X : World), RdS X g l → Calls Try.prog 42 #[.pointer (some ⟨g, 0, none⟩)] X fun e w' => ∃ v, e = .returned v ∧ (∃ y, v = a.v y ∧ OwnT w' X.heap.size y a.args) ∧ RdS w' g r ∧ Bv g X.heap.size X w') := fun g X hX => RdP.ok (atom8_any g l X hX) hr
  clear hr
  obtain ⟨⟨tk, tn, tt⟩, nm, m⟩ := a
  go_enter_defers Try.func41, Try.ntmps41
  have hlen : (0 : Int) < (r.length : Int) := by have := List.length_pos_iff.2 hne; omega
  go_wp2_with (first
    | (go_at_call 42; refine (HN.out _ _ HR.out).mono ?_; rintro e w1 ⟨v1, rfl, ⟨y, rfl, ho⟩, ⟨-, v2, hk, b2, o2, cap2, rfl, -⟩, hb⟩; obtain ⟨a4, n4, c4, rfl⟩ := ownT_form8 ho; have c0 := bcell1 hk; obtain ⟨p0, p1, p2, p3, p4⟩ := five (HO1.out.bl hb (by omega)); obtain ⟨f0, f1, f2, f3, f4⟩ := ff5 (HO1.out.bl hb (by omega)); obtain ⟨q0, qf⟩ := (HO2.out.bl hb (by omega)).one; have hz1 : w.heap.size + 3 ≤ w1.heap.size := (by have := hb.size; simp at this; omega); have hz2 : w.heap.size + 1 + 1 < w1.heap.size := (by omega); have hz3 : w.heap.size + 1 < w1.heap.size := (by omega); have hz4 : w.heap.size < w1.heap.size := (by omega); have HB1 : Hid (Below w.heap.size w w1) := HL.out.trans ((hb.mono (by simp; omega)).below (by omega)); have HO : Hid (OwnT w1 (w.heap.size + 3) (.slice a4 n4 c4) m) := ho.mono (by simp); clear hb ho hk)
    | (go_at_call 63; refine (giveUp_any 62 _).mono ?_; rintro e w2 ⟨rfl, rfl⟩))
  refine leaves_cons (f := 74) (args := #[.pointer (some ⟨w.heap.size + 1, 0, none⟩)]) (by simp) (by simp [go_sem]) ?_
  refine (catchA_panic ⟨w.heap.size + 1, 0, none⟩ 0 62 [] _ ?_ ?_).mono ?_
  · simp [go_sem, q0, hz3]
  · simp [go_sem, qf, hz3]
  rintro e u' w'' ⟨rfl, rfl, rfl⟩
  simp [Leaves, settle, results, Try.results41, go_sem, p0, p1, p2, p3, p4, q0, hz3, hz4, zt]
  exact (HB1.out.setCell (p := ⟨w.heap.size + 1, 0, none⟩) (Nat.le_succ _) _).alloc (by simp; omega) _
/-- The atom of nothing. -/
def a0 : At := ⟨zt, ⟨#[]⟩, []⟩
/-- What reading an atom leaves. -/
def RA (w : World) (r : Except Int At) (e : Ending) (w' : World) : Prop := Below w.heap.size w w' ∧ ∃ a y c, e = .returned (.tuple #[At.v a y, .int .i64 c]) ∧ OwnT w' w.heap.size y a.args ∧ match r with
  | .ok b => a = b ∧ c = 0
  | .error d => a = a0 ∧ c = d
theorem readA_any (v : Value) (l : List Int) (w : World) (h : Bh w v l) :
    Calls Try.prog 41 #[v, .func (.func 42) #[] #[]] w (RA w (rWhole rAtom l)) := by
  unfold rWhole
  rcases hr : rAtom l with c | ⟨a, r⟩
  · exact (readA_no v l w h c hr).mono (by rintro e w' ⟨rfl, hb⟩; exact ⟨hb, a0, _, c, rfl, ownT_nil _ _, rfl, rfl⟩)
  · by_cases hne : r = []
    · subst hne
      simp only [if_true]
      exact (readA_ok v l w h a hr).mono (by rintro e w' ⟨y, rfl, ho, hb⟩; exact ⟨hb, a, _, 0, rfl, ho, rfl, rfl⟩)
    · simp only [hne, if_false]
      exact (readA_tail v l w h a r hne hr).mono (by rintro e w' ⟨rfl, hb⟩; exact ⟨hb, a0, _, 62, rfl, ownT_nil _ _, rfl, rfl⟩)
theorem Bh.later {w w' : World} {v : Value} {l : List Int} (h : Bh w v l) (hb : Below w.heap.size w w') : Bh w' v l := by
  obtain ⟨hy, b, o, cap, rfl, h0, h1, h2, h3⟩ := h
  exact ⟨hy, b, o, cap, rfl, h0, h1, Nat.lt_of_lt_of_le h2 hb.size, fun i x hx => cell_step hb h2 (h3 i x hx)⟩
set_option maxRecDepth 20000 in
set_option maxHeartbeats 4000000 in
theorem readAtom_any (v : Value) (l : List Int) (w : World) (h : Bh w v l) :
    Calls Try.prog 15 #[v] w (RA w (rWhole rAtom l)) := by
  have HN : Hid (∀ X, Below w.heap.size w X → Calls Try.prog 41 #[v, .func (.func 42) #[] #[]] X (RA X (rWhole rAtom l))) := fun X hX => readA_any v l X (h.later hX)
  obtain ⟨-, b, o, cap, rfl, -, -, -, -⟩ := h
  go_enter Try.func15, Try.ntmps15
  go_wp2_with (go_at_call 41; refine (HN.out _ (below1 _ _)).mono ?_; rintro e w1 ⟨hb, ⟨⟨tk, tn, tt⟩, nm, m⟩, y, c, rfl, ho, hm⟩; obtain ⟨a4, n4, c4, rfl⟩ := ownT_form8 ho; have HM : Hid _ := hm; have HO : Hid (OwnT w1 (w.heap.size + 1) (.slice a4 n4 c4) m) := ho.mono (by simp); obtain ⟨p0, p1, p2, p3, p4⟩ := five ((Blk.new w #[.int .i64 0, .int .i64 0, .string ⟨#[]⟩, .string ⟨#[]⟩, .slice none 0 0] 34).later hb); obtain ⟨f0, f1, f2, f3, f4⟩ := ff5 ((Blk.new w #[.int .i64 0, .int .i64 0, .string ⟨#[]⟩, .string ⟨#[]⟩, .slice none 0 0] 34).later hb); have HB : Hid (Below w.heap.size w w1) := below_step (below1 _ _) hb; clear hb ho hm)
  refine bodyPost_ret (v := .tuple #[At.v ⟨⟨tk, tn, tt⟩, nm, m⟩ (.slice a4 n4 c4), .int .i64 c]) (by simp [results, Try.results15, go_sem, p0, p1, p2, p3, p4]) rfl ⟨?_, _, _, _, rfl, ?_, HM.out⟩
  · exact (((((HB.out.setCell (p := ⟨w.heap.size, 0, none⟩) (Nat.le_refl _) _).setCell (p := ⟨w.heap.size, 1, none⟩) (Nat.le_refl _) _).setCell (p := ⟨w.heap.size, 2, none⟩) (Nat.le_refl _) _).setCell (p := ⟨w.heap.size, 3, none⟩) (Nat.le_refl _) _).setCell (p := ⟨w.heap.size, 4, none⟩) (Nat.le_refl _) _)
  · exact (((((HO.out.set (by omega)).set (by omega)).set (by omega)).set (by omega)).set (by omega)).mono (by omega)
end Go.Proofs.Ytelcoihmiglceaa
