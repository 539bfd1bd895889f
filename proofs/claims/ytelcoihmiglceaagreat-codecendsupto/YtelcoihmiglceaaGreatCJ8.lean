import Derived.Test.YtelcoihmiglceaaGreatCD10
import Derived.Defers
import Derived.Recover
import Derived.Test.YtelcoihmiglceaaGreatCD3
import Derived.Test.YtelcoihmiglceaaGreatCJ7
import Derived.Test.YtelcoihmiglceaaGreatCD1
import Derived.Test.YtelcoihmiglceaaGreatW3
namespace Go.Proofs.YtelcoihmiglceaaGreat
open Go.RowKit

theorem run_assert (w : World) (v : Value) (x : TypeId) : (Instr.typeAssert (.iface 38 v) x 38 false).run Tryz.prog w = .ok v w := by
 simp [Instr.typeAssert, run_underlying Tryz.underlying38]
theorem catchA_panic (p : Addr) (x c : Int) (older : List PanicEntry) (w : World) (hc : w.cell? p = some (.int .i64 x)) (hz : w.frozen? p = false) :
  CallsD Tryz.prog 122 #[.pointer (some p)] (.panicking (pE c :: older)) w fun e u' w' =>
   e = .returned (.tuple #[]) /\ u' = .panicking ({ v := .iface 38 (.int .i64 c), recovered := true } :: older) /\ w' = w.setCell p (.int .i64 c) := by
 refine callsD_of_wpS Tryz.func122 rfl fun c₀ cs hu => ?_
 unfold pE at hu
 apply wpS_seq
 apply wpS_region
 simp [wpOpsS, go_sem, recoverD, hu, Tryz.ntmps122, Exit.thenS]
 have hta := run_assert
 refine wpS_of_wp ?_
 change Code.wp _ _ _ { tmps := #[.pointer (some p), .iface 38 (.int .i64 c), .iface 38 (.int .i64 c), undef, undef, undef, undef], defers := [] } w
 go_wp2
 exact ⟨rfl, _, rfl, _, by simp [results, Tryz.results122], rfl, rfl, rfl⟩
theorem catchA_idle (p : Addr) (w : World) :
  CallsD Tryz.prog 122 #[.pointer (some p)] .returning w fun e u' w' => e = .returned (.tuple #[]) /\ u' = .returning /\ w' = w := by
 refine callsD_of_wpS Tryz.func122 rfl fun c₀ cs hu => ?_
 apply wpS_seq
 apply wpS_region
 simp [wpOpsS, go_sem, recoverD, hu, Tryz.ntmps122, Exit.thenS]
 refine wpS_of_wp ?_
 change Code.wp _ _ _ { tmps := #[.pointer (some p), .nilIface, .nilIface, undef, undef, undef, undef], defers := [] } w
 go_wp2
 exact ⟨rfl, .returning, by rw [<- hu], _, by simp [results, Tryz.results122], rfl, rfl, rfl⟩
def Bh (w : World) (v : Value) (l : List Int) : Prop := byt l /\ ∃ b o cap, v = .slice (some ⟨b, o, none⟩) l.length cap /\ l.length <= cap /\ l.length < 1000000000000000000 /\ b < w.heap.size /\ ∀ (i : Nat) (x : Int), l[i]? = some x -> w.cell? ⟨b, o + i, none⟩ = some (.int .u8 x)
theorem Bh.rd {w : World} {v : Value} {l : List Int} (h : Bh w v l) {X : World} (hb : Below w.heap.size w X) : RdS (X.alloc (.cells #[v] 130)) X.heap.size l := by
 obtain ⟨hy, b, o, cap, rfl, h0, h1, h2, h3⟩ := h
 have hbb := hb.trans (((below1 X (.cells #[.slice (some ⟨b, o, none⟩) l.length cap] 130))).mono hb.size)
 exact ⟨hy, _, Blk.new _ _ _, b, o, cap, rfl, h0, h1, Nat.lt_of_lt_of_le h2 hb.size, Nat.lt_of_lt_of_le h2 hbb.size, fun i x hx => cell_step hbb h2 (h3 i x hx)⟩
theorem bcell1 {w : World} {g : Nat} {v : Value} {t : TypeId} (h : Blk w g #[v] t) : w.cell? ⟨g, 0, none⟩ = some v := h.one.1
set_option maxRecDepth 20000 in
set_option maxHeartbeats 4000000 in
theorem readA_ok (v : Value) (l : List Int) (w : World) (h : Bh w v l) (a : At) (hr : rAtom l = .ok (a, [])) :
  Calls Tryz.prog 86 #[v, .func (.func 87) #[] #[]] w fun e w' => ∃ y, e = .returned (.tuple #[a.v y, .int .i64 0]) /\ OwnT w' w.heap.size y a.args /\ Below w.heap.size w w' := by
 have hmf : ∀ (fn : Fn) (first cap : Array Value) (w : World), (Instr.makeFunc fn first cap).run Tryz.prog w = .ok (.func fn first cap) w := fun _ _ _ _ => rfl
 have HR : Hid (RdS (((w.alloc (.cells #[.int .i64 0, .int .i64 0, .string ⟨#[]⟩, .string ⟨#[]⟩, .slice none 0 0] 26)).alloc (.cells #[.int .i64 0] 38)).alloc (.cells #[v] 130)) (w.heap.size + 1 + 1) l) := by
  have := h.rd (below2 w (.cells #[.int .i64 0, .int .i64 0, .string ⟨#[]⟩, .string ⟨#[]⟩, .slice none 0 0] 26) (.cells #[.int .i64 0] 38))
  rwa [show ((w.alloc (.cells #[.int .i64 0, .int .i64 0, .string ⟨#[]⟩, .string ⟨#[]⟩, .slice none 0 0] 26)).alloc (.cells #[.int .i64 0] 38)).heap.size = w.heap.size + 1 + 1 by simp] at this
 obtain ⟨-, b, o, cap, rfl, -, -, -, -⟩ := h
 have HO1 : Hid (Blk (((w.alloc (.cells #[.int .i64 0, .int .i64 0, .string ⟨#[]⟩, .string ⟨#[]⟩, .slice none 0 0] 26)).alloc (.cells #[.int .i64 0] 38)).alloc (.cells #[.slice (some ⟨b, o, none⟩) l.length cap] 130)) w.heap.size #[.int .i64 0, .int .i64 0, .string ⟨#[]⟩, .string ⟨#[]⟩, .slice none 0 0] 26) := (Blk.old _ _ _ _).later (below1 _ _)
 have HO2 : Hid (Blk (((w.alloc (.cells #[.int .i64 0, .int .i64 0, .string ⟨#[]⟩, .string ⟨#[]⟩, .slice none 0 0] 26)).alloc (.cells #[.int .i64 0] 38)).alloc (.cells #[.slice (some ⟨b, o, none⟩) l.length cap] 130)) (w.heap.size + 1) #[.int .i64 0] 38) := (Blk.new2 _ _ _ _).later (below1 _ _)
 have HL : Hid (Below w.heap.size w (((w.alloc (.cells #[.int .i64 0, .int .i64 0, .string ⟨#[]⟩, .string ⟨#[]⟩, .slice none 0 0] 26)).alloc (.cells #[.int .i64 0] 38)).alloc (.cells #[.slice (some ⟨b, o, none⟩) l.length cap] 130))) := (below2 _ _ _).alloc (by simp; omega) _
 have HN : Hid (∀ (g : Nat) (X : World), RdS X g l -> Calls Tryz.prog 87 #[.pointer (some ⟨g, 0, none⟩)] X fun e w' => ∃ v, e = .returned v /\ (∃ y, v = a.v y /\ OwnT w' X.heap.size y a.args) /\ RdS w' g [] /\ Bv g X.heap.size X w') := fun g X hX => RdP.ok (atom8_any g l X hX) hr
 clear hr
 obtain ⟨⟨tk, tn, tt⟩, nm, m⟩ := a
 go_enter_defers Tryz.func86, Tryz.ntmps86
 go_wp2_with (go_at_call 87; refine (HN.out _ _ HR.out).mono ?_; rintro e w1 ⟨v1, rfl, ⟨y, rfl, ho⟩, ⟨-, v2, hk, b2, o2, cap2, rfl, -⟩, hb⟩; obtain ⟨a4, n4, c4, rfl⟩ := ownT_form8 ho; have c0 := bcell1 hk; obtain ⟨p0, p1, p2, p3, p4⟩ := five (HO1.out.bl hb (by omega)); obtain ⟨f0, f1, f2, f3, f4⟩ := ff5 (HO1.out.bl hb (by omega)); obtain ⟨q0, qf⟩ := (HO2.out.bl hb (by omega)).one; have hz1 : w.heap.size + 3 <= w1.heap.size := (by have := hb.size; simp at this; omega); have hz2 : w.heap.size + 1 + 1 < w1.heap.size := (by omega); have hz3 : w.heap.size + 1 < w1.heap.size := (by omega); have hz4 : w.heap.size < w1.heap.size := (by omega); have HB1 : Hid (Below w.heap.size w w1) := HL.out.trans ((hb.mono (by simp; omega)).below (by omega)); have HO : Hid (OwnT w1 (w.heap.size + 3) (.slice a4 n4 c4) m) := ho.mono (by simp); clear hb ho hk)
 refine leaves_cons (f := 122) (args := #[.pointer (some ⟨w.heap.size + 1, 0, none⟩)]) (by simp) (by simp [go_sem]) ?_
 refine (catchA_idle ⟨w.heap.size + 1, 0, none⟩ _).mono ?_
 rintro e u' w'' ⟨rfl, rfl, rfl⟩
 simp [Leaves, settle, results, Tryz.results86, go_sem, p0, p1, p2, p3, p4, q0, hz3, hz4]
 refine ⟨((((((((HO.out.set (by omega)).set (by omega)).set (by omega)).set (by omega)).set (by omega)).set (by omega)).later (below1 _ _)).mono (by omega)), ?_⟩
 exact (((((((HB1.out.setCell (p := ⟨w.heap.size, 0, none⟩) (Nat.le_refl _) _).setCell (p := ⟨w.heap.size, 1, none⟩) (Nat.le_refl _) _).setCell (p := ⟨w.heap.size, 2, none⟩) (Nat.le_refl _) _).setCell (p := ⟨w.heap.size, 3, none⟩) (Nat.le_refl _) _).setCell (p := ⟨w.heap.size, 4, none⟩) (Nat.le_refl _) _).setCell (p := ⟨w.heap.size + 1, 0, none⟩) (Nat.le_succ _) _).alloc (by simp; omega) _)
set_option maxRecDepth 20000 in
set_option maxHeartbeats 4000000 in
theorem readA_no (v : Value) (l : List Int) (w : World) (h : Bh w v l) (c : Int) (hr : rAtom l = .error c) :
  Calls Tryz.prog 86 #[v, .func (.func 87) #[] #[]] w fun e w' => e = .returned (.tuple #[At.v ⟨zt, ⟨#[]⟩, []⟩ (.slice none 0 0), .int .i64 c]) /\ Below w.heap.size w w' := by
 have hmf : ∀ (fn : Fn) (first cap : Array Value) (w : World), (Instr.makeFunc fn first cap).run Tryz.prog w = .ok (.func fn first cap) w := fun _ _ _ _ => rfl
 have HR : Hid (RdS (((w.alloc (.cells #[.int .i64 0, .int .i64 0, .string ⟨#[]⟩, .string ⟨#[]⟩, .slice none 0 0] 26)).alloc (.cells #[.int .i64 0] 38)).alloc (.cells #[v] 130)) (w.heap.size + 1 + 1) l) := by
  have := h.rd (below2 w (.cells #[.int .i64 0, .int .i64 0, .string ⟨#[]⟩, .string ⟨#[]⟩, .slice none 0 0] 26) (.cells #[.int .i64 0] 38))
  rwa [show ((w.alloc (.cells #[.int .i64 0, .int .i64 0, .string ⟨#[]⟩, .string ⟨#[]⟩, .slice none 0 0] 26)).alloc (.cells #[.int .i64 0] 38)).heap.size = w.heap.size + 1 + 1 by simp] at this
 obtain ⟨-, b, o, cap, rfl, -, -, -, -⟩ := h
 have HO1 : Hid (Blk (((w.alloc (.cells #[.int .i64 0, .int .i64 0, .string ⟨#[]⟩, .string ⟨#[]⟩, .slice none 0 0] 26)).alloc (.cells #[.int .i64 0] 38)).alloc (.cells #[.slice (some ⟨b, o, none⟩) l.length cap] 130)) w.heap.size #[.int .i64 0, .int .i64 0, .string ⟨#[]⟩, .string ⟨#[]⟩, .slice none 0 0] 26) := (Blk.old _ _ _ _).later (below1 _ _)
 have HO2 : Hid (Blk (((w.alloc (.cells #[.int .i64 0, .int .i64 0, .string ⟨#[]⟩, .string ⟨#[]⟩, .slice none 0 0] 26)).alloc (.cells #[.int .i64 0] 38)).alloc (.cells #[.slice (some ⟨b, o, none⟩) l.length cap] 130)) (w.heap.size + 1) #[.int .i64 0] 38) := (Blk.new2 _ _ _ _).later (below1 _ _)
 have HL : Hid (Below w.heap.size w (((w.alloc (.cells #[.int .i64 0, .int .i64 0, .string ⟨#[]⟩, .string ⟨#[]⟩, .slice none 0 0] 26)).alloc (.cells #[.int .i64 0] 38)).alloc (.cells #[.slice (some ⟨b, o, none⟩) l.length cap] 130))) := (below2 _ _ _).alloc (by simp; omega) _
 have HN : Hid (∀ (g : Nat) (X : World), RdS X g l -> Calls Tryz.prog 87 #[.pointer (some ⟨g, 0, none⟩)] X fun e w' => e = .panicked [pE c] /\ Bv g X.heap.size X w') := fun g X hX => RdP.err (atom8_any g l X hX) hr
 clear hr
 go_enter_defers Tryz.func86, Tryz.ntmps86
 go_wp2_with (go_at_call 87; refine (HN.out _ _ HR.out).mono ?_; rintro e w1 ⟨rfl, hb⟩; obtain ⟨p0, p1, p2, p3, p4⟩ := five (HO1.out.bl hb (by omega)); obtain ⟨q0, qf⟩ := (HO2.out.bl hb (by omega)).one; have hz1 : w.heap.size + 3 <= w1.heap.size := (by have := hb.size; simp at this; omega); have HB1 : Hid (Below w.heap.size w w1) := HL.out.trans ((hb.mono (by simp; omega)).below (by omega)); clear hb)
 refine leaves_cons (f := 122) (args := #[.pointer (some ⟨w.heap.size + 1, 0, none⟩)]) (by simp) (by simp [go_sem]) ?_
 refine (catchA_panic ⟨w.heap.size + 1, 0, none⟩ 0 c [] _ q0 qf).mono ?_
 rintro e u' w'' ⟨rfl, rfl, rfl⟩
 simp [Leaves, settle, results, Tryz.results86, go_sem, p0, p1, p2, p3, p4, q0, zt]
 exact HB1.out.setCell (p := ⟨w.heap.size + 1, 0, none⟩) (Nat.le_succ _) _
set_option maxRecDepth 20000 in
set_option maxHeartbeats 4000000 in
theorem readA_tail (v : Value) (l : List Int) (w : World) (h : Bh w v l) (a : At) (r : List Int) (hne : r ≠ []) (hr : rAtom l = .ok (a, r)) :
  Calls Tryz.prog 86 #[v, .func (.func 87) #[] #[]] w fun e w' => e = .returned (.tuple #[At.v ⟨zt, ⟨#[]⟩, []⟩ (.slice none 0 0), .int .i64 62]) /\ Below w.heap.size w w' := by
 have hmf : ∀ (fn : Fn) (first cap : Array Value) (w : World), (Instr.makeFunc fn first cap).run Tryz.prog w = .ok (.func fn first cap) w := fun _ _ _ _ => rfl
 have HR : Hid (RdS (((w.alloc (.cells #[.int .i64 0, .int .i64 0, .string ⟨#[]⟩, .string ⟨#[]⟩, .slice none 0 0] 26)).alloc (.cells #[.int .i64 0] 38)).alloc (.cells #[v] 130)) (w.heap.size + 1 + 1) l) := by
  have := h.rd (below2 w (.cells #[.int .i64 0, .int .i64 0, .string ⟨#[]⟩, .string ⟨#[]⟩, .slice none 0 0] 26) (.cells #[.int .i64 0] 38))
  rwa [show ((w.alloc (.cells #[.int .i64 0, .int .i64 0, .string ⟨#[]⟩, .string ⟨#[]⟩, .slice none 0 0] 26)).alloc (.cells #[.int .i64 0] 38)).heap.size = w.heap.size + 1 + 1 by simp] at this
 obtain ⟨-, b, o, cap, rfl, -, -, -, -⟩ := h
 have HO1 : Hid (Blk (((w.alloc (.cells #[.int .i64 0, .int .i64 0, .string ⟨#[]⟩, .string ⟨#[]⟩, .slice none 0 0] 26)).alloc (.cells #[.int .i64 0] 38)).alloc (.cells #[.slice (some ⟨b, o, none⟩) l.length cap] 130)) w.heap.size #[.int .i64 0, .int .i64 0, .string ⟨#[]⟩, .string ⟨#[]⟩, .slice none 0 0] 26) := (Blk.old _ _ _ _).later (below1 _ _)
 have HO2 : Hid (Blk (((w.alloc (.cells #[.int .i64 0, .int .i64 0, .string ⟨#[]⟩, .string ⟨#[]⟩, .slice none 0 0] 26)).alloc (.cells #[.int .i64 0] 38)).alloc (.cells #[.slice (some ⟨b, o, none⟩) l.length cap] 130)) (w.heap.size + 1) #[.int .i64 0] 38) := (Blk.new2 _ _ _ _).later (below1 _ _)
 have HL : Hid (Below w.heap.size w (((w.alloc (.cells #[.int .i64 0, .int .i64 0, .string ⟨#[]⟩, .string ⟨#[]⟩, .slice none 0 0] 26)).alloc (.cells #[.int .i64 0] 38)).alloc (.cells #[.slice (some ⟨b, o, none⟩) l.length cap] 130))) := (below2 _ _ _).alloc (by simp; omega) _
 have HN : Hid (∀ (g : Nat) (X : World), RdS X g l -> Calls Tryz.prog 87 #[.pointer (some ⟨g, 0, none⟩)] X fun e w' => ∃ v, e = .returned v /\ (∃ y, v = a.v y /\ OwnT w' X.heap.size y a.args) /\ RdS w' g r /\ Bv g X.heap.size X w') := fun g X hX => RdP.ok (atom8_any g l X hX) hr
 clear hr
 obtain ⟨⟨tk, tn, tt⟩, nm, m⟩ := a
 go_enter_defers Tryz.func86, Tryz.ntmps86
 have hlen : (0 : Int) < (r.length : Int) := by have := List.length_pos_iff.2 hne; omega
 go_wp2_with (first
  | (go_at_call 87; refine (HN.out _ _ HR.out).mono ?_; rintro e w1 ⟨v1, rfl, ⟨y, rfl, ho⟩, ⟨-, v2, hk, b2, o2, cap2, rfl, -⟩, hb⟩; obtain ⟨a4, n4, c4, rfl⟩ := ownT_form8 ho; have c0 := bcell1 hk; obtain ⟨p0, p1, p2, p3, p4⟩ := five (HO1.out.bl hb (by omega)); obtain ⟨f0, f1, f2, f3, f4⟩ := ff5 (HO1.out.bl hb (by omega)); obtain ⟨q0, qf⟩ := (HO2.out.bl hb (by omega)).one; have hz1 : w.heap.size + 3 <= w1.heap.size := (by have := hb.size; simp at this; omega); have hz2 : w.heap.size + 1 + 1 < w1.heap.size := (by omega); have hz3 : w.heap.size + 1 < w1.heap.size := (by omega); have hz4 : w.heap.size < w1.heap.size := (by omega); have HB1 : Hid (Below w.heap.size w w1) := HL.out.trans ((hb.mono (by simp; omega)).below (by omega)); have HO : Hid (OwnT w1 (w.heap.size + 3) (.slice a4 n4 c4) m) := ho.mono (by simp); clear hb ho hk)
  | (go_at_call 91; refine (giveUp_any 62 _).mono ?_; rintro e w2 ⟨rfl, rfl⟩))
 refine leaves_cons (f := 122) (args := #[.pointer (some ⟨w.heap.size + 1, 0, none⟩)]) (by simp) (by simp [go_sem]) ?_
 refine (catchA_panic ⟨w.heap.size + 1, 0, none⟩ 0 62 [] _ ?_ ?_).mono ?_
 ·simp [go_sem, q0, hz3]
 ·simp [go_sem, qf, hz3]
 rintro e u' w'' ⟨rfl, rfl, rfl⟩
 simp [Leaves, settle, results, Tryz.results86, go_sem, p0, p1, p2, p3, p4, q0, hz3, hz4, zt]
 exact (HB1.out.setCell (p := ⟨w.heap.size + 1, 0, none⟩) (Nat.le_succ _) _).alloc (by simp; omega) _
def a0 : At := ⟨zt, ⟨#[]⟩, []⟩
def RA (w : World) (r : Except Int At) (e : Ending) (w' : World) : Prop := Below w.heap.size w w' /\ ∃ a y c, e = .returned (.tuple #[At.v a y, .int .i64 c]) /\ OwnT w' w.heap.size y a.args /\ match r with
 | .ok b => a = b /\ c = 0
 | .error d => a = a0 /\ c = d
theorem readA_any (v : Value) (l : List Int) (w : World) (h : Bh w v l) :
  Calls Tryz.prog 86 #[v, .func (.func 87) #[] #[]] w (RA w (rWhole rAtom l)) := by
 unfold rWhole
 rcases hr : rAtom l with c | ⟨a, r⟩
 ·exact (readA_no v l w h c hr).mono (by rintro e w' ⟨rfl, hb⟩; exact ⟨hb, a0, _, c, rfl, ownT_nil _ _, rfl, rfl⟩)
 ·by_cases hne : r = []
  ·subst hne
   simp only [if_true]
   exact (readA_ok v l w h a hr).mono (by rintro e w' ⟨y, rfl, ho, hb⟩; exact ⟨hb, a, _, 0, rfl, ho, rfl, rfl⟩)
  ·simp only [hne, if_false]
   exact (readA_tail v l w h a r hne hr).mono (by rintro e w' ⟨rfl, hb⟩; exact ⟨hb, a0, _, 62, rfl, ownT_nil _ _, rfl, rfl⟩)
theorem Bh.later {w w' : World} {v : Value} {l : List Int} (h : Bh w v l) (hb : Below w.heap.size w w') : Bh w' v l := by
 obtain ⟨hy, b, o, cap, rfl, h0, h1, h2, h3⟩ := h
 exact ⟨hy, b, o, cap, rfl, h0, h1, Nat.lt_of_lt_of_le h2 hb.size, fun i x hx => cell_step hb h2 (h3 i x hx)⟩
set_option maxRecDepth 20000 in
set_option maxHeartbeats 4000000 in
theorem readAtom_any (v : Value) (l : List Int) (w : World) (h : Bh w v l) :
  Calls Tryz.prog 48 #[v] w (RA w (rWhole rAtom l)) := by
 have HN : Hid (∀ X, Below w.heap.size w X -> Calls Tryz.prog 86 #[v, .func (.func 87) #[] #[]] X (RA X (rWhole rAtom l))) := fun X hX => readA_any v l X (h.later hX)
 obtain ⟨-, b, o, cap, rfl, -, -, -, -⟩ := h
 go_enter Tryz.func48, Tryz.ntmps48
 go_wp2_with (go_at_call 86; refine (HN.out _ (below1 _ _)).mono ?_; rintro e w1 ⟨hb, ⟨⟨tk, tn, tt⟩, nm, m⟩, y, c, rfl, ho, hm⟩; obtain ⟨a4, n4, c4, rfl⟩ := ownT_form8 ho; have HM : Hid _ := hm; have HO : Hid (OwnT w1 (w.heap.size + 1) (.slice a4 n4 c4) m) := ho.mono (by simp); obtain ⟨p0, p1, p2, p3, p4⟩ := five ((Blk.new w #[.int .i64 0, .int .i64 0, .string ⟨#[]⟩, .string ⟨#[]⟩, .slice none 0 0] 26).later hb); obtain ⟨f0, f1, f2, f3, f4⟩ := ff5 ((Blk.new w #[.int .i64 0, .int .i64 0, .string ⟨#[]⟩, .string ⟨#[]⟩, .slice none 0 0] 26).later hb); have HB : Hid (Below w.heap.size w w1) := below_step (below1 _ _) hb; clear hb ho hm)
 refine bodyPost_ret (v := .tuple #[At.v ⟨⟨tk, tn, tt⟩, nm, m⟩ (.slice a4 n4 c4), .int .i64 c]) (by simp [results, Tryz.results48, go_sem, p0, p1, p2, p3, p4]) rfl ⟨?_, _, _, _, rfl, ?_, HM.out⟩
 ·exact (((((HB.out.setCell (p := ⟨w.heap.size, 0, none⟩) (Nat.le_refl _) _).setCell (p := ⟨w.heap.size, 1, none⟩) (Nat.le_refl _) _).setCell (p := ⟨w.heap.size, 2, none⟩) (Nat.le_refl _) _).setCell (p := ⟨w.heap.size, 3, none⟩) (Nat.le_refl _) _).setCell (p := ⟨w.heap.size, 4, none⟩) (Nat.le_refl _) _)
 ·exact (((((HO.out.set (by omega)).set (by omega)).set (by omega)).set (by omega)).set (by omega)).mono (by omega)
end Go.Proofs.YtelcoihmiglceaaGreat
namespace Go.Proofs.YtelcoihmiglceaaGreat
open Go.RowKit

def Br (w : World) (v : Value) (B : List Int) : Prop := byt B /\ ∃ a cap, v = .slice a B.length cap /\ B.length <= cap /\ B.length < 1000000000000000000 /\ (a = none -> cap = 0) /\ (B = [] ∨ ∃ b o, a = some ⟨b, o, none⟩ /\ b < w.heap.size /\ ∀ (i : Nat) (x : Int), B[i]? = some x -> w.cell? ⟨b, o + i, none⟩ = some (.int .u8 x))
theorem Br.later {w w' : World} {v : Value} {B : List Int} (h : Br w v B) (hb : Below w.heap.size w w') : Br w' v B := by
 obtain ⟨hy, a, cap, rfl, h0, h1, hn, h⟩ := h
 refine ⟨hy, a, cap, rfl, h0, h1, hn, h.imp id ?_⟩
 rintro ⟨b, o, rfl, h2, h3⟩
 exact ⟨b, o, rfl, Nat.lt_of_lt_of_le h2 hb.size, fun i x hx => cell_step hb h2 (h3 i x hx)⟩
theorem app8r {ops : Array Oper} {rest : List Oper} {o : Oper} {a : Act} {Q : Exit -> Act -> World -> Prop} {w : World} (hgd : o.guard = none) (s x : Operand)
  (ho : o.op = .call { callee := .builtin .append, args := #[s, x], argTypes := #[37, 37] }) (base : Nat) (v : Value) (l : List Int) (hs : a.eval s = v) (hown : OwnB w base v l)
  (y : Value) (B : List Int) (hx : a.eval x = y) (hy : Br w y B) (hlen : l.length + B.length <= 1000000000000) (hbase : base <= w.heap.size)
  (h : ∀ v' w', Wr w base (l ++ B) v' w' -> wpList Tryz.prog ops Q rest (a.put o.dst v') w') : wpList Tryz.prog ops Q (o :: rest) a w := by
 obtain ⟨i, z, hi, hz0, hz1, hz2, hz3⟩ := infoU8_parts
 obtain ⟨hb, ad, cap, rfl, h0, h1, hn, hc⟩ := hy
 cases ad with
 | none =>
  have hcap := hn rfl
  subst hcap
  have hB : B = [] := List.eq_nil_of_length_eq_zero (by omega)
  subst hB
  refine wpList_append_own_none hgd s x 37 ho base 5 i 1 Tryz.underlying37 hi v l.length (ibs l) hs hown hx ?_
  exact h v w ⟨by rw [List.append_nil]; exact hown, Below.refl _ _, K8.refl _⟩
 | some ad =>
  refine wpList_append_own _ hgd s x 37 ho base 5 i z 1 1 Tryz.underlying37 hi hz0 hz1 hz2 hz3 (by omega) v l.length (ibs l) hs hown ad B.length cap (ibs B) hx (by simp [ibs]) ?_ (by simp [ibs, Value.oneCell']) (by unfold maxLen; omega) (by omega) hbase ?_
  ·intro j u hj
   rcases hc with rfl | ⟨b, o', e, -, hc⟩
   ·simp [ibs] at hj
   ·cases e
    simp only [ibs, List.getElem?_map, Option.map_eq_some_iff] at hj
    obtain ⟨x, hx, rfl⟩ := hj
    rw [Addr.add_mid]; exact hc j x hx
  ·intro v' w' h1 h2 _
   refine h v' w' ⟨?_, grown_below h2 (fun k hk => (World.ownsRow.lt hown k hk).1) hbase, hown.k8 h2⟩
   unfold OwnB
   rw [List.length_append, show ibs (l ++ B) = ibs l ++ ibs B by simp [ibs]]
   exact h1
def LentB (X : World) (base : Nat) (v : Value) (B : List Int) : Prop := ∃ g cap, v = .slice (some ⟨g, 0, none⟩) B.length cap /\ B.length + 3 <= cap /\ OwnB X base (.slice (some ⟨g, 0, none⟩) (B.length + 3) cap) (B ++ [91, 92, 93])
theorem LentB.cells {X : World} {base g cap : Nat} {B : List Int} (h : OwnB X base (.slice (some ⟨g, 0, none⟩) (B.length + 3) cap) (B ++ [91, 92, 93])) : g < X.heap.size /\ ∀ (i : Nat) (x : Int), (B ++ [91, 92, 93])[i]? = some x -> X.cell? ⟨g, i, none⟩ = some (.int .u8 x) := by
 refine ⟨(World.ownsRow.lt h g rfl).2, fun i x hx => ?_⟩
 have := World.ownsRow.cells h (g := g) rfl i (.int .u8 x) (by simp only [ibs, List.getElem?_map, hx, Option.map_some])
 rw [Addr.add_mid, Nat.zero_add] at this
 exact this
theorem LentB.bh {X : World} {base : Nat} {v : Value} {B : List Int} (h : LentB X base v B) (hy : byt B) (hl : B.length < 1000000000000000000) : Bh X v B := by
 obtain ⟨g, cap, rfl, h1, h2⟩ := h
 obtain ⟨h3, h4⟩ := LentB.cells h2
 refine ⟨hy, g, 0, cap, rfl, by omega, hl, h3, fun i x hx => ?_⟩
 rw [Nat.zero_add]
 exact h4 i x (by rw [List.getElem?_append_left (List.getElem?_eq_some_iff.1 hx).1]; exact hx)
theorem ownB_some {w : World} {base : Nat} {v : Value} {l : List Int} (h : OwnB w base v l) (hl : 0 < l.length) : ∃ g cap, v = .slice (some ⟨g, 0, none⟩) l.length cap /\ l.length <= cap := by
 rcases h.2 with ⟨-, hn⟩ | ⟨g, cap, cur, hv, -, -, hn, -⟩
 ·omega
 ·exact ⟨g, cap, hv, hn⟩
theorem ownB_form {w : World} {base : Nat} {v : Value} {l : List Int} (h : OwnB w base v l) : ∃ a n cap, v = .slice a n cap := by
 rcases h.2 with ⟨hv, -⟩ | ⟨g, cap, cur, hv, -⟩
 ·exact ⟨_, _, _, hv⟩
 ·exact ⟨_, _, _, hv⟩
set_option maxRecDepth 20000 in
set_option maxHeartbeats 2000000 in
theorem lendB_any (v : Value) (B : List Int) (w : World) (h : Br w v B) (hl : B.length <= 400000000000) :
  Calls Tryz.prog 19 #[v] w fun e w' => ∃ u, e = .returned u /\ LentB w' w.heap.size u B /\ Below w.heap.size w w' := by
 have HB : Hid (Br w v B) := h
 obtain ⟨a, cap, rfl⟩ : ∃ a cap, v = .slice a B.length cap := by obtain ⟨-, a, cap, e, -⟩ := h; exact ⟨a, cap, e⟩
 have z0 : (0 : Int) <= (B.length : Int) := by omega
 clear h
 go_enter Tryz.func19, Tryz.ntmps19
 go_wp2_with (first
  | (at_builtin; refine app8r rfl _ _ rfl w.heap.size (.slice none 0 0) [] (by rfl) (ownB_nil _ _) _ B (by rfl) HB.out (by simp; omega) (Nat.le_refl _) ?_; intro v1 w1 hw1; rw [List.nil_append] at hw1; have HW1 : Hid (Wr w w.heap.size B v1 w1) := hw1; have hz1 := hw1.low.size; obtain ⟨a1, n1, c1, rfl⟩ := ownB_form hw1.own; clear hw1)
  | (at_builtin; refine app8 rfl _ _ rfl w.heap.size _ B rfl (HW1.out.own.later (below1 _ _)) w1.heap.size [91, 92, 93] rfl (heap_alloc_new w1 _) (by simp) (by simp only [List.length_cons, List.length_nil]; omega) (by simp; omega) ?_; intro v2 w2 hw2; have HW2 : Hid (Wr w w.heap.size (B ++ [91, 92, 93]) v2 w2) := HW1.out.step (Wr.ahead (below1 _ _) hz1 hw2); obtain ⟨g2, c2, rfl, hc2⟩ := ownB_some hw2.own (by simp); rw [show (B ++ [(91 : Int), 92, 93]).length = B.length + 3 by simp] at HW2 hc2 ⊢; have hc3 : (B.length : Int) <= (c2 : Int) := (by omega); clear hw2))
 go_ret
 exact ⟨_, rfl, ⟨g2, c2, rfl, hc2, HW2.out.own⟩, HW2.out.low⟩
end Go.Proofs.YtelcoihmiglceaaGreat
namespace Go.Proofs.YtelcoihmiglceaaGreat
open Go.RowKit

theorem Bn.br {w : World} {v : Value} {l : List Int} (h : Bn w v l) (hb : byt l) (hl : l ≠ []) : Br w v l := by
 obtain ⟨a, cap, rfl, h0, h1, h⟩ := h
 rcases h with h | ⟨b, o, rfl, h2, h3⟩
 ·exact absurd h hl
 ·exact ⟨hb, _, cap, rfl, h0, h1, (fun h => by cases h), Or.inr ⟨b, o, rfl, h2, h3⟩⟩
end Go.Proofs.YtelcoihmiglceaaGreat
