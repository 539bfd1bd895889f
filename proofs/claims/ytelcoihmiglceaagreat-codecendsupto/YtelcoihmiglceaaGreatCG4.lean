import Derived.Test.YtelcoihmiglceaaGreatCG3
import Derived.Test.YtelcoihmiglceaaGreatCJ8
namespace Go.Proofs.YtelcoihmiglceaaGreat
open Go.RowKit

theorem catchC_panic (p : Addr) (x c : Int) (older : List PanicEntry) (w : World) (hc : w.cell? p = some (.int .i64 x)) (hz : w.frozen? p = false) :
  CallsD Tryz.prog 128 #[.pointer (some p)] (.panicking (pE c :: older)) w fun e u' w' =>
   e = .returned (.tuple #[]) /\ u' = .panicking ({ v := .iface 38 (.int .i64 c), recovered := true } :: older) /\ w' = w.setCell p (.int .i64 c) := by
 refine callsD_of_wpS Tryz.func128 rfl fun c₀ cs hu => ?_
 unfold pE at hu
 apply wpS_seq
 apply wpS_region
 simp [wpOpsS, go_sem, recoverD, hu, Tryz.ntmps128, Exit.thenS]
 have hta := run_assert
 refine wpS_of_wp ?_
 change Code.wp _ _ _ { tmps := #[.pointer (some p), .iface 38 (.int .i64 c), .iface 38 (.int .i64 c), undef, undef, undef, undef], defers := [] } w
 go_wp2
 exact ⟨rfl, _, rfl, _, by simp [results, Tryz.results128], rfl, rfl, rfl⟩
theorem catchC_idle (p : Addr) (w : World) :
  CallsD Tryz.prog 128 #[.pointer (some p)] .returning w fun e u' w' => e = .returned (.tuple #[]) /\ u' = .returning /\ w' = w := by
 refine callsD_of_wpS Tryz.func128 rfl fun c₀ cs hu => ?_
 apply wpS_seq
 apply wpS_region
 simp [wpOpsS, go_sem, recoverD, hu, Tryz.ntmps128, Exit.thenS]
 refine wpS_of_wp ?_
 change Code.wp _ _ _ { tmps := #[.pointer (some p), .nilIface, .nilIface, undef, undef, undef, undef], defers := [] } w
 go_wp2
 exact ⟨rfl, .returning, by rw [<- hu], _, by simp [results, Tryz.results128], rfl, rfl, rfl⟩
set_option maxRecDepth 20000 in
set_option maxHeartbeats 4000000 in
theorem readC_ok (v : Value) (l : List Int) (w : World) (h : Bh w v l) (x : Ck) (hr : rClause l = .ok (x, [])) :
  Calls Tryz.prog 88 #[v, .func (.func 89) #[] #[]] w fun e w' => ∃ c : Cm, e = .returned (.tuple #[c.v, .int .i64 0]) /\ c.key = x /\ GC x /\ MC8 w.heap.size w' c /\ Below w.heap.size w w' := by
 have hmf : ∀ (fn : Fn) (first cap : Array Value) (w : World), (Instr.makeFunc fn first cap).run Tryz.prog w = .ok (.func fn first cap) w := fun _ _ _ _ => rfl
 have HR : Hid (RdS (((w.alloc (.cells #[.int .i64 0, .int .i64 0, .string ⟨#[]⟩, .string ⟨#[]⟩, .slice none 0 0, .slice none 0 0, .slice none 0 0] 30)).alloc (.cells #[.int .i64 0] 38)).alloc (.cells #[v] 130)) (w.heap.size + 1 + 1) l) := by
  have := h.rd (below2 w (.cells #[.int .i64 0, .int .i64 0, .string ⟨#[]⟩, .string ⟨#[]⟩, .slice none 0 0, .slice none 0 0, .slice none 0 0] 30) (.cells #[.int .i64 0] 38))
  rwa [show ((w.alloc (.cells #[.int .i64 0, .int .i64 0, .string ⟨#[]⟩, .string ⟨#[]⟩, .slice none 0 0, .slice none 0 0, .slice none 0 0] 30)).alloc (.cells #[.int .i64 0] 38)).heap.size = w.heap.size + 1 + 1 by simp] at this
 obtain ⟨-, b, o, cap, rfl, -, -, -, -⟩ := h
 have HO1 : Hid (Blk (((w.alloc (.cells #[.int .i64 0, .int .i64 0, .string ⟨#[]⟩, .string ⟨#[]⟩, .slice none 0 0, .slice none 0 0, .slice none 0 0] 30)).alloc (.cells #[.int .i64 0] 38)).alloc (.cells #[.slice (some ⟨b, o, none⟩) l.length cap] 130)) w.heap.size #[.int .i64 0, .int .i64 0, .string ⟨#[]⟩, .string ⟨#[]⟩, .slice none 0 0, .slice none 0 0, .slice none 0 0] 30) := (Blk.old _ _ _ _).later (below1 _ _)
 have HO2 : Hid (Blk (((w.alloc (.cells #[.int .i64 0, .int .i64 0, .string ⟨#[]⟩, .string ⟨#[]⟩, .slice none 0 0, .slice none 0 0, .slice none 0 0] 30)).alloc (.cells #[.int .i64 0] 38)).alloc (.cells #[.slice (some ⟨b, o, none⟩) l.length cap] 130)) (w.heap.size + 1) #[.int .i64 0] 38) := (Blk.new2 _ _ _ _).later (below1 _ _)
 have HL : Hid (Below w.heap.size w (((w.alloc (.cells #[.int .i64 0, .int .i64 0, .string ⟨#[]⟩, .string ⟨#[]⟩, .slice none 0 0, .slice none 0 0, .slice none 0 0] 30)).alloc (.cells #[.int .i64 0] 38)).alloc (.cells #[.slice (some ⟨b, o, none⟩) l.length cap] 130))) := (below2 _ _ _).alloc (by simp; omega) _
 have HN : Hid (∀ (g : Nat) (X : World), RdS X g l -> Calls Tryz.prog 89 #[.pointer (some ⟨g, 0, none⟩)] X fun e w' => ∃ v, e = .returned v /\ (∃ c : Cm, v = c.v /\ c.key = x /\ GC x /\ MC8 X.heap.size w' c) /\ RdS w' g [] /\ Bv g X.heap.size X w') := fun g X hX => RdP.ok (clause8_any g l X hX) hr
 clear hr
 go_enter_defers Tryz.func88, Tryz.ntmps88
 go_wp2_with (go_at_call 89; refine (HN.out _ _ HR.out).mono ?_; rintro e w1 ⟨v1, rfl, ⟨⟨⟨⟨⟨tk, tn, tt⟩, nm, m⟩, hv⟩, bo, bv, es, tv⟩, rfl, hkey, hgc, ho⟩, ⟨-, v2, hk, b2, o2, cap2, rfl, -⟩, hb⟩; obtain ⟨a4, n4, c4, hv'⟩ := ownT_form8 ho.h; obtain ⟨a5, c5, hb'⟩ := OwnA.form ho.b.1; obtain ⟨a6, c6, ht'⟩ := OwnE.form ho.t; simp only at hv' hb' ht'; subst hv' hb' ht'; have c0 := bcell1 hk; obtain ⟨p0, p1, p2, p3, p4, p5, p6⟩ := cseven (HO1.out.bl hb (by omega)); obtain ⟨f0, f1, f2, f3, f4, f5, f6⟩ := ff7 (HO1.out.bl hb (by omega)); obtain ⟨q0, qf⟩ := (HO2.out.bl hb (by omega)).one; have hz1 : w.heap.size + 3 <= w1.heap.size := (by have := hb.size; simp at this; omega); have hz2 : w.heap.size + 1 + 1 < w1.heap.size := (by omega); have hz3 : w.heap.size + 1 < w1.heap.size := (by omega); have hz4 : w.heap.size < w1.heap.size := (by omega); have HB1 : Hid (Below w.heap.size w w1) := HL.out.trans ((hb.mono (by simp; omega)).below (by omega)); have HO : Hid (MC8 (w.heap.size + 3) w1 (⟨(⟨⟨tk, tn, tt⟩, nm, m⟩, .slice a4 n4 c4), bo, .slice a5 bo.length c5, es, .slice a6 es.length c6⟩ : Cm)) := ho.mono (by simp); have HKY : Hid (Cm.key (⟨(⟨⟨tk, tn, tt⟩, nm, m⟩, .slice a4 n4 c4), bo, .slice a5 bo.length c5, es, .slice a6 es.length c6⟩ : Cm) = x /\ GC x) := ⟨hkey, hgc⟩; clear hb ho hk hkey hgc)
 refine leaves_cons (f := 128) (args := #[.pointer (some ⟨w.heap.size + 1, 0, none⟩)]) (by simp) (by simp [go_sem]) ?_
 refine (catchC_idle ⟨w.heap.size + 1, 0, none⟩ _).mono ?_
 rintro e u' w'' ⟨rfl, rfl, rfl⟩
 simp only [Leaves, settle]
 refine ⟨_, ?_, (⟨(⟨⟨tk, tn, tt⟩, nm, m⟩, .slice a4 n4 c4), bo, .slice a5 bo.length c5, es, .slice a6 es.length c6⟩ : Cm), rfl, HKY.out.1, HKY.out.2, (((((((((HO.out.set (by omega)).set (by omega)).set (by omega)).set (by omega)).set (by omega)).set (by omega)).set (by omega)).set (by omega)).later (below1 _ _)).mono (by omega), (((((((((HB1.out.setCell (p := ⟨w.heap.size, 0, none⟩) (Nat.le_refl _) _).setCell (p := ⟨w.heap.size, 1, none⟩) (Nat.le_refl _) _).setCell (p := ⟨w.heap.size, 2, none⟩) (Nat.le_refl _) _).setCell (p := ⟨w.heap.size, 3, none⟩) (Nat.le_refl _) _).setCell (p := ⟨w.heap.size, 4, none⟩) (Nat.le_refl _) _).setCell (p := ⟨w.heap.size, 5, none⟩) (Nat.le_refl _) _).setCell (p := ⟨w.heap.size, 6, none⟩) (Nat.le_refl _) _).setCell (p := ⟨w.heap.size + 1, 0, none⟩) (Nat.le_succ _) _).alloc (by simp; omega) _)⟩
 simp [results, Tryz.results88, go_sem, p0, p1, p2, p3, p4, p5, p6, q0, hz3, hz4]
set_option maxRecDepth 20000 in
set_option maxHeartbeats 4000000 in
theorem readC_no (v : Value) (l : List Int) (w : World) (h : Bh w v l) (c : Int) (hr : rClause l = .error c) :
  Calls Tryz.prog 88 #[v, .func (.func 89) #[] #[]] w fun e w' => e = .returned (.tuple #[.agg #[.int .i64 0, .int .i64 0, .string ⟨#[]⟩, .string ⟨#[]⟩, .slice none 0 0, .slice none 0 0, .slice none 0 0], .int .i64 c]) /\ Below w.heap.size w w' := by
 have hmf : ∀ (fn : Fn) (first cap : Array Value) (w : World), (Instr.makeFunc fn first cap).run Tryz.prog w = .ok (.func fn first cap) w := fun _ _ _ _ => rfl
 have HR : Hid (RdS (((w.alloc (.cells #[.int .i64 0, .int .i64 0, .string ⟨#[]⟩, .string ⟨#[]⟩, .slice none 0 0, .slice none 0 0, .slice none 0 0] 30)).alloc (.cells #[.int .i64 0] 38)).alloc (.cells #[v] 130)) (w.heap.size + 1 + 1) l) := by
  have := h.rd (below2 w (.cells #[.int .i64 0, .int .i64 0, .string ⟨#[]⟩, .string ⟨#[]⟩, .slice none 0 0, .slice none 0 0, .slice none 0 0] 30) (.cells #[.int .i64 0] 38))
  rwa [show ((w.alloc (.cells #[.int .i64 0, .int .i64 0, .string ⟨#[]⟩, .string ⟨#[]⟩, .slice none 0 0, .slice none 0 0, .slice none 0 0] 30)).alloc (.cells #[.int .i64 0] 38)).heap.size = w.heap.size + 1 + 1 by simp] at this
 obtain ⟨-, b, o, cap, rfl, -, -, -, -⟩ := h
 have HO1 : Hid (Blk (((w.alloc (.cells #[.int .i64 0, .int .i64 0, .string ⟨#[]⟩, .string ⟨#[]⟩, .slice none 0 0, .slice none 0 0, .slice none 0 0] 30)).alloc (.cells #[.int .i64 0] 38)).alloc (.cells #[.slice (some ⟨b, o, none⟩) l.length cap] 130)) w.heap.size #[.int .i64 0, .int .i64 0, .string ⟨#[]⟩, .string ⟨#[]⟩, .slice none 0 0, .slice none 0 0, .slice none 0 0] 30) := (Blk.old _ _ _ _).later (below1 _ _)
 have HO2 : Hid (Blk (((w.alloc (.cells #[.int .i64 0, .int .i64 0, .string ⟨#[]⟩, .string ⟨#[]⟩, .slice none 0 0, .slice none 0 0, .slice none 0 0] 30)).alloc (.cells #[.int .i64 0] 38)).alloc (.cells #[.slice (some ⟨b, o, none⟩) l.length cap] 130)) (w.heap.size + 1) #[.int .i64 0] 38) := (Blk.new2 _ _ _ _).later (below1 _ _)
 have HL : Hid (Below w.heap.size w (((w.alloc (.cells #[.int .i64 0, .int .i64 0, .string ⟨#[]⟩, .string ⟨#[]⟩, .slice none 0 0, .slice none 0 0, .slice none 0 0] 30)).alloc (.cells #[.int .i64 0] 38)).alloc (.cells #[.slice (some ⟨b, o, none⟩) l.length cap] 130))) := (below2 _ _ _).alloc (by simp; omega) _
 have HN : Hid (∀ (g : Nat) (X : World), RdS X g l -> Calls Tryz.prog 89 #[.pointer (some ⟨g, 0, none⟩)] X fun e w' => e = .panicked [pE c] /\ Bv g X.heap.size X w') := fun g X hX => RdP.err (clause8_any g l X hX) hr
 clear hr
 go_enter_defers Tryz.func88, Tryz.ntmps88
 go_wp2_with (go_at_call 89; refine (HN.out _ _ HR.out).mono ?_; rintro e w1 ⟨rfl, hb⟩; obtain ⟨p0, p1, p2, p3, p4, p5, p6⟩ := cseven (HO1.out.bl hb (by omega)); obtain ⟨f0, f1, f2, f3, f4, f5, f6⟩ := ff7 (HO1.out.bl hb (by omega)); obtain ⟨q0, qf⟩ := (HO2.out.bl hb (by omega)).one; have hz1 : w.heap.size + 3 <= w1.heap.size := (by have := hb.size; simp at this; omega); have hz2 : w.heap.size + 1 + 1 < w1.heap.size := (by omega); have hz3 : w.heap.size + 1 < w1.heap.size := (by omega); have hz4 : w.heap.size < w1.heap.size := (by omega); have HB1 : Hid (Below w.heap.size w w1) := HL.out.trans ((hb.mono (by simp; omega)).below (by omega)); clear hb)
 refine leaves_cons (f := 128) (args := #[.pointer (some ⟨w.heap.size + 1, 0, none⟩)]) (by simp) (by simp [go_sem]) ?_
 refine (catchC_panic ⟨w.heap.size + 1, 0, none⟩ 0 c [] _ q0 qf).mono ?_
 rintro e u' w'' ⟨rfl, rfl, rfl⟩
 simp [Leaves, settle, results, Tryz.results88, go_sem, p0, p1, p2, p3, p4, p5, p6, q0]
 exact HB1.out.setCell (p := ⟨w.heap.size + 1, 0, none⟩) (Nat.le_succ _) _
set_option maxRecDepth 20000 in
set_option maxHeartbeats 4000000 in
theorem readC_tail (v : Value) (l : List Int) (w : World) (h : Bh w v l) (x : Ck) (r : List Int) (hne : r ≠ []) (hr : rClause l = .ok (x, r)) :
  Calls Tryz.prog 88 #[v, .func (.func 89) #[] #[]] w fun e w' => e = .returned (.tuple #[.agg #[.int .i64 0, .int .i64 0, .string ⟨#[]⟩, .string ⟨#[]⟩, .slice none 0 0, .slice none 0 0, .slice none 0 0], .int .i64 62]) /\ Below w.heap.size w w' := by
 have hmf : ∀ (fn : Fn) (first cap : Array Value) (w : World), (Instr.makeFunc fn first cap).run Tryz.prog w = .ok (.func fn first cap) w := fun _ _ _ _ => rfl
 have HR : Hid (RdS (((w.alloc (.cells #[.int .i64 0, .int .i64 0, .string ⟨#[]⟩, .string ⟨#[]⟩, .slice none 0 0, .slice none 0 0, .slice none 0 0] 30)).alloc (.cells #[.int .i64 0] 38)).alloc (.cells #[v] 130)) (w.heap.size + 1 + 1) l) := by
  have := h.rd (below2 w (.cells #[.int .i64 0, .int .i64 0, .string ⟨#[]⟩, .string ⟨#[]⟩, .slice none 0 0, .slice none 0 0, .slice none 0 0] 30) (.cells #[.int .i64 0] 38))
  rwa [show ((w.alloc (.cells #[.int .i64 0, .int .i64 0, .string ⟨#[]⟩, .string ⟨#[]⟩, .slice none 0 0, .slice none 0 0, .slice none 0 0] 30)).alloc (.cells #[.int .i64 0] 38)).heap.size = w.heap.size + 1 + 1 by simp] at this
 obtain ⟨-, b, o, cap, rfl, -, -, -, -⟩ := h
 have HO1 : Hid (Blk (((w.alloc (.cells #[.int .i64 0, .int .i64 0, .string ⟨#[]⟩, .string ⟨#[]⟩, .slice none 0 0, .slice none 0 0, .slice none 0 0] 30)).alloc (.cells #[.int .i64 0] 38)).alloc (.cells #[.slice (some ⟨b, o, none⟩) l.length cap] 130)) w.heap.size #[.int .i64 0, .int .i64 0, .string ⟨#[]⟩, .string ⟨#[]⟩, .slice none 0 0, .slice none 0 0, .slice none 0 0] 30) := (Blk.old _ _ _ _).later (below1 _ _)
 have HO2 : Hid (Blk (((w.alloc (.cells #[.int .i64 0, .int .i64 0, .string ⟨#[]⟩, .string ⟨#[]⟩, .slice none 0 0, .slice none 0 0, .slice none 0 0] 30)).alloc (.cells #[.int .i64 0] 38)).alloc (.cells #[.slice (some ⟨b, o, none⟩) l.length cap] 130)) (w.heap.size + 1) #[.int .i64 0] 38) := (Blk.new2 _ _ _ _).later (below1 _ _)
 have HL : Hid (Below w.heap.size w (((w.alloc (.cells #[.int .i64 0, .int .i64 0, .string ⟨#[]⟩, .string ⟨#[]⟩, .slice none 0 0, .slice none 0 0, .slice none 0 0] 30)).alloc (.cells #[.int .i64 0] 38)).alloc (.cells #[.slice (some ⟨b, o, none⟩) l.length cap] 130))) := (below2 _ _ _).alloc (by simp; omega) _
 have HN : Hid (∀ (g : Nat) (X : World), RdS X g l -> Calls Tryz.prog 89 #[.pointer (some ⟨g, 0, none⟩)] X fun e w' => ∃ v, e = .returned v /\ (∃ c : Cm, v = c.v /\ c.key = x /\ GC x /\ MC8 X.heap.size w' c) /\ RdS w' g r /\ Bv g X.heap.size X w') := fun g X hX => RdP.ok (clause8_any g l X hX) hr
 clear hr
 have hlen : (0 : Int) < (r.length : Int) := by have := List.length_pos_iff.2 hne; omega
 go_enter_defers Tryz.func88, Tryz.ntmps88
 go_wp2_with (first
  | (go_at_call 89; refine (HN.out _ _ HR.out).mono ?_; rintro e w1 ⟨v1, rfl, ⟨⟨⟨⟨⟨tk, tn, tt⟩, nm, m⟩, hv⟩, bo, bv, es, tv⟩, rfl, hkey, hgc, ho⟩, ⟨-, v2, hk, b2, o2, cap2, rfl, -⟩, hb⟩; obtain ⟨a4, n4, c4, hv'⟩ := ownT_form8 ho.h; obtain ⟨a5, c5, hb'⟩ := OwnA.form ho.b.1; obtain ⟨a6, c6, ht'⟩ := OwnE.form ho.t; simp only at hv' hb' ht'; subst hv' hb' ht'; have c0 := bcell1 hk; obtain ⟨p0, p1, p2, p3, p4, p5, p6⟩ := cseven (HO1.out.bl hb (by omega)); obtain ⟨f0, f1, f2, f3, f4, f5, f6⟩ := ff7 (HO1.out.bl hb (by omega)); obtain ⟨q0, qf⟩ := (HO2.out.bl hb (by omega)).one; have hz1 : w.heap.size + 3 <= w1.heap.size := (by have := hb.size; simp at this; omega); have hz2 : w.heap.size + 1 + 1 < w1.heap.size := (by omega); have hz3 : w.heap.size + 1 < w1.heap.size := (by omega); have hz4 : w.heap.size < w1.heap.size := (by omega); have HB1 : Hid (Below w.heap.size w w1) := HL.out.trans ((hb.mono (by simp; omega)).below (by omega)); have HO : Hid (MC8 (w.heap.size + 3) w1 (⟨(⟨⟨tk, tn, tt⟩, nm, m⟩, .slice a4 n4 c4), bo, .slice a5 bo.length c5, es, .slice a6 es.length c6⟩ : Cm)) := ho.mono (by simp); have HKY : Hid (Cm.key (⟨(⟨⟨tk, tn, tt⟩, nm, m⟩, .slice a4 n4 c4), bo, .slice a5 bo.length c5, es, .slice a6 es.length c6⟩ : Cm) = x /\ GC x) := ⟨hkey, hgc⟩; clear hb ho hk hkey hgc)
  | (go_at_call 91; refine (giveUp_any 62 _).mono ?_; rintro e w2 ⟨rfl, rfl⟩))
 refine leaves_cons (f := 128) (args := #[.pointer (some ⟨w.heap.size + 1, 0, none⟩)]) (by simp) (by simp [go_sem]) ?_
 refine (catchC_panic ⟨w.heap.size + 1, 0, none⟩ 0 62 [] _ ?_ ?_).mono ?_
 ·simp [go_sem, q0, hz3]
 ·simp [go_sem, qf, hz3]
 rintro e u' w'' ⟨rfl, rfl, rfl⟩
 simp [Leaves, settle, results, Tryz.results88, go_sem, p0, p1, p2, p3, p4, p5, p6, q0, hz3, hz4]
 exact (HB1.out.setCell (p := ⟨w.heap.size + 1, 0, none⟩) (Nat.le_succ _) _).alloc (by simp; omega) _
def c0 : Cm := ⟨(⟨zt, ⟨#[]⟩, []⟩, .slice none 0 0), [], .slice none 0 0, [], .slice none 0 0⟩
theorem gc_c0 : GC c0.key := ⟨⟨by simp [c0, Cm.key], fun t ht => by simp [c0, Cm.key, At.pl] at ht; subst ht; exact wfN_of (by decide) (by decide)⟩, ⟨by simp [c0, Cm.key, fsts], fun a ha => by simp [c0, Cm.key, fsts] at ha⟩, ⟨by simp [c0, Cm.key], fun a ha => by simp [c0, Cm.key] at ha⟩⟩
theorem mc_c0 (B : Nat) (X : World) : MC8 B X c0 := ⟨ownT_nil _ _, ⟨OwnA.nil _ _, fun x hx => by simp [c0] at hx⟩, OwnE.nil _ _⟩
def RC8 (w : World) (r : Except Int Ck) (e : Ending) (w' : World) : Prop := Below w.heap.size w w' /\ ∃ (c : Cm) (er : Int), e = .returned (.tuple #[c.v, .int .i64 er]) /\ MC8 w.heap.size w' c /\ GC c.key /\ match r with
 | .ok x => c.key = x /\ er = 0
 | .error d => c.key = c0.key /\ er = d
theorem readC_any (v : Value) (l : List Int) (w : World) (h : Bh w v l) :
  Calls Tryz.prog 88 #[v, .func (.func 89) #[] #[]] w (RC8 w (rWhole rClause l)) := by
 unfold rWhole
 rcases hr : rClause l with c | ⟨a, r⟩
 ·exact (readC_no v l w h c hr).mono (by rintro e w' ⟨rfl, hb⟩; exact ⟨hb, c0, c, rfl, mc_c0 _ _, gc_c0, rfl, rfl⟩)
 ·by_cases hne : r = []
  ·subst hne
   simp only [if_true]
   exact (readC_ok v l w h a hr).mono (by rintro e w' ⟨c, rfl, hk, hg, ho, hb⟩; exact ⟨hb, c, 0, rfl, ho, by rw [hk]; exact hg, hk, rfl⟩)
  ·simp only [hne, if_false]
   exact (readC_tail v l w h a r hne hr).mono (by rintro e w' ⟨rfl, hb⟩; exact ⟨hb, c0, 62, rfl, mc_c0 _ _, gc_c0, rfl, rfl⟩)
set_option maxRecDepth 20000 in
set_option maxHeartbeats 4000000 in
theorem readClause_any (v : Value) (l : List Int) (w : World) (h : Bh w v l) :
  Calls Tryz.prog 49 #[v] w (RC8 w (rWhole rClause l)) := by
 have HN : Hid (∀ X, Below w.heap.size w X -> Calls Tryz.prog 88 #[v, .func (.func 89) #[] #[]] X (RC8 X (rWhole rClause l))) := fun X hX => readC_any v l X (h.later hX)
 obtain ⟨-, b, o, cap, rfl, -, -, -, -⟩ := h
 go_enter Tryz.func49, Tryz.ntmps49
 go_wp2_with (go_at_call 88; refine (HN.out _ (below1 _ _)).mono ?_; rintro e w1 ⟨hb, ⟨⟨⟨⟨tk, tn, tt⟩, nm, m⟩, hv⟩, bo, bv, es, tv⟩, er, rfl, ho, hg, hm⟩; obtain ⟨a4, n4, c4, hv'⟩ := ownT_form8 ho.h; obtain ⟨a5, c5, hb'⟩ := OwnA.form ho.b.1; obtain ⟨a6, c6, ht'⟩ := OwnE.form ho.t; simp only at hv' hb' ht'; subst hv' hb' ht'; have HM : Hid _ := hm; have HG : Hid _ := hg; have HO : Hid (MC8 (w.heap.size + 1) w1 (⟨(⟨⟨tk, tn, tt⟩, nm, m⟩, .slice a4 n4 c4), bo, .slice a5 bo.length c5, es, .slice a6 es.length c6⟩ : Cm)) := ho.mono (by simp); obtain ⟨p0, p1, p2, p3, p4, p5, p6⟩ := cseven ((CBlk.new w #[.int .i64 0, .int .i64 0, .string ⟨#[]⟩, .string ⟨#[]⟩, .slice none 0 0, .slice none 0 0, .slice none 0 0] 30).later hb); obtain ⟨f0, f1, f2, f3, f4, f5, f6⟩ := ff7 ((CBlk.new w #[.int .i64 0, .int .i64 0, .string ⟨#[]⟩, .string ⟨#[]⟩, .slice none 0 0, .slice none 0 0, .slice none 0 0] 30).later hb); have HB : Hid (Below w.heap.size w w1) := below_step (below1 _ _) hb; clear hb ho hm hg)
 refine bodyPost_ret (v := .tuple #[Cm.v (⟨(⟨⟨tk, tn, tt⟩, nm, m⟩, .slice a4 n4 c4), bo, .slice a5 bo.length c5, es, .slice a6 es.length c6⟩ : Cm), .int .i64 er]) (by simp [results, Tryz.results49, go_sem, p0, p1, p2, p3, p4, p5, p6]) rfl ⟨?_, (⟨(⟨⟨tk, tn, tt⟩, nm, m⟩, .slice a4 n4 c4), bo, .slice a5 bo.length c5, es, .slice a6 es.length c6⟩ : Cm), _, rfl, ?_, HG.out, HM.out⟩
 ·exact (((((((HB.out.setCell (p := ⟨w.heap.size, 0, none⟩) (Nat.le_refl _) _).setCell (p := ⟨w.heap.size, 1, none⟩) (Nat.le_refl _) _).setCell (p := ⟨w.heap.size, 2, none⟩) (Nat.le_refl _) _).setCell (p := ⟨w.heap.size, 3, none⟩) (Nat.le_refl _) _).setCell (p := ⟨w.heap.size, 4, none⟩) (Nat.le_refl _) _).setCell (p := ⟨w.heap.size, 5, none⟩) (Nat.le_refl _) _).setCell (p := ⟨w.heap.size, 6, none⟩) (Nat.le_refl _) _)
 ·exact (((((((HO.out.set (by omega)).set (by omega)).set (by omega)).set (by omega)).set (by omega)).set (by omega)).set (by omega)).mono (by omega)
end Go.Proofs.YtelcoihmiglceaaGreat
