import Derived.Test.YtelcoihmiglceaaGreatCR4
import Derived.Test.YtelcoihmiglceaaGreatCP4
import Derived.Test.YtelcoihmiglceaaGreatCG4
namespace Go.Proofs.YtelcoihmiglceaaGreat
open Go.RowKit

theorem row_hi {e : TypeId} {w w' : World} {base n m : Nat} {v : Value} {xs : List Value} (h : w.ownsRow base e n v m xs) (hb : ∀ k, base <= k -> k < w.heap.size -> w'.heap[k]? = w.heap[k]?) : w'.ownsRow base e n v m xs :=
 row_agree h fun k hk => by
  obtain ⟨h1, cur, h2⟩ := row_block h hk
  exact hb k h1 (Array.getElem?_eq_some_iff.1 h2).1
def Hi (B : Nat) (w w' : World) : Prop := w.heap.size <= w'.heap.size /\ ∀ k, B <= k -> k < w.heap.size -> w'.heap[k]? = w.heap[k]?
theorem Hi.refl (B : Nat) (w : World) : Hi B w w := ⟨Nat.le_refl _, fun _ _ _ => rfl⟩
theorem Hi.set {B : Nat} {w w' : World} {g i : Nat} {u : Value} (h : Hi B w w') (hg : g < B) : Hi B w (w'.setCell ⟨g, i, none⟩ u) :=
 ⟨by simpa using h.1, fun k h1 h2 => (heap_setCell_other _ _ _ _ (by show k ≠ g; omega)).trans (h.2 k h1 h2)⟩
theorem Hi.alloc {B : Nat} {w w' : World} (h : Hi B w w') (o : Obj) : Hi B w (w'.alloc o) :=
 ⟨by have := h.1; simp; omega, fun k h1 h2 => (@heap_alloc_old _ _ _ (by have := h.1; omega)).trans (h.2 k h1 h2)⟩
theorem MC8.hi {B B' : Nat} {X X' : World} {d : Cm} (h : MC8 B X d) (hk : Hi B' X X') (hB : B' <= B) : MC8 B X' d :=
 have hk' := fun k (h1 : B <= k) h2 => hk.2 k (by omega) h2
 ⟨row_hi h.h hk', ⟨row_hi h.b.1 hk', fun y hy => row_hi (h.b.2 y hy) hk'⟩, row_hi h.t hk'⟩
theorem OCL.hi {B B' : Nat} {X X' : World} {v : Value} {l : List Cm} (h : OCL X B v l) (hk : Hi B' X X') (hB : B' <= B) : OCL X' B v l :=
 ⟨row_hi h.o fun k h1 h2 => hk.2 k (by omega) h2, fun c hc => ⟨(h.m c hc).1.hi hk hB, (h.m c hc).2⟩⟩
theorem MS8.hi {B B' : Nat} {X X' : World} {d : St} (h : MS8 B X d) (hk : Hi B' X X') (hB : B' <= B) : MS8 B X' d :=
 have hk' := fun k (h1 : B <= k) h2 => hk.2 k (by omega) h2
 ⟨row_hi h.t hk', row_hi h.u hk', h.l⟩
theorem OSL.hi {B B' : Nat} {X X' : World} {v : Value} {l : List St} (h : OSL X B v l) (hk : Hi B' X X') (hB : B' <= B) : OSL X' B v l :=
 ⟨row_hi h.o fun k h1 h2 => hk.2 k (by omega) h2, fun c hc => (h.m c hc).hi hk hB⟩
theorem PR8.hi {B : Nat} {X X' : World} {x : Pk} {v : Value} (h : PR8 B X x v) (hk : Hi B X X') : PR8 B X' x v := by
 obtain ⟨rv, sv, R, S, h1, h2, h3, h4, h5⟩ := h
 exact ⟨rv, sv, R, S, h1, h2, h3, h4.hi hk (Nat.le_refl _), h5.hi hk (Nat.le_refl _)⟩
theorem PR8.mono {B B' : Nat} {X : World} {x : Pk} {v : Value} (h : PR8 B X x v) (hb : B' <= B) : PR8 B' X x v := by
 obtain ⟨rv, sv, R, S, h1, h2, h3, h4, h5⟩ := h
 exact ⟨rv, sv, R, S, h1, h2, h3, h4.mono hb, h5.mono hb⟩
theorem PR8.nil (B : Nat) (X : World) : PR8 B X ([], []) (.agg #[.slice none 0 0, .slice none 0 0]) := ⟨_, _, [], [], rfl, rfl, rfl, OCL.nil _ _, OSL.nil _ _⟩
theorem catchP_panic (p : Addr) (x c : Int) (older : List PanicEntry) (w : World) (hc : w.cell? p = some (.int .i64 x)) (hz : w.frozen? p = false) :
  CallsD Tryz.prog 90 #[.pointer (some p)] (.panicking (pE c :: older)) w fun e u' w' =>
   e = .returned (.tuple #[]) /\ u' = .panicking ({ v := .iface 38 (.int .i64 c), recovered := true } :: older) /\ w' = w.setCell p (.int .i64 c) := by
 refine callsD_of_wpS Tryz.func90 rfl fun c₀ cs hu => ?_
 unfold pE at hu
 apply wpS_seq
 apply wpS_region
 simp [wpOpsS, go_sem, recoverD, hu, Tryz.ntmps90, Exit.thenS]
 have hta := run_assert
 refine wpS_of_wp ?_
 change Code.wp _ _ _ { tmps := #[.pointer (some p), .iface 38 (.int .i64 c), .iface 38 (.int .i64 c), undef, undef, undef, undef], defers := [] } w
 go_wp2
 exact ⟨rfl, _, rfl, _, by simp [results, Tryz.results90], rfl, rfl, rfl⟩
theorem catchP_idle (p : Addr) (w : World) :
  CallsD Tryz.prog 90 #[.pointer (some p)] .returning w fun e u' w' => e = .returned (.tuple #[]) /\ u' = .returning /\ w' = w := by
 refine callsD_of_wpS Tryz.func90 rfl fun c₀ cs hu => ?_
 apply wpS_seq
 apply wpS_region
 simp [wpOpsS, go_sem, recoverD, hu, Tryz.ntmps90, Exit.thenS]
 refine wpS_of_wp ?_
 change Code.wp _ _ _ { tmps := #[.pointer (some p), .nilIface, .nilIface, undef, undef, undef, undef], defers := [] } w
 go_wp2
 exact ⟨rfl, .returning, by rw [<- hu], _, by simp [results, Tryz.results90], rfl, rfl, rfl⟩
set_option maxRecDepth 20000 in
set_option maxHeartbeats 800000 in
theorem readP_ok (v : Value) (l : List Int) (w : World) (h : Bh w v l) (x : Pk) (hr : rProof l = .ok (x, [])) :
  Calls Tryz.prog 50 #[v, .func (.func 51) #[] #[]] w fun e w' => ∃ u : Value, e = .returned (.tuple #[u, .int .i64 0]) /\ PR8 w.heap.size w' x u /\ Below w.heap.size w w' := by
 have hmf : ∀ (fn : Fn) (first cap : Array Value) (w : World), (Instr.makeFunc fn first cap).run Tryz.prog w = .ok (.func fn first cap) w := fun _ _ _ _ => rfl
 have HR : Hid (RdS (((w.alloc (.cells #[.slice none 0 0, .slice none 0 0] 35)).alloc (.cells #[.int .i64 0] 38)).alloc (.cells #[v] 130)) (w.heap.size + 1 + 1) l) := by
  have := h.rd (below2 w (.cells #[.slice none 0 0, .slice none 0 0] 35) (.cells #[.int .i64 0] 38))
  rwa [show ((w.alloc (.cells #[.slice none 0 0, .slice none 0 0] 35)).alloc (.cells #[.int .i64 0] 38)).heap.size = w.heap.size + 1 + 1 by simp] at this
 obtain ⟨-, b, o, cap, rfl, -, -, -, -⟩ := h
 have HO1 : Hid (Blk (((w.alloc (.cells #[.slice none 0 0, .slice none 0 0] 35)).alloc (.cells #[.int .i64 0] 38)).alloc (.cells #[.slice (some ⟨b, o, none⟩) l.length cap] 130)) w.heap.size #[.slice none 0 0, .slice none 0 0] 35) := (Blk.old _ _ _ _).later (below1 _ _)
 have HO2 : Hid (Blk (((w.alloc (.cells #[.slice none 0 0, .slice none 0 0] 35)).alloc (.cells #[.int .i64 0] 38)).alloc (.cells #[.slice (some ⟨b, o, none⟩) l.length cap] 130)) (w.heap.size + 1) #[.int .i64 0] 38) := (Blk.new2 _ _ _ _).later (below1 _ _)
 have HL : Hid (Below w.heap.size w (((w.alloc (.cells #[.slice none 0 0, .slice none 0 0] 35)).alloc (.cells #[.int .i64 0] 38)).alloc (.cells #[.slice (some ⟨b, o, none⟩) l.length cap] 130))) := (below2 _ _ _).alloc (by simp; omega) _
 have HN : Hid (∀ (g : Nat) (X : World), RdS X g l -> Calls Tryz.prog 51 #[.pointer (some ⟨g, 0, none⟩)] X fun e w' => ∃ v, e = .returned v /\ PR8 (X.heap.size + 1) w' x v /\ RdS w' g [] /\ Bv g X.heap.size X w') := fun g X hX => RdP.ok (proof8_any g l X hX) hr
 clear hr
 go_enter_defers Tryz.func50, Tryz.ntmps50
 go_wp2_with (go_at_call 51; refine (HN.out _ _ HR.out).mono ?_; rintro e w1 ⟨v1, rfl, hp, ⟨-, v2, hk, b2', o2, cap2, rfl, -⟩, hb⟩; obtain ⟨rv, sv, R, S, rfl, hR, hS, hoc, hos⟩ := hp; obtain ⟨a1, a3, e1⟩ := hoc.o.form; obtain ⟨a2, ha2⟩ : ∃ n, n = R.length := ⟨_, rfl⟩; rw [<- ha2] at e1; subst e1; obtain ⟨b1, b3, e2⟩ := hos.o.form; obtain ⟨b2, hb2⟩ : ∃ n, n = S.length := ⟨_, rfl⟩; rw [<- hb2] at e2; subst e2; have c0 := bcell1 hk; obtain ⟨p0, p1⟩ := ctwo (HO1.out.bl hb (by omega)); have f0 : w1.frozen? ⟨w.heap.size, 0, none⟩ = false := frozen_of_row _ _ _ _ _ (HO1.out.bl hb (by omega)); have f1 : w1.frozen? ⟨w.heap.size, 1, none⟩ = false := frozen_of_row _ _ _ _ _ (HO1.out.bl hb (by omega)); obtain ⟨q0, qf⟩ := (HO2.out.bl hb (by omega)).one; have hz1 : w.heap.size + 3 <= w1.heap.size := (by have := hb.size; simp at this; omega); have hz2 : w.heap.size + 1 + 1 < w1.heap.size := (by omega); have hz3 : w.heap.size + 1 < w1.heap.size := (by omega); have hz4 : w.heap.size < w1.heap.size := (by omega); have HB1 : Hid (Below w.heap.size w w1) := HL.out.trans ((hb.mono (by simp; omega)).below (by omega)); have HO : Hid (PR8 (w.heap.size + 3) w1 x (.agg #[.slice a1 a2 a3, .slice b1 b2 b3])) := PR8.mono ⟨_, _, R, S, rfl, hR, hS, hoc, hos⟩ (by simp); clear hb hoc hos hk hR hS ha2 hb2)
 refine leaves_cons (f := 90) (args := #[.pointer (some ⟨w.heap.size + 1, 0, none⟩)]) (by simp) (by simp [go_sem]) ?_
 refine (catchP_idle ⟨w.heap.size + 1, 0, none⟩ _).mono ?_
 rintro e u' w'' ⟨rfl, rfl, rfl⟩
 simp only [Leaves, settle]
 refine ⟨_, ?_, .agg #[.slice a1 a2 a3, .slice b1 b2 b3], rfl, (HO.out.hi (((((Hi.refl _ _).set (by omega)).set (by omega)).set (by omega)).alloc _)).mono (by omega), ((((HB1.out.setCell (p := ⟨w.heap.size, 0, none⟩) (Nat.le_refl _) _).setCell (p := ⟨w.heap.size, 1, none⟩) (Nat.le_refl _) _).setCell (p := ⟨w.heap.size + 1, 0, none⟩) (Nat.le_succ _) _).alloc (by simp; omega) _)⟩
 simp [results, Tryz.results50, go_sem, p0, p1, q0, hz3, hz4]
set_option maxRecDepth 20000 in
set_option maxHeartbeats 800000 in
theorem readP_no (v : Value) (l : List Int) (w : World) (h : Bh w v l) (c : Int) (hr : rProof l = .error c) :
  Calls Tryz.prog 50 #[v, .func (.func 51) #[] #[]] w fun e w' => e = .returned (.tuple #[.agg #[.slice none 0 0, .slice none 0 0], .int .i64 c]) /\ Below w.heap.size w w' := by
 have hmf : ∀ (fn : Fn) (first cap : Array Value) (w : World), (Instr.makeFunc fn first cap).run Tryz.prog w = .ok (.func fn first cap) w := fun _ _ _ _ => rfl
 have HR : Hid (RdS (((w.alloc (.cells #[.slice none 0 0, .slice none 0 0] 35)).alloc (.cells #[.int .i64 0] 38)).alloc (.cells #[v] 130)) (w.heap.size + 1 + 1) l) := by
  have := h.rd (below2 w (.cells #[.slice none 0 0, .slice none 0 0] 35) (.cells #[.int .i64 0] 38))
  rwa [show ((w.alloc (.cells #[.slice none 0 0, .slice none 0 0] 35)).alloc (.cells #[.int .i64 0] 38)).heap.size = w.heap.size + 1 + 1 by simp] at this
 obtain ⟨-, b, o, cap, rfl, -, -, -, -⟩ := h
 have HO1 : Hid (Blk (((w.alloc (.cells #[.slice none 0 0, .slice none 0 0] 35)).alloc (.cells #[.int .i64 0] 38)).alloc (.cells #[.slice (some ⟨b, o, none⟩) l.length cap] 130)) w.heap.size #[.slice none 0 0, .slice none 0 0] 35) := (Blk.old _ _ _ _).later (below1 _ _)
 have HO2 : Hid (Blk (((w.alloc (.cells #[.slice none 0 0, .slice none 0 0] 35)).alloc (.cells #[.int .i64 0] 38)).alloc (.cells #[.slice (some ⟨b, o, none⟩) l.length cap] 130)) (w.heap.size + 1) #[.int .i64 0] 38) := (Blk.new2 _ _ _ _).later (below1 _ _)
 have HL : Hid (Below w.heap.size w (((w.alloc (.cells #[.slice none 0 0, .slice none 0 0] 35)).alloc (.cells #[.int .i64 0] 38)).alloc (.cells #[.slice (some ⟨b, o, none⟩) l.length cap] 130))) := (below2 _ _ _).alloc (by simp; omega) _
 have HN : Hid (∀ (g : Nat) (X : World), RdS X g l -> Calls Tryz.prog 51 #[.pointer (some ⟨g, 0, none⟩)] X fun e w' => e = .panicked [pE c] /\ Bv g X.heap.size X w') := fun g X hX => RdP.err (proof8_any g l X hX) hr
 clear hr
 go_enter_defers Tryz.func50, Tryz.ntmps50
 go_wp2_with (go_at_call 51; refine (HN.out _ _ HR.out).mono ?_; rintro e w1 ⟨rfl, hb⟩; obtain ⟨p0, p1⟩ := ctwo (HO1.out.bl hb (by omega)); have f0 : w1.frozen? ⟨w.heap.size, 0, none⟩ = false := frozen_of_row _ _ _ _ _ (HO1.out.bl hb (by omega)); have f1 : w1.frozen? ⟨w.heap.size, 1, none⟩ = false := frozen_of_row _ _ _ _ _ (HO1.out.bl hb (by omega)); obtain ⟨q0, qf⟩ := (HO2.out.bl hb (by omega)).one; have hz1 : w.heap.size + 3 <= w1.heap.size := (by have := hb.size; simp at this; omega); have hz2 : w.heap.size + 1 + 1 < w1.heap.size := (by omega); have hz3 : w.heap.size + 1 < w1.heap.size := (by omega); have hz4 : w.heap.size < w1.heap.size := (by omega); have HB1 : Hid (Below w.heap.size w w1) := HL.out.trans ((hb.mono (by simp; omega)).below (by omega)); clear hb)
 refine leaves_cons (f := 90) (args := #[.pointer (some ⟨w.heap.size + 1, 0, none⟩)]) (by simp) (by simp [go_sem]) ?_
 refine (catchP_panic ⟨w.heap.size + 1, 0, none⟩ 0 c [] _ q0 qf).mono ?_
 rintro e u' w'' ⟨rfl, rfl, rfl⟩
 simp [Leaves, settle, results, Tryz.results50, go_sem, p0, p1, q0]
 exact HB1.out.setCell (p := ⟨w.heap.size + 1, 0, none⟩) (Nat.le_succ _) _
set_option maxRecDepth 20000 in
set_option maxHeartbeats 800000 in
theorem readP_tail (v : Value) (l : List Int) (w : World) (h : Bh w v l) (x : Pk) (r : List Int) (hne : r ≠ []) (hr : rProof l = .ok (x, r)) :
  Calls Tryz.prog 50 #[v, .func (.func 51) #[] #[]] w fun e w' => e = .returned (.tuple #[.agg #[.slice none 0 0, .slice none 0 0], .int .i64 62]) /\ Below w.heap.size w w' := by
 have hmf : ∀ (fn : Fn) (first cap : Array Value) (w : World), (Instr.makeFunc fn first cap).run Tryz.prog w = .ok (.func fn first cap) w := fun _ _ _ _ => rfl
 have HR : Hid (RdS (((w.alloc (.cells #[.slice none 0 0, .slice none 0 0] 35)).alloc (.cells #[.int .i64 0] 38)).alloc (.cells #[v] 130)) (w.heap.size + 1 + 1) l) := by
  have := h.rd (below2 w (.cells #[.slice none 0 0, .slice none 0 0] 35) (.cells #[.int .i64 0] 38))
  rwa [show ((w.alloc (.cells #[.slice none 0 0, .slice none 0 0] 35)).alloc (.cells #[.int .i64 0] 38)).heap.size = w.heap.size + 1 + 1 by simp] at this
 obtain ⟨-, b, o, cap, rfl, -, -, -, -⟩ := h
 have HO1 : Hid (Blk (((w.alloc (.cells #[.slice none 0 0, .slice none 0 0] 35)).alloc (.cells #[.int .i64 0] 38)).alloc (.cells #[.slice (some ⟨b, o, none⟩) l.length cap] 130)) w.heap.size #[.slice none 0 0, .slice none 0 0] 35) := (Blk.old _ _ _ _).later (below1 _ _)
 have HO2 : Hid (Blk (((w.alloc (.cells #[.slice none 0 0, .slice none 0 0] 35)).alloc (.cells #[.int .i64 0] 38)).alloc (.cells #[.slice (some ⟨b, o, none⟩) l.length cap] 130)) (w.heap.size + 1) #[.int .i64 0] 38) := (Blk.new2 _ _ _ _).later (below1 _ _)
 have HL : Hid (Below w.heap.size w (((w.alloc (.cells #[.slice none 0 0, .slice none 0 0] 35)).alloc (.cells #[.int .i64 0] 38)).alloc (.cells #[.slice (some ⟨b, o, none⟩) l.length cap] 130))) := (below2 _ _ _).alloc (by simp; omega) _
 have HN : Hid (∀ (g : Nat) (X : World), RdS X g l -> Calls Tryz.prog 51 #[.pointer (some ⟨g, 0, none⟩)] X fun e w' => ∃ v, e = .returned v /\ PR8 (X.heap.size + 1) w' x v /\ RdS w' g r /\ Bv g X.heap.size X w') := fun g X hX => RdP.ok (proof8_any g l X hX) hr
 clear hr
 have hlen : (0 : Int) < (r.length : Int) := by have := List.length_pos_iff.2 hne; omega
 go_enter_defers Tryz.func50, Tryz.ntmps50
 go_wp2_with (first
  | (go_at_call 51; refine (HN.out _ _ HR.out).mono ?_; rintro e w1 ⟨v1, rfl, hp, ⟨-, v2, hk, b2', o2, cap2, rfl, -⟩, hb⟩; obtain ⟨rv, sv, R, S, rfl, hR, hS, hoc, hos⟩ := hp; obtain ⟨a1, a3, e1⟩ := hoc.o.form; obtain ⟨a2, ha2⟩ : ∃ n, n = R.length := ⟨_, rfl⟩; rw [<- ha2] at e1; subst e1; obtain ⟨b1, b3, e2⟩ := hos.o.form; obtain ⟨b2, hb2⟩ : ∃ n, n = S.length := ⟨_, rfl⟩; rw [<- hb2] at e2; subst e2; have c0 := bcell1 hk; obtain ⟨p0, p1⟩ := ctwo (HO1.out.bl hb (by omega)); have f0 : w1.frozen? ⟨w.heap.size, 0, none⟩ = false := frozen_of_row _ _ _ _ _ (HO1.out.bl hb (by omega)); have f1 : w1.frozen? ⟨w.heap.size, 1, none⟩ = false := frozen_of_row _ _ _ _ _ (HO1.out.bl hb (by omega)); obtain ⟨q0, qf⟩ := (HO2.out.bl hb (by omega)).one; have hz1 : w.heap.size + 3 <= w1.heap.size := (by have := hb.size; simp at this; omega); have hz2 : w.heap.size + 1 + 1 < w1.heap.size := (by omega); have hz3 : w.heap.size + 1 < w1.heap.size := (by omega); have hz4 : w.heap.size < w1.heap.size := (by omega); have HB1 : Hid (Below w.heap.size w w1) := HL.out.trans ((hb.mono (by simp; omega)).below (by omega)); have HO : Hid (PR8 (w.heap.size + 3) w1 x (.agg #[.slice a1 a2 a3, .slice b1 b2 b3])) := PR8.mono ⟨_, _, R, S, rfl, hR, hS, hoc, hos⟩ (by simp); clear hb hoc hos hk hR hS ha2 hb2)
  | (go_at_call 91; refine (giveUp_any 62 _).mono ?_; rintro e w2 ⟨rfl, rfl⟩))
 refine leaves_cons (f := 90) (args := #[.pointer (some ⟨w.heap.size + 1, 0, none⟩)]) (by simp) (by simp [go_sem]) ?_
 refine (catchP_panic ⟨w.heap.size + 1, 0, none⟩ 0 62 [] _ ?_ ?_).mono ?_
 ·simp [go_sem, q0, hz3]
 ·simp [go_sem, qf, hz3]
 rintro e u' w'' ⟨rfl, rfl, rfl⟩
 simp [Leaves, settle, results, Tryz.results50, go_sem, p0, p1, q0, hz3, hz4]
 exact (HB1.out.setCell (p := ⟨w.heap.size + 1, 0, none⟩) (Nat.le_succ _) _).alloc (by simp; omega) _
def RP8 (w : World) (r : Except Int Pk) (e : Ending) (w' : World) : Prop := Below w.heap.size w w' /\ ∃ (x : Pk) (u : Value) (er : Int), e = .returned (.tuple #[u, .int .i64 er]) /\ PR8 w.heap.size w' x u /\ match r with
 | .ok y => x = y /\ er = 0
 | .error d => x = ([], []) /\ er = d
theorem readP_any (v : Value) (l : List Int) (w : World) (h : Bh w v l) :
  Calls Tryz.prog 50 #[v, .func (.func 51) #[] #[]] w (RP8 w (rWhole rProof l)) := by
 unfold rWhole
 rcases hr : rProof l with c | ⟨a, r⟩
 ·exact (readP_no v l w h c hr).mono (by rintro e w' ⟨rfl, hb⟩; exact ⟨hb, _, _, c, rfl, PR8.nil _ _, rfl, rfl⟩)
 ·by_cases hne : r = []
  ·subst hne
   simp only [if_true]
   exact (readP_ok v l w h a hr).mono (by rintro e w' ⟨u, rfl, ho, hb⟩; exact ⟨hb, a, u, 0, rfl, ho, rfl, rfl⟩)
  ·simp only [hne, if_false]
   exact (readP_tail v l w h a r hne hr).mono (by rintro e w' ⟨rfl, hb⟩; exact ⟨hb, _, _, 62, rfl, PR8.nil _ _, rfl, rfl⟩)
set_option maxRecDepth 20000 in
set_option maxHeartbeats 800000 in
theorem readProof_any (v : Value) (l : List Int) (w : World) (h : Bh w v l) :
  Calls Tryz.prog 20 #[v] w (RP8 w (rWhole rProof l)) := by
 have HN : Hid (∀ X, Below w.heap.size w X -> Calls Tryz.prog 50 #[v, .func (.func 51) #[] #[]] X (RP8 X (rWhole rProof l))) := fun X hX => readP_any v l X (h.later hX)
 obtain ⟨-, b, o, cap, rfl, -, -, -, -⟩ := h
 go_enter Tryz.func20, Tryz.ntmps20
 go_wp2_with (go_at_call 50; refine (HN.out _ (below1 _ _)).mono ?_; rintro e w1 ⟨hb, x, u, er, rfl, hp, hm⟩; obtain ⟨rv, sv, R, S, rfl, hR, hS, hoc, hos⟩ := hp; obtain ⟨a1, a3, e1⟩ := hoc.o.form; obtain ⟨a2, ha2⟩ : ∃ n, n = R.length := ⟨_, rfl⟩; rw [<- ha2] at e1; subst e1; obtain ⟨b1, b3, e2⟩ := hos.o.form; obtain ⟨b2, hb2⟩ : ∃ n, n = S.length := ⟨_, rfl⟩; rw [<- hb2] at e2; subst e2; have HM : Hid _ := hm; have HO : Hid (PR8 (w.heap.size + 1) w1 x (.agg #[.slice a1 a2 a3, .slice b1 b2 b3])) := PR8.mono ⟨_, _, R, S, rfl, hR, hS, hoc, hos⟩ (by simp); obtain ⟨p0, p1⟩ := ctwo ((CBlk.new w #[.slice none 0 0, .slice none 0 0] 35).later hb); have f0 : w1.frozen? ⟨w.heap.size, 0, none⟩ = false := frozen_of_row _ _ _ _ _ ((CBlk.new w #[.slice none 0 0, .slice none 0 0] 35).later hb); have f1 : w1.frozen? ⟨w.heap.size, 1, none⟩ = false := frozen_of_row _ _ _ _ _ ((CBlk.new w #[.slice none 0 0, .slice none 0 0] 35).later hb); have HB : Hid (Below w.heap.size w w1) := below_step (below1 _ _) hb; clear hb hoc hos hm hR hS ha2 hb2)
 refine bodyPost_ret (v := .tuple #[.agg #[.slice a1 a2 a3, .slice b1 b2 b3], .int .i64 er]) (by simp [results, Tryz.results20, go_sem, p0, p1]) rfl ⟨?_, x, _, _, rfl, ?_, HM.out⟩
 ·exact ((HB.out.setCell (p := ⟨w.heap.size, 0, none⟩) (Nat.le_refl _) _).setCell (p := ⟨w.heap.size, 1, none⟩) (Nat.le_refl _) _)
 ·exact (HO.out.hi (((Hi.refl _ _).set (by omega)).set (by omega))).mono (by omega)
end Go.Proofs.YtelcoihmiglceaaGreat
