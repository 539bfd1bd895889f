import Derived.Test.YtelcoihmiglceaaGreatCR8
import Derived.Test.YtelcoihmiglceaaGreatM2
import Derived.Test.YtelcoihmiglceaaGreatW3
import Derived.Deep.CutRange
import Derived.Test.YtelcoihmiglceaaGreatW2
import Derived.Test.YtelcoihmiglceaaGreatCL24
import Derived.Test.YtelcoihmiglceaaGreatL1
import Derived.Laws.AppendOwn
import Derived.Laws.AppendOwnNone
import Derived.Test.YtelcoihmiglceaaGreatMP1
import Derived.Test.YtelcoihmiglceaaGreatMD13
import Derived.Deep.RegionHeld3
import Derived.Test.YtelcoihmiglceaaGreatCD1
import Derived.Test.YtelcoihmiglceaaGreatMD8
import Derived.Test.YtelcoihmiglceaaGreatCJ7
namespace Go.Proofs.YtelcoihmiglceaaGreat
open Go.RowKit

def SR8 (B : Nat) (X : World) (x : List Ck) (v : Value) : Prop := ∃ L : List Cm, L.map Cm.key = x /\ OCL X B v L
theorem SR8.hi {B : Nat} {X X' : World} {x : List Ck} {v : Value} (h : SR8 B X x v) (hk : Hi B X X') : SR8 B X' x v := by
 obtain ⟨L, h1, h2⟩ := h
 exact ⟨L, h1, h2.hi hk (Nat.le_refl _)⟩
theorem SR8.mono {B B' : Nat} {X : World} {x : List Ck} {v : Value} (h : SR8 B X x v) (hb : B' <= B) : SR8 B' X x v := by
 obtain ⟨L, h1, h2⟩ := h
 exact ⟨L, h1, h2.mono hb⟩
theorem SR8.nil (B : Nat) (X : World) : SR8 B X [] (.slice none 0 0) := ⟨[], rfl, OCL.nil _ _⟩
theorem catchS_panic (p : Addr) (x c : Int) (older : List PanicEntry) (w : World) (hc : w.cell? p = some (.int .i64 x)) (hz : w.frozen? p = false) :
  CallsD Tryz.prog 97 #[.pointer (some p)] (.panicking (pE c :: older)) w fun e u' w' =>
   e = .returned (.tuple #[]) /\ u' = .panicking ({ v := .iface 38 (.int .i64 c), recovered := true } :: older) /\ w' = w.setCell p (.int .i64 c) := by
 refine callsD_of_wpS Tryz.func97 rfl fun c₀ cs hu => ?_
 unfold pE at hu
 apply wpS_seq
 apply wpS_region
 simp [wpOpsS, go_sem, recoverD, hu, Tryz.ntmps97, Exit.thenS]
 have hta := run_assert
 refine wpS_of_wp ?_
 change Code.wp _ _ _ { tmps := #[.pointer (some p), .iface 38 (.int .i64 c), .iface 38 (.int .i64 c), undef, undef, undef, undef], defers := [] } w
 go_wp2
 exact ⟨rfl, _, rfl, _, by simp [results, Tryz.results97], rfl, rfl, rfl⟩
theorem catchS_idle (p : Addr) (w : World) :
  CallsD Tryz.prog 97 #[.pointer (some p)] .returning w fun e u' w' => e = .returned (.tuple #[]) /\ u' = .returning /\ w' = w := by
 refine callsD_of_wpS Tryz.func97 rfl fun c₀ cs hu => ?_
 apply wpS_seq
 apply wpS_region
 simp [wpOpsS, go_sem, recoverD, hu, Tryz.ntmps97, Exit.thenS]
 refine wpS_of_wp ?_
 change Code.wp _ _ _ { tmps := #[.pointer (some p), .nilIface, .nilIface, undef, undef, undef, undef], defers := [] } w
 go_wp2
 exact ⟨rfl, .returning, by rw [<- hu], _, by simp [results, Tryz.results97], rfl, rfl, rfl⟩
set_option maxRecDepth 20000 in
set_option maxHeartbeats 800000 in
theorem readS_ok (v : Value) (l : List Int) (w : World) (h : Bh w v l) (x : List Ck) (hr : rSet l = .ok (x, [])) :
  Calls Tryz.prog 53 #[v, .func (.func 54) #[] #[]] w fun e w' => ∃ u : Value, e = .returned (.tuple #[u, .int .i64 0]) /\ SR8 w.heap.size w' x u /\ Below w.heap.size w w' := by
 have hmf : ∀ (fn : Fn) (first cap : Array Value) (w : World), (Instr.makeFunc fn first cap).run Tryz.prog w = .ok (.func fn first cap) w := fun _ _ _ _ => rfl
 have HR : Hid (RdS ((w.alloc (.cells #[.int .i64 0] 38)).alloc (.cells #[v] 130)) (w.heap.size + 1) l) := by
  have := h.rd (below1 w (.cells #[.int .i64 0] 38))
  rwa [show (w.alloc (.cells #[.int .i64 0] 38)).heap.size = w.heap.size + 1 by simp] at this
 obtain ⟨-, b, o, cap, rfl, -, -, -, -⟩ := h
 have HO2 : Hid (Blk ((w.alloc (.cells #[.int .i64 0] 38)).alloc (.cells #[.slice (some ⟨b, o, none⟩) l.length cap] 130)) w.heap.size #[.int .i64 0] 38) := Blk.old _ _ _ _
 have HL : Hid (Below w.heap.size w ((w.alloc (.cells #[.int .i64 0] 38)).alloc (.cells #[.slice (some ⟨b, o, none⟩) l.length cap] 130))) := below2 _ _ _
 have HN : Hid (∀ (g : Nat) (X : World), RdS X g l -> Calls Tryz.prog 54 #[.pointer (some ⟨g, 0, none⟩)] X fun e w' => ∃ v, e = .returned v /\ SR8 X.heap.size w' x v /\ RdS w' g [] /\ Bv g X.heap.size X w') := fun g X hX => RdP.ok (set8_any g l X hX) hr
 clear hr
 go_enter_defers Tryz.func53, Tryz.ntmps53
 go_wp2_with (go_at_call 54; refine (HN.out _ _ HR.out).mono ?_; rintro e w1 ⟨v1, rfl, hp, ⟨-, v2, hk, b2', o2, cap2, rfl, -⟩, hb⟩; obtain ⟨L, hLk, hoc⟩ := hp; obtain ⟨a1, a3, e1⟩ := hoc.o.form; obtain ⟨a2, ha2⟩ : ∃ n, n = L.length := ⟨_, rfl⟩; rw [<- ha2] at e1; subst e1; have c0 := bcell1 hk; obtain ⟨q0, qf⟩ := (HO2.out.bl hb (by omega)).one; have hz1 : w.heap.size + 2 <= w1.heap.size := (by have := hb.size; simp at this; omega); have hz2 : w.heap.size + 1 < w1.heap.size := (by omega); have hz4 : w.heap.size < w1.heap.size := (by omega); have HB1 : Hid (Below w.heap.size w w1) := HL.out.trans ((hb.mono (by simp; omega)).below (by omega)); have HO : Hid (SR8 (w.heap.size + 2) w1 x (.slice a1 a2 a3)) := SR8.mono ⟨L, hLk, hoc⟩ (by simp); clear hb hoc hk hLk ha2)
 refine leaves_cons (f := 97) (args := #[.pointer (some ⟨w.heap.size, 0, none⟩)]) (by simp) (by simp [go_sem]) ?_
 refine (catchS_idle ⟨w.heap.size, 0, none⟩ _).mono ?_
 rintro e u' w'' ⟨rfl, rfl, rfl⟩
 simp only [Leaves, settle]
 refine ⟨_, ?_, .slice a1 a2 a3, rfl, (HO.out.hi ((Hi.refl _ _).set (by omega))).mono (by omega), HB1.out.setCell (p := ⟨w.heap.size, 0, none⟩) (Nat.le_refl _) _⟩
 simp [results, Tryz.results53, go_sem, q0]
set_option maxRecDepth 20000 in
set_option maxHeartbeats 800000 in
theorem readS_no (v : Value) (l : List Int) (w : World) (h : Bh w v l) (c : Int) (hr : rSet l = .error c) :
  Calls Tryz.prog 53 #[v, .func (.func 54) #[] #[]] w fun e w' => e = .returned (.tuple #[.slice none 0 0, .int .i64 c]) /\ Below w.heap.size w w' := by
 have hmf : ∀ (fn : Fn) (first cap : Array Value) (w : World), (Instr.makeFunc fn first cap).run Tryz.prog w = .ok (.func fn first cap) w := fun _ _ _ _ => rfl
 have HR : Hid (RdS ((w.alloc (.cells #[.int .i64 0] 38)).alloc (.cells #[v] 130)) (w.heap.size + 1) l) := by
  have := h.rd (below1 w (.cells #[.int .i64 0] 38))
  rwa [show (w.alloc (.cells #[.int .i64 0] 38)).heap.size = w.heap.size + 1 by simp] at this
 obtain ⟨-, b, o, cap, rfl, -, -, -, -⟩ := h
 have HO2 : Hid (Blk ((w.alloc (.cells #[.int .i64 0] 38)).alloc (.cells #[.slice (some ⟨b, o, none⟩) l.length cap] 130)) w.heap.size #[.int .i64 0] 38) := Blk.old _ _ _ _
 have HL : Hid (Below w.heap.size w ((w.alloc (.cells #[.int .i64 0] 38)).alloc (.cells #[.slice (some ⟨b, o, none⟩) l.length cap] 130))) := below2 _ _ _
 have HN : Hid (∀ (g : Nat) (X : World), RdS X g l -> Calls Tryz.prog 54 #[.pointer (some ⟨g, 0, none⟩)] X fun e w' => e = .panicked [pE c] /\ Bv g X.heap.size X w') := fun g X hX => RdP.err (set8_any g l X hX) hr
 clear hr
 go_enter_defers Tryz.func53, Tryz.ntmps53
 go_wp2_with (go_at_call 54; refine (HN.out _ _ HR.out).mono ?_; rintro e w1 ⟨rfl, hb⟩; obtain ⟨q0, qf⟩ := (HO2.out.bl hb (by omega)).one; have hz1 : w.heap.size + 2 <= w1.heap.size := (by have := hb.size; simp at this; omega); have hz2 : w.heap.size + 1 < w1.heap.size := (by omega); have hz4 : w.heap.size < w1.heap.size := (by omega); have HB1 : Hid (Below w.heap.size w w1) := HL.out.trans ((hb.mono (by simp; omega)).below (by omega)); clear hb)
 refine leaves_cons (f := 97) (args := #[.pointer (some ⟨w.heap.size, 0, none⟩)]) (by simp) (by simp [go_sem]) ?_
 refine (catchS_panic ⟨w.heap.size, 0, none⟩ 0 c [] _ q0 qf).mono ?_
 rintro e u' w'' ⟨rfl, rfl, rfl⟩
 simp [Leaves, settle, results, Tryz.results53, go_sem, q0]
 exact HB1.out.setCell (p := ⟨w.heap.size, 0, none⟩) (Nat.le_refl _) _
set_option maxRecDepth 20000 in
set_option maxHeartbeats 800000 in
theorem readS_tail (v : Value) (l : List Int) (w : World) (h : Bh w v l) (x : List Ck) (r : List Int) (hne : r ≠ []) (hr : rSet l = .ok (x, r)) :
  Calls Tryz.prog 53 #[v, .func (.func 54) #[] #[]] w fun e w' => e = .returned (.tuple #[.slice none 0 0, .int .i64 62]) /\ Below w.heap.size w w' := by
 have hmf : ∀ (fn : Fn) (first cap : Array Value) (w : World), (Instr.makeFunc fn first cap).run Tryz.prog w = .ok (.func fn first cap) w := fun _ _ _ _ => rfl
 have HR : Hid (RdS ((w.alloc (.cells #[.int .i64 0] 38)).alloc (.cells #[v] 130)) (w.heap.size + 1) l) := by
  have := h.rd (below1 w (.cells #[.int .i64 0] 38))
  rwa [show (w.alloc (.cells #[.int .i64 0] 38)).heap.size = w.heap.size + 1 by simp] at this
 obtain ⟨-, b, o, cap, rfl, -, -, -, -⟩ := h
 have HO2 : Hid (Blk ((w.alloc (.cells #[.int .i64 0] 38)).alloc (.cells #[.slice (some ⟨b, o, none⟩) l.length cap] 130)) w.heap.size #[.int .i64 0] 38) := Blk.old _ _ _ _
 have HL : Hid (Below w.heap.size w ((w.alloc (.cells #[.int .i64 0] 38)).alloc (.cells #[.slice (some ⟨b, o, none⟩) l.length cap] 130))) := below2 _ _ _
 have HN : Hid (∀ (g : Nat) (X : World), RdS X g l -> Calls Tryz.prog 54 #[.pointer (some ⟨g, 0, none⟩)] X fun e w' => ∃ v, e = .returned v /\ SR8 X.heap.size w' x v /\ RdS w' g r /\ Bv g X.heap.size X w') := fun g X hX => RdP.ok (set8_any g l X hX) hr
 clear hr
 have hlen : (0 : Int) < (r.length : Int) := by have := List.length_pos_iff.2 hne; omega
 go_enter_defers Tryz.func53, Tryz.ntmps53
 go_wp2_with (first
  | (go_at_call 54; refine (HN.out _ _ HR.out).mono ?_; rintro e w1 ⟨v1, rfl, hp, ⟨-, v2, hk, b2', o2, cap2, rfl, -⟩, hb⟩; obtain ⟨L, hLk, hoc⟩ := hp; obtain ⟨a1, a3, e1⟩ := hoc.o.form; obtain ⟨a2, ha2⟩ : ∃ n, n = L.length := ⟨_, rfl⟩; rw [<- ha2] at e1; subst e1; have c0 := bcell1 hk; obtain ⟨q0, qf⟩ := (HO2.out.bl hb (by omega)).one; have hz1 : w.heap.size + 2 <= w1.heap.size := (by have := hb.size; simp at this; omega); have hz2 : w.heap.size + 1 < w1.heap.size := (by omega); have hz4 : w.heap.size < w1.heap.size := (by omega); have HB1 : Hid (Below w.heap.size w w1) := HL.out.trans ((hb.mono (by simp; omega)).below (by omega)); have HO : Hid (SR8 (w.heap.size + 2) w1 x (.slice a1 a2 a3)) := SR8.mono ⟨L, hLk, hoc⟩ (by simp); clear hb hoc hk hLk ha2)
  | (go_at_call 91; refine (giveUp_any 62 _).mono ?_; rintro e w2 ⟨rfl, rfl⟩))
 refine leaves_cons (f := 97) (args := #[.pointer (some ⟨w.heap.size, 0, none⟩)]) (by simp) (by simp [go_sem]) ?_
 refine (catchS_panic ⟨w.heap.size, 0, none⟩ 0 62 [] _ q0 qf).mono ?_
 rintro e u' w'' ⟨rfl, rfl, rfl⟩
 simp [Leaves, settle, results, Tryz.results53, go_sem, q0]
 exact HB1.out.setCell (p := ⟨w.heap.size, 0, none⟩) (Nat.le_refl _) _
def RS8 (w : World) (r : Except Int (List Ck)) (e : Ending) (w' : World) : Prop := Below w.heap.size w w' /\ ∃ (x : List Ck) (u : Value) (er : Int), e = .returned (.tuple #[u, .int .i64 er]) /\ SR8 w.heap.size w' x u /\ match r with
 | .ok y => x = y /\ er = 0
 | .error d => x = [] /\ er = d
theorem readS_any (v : Value) (l : List Int) (w : World) (h : Bh w v l) :
  Calls Tryz.prog 53 #[v, .func (.func 54) #[] #[]] w (RS8 w (rWhole rSet l)) := by
 unfold rWhole
 rcases hr : rSet l with c | ⟨a, r⟩
 ·exact (readS_no v l w h c hr).mono (by rintro e w' ⟨rfl, hb⟩; exact ⟨hb, _, _, c, rfl, SR8.nil _ _, rfl, rfl⟩)
 ·by_cases hne : r = []
  ·subst hne
   simp only [if_true]
   exact (readS_ok v l w h a hr).mono (by rintro e w' ⟨u, rfl, ho, hb⟩; exact ⟨hb, a, u, 0, rfl, ho, rfl, rfl⟩)
  ·simp only [hne, if_false]
   exact (readS_tail v l w h a r hne hr).mono (by rintro e w' ⟨rfl, hb⟩; exact ⟨hb, _, _, 62, rfl, SR8.nil _ _, rfl, rfl⟩)
set_option maxRecDepth 20000 in
set_option maxHeartbeats 800000 in
theorem readSet_any (v : Value) (l : List Int) (w : World) (h : Bh w v l) :
  Calls Tryz.prog 22 #[v] w (RS8 w (rWhole rSet l)) := by
 have HN : Hid (Calls Tryz.prog 53 #[v, .func (.func 54) #[] #[]] w (RS8 w (rWhole rSet l))) := readS_any v l w h
 obtain ⟨-, b, o, cap, rfl, -, -, -, -⟩ := h
 go_enter Tryz.func22, Tryz.ntmps22
 go_wp2_with (go_at_call 53; refine HN.out.mono ?_; rintro e w1 ⟨hb, x, u, er, rfl, hp, hm⟩; have HP : Hid (SR8 w.heap.size w1 x u) := hp; have HM : Hid _ := hm; have HB : Hid (Below w.heap.size w w1) := hb; clear hb hp hm)
 exact bodyPost_ret (v := .tuple #[u, .int .i64 er]) (by simp [results, Tryz.results22, go_sem]) rfl ⟨HB.out, x, _, _, rfl, HP.out, HM.out⟩
end Go.Proofs.YtelcoihmiglceaaGreat
namespace Go.Proofs.YtelcoihmiglceaaGreat
open Go.RowKit

def vS (l : List Int) (t : Tm) : List Int := if t.var then (if l.any (fun n => decide (n = t.n)) then l else l ++ [t.n]) else l
def vs (pl : List Tm) : List Int := pl.foldl vS []
end Go.Proofs.YtelcoihmiglceaaGreat
namespace Go.Proofs.YtelcoihmiglceaaGreat
open Go.RowKit
attribute [local go_sem ↓] Go.wp_at_zero Go.wp_at_succ

def left (c : Int) (l l' : List Tm) : Int := if c = 0 then cmpL l l' else c
end Go.Proofs.YtelcoihmiglceaaGreat
namespace Go.Proofs.YtelcoihmiglceaaGreat
open Go.RowKit

def Te.szs (t : Te) : Prop := t.l.s.size <= maxLen /\ t.r.s.size <= maxLen
end Go.Proofs.YtelcoihmiglceaaGreat
namespace Go.Proofs.YtelcoihmiglceaaGreat
open Go.RowKit

def Cm.szs (c : Cm) : Prop := (c.head.1.name.size <= maxLen /\ ∀ t ∈ c.head.1.pl, t.s.size <= maxLen) /\ (∀ x ∈ c.body, x.1.name.size <= maxLen /\ ∀ t ∈ x.1.pl, t.s.size <= maxLen) /\ ∀ t ∈ c.tests, t.szs
end Go.Proofs.YtelcoihmiglceaaGreat
namespace Go.Proofs.YtelcoihmiglceaaGreat
open Go.RowKit
attribute [local go_sem ↓] Go.wp_at_zero Go.wp_at_succ

structure OKP (w : World) (c : Cm) : Prop where
 ok : c.ok w
 hh : TsP w c.head.2 c.head.1.args
 hp : ∀ x ∈ c.body, TsP w x.2 x.1.args
 bp : AsP w c.bv c.body
theorem ok_of_mc3k {B : Nat} {X : World} {d : Cm} (h : MCl B X d) (hs : (Ck.terms d.key).length <= 4000000) : d.ok X := by
 obtain ⟨s1, s2, s3, s4⟩ := cm_sizes hs
 exact h.ok (by omega) (by omega) (fun y hy => by have := s4 y hy; omega) (by omega)
end Go.Proofs.YtelcoihmiglceaaGreat
namespace Go.Proofs.YtelcoihmiglceaaGreat
open Go.RowKit

theorem OwnC.csp2 {B : Nat} {X : World} {v : Value} {l : List Cm} (h : OwnC X B v l) (hok : ∀ c ∈ l, c.ok X) : CsP X v l := by
 refine ⟨?_, hok⟩
 rcases h.2 with ⟨rfl, hn⟩ | ⟨g, cap, cur, hv, -⟩
 ·exact Or.inl ⟨rfl, List.length_eq_zero_iff.1 hn⟩
 ·refine Or.inr ⟨⟨g, 0, none⟩, cap, hv, ?_⟩
  cases l with
  | nil => exact Or.inl rfl
  | cons c l =>
   have ho := h
   rw [hv] at ho
   obtain ⟨b, o, e, hr⟩ := ho.adr (j := 0) (c := c) rfl
   exact Or.inr ⟨b, o, Option.some.inj e, hr⟩
end Go.Proofs.YtelcoihmiglceaaGreat
