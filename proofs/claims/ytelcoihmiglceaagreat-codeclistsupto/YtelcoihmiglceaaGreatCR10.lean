import Derived.Test.YtelcoihmiglceaaGreatCR8
import Derived.Test.YtelcoihmiglceaaGreatCL14
namespace Go.Proofs.YtelcoihmiglceaaGreat
open Go.RowKit

def SR8 (B : Nat) (X : World) (x : List Ck) (v : Value) : Prop := ∃ L : List Cm, L.map Cm.key = x /\ OCL X B v L
theorem SR8.hi {B : Nat} {X X' : World} {x : List Ck} {v : Value} (h : SR8 B X x v) (hk : Hi B X X') : SR8 B X' x v := by
 obtain ⟨L, h1, h2⟩ := h
 exact ⟨L, h1, h2.hi hk (Nat.le_refl _)⟩
theorem SR8.mono {B B' : Nat} {X : World} {x : List Ck} {v : Value} (h : SR8 B X x v) (hb : B' <= B) : SR8 B' X x v := by
 obtain ⟨L, h1, h2⟩ := h
 exact ⟨L, h1, h2.mono hb⟩
theorem SR8.nil (B : Nat) (X : World) : SR8 B X [] (.slice none 0 0) := ⟨[], rfl, OCL.nil _ _⟩
theorem catchS_panic (p : Addr) (x c : Int) (older : List PanicEntry) (w : World) (hc : w.cell? p = some (.int .i64 x)) (hz : w.frozen? p = false) :
  CallsD Tryz.prog 97 #[.pointer (some p)] (.panicking (pE c :: older)) w fun e u' w' =>
   e = .returned (.tuple #[]) /\ u' = .panicking ({ v := .iface 38 (.int .i64 c), recovered := true } :: older) /\ w' = w.setCell p (.int .i64 c) := by
 refine callsD_of_wpS Tryz.func97 rfl fun c₀ cs hu => ?_
 unfold pE at hu
 apply wpS_seq
 apply wpS_region
 simp [wpOpsS, go_sem, recoverD, hu, Tryz.ntmps97, Exit.thenS]
 have hta := run_assert
 refine wpS_of_wp ?_
 change Code.wp _ _ _ { tmps := #[.pointer (some p), .iface 38 (.int .i64 c), .iface 38 (.int .i64 c), undef, undef, undef, undef], defers := [] } w
 go_wp2
 exact ⟨rfl, _, rfl, _, by simp [results, Tryz.results97], rfl, rfl, rfl⟩
theorem catchS_idle (p : Addr) (w : World) :
  CallsD Tryz.prog 97 #[.pointer (some p)] .returning w fun e u' w' => e = .returned (.tuple #[]) /\ u' = .returning /\ w' = w := by
 refine callsD_of_wpS Tryz.func97 rfl fun c₀ cs hu => ?_
 apply wpS_seq
 apply wpS_region
 simp [wpOpsS, go_sem, recoverD, hu, Tryz.ntmps97, Exit.thenS]
 refine wpS_of_wp ?_
 change Code.wp _ _ _ { tmps := #[.pointer (some p), .nilIface, .nilIface, undef, undef, undef, undef], defers := [] } w
 go_wp2
 exact ⟨rfl, .returning, by rw [<- hu], _, by simp [results, Tryz.results97], rfl, rfl, rfl⟩
set_option maxRecDepth 20000 in
set_option maxHeartbeats 800000 in
theorem readS_ok (v : Value) (l : List Int) (w : World) (h : Bh w v l) (x : List Ck) (hr : rSet l = .ok (x, [])) :
  Calls Tryz.prog 53 #[v, .func (.func 54) #[] #[]] w fun e w' => ∃ u : Value, e = .returned (.tuple #[u, .int .i64 0]) /\ SR8 w.heap.size w' x u /\ Below w.heap.size w w' := by
 have hmf : ∀ (fn : Fn) (first cap : Array Value) (w : World), (Instr.makeFunc fn first cap).run Tryz.prog w = .ok (.func fn first cap) w := fun _ _ _ _ => rfl
 have HR : Hid (RdS ((w.alloc (.cells #[.int .i64 0] 38)).alloc (.cells #[v] 130)) (w.heap.size + 1) l) := by
  have := h.rd (below1 w (.cells #[.int .i64 0] 38))
  rwa [show (w.alloc (.cells #[.int .i64 0] 38)).heap.size = w.heap.size + 1 by simp] at this
 obtain ⟨-, b, o, cap, rfl, -, -, -, -⟩ := h
 have HO2 : Hid (Blk ((w.alloc (.cells #[.int .i64 0] 38)).alloc (.cells #[.slice (some ⟨b, o, none⟩) l.length cap] 130)) w.heap.size #[.int .i64 0] 38) := Blk.old _ _ _ _
 have HL : Hid (Below w.heap.size w ((w.alloc (.cells #[.int .i64 0] 38)).alloc (.cells #[.slice (some ⟨b, o, none⟩) l.length cap] 130))) := below2 _ _ _
 have HN : Hid (∀ (g : Nat) (X : World), RdS X g l -> Calls Tryz.prog 54 #[.pointer (some ⟨g, 0, none⟩)] X fun e w' => ∃ v, e = .returned v /\ SR8 X.heap.size w' x v /\ RdS w' g [] /\ Bv g X.heap.size X w') := fun g X hX => RdP.ok (set8_any g l X hX) hr
 clear hr
 go_enter_defers Tryz.func53, Tryz.ntmps53
 go_wp2_with (go_at_call 54; refine (HN.out _ _ HR.out).mono ?_; rintro e w1 ⟨v1, rfl, hp, ⟨-, v2, hk, b2', o2, cap2, rfl, -⟩, hb⟩; obtain ⟨L, hLk, hoc⟩ := hp; obtain ⟨a1, a3, e1⟩ := hoc.o.form; obtain ⟨a2, ha2⟩ : ∃ n, n = L.length := ⟨_, rfl⟩; rw [<- ha2] at e1; subst e1; have c0 := bcell1 hk; obtain ⟨q0, qf⟩ := (HO2.out.bl hb (by omega)).one; have hz1 : w.heap.size + 2 <= w1.heap.size := (by have := hb.size; simp at this; omega); have hz2 : w.heap.size + 1 < w1.heap.size := (by omega); have hz4 : w.heap.size < w1.heap.size := (by omega); have HB1 : Hid (Below w.heap.size w w1) := HL.out.trans ((hb.mono (by simp; omega)).below (by omega)); have HO : Hid (SR8 (w.heap.size + 2) w1 x (.slice a1 a2 a3)) := SR8.mono ⟨L, hLk, hoc⟩ (by simp); clear hb hoc hk hLk ha2)
 refine leaves_cons (f := 97) (args := #[.pointer (some ⟨w.heap.size, 0, none⟩)]) (by simp) (by simp [go_sem]) ?_
 refine (catchS_idle ⟨w.heap.size, 0, none⟩ _).mono ?_
 rintro e u' w'' ⟨rfl, rfl, rfl⟩
 simp only [Leaves, settle]
 refine ⟨_, ?_, .slice a1 a2 a3, rfl, (HO.out.hi ((Hi.refl _ _).set (by omega))).mono (by omega), HB1.out.setCell (p := ⟨w.heap.size, 0, none⟩) (Nat.le_refl _) _⟩
 simp [results, Tryz.results53, go_sem, q0]
set_option maxRecDepth 20000 in
set_option maxHeartbeats 800000 in
theorem readS_no (v : Value) (l : List Int) (w : World) (h : Bh w v l) (c : Int) (hr : rSet l = .error c) :
  Calls Tryz.prog 53 #[v, .func (.func 54) #[] #[]] w fun e w' => e = .returned (.tuple #[.slice none 0 0, .int .i64 c]) /\ Below w.heap.size w w' := by
 have hmf : ∀ (fn : Fn) (first cap : Array Value) (w : World), (Instr.makeFunc fn first cap).run Tryz.prog w = .ok (.func fn first cap) w := fun _ _ _ _ => rfl
 have HR : Hid (RdS ((w.alloc (.cells #[.int .i64 0] 38)).alloc (.cells #[v] 130)) (w.heap.size + 1) l) := by
  have := h.rd (below1 w (.cells #[.int .i64 0] 38))
  rwa [show (w.alloc (.cells #[.int .i64 0] 38)).heap.size = w.heap.size + 1 by simp] at this
 obtain ⟨-, b, o, cap, rfl, -, -, -, -⟩ := h
 have HO2 : Hid (Blk ((w.alloc (.cells #[.int .i64 0] 38)).alloc (.cells #[.slice (some ⟨b, o, none⟩) l.length cap] 130)) w.heap.size #[.int .i64 0] 38) := Blk.old _ _ _ _
 have HL : Hid (Below w.heap.size w ((w.alloc (.cells #[.int .i64 0] 38)).alloc (.cells #[.slice (some ⟨b, o, none⟩) l.length cap] 130))) := below2 _ _ _
 have HN : Hid (∀ (g : Nat) (X : World), RdS X g l -> Calls Tryz.prog 54 #[.pointer (some ⟨g, 0, none⟩)] X fun e w' => e = .panicked [pE c] /\ Bv g X.heap.size X w') := fun g X hX => RdP.err (set8_any g l X hX) hr
 clear hr
 go_enter_defers Tryz.func53, Tryz.ntmps53
 go_wp2_with (go_at_call 54; refine (HN.out _ _ HR.out).mono ?_; rintro e w1 ⟨rfl, hb⟩; obtain ⟨q0, qf⟩ := (HO2.out.bl hb (by omega)).one; have hz1 : w.heap.size + 2 <= w1.heap.size := (by have := hb.size; simp at this; omega); have hz2 : w.heap.size + 1 < w1.heap.size := (by omega); have hz4 : w.heap.size < w1.heap.size := (by omega); have HB1 : Hid (Below w.heap.size w w1) := HL.out.trans ((hb.mono (by simp; omega)).below (by omega)); clear hb)
 refine leaves_cons (f := 97) (args := #[.pointer (some ⟨w.heap.size, 0, none⟩)]) (by simp) (by simp [go_sem]) ?_
 refine (catchS_panic ⟨w.heap.size, 0, none⟩ 0 c [] _ q0 qf).mono ?_
 rintro e u' w'' ⟨rfl, rfl, rfl⟩
 simp [Leaves, settle, results, Tryz.results53, go_sem, q0]
 exact HB1.out.setCell (p := ⟨w.heap.size, 0, none⟩) (Nat.le_refl _) _
set_option maxRecDepth 20000 in
set_option maxHeartbeats 800000 in
theorem readS_tail (v : Value) (l : List Int) (w : World) (h : Bh w v l) (x : List Ck) (r : List Int) (hne : r ≠ []) (hr : rSet l = .ok (x, r)) :
  Calls Tryz.prog 53 #[v, .func (.func 54) #[] #[]] w fun e w' => e = .returned (.tuple #[.slice none 0 0, .int .i64 62]) /\ Below w.heap.size w w' := by
 have hmf : ∀ (fn : Fn) (first cap : Array Value) (w : World), (Instr.makeFunc fn first cap).run Tryz.prog w = .ok (.func fn first cap) w := fun _ _ _ _ => rfl
 have HR : Hid (RdS ((w.alloc (.cells #[.int .i64 0] 38)).alloc (.cells #[v] 130)) (w.heap.size + 1) l) := by
  have := h.rd (below1 w (.cells #[.int .i64 0] 38))
  rwa [show (w.alloc (.cells #[.int .i64 0] 38)).heap.size = w.heap.size + 1 by simp] at this
 obtain ⟨-, b, o, cap, rfl, -, -, -, -⟩ := h
 have HO2 : Hid (Blk ((w.alloc (.cells #[.int .i64 0] 38)).alloc (.cells #[.slice (some ⟨b, o, none⟩) l.length cap] 130)) w.heap.size #[.int .i64 0] 38) := Blk.old _ _ _ _
 have HL : Hid (Below w.heap.size w ((w.alloc (.cells #[.int .i64 0] 38)).alloc (.cells #[.slice (some ⟨b, o, none⟩) l.length cap] 130))) := below2 _ _ _
 have HN : Hid (∀ (g : Nat) (X : World), RdS X g l -> Calls Tryz.prog 54 #[.pointer (some ⟨g, 0, none⟩)] X fun e w' => ∃ v, e = .returned v /\ SR8 X.heap.size w' x v /\ RdS w' g r /\ Bv g X.heap.size X w') := fun g X hX => RdP.ok (set8_any g l X hX) hr
 clear hr
 have hlen : (0 : Int) < (r.length : Int) := by have := List.length_pos_iff.2 hne; omega
 go_enter_defers Tryz.func53, Tryz.ntmps53
 go_wp2_with (first
  | (go_at_call 54; refine (HN.out _ _ HR.out).mono ?_; rintro e w1 ⟨v1, rfl, hp, ⟨-, v2, hk, b2', o2, cap2, rfl, -⟩, hb⟩; obtain ⟨L, hLk, hoc⟩ := hp; obtain ⟨a1, a3, e1⟩ := hoc.o.form; obtain ⟨a2, ha2⟩ : ∃ n, n = L.length := ⟨_, rfl⟩; rw [<- ha2] at e1; subst e1; have c0 := bcell1 hk; obtain ⟨q0, qf⟩ := (HO2.out.bl hb (by omega)).one; have hz1 : w.heap.size + 2 <= w1.heap.size := (by have := hb.size; simp at this; omega); have hz2 : w.heap.size + 1 < w1.heap.size := (by omega); have hz4 : w.heap.size < w1.heap.size := (by omega); have HB1 : Hid (Below w.heap.size w w1) := HL.out.trans ((hb.mono (by simp; omega)).below (by omega)); have HO : Hid (SR8 (w.heap.size + 2) w1 x (.slice a1 a2 a3)) := SR8.mono ⟨L, hLk, hoc⟩ (by simp); clear hb hoc hk hLk ha2)
  | (go_at_call 91; refine (giveUp_any 62 _).mono ?_; rintro e w2 ⟨rfl, rfl⟩))
 refine leaves_cons (f := 97) (args := #[.pointer (some ⟨w.heap.size, 0, none⟩)]) (by simp) (by simp [go_sem]) ?_
 refine (catchS_panic ⟨w.heap.size, 0, none⟩ 0 62 [] _ q0 qf).mono ?_
 rintro e u' w'' ⟨rfl, rfl, rfl⟩
 simp [Leaves, settle, results, Tryz.results53, go_sem, q0]
 exact HB1.out.setCell (p := ⟨w.heap.size, 0, none⟩) (Nat.le_refl _) _
def RS8 (w : World) (r : Except Int (List Ck)) (e : Ending) (w' : World) : Prop := Below w.heap.size w w' /\ ∃ (x : List Ck) (u : Value) (er : Int), e = .returned (.tuple #[u, .int .i64 er]) /\ SR8 w.heap.size w' x u /\ match r with
 | .ok y => x = y /\ er = 0
 | .error d => x = [] /\ er = d
theorem readS_any (v : Value) (l : List Int) (w : World) (h : Bh w v l) :
  Calls Tryz.prog 53 #[v, .func (.func 54) #[] #[]] w (RS8 w (rWhole rSet l)) := by
 unfold rWhole
 rcases hr : rSet l with c | ⟨a, r⟩
 ·exact (readS_no v l w h c hr).mono (by rintro e w' ⟨rfl, hb⟩; exact ⟨hb, _, _, c, rfl, SR8.nil _ _, rfl, rfl⟩)
 ·by_cases hne : r = []
  ·subst hne
   simp only [if_true]
   exact (readS_ok v l w h a hr).mono (by rintro e w' ⟨u, rfl, ho, hb⟩; exact ⟨hb, a, u, 0, rfl, ho, rfl, rfl⟩)
  ·simp only [hne, if_false]
   exact (readS_tail v l w h a r hne hr).mono (by rintro e w' ⟨rfl, hb⟩; exact ⟨hb, _, _, 62, rfl, SR8.nil _ _, rfl, rfl⟩)
set_option maxRecDepth 20000 in
set_option maxHeartbeats 800000 in
theorem readSet_any (v : Value) (l : List Int) (w : World) (h : Bh w v l) :
  Calls Tryz.prog 22 #[v] w (RS8 w (rWhole rSet l)) := by
 have HN : Hid (Calls Tryz.prog 53 #[v, .func (.func 54) #[] #[]] w (RS8 w (rWhole rSet l))) := readS_any v l w h
 obtain ⟨-, b, o, cap, rfl, -, -, -, -⟩ := h
 go_enter Tryz.func22, Tryz.ntmps22
 go_wp2_with (go_at_call 53; refine HN.out.mono ?_; rintro e w1 ⟨hb, x, u, er, rfl, hp, hm⟩; have HP : Hid (SR8 w.heap.size w1 x u) := hp; have HM : Hid _ := hm; have HB : Hid (Below w.heap.size w w1) := hb; clear hb hp hm)
 exact bodyPost_ret (v := .tuple #[u, .int .i64 er]) (by simp [results, Tryz.results22, go_sem]) rfl ⟨HB.out, x, _, _, rfl, HP.out, HM.out⟩
end Go.Proofs.YtelcoihmiglceaaGreat
namespace Go.Proofs.YtelcoihmiglceaaGreat
open Go.RowKit

theorem drop_eq_stepI (a b : List Int) (i : Nat) (t u : Int) (ht : a[i]? = some t) (hu : b[i]? = some u) : (a.drop i = b.drop i) ↔ (t = u /\ a.drop (i + 1) = b.drop (i + 1)) := by
 obtain ⟨h1, e1⟩ := List.getElem?_eq_some_iff.1 ht
 obtain ⟨h2, e2⟩ := List.getElem?_eq_some_iff.1 hu
 rw [List.drop_eq_getElem_cons h1, List.drop_eq_getElem_cons h2, e1, e2, List.cons.injEq]
set_option maxRecDepth 20000 in
set_option maxHeartbeats 600000 in
theorem sameInts_any (a b : List Int) (x y : Value) (w : World) (h : Ns w x a) (h' : Ns w y b) :
  Calls Tryz.prog 96 #[x, y] w fun e w' => e = .returned (.bool (decide (a = b))) /\ Below w.heap.size w w' := by
 obtain ⟨ad, cap, rfl, hl, h⟩ := h
 obtain ⟨ad', cap', rfl, hl', h'⟩ := h'
 by_cases e2 : a.length = b.length
 ·have n0 : ((a.length : Int) != (a.length : Int)) = false := by simp
  have E2 : Hid (a.length = b.length) := e2
  rw [<- e2]
  clear e2
  go_enter Tryz.func96, Tryz.ntmps96
  go_wp2
  go_loopg [5] a.length (fun g i wr => ∃ j : Nat, j + g = a.length /\ i = .int .i64 j /\ (a = b ↔ a.drop j = b.drop j) /\ Below w.heap.size w wr)
  case atStart => exact ⟨0, by omega, rfl, by simp, Below.refl _ _⟩
  case round =>
   obtain ⟨j, hj, rfl, hgo, hb⟩ := hrel
   have HG : Hid (a = b ↔ a.drop j = b.drop j) := hgo
   clear hgo
   cases gk with
   | succ g =>
    have hlt : (j : Int) < (a.length : Int) := by omega
    have hlt' : j < b.length := by have := E2.out; omega
    have j0 : (0 : Int) <= (j : Int) := by omega
    obtain ⟨t, ht⟩ : ∃ t, a[j]? = some t := ⟨_, List.getElem?_eq_getElem (by omega)⟩
    obtain ⟨u, hu⟩ : ∃ u, b[j]? = some u := ⟨_, List.getElem?_eq_getElem (by omega)⟩
    have HS : Hid ((a = b) ↔ (t = u /\ a.drop (j + 1) = b.drop (j + 1))) := HG.out.trans (drop_eq_stepI a b j t u ht hu)
    rcases h with h | ⟨b1, o1, rfl, hb1, h⟩
    ·subst h; simp at hj
    rcases h' with h' | ⟨b2, o2, rfl, hb2, h'⟩
    ·subst h'; simp at hu
    have p0 := h j t ht
    have q0 := h' j u hu
    rw [<- hb.cell (p := ⟨b1, _, none⟩) hb1] at p0
    rw [<- hb.cell (p := ⟨b2, _, none⟩) hb2] at q0
    clear h h' ht hu
    by_cases htu : t = u
    ·have HS2 : Hid (a = b ↔ a.drop (j + 1) = b.drop (j + 1)) := by
      have := HS.out; show a = b ↔ _; simpa [htu] using this
     subst htu
     go_wp2
     go_quiet (fail)
     go_wp2
     go_roundg g
     case measure => omega
     case rel => exact ⟨j + 1, by omega, by go_num, HS2.out, below_drewN hb _⟩
    ·have HS2 : Hid (decide (a = b) = false) := decide_eq_false fun e => htu (HS.out.1 e).1
     have n1 : (t == u) = false := beq_eq_false_iff_ne.2 htu
     have n2 : (t != u) = true := by rw [bne, n1]; rfl
     go_wp2
     go_quiet (fail)
     go_wp2
     go_ret
     exact ⟨ret_b HS2.out.symm, below_drewN hb _⟩
   | zero =>
    have hlt : ¬ (j : Int) < (a.length : Int) := by omega
    have HS2 : Hid (decide (a = b) = true) := decide_eq_true (HG.out.2 (by rw [List.drop_eq_nil_of_le (by omega), List.drop_eq_nil_of_le (by have := E2.out; omega)]))
    clear hj h h'
    go_wp2
    go_ret
    exact ⟨ret_b HS2.out.symm, hb⟩
 ·have hq2 : ((a.length : Int) == (b.length : Int)) = false := by simp; omega
  have HS2 : Hid (decide (a = b) = false) := decide_eq_false fun e => e2 (by rw [e])
  clear e2 h h'
  go_enter Tryz.func96, Tryz.ntmps96
  go_wp2
  go_ret
  exact ⟨ret_b HS2.out.symm, Below.refl _ _⟩
end Go.Proofs.YtelcoihmiglceaaGreat
