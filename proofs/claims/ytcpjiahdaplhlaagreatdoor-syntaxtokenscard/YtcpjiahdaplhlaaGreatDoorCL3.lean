/-
  terms: a clause's terms, one by one.
-/
import Derived.Test.YtcpjiahdaplhlaaGreatDoorCL2
namespace Go.Proofs.YtcpjiahdaplhlaaGreatDoor
open Go.RowKit Go.Shelf
attribute [local go_sem] Oper.semAt_some

theorem cterms_any (c : Cm) (w : World) (h : c.ok w) :
    Calls Tryz.prog 200 #[c.v] w fun e w' => e = .returned (.func (.func 213) #[] #[.pointer (some ⟨w.heap.size, 0, none⟩)]) ∧ w' = w.alloc (.cells c.cs 53) := by
  obtain ⟨⟨a, n, cap, h1⟩, ⟨a', cap', h2⟩, ⟨a'', cap'', h3⟩, -, -⟩ := h.shape
  obtain ⟨⟨⟨⟨k, m, s⟩, nm, l⟩, hx⟩, body, bv, tests, tv⟩ := c
  simp only at h1 h2 h3
  subst h1 h2 h3
  go_enter Tryz.func200, Tryz.ntmps200
  go_wp2
  go_ret
  exact ⟨rfl, rfl⟩
theorem cblk_own {β : Type} (K B : Nat) (t : TypeId) (c : Array Value) : OwnFrom K (fun (_ : β) W => CBlk W B c t) := fun _ X _ row hs hg hr =>
  (hg.block B hs.lt (fun e => by obtain ⟨o, ho, hc⟩ := (hr B e.symm).2; rw [show X.heap[B]? = _ from hs] at ho; cases ho; cases hc)).trans hs
theorem CBlk.up {K B : Nat} {t : TypeId} {c : Array Value} {W W' : World} (h : CBlk W B c t) (hu : Up K W W') (hB : K ≤ B) : CBlk W' B c t := (hu.same B hB h.lt).trans h
theorem one {w : World} {g : Nat} {a : Value} {t : TypeId} (h : CBlk w g #[a] t) : w.cell? ⟨g, 0, none⟩ = some a ∧ w.frozen? ⟨g, 0, none⟩ = false := ⟨cell_of_row _ _ _ _ _ _ h, frozen_of_row _ _ _ _ _ h⟩
theorem cfive {w : World} {g : Nat} {a b c d e : Value} {t : TypeId} (h : CBlk w g #[a, b, c, d, e] t) :
    w.cell? ⟨g, 0, none⟩ = some a ∧ w.cell? ⟨g, 1, none⟩ = some b ∧ w.cell? ⟨g, 2, none⟩ = some c ∧ w.cell? ⟨g, 3, none⟩ = some d ∧ w.cell? ⟨g, 4, none⟩ = some e :=
  ⟨cell_of_row _ _ _ _ _ _ h, cell_of_row _ _ _ _ _ _ h, cell_of_row _ _ _ _ _ _ h, cell_of_row _ _ _ _ _ _ h, cell_of_row _ _ _ _ _ _ h⟩
/-- The terms of atoms. -/
def flt (l : List (At × Value)) : List Tm := l.flatMap fun x => x.1.pl
theorem flt_snoc (l : List (At × Value)) (x : At × Value) : flt (l ++ [x]) = flt l ++ x.1.pl := by simp [flt]
theorem flt_pre {pre xs : List (At × Value)} {x : At × Value} {q : List Tm} (R : List Tm) (h : pre ++ [x] <+: xs) (hq : q <+: x.1.pl) : flt pre ++ q <+: flt xs ++ R := by
  obtain ⟨suf, rfl⟩ := h
  obtain ⟨r, hr⟩ := hq
  refine ⟨r ++ flt suf ++ R, ?_⟩
  have e : flt (pre ++ [x] ++ suf) = flt pre ++ x.1.pl ++ flt suf := by simp [flt]
  rw [e, ← hr]
  simp only [List.append_assoc]
/-- The terms of tests. -/
def tls (l : List Te) : List Tm := l.flatMap fun t => [t.l, t.r]
theorem tls_snoc (l : List Te) (t : Te) : tls (l ++ [t]) = tls l ++ [t.l, t.r] := by simp [tls]
theorem tls_pre {F : List Tm} {tests : List Te} {q : Nat} {t : Te} {p : List Tm} (ht : tests[q]? = some t) (hp : p <+: [t.l, t.r]) : F ++ tls (tests.take q) ++ p <+: F ++ tls tests := by
  obtain ⟨r, hr⟩ := hp
  obtain ⟨hq, rfl⟩ := List.getElem?_eq_some_iff.1 ht
  refine ⟨r ++ tls (tests.drop (q + 1)), ?_⟩
  have e : tls tests = tls (tests.take q) ++ [tests[q].l, tests[q].r] ++ tls (tests.drop (q + 1)) := by
    have e0 : tests = tests.take q ++ (tests[q] :: tests.drop (q + 1)) := by rw [← List.drop_eq_getElem_cons hq, List.take_append_drop]
    refine (congrArg tls e0).trans ?_
    unfold tls
    rw [List.flatMap_append, List.flatMap_cons, List.append_assoc]
  rw [e, ← hr]
  simp only [List.append_assoc]
theorem Cm.ok.mem {w : World} {c : Cm} (h : c.ok w) {x : At × Value} (hx : x ∈ c.atoms) : Ts w x.2 x.1.args := by
  rcases List.mem_cons.1 hx with rfl | hx
  · exact h.h
  · obtain ⟨-, -, -, -, -, ht⟩ := h.b; exact ht x hx
theorem mem_of_pre {α : Type} {pre xs : List α} {x : α} (h : pre ++ [x] <+: xs) : x ∈ xs := by
  obtain ⟨suf, rfl⟩ := h; simp
abbrev At.cs (a : At) (x : Value) : Array Value := #[.int .i64 a.by_.k, .int .i64 a.by_.n, .string a.by_.s, .string a.name, x]
set_option maxRecDepth 100000 in
set_option maxHeartbeats 4000000 in
theorem terms_seq (c : Cm) (B0 : Nat) :
    SeqO Tryz.prog 213 #[.pointer (some ⟨B0, 0, none⟩)] (fun t : Tm => #[t.v]) c.terms (CMem c B0) := by
  intro n l J Jx W hJB hJ hJx hY h0
  have hWB := hJB [] W h0
  have HC : Hid (CMem c B0 W) := hWB
  obtain ⟨⟨a, hn, cap, h1⟩, ⟨a', cap', h2⟩, ⟨a'', cap'', h3⟩, hbl, htl⟩ := hWB.2.shape
  obtain ⟨c0, c1, c2, c3, c4, c5, c6⟩ := cseven (CBlk.later hWB.1 (below1 W (.cells #[.func (.yield l) #[] #[]] 80)))
  have hat := atoms_any c (W.alloc (.cells #[.func (.yield l) #[] #[]] 80)) (hWB.2.later (below1 _ _))
  obtain ⟨⟨⟨⟨k, m, s⟩, nm, ls⟩, hx⟩, body, bv, tests, tv⟩ := c
  simp only at h1 h2 h3 c0 c1 c2 c3 c4 c5 c6 hbl htl hat
  subst h1 h2 h3
  clear hWB
  refine callsIn_of_wp_marks Tryz.func213 rfl trivial ?_ rfl
  simp only [Tryz.ntmps213, List.size_toArray, List.length_cons, List.length_nil, Nat.reduceAdd, Nat.reduceSub, Array.replicate_succ, Array.replicate_zero, List.push_toArray, List.append_toArray, List.nil_append, List.cons_append]
  gi_wp2
  refine ⟨trivial, fun h => (by cases h), (callsIn_wide.2 hat).mono ?_⟩
  rintro e w' ⟨rfl, rfl⟩
  clear hat
  have hz1 : ((W.alloc (.cells #[.func (.yield l) #[] #[]] 80)).alloc (.cells (Cm.cs ⟨(⟨⟨k, m, s⟩, nm, ls⟩, .slice a hn cap), body, .slice a' body.length cap', tests, .slice a'' tests.length cap''⟩) 53)).heap.size = W.heap.size + 2 := by simp
  have b1 : CBlk ((W.alloc (.cells #[.func (.yield l) #[] #[]] 80)).alloc (.cells (Cm.cs ⟨(⟨⟨k, m, s⟩, nm, ls⟩, .slice a hn cap), body, .slice a' body.length cap', tests, .slice a'' tests.length cap''⟩) 53)) W.heap.size #[.func (.yield l) #[] #[]] 80 := (CBlk.new W _ _).later (below1 _ _)
  have b2 := CBlk.new (W.alloc (.cells #[.func (.yield l) #[] #[]] 80)) (Cm.cs ⟨(⟨⟨k, m, s⟩, nm, ls⟩, .slice a hn cap), body, .slice a' body.length cap', tests, .slice a'' tests.length cap''⟩) 53
  rw [show (W.alloc (.cells #[.func (.yield l) #[] #[]] 80)).heap.size = W.heap.size + 1 by simp] at b2
  have j1 : J [] ((W.alloc (.cells #[.func (.yield l) #[] #[]] 80)).alloc (.cells (Cm.cs ⟨(⟨⟨k, m, s⟩, nm, ls⟩, .slice a hn cap), body, .slice a' body.length cap', tests, .slice a'' tests.length cap''⟩) 53)) := hJ.alloc _ (hJ.alloc _ h0)
  gi_wp2
  revert hz1 b1 b2 j1
  generalize (W.alloc (.cells #[.func (.yield l) #[] #[]] 80)).alloc (.cells (Cm.cs ⟨(⟨⟨k, m, s⟩, nm, ls⟩, .slice a hn cap), body, .slice a' body.length cap', tests, .slice a'' tests.length cap''⟩) 53) = W1
  intro hz1 b1 b2 j1
  have HJB : Hid (∀ pre W1, J pre W1 → CMem ⟨(⟨⟨k, m, s⟩, nm, ls⟩, .slice a hn cap), body, .slice a' body.length cap', tests, .slice a'' tests.length cap''⟩ B0 W1) := hJB
  clear c0 c1 c2 c3 c4 c5 c6 h0 HC hJB
  refine wpIn_seq (gf := 212) (lb := #[.pointer (some ⟨W.heap.size + 1, 0, none⟩)]) rfl (enters_of Tryz.func212 (by kernel_rfl) rfl) (atoms_seq ⟨(⟨⟨k, m, s⟩, nm, ls⟩, .slice a hn cap), body, .slice a' body.length cap', tests, .slice a'' tests.length cap''⟩ (W.heap.size + 1)) (fun _ => rfl)
    (fun pre X => J (flt pre) X ∧ CBlk X W.heap.size #[.func (.yield l) #[] #[]] 80 ∧ CBlk X (W.heap.size + 1) (Cm.cs ⟨(⟨⟨k, m, s⟩, nm, ls⟩, .slice a hn cap), body, .slice a' body.length cap', tests, .slice a'' tests.length cap''⟩) 53)
    (fun cd _ X => cd = .ret ∧ ∃ q, q <+: Cm.terms ⟨(⟨⟨k, m, s⟩, nm, ls⟩, .slice a hn cap), body, .slice a' body.length cap', tests, .slice a'' tests.length cap''⟩ ∧ Jx q X)
    (OwnFrom.and (fun s X Y row hs hg hr => hJ _ X Y row hs hg (fun r e => ⟨by have := (hr r e).1; omega, (hr r e).2⟩)) (OwnFrom.and (cblk_own _ _ _ _) (cblk_own _ _ _ _)))
    (fun cd s X Y row hs hg hr => ⟨hs.1, by obtain ⟨q, hq, hx⟩ := hs.2; exact ⟨q, hq, hJx q X Y row hx hg (fun r e => ⟨by have := (hr r e).1; omega, (hr r e).2⟩)⟩⟩)
    (fun pre X h => ⟨h.2.2, (HJB.out _ X h.1).2⟩)
    ⟨j1, b1, b2⟩
    (fun x act X => ∃ Bx, W.heap.size + 1 < Bx ∧ CBlk X Bx (x.1.cs x.2) 42 ∧ act = { tmps := #[.func (.yield l) #[] #[], .pointer (some ⟨B0, 0, none⟩), .pointer (some ⟨W.heap.size, 0, none⟩), .pointer (some ⟨Bx, 0, none⟩), undef, undef, undef, undef, .agg #[.int .i64 k, .int .i64 m, .string s, .string nm, .slice a hn cap, .slice a' body.length cap', .slice a'' tests.length cap''], .func (.func 212) #[] #[.pointer (some ⟨W.heap.size + 1, 0, none⟩)], x.1.v x.2, undef, undef, undef, undef, undef, undef, undef, undef, undef, undef, undef, undef, undef, undef, undef, undef, undef, undef, undef, undef, undef, undef, undef, undef, undef, undef, undef, undef, undef, undef, undef, undef, undef, undef, undef, undef, undef], defers := [] })
    (fun x _ _ X Y row hs hg hr => by obtain ⟨Bx, h1, h2, h3⟩ := hs; exact ⟨Bx, h1, cblk_own (β := Unit) _ _ _ _ () X Y row h2 hg hr, h3⟩)
    ?assign ?body ?done ?stop
  case assign =>
    rintro l' mm pre x X K hpre ⟨hj, hf, hb⟩ hle hK
    obtain ⟨ax, cx, hax, -⟩ := (HJB.out _ X hj).2.mem (mem_of_pre hpre)
    obtain ⟨⟨⟨kx, mx, sx⟩, nx, lx⟩, vx⟩ := x
    simp only at hax
    subst hax
    gi_wp2
    exact hK _ _ (Up.alloc _ _ _) ⟨hJ.alloc _ hj, hf.later (below1 _ _), hb.later (below1 _ _)⟩ ⟨X.heap.size, by omega, CBlk.new _ _ _, rfl⟩
  case body =>
    rintro l' mm pre x act X hpre ⟨hj, hf, hb⟩ ⟨Bx, hBx, hX, rfl⟩ hle
    obtain ⟨ax, cx, hax, hll, -⟩ := (HJB.out _ X hj).2.mem (mem_of_pre hpre)
    have HP : Hid (pre ++ [x] <+: Cm.atoms ⟨(⟨⟨k, m, s⟩, nm, ls⟩, .slice a hn cap), body, .slice a' body.length cap', tests, .slice a'' tests.length cap''⟩) := hpre
    have HF : Hid (CBlk X W.heap.size #[.func (.yield l) #[] #[]] 80) := hf
    have HB : Hid (CBlk X (W.heap.size + 1) (Cm.cs ⟨(⟨⟨k, m, s⟩, nm, ls⟩, .slice a hn cap), body, .slice a' body.length cap', tests, .slice a'' tests.length cap''⟩) 53) := hb
    have hYx := hY (mm - 1) (flt pre) x.1.by_ X hj (flt_pre _ hpre ⟨x.1.args, rfl⟩)
    obtain ⟨⟨⟨kx, mx, sx⟩, nx, lx⟩, vx⟩ := x
    simp only at hax hYx hll
    subst hax
    have HX : Hid (CBlk X Bx #[.int .i64 kx, .int .i64 mx, .string sx, .string nx, .slice ax lx.length cx] 42) := hX
    obtain ⟨fn, tmps, assign, bd, hy, hR⟩ := hYx
    obtain ⟨f0, -⟩ := one hf
    obtain ⟨x0, x1, x2, x3, x4⟩ := cfive HX.out
    clear hX hf hb hj hpre
    gi_wp2
    refine ⟨fun h => (by cases h), hR.mono ?_⟩
    clear hR hy
    rintro e W3 (⟨rfl, hJ3, hu3⟩ | ⟨rfl, hx3, hu3⟩)
    · have HJ3 : Hid (J (flt pre ++ [⟨kx, mx, sx⟩]) W3) := hJ3
      have HU3 : Hid (Up W.heap.size X W3) := hu3
      clear f0 x0 x1 x2 x3 x4
      obtain ⟨f0, -⟩ := one (HF.out.up hu3 (Nat.le_refl _))
      obtain ⟨x0, x1, x2, x3, x4⟩ := cfive (HX.out.up hu3 (by omega))
      clear hJ3 hu3
      gi_wp2
      gi_loopw [19] (fun p wr => ∃ (q : Nat), p = .int .i64 (q : Int) ∧ q ≤ lx.length ∧ J (flt pre ++ (⟨kx, mx, sx⟩ :: lx.take q)) wr ∧ Up W.heap.size X wr)
        (fun p _ => lx.length - (intOf p).toNat)
      case atStart => exact ⟨0, rfl, Nat.zero_le _, HJ3.out, HU3.out⟩
      case round =>
        obtain ⟨q, rfl, hq, hJr, hur⟩ := hrel
        have HJr : Hid (J (flt pre ++ (⟨kx, mx, sx⟩ :: lx.take q)) wr) := hJr
        have HUr : Hid (Up W.heap.size X wr) := hur
        clear f0 x0 x1 x2 x3 x4 HJ3 HU3
        by_cases hlt : q < lx.length
        · have i0 : (0 : Int) ≤ (q : Int) := by omega
          have i1 : (q : Int) < (lx.length : Int) := by omega
          obtain ⟨t, ht⟩ : ∃ t, lx[q]? = some t := ⟨_, List.getElem?_eq_getElem hlt⟩
          obtain ⟨a1, cap1, hv, -, hm⟩ := (HJB.out _ wr hJr).2.mem (mem_of_pre HP.out)
          simp only [Value.slice.injEq, true_and] at hv
          obtain ⟨rfl, rfl⟩ := hv
          rcases hm with hm | ⟨b, o, rfl, hm⟩
          · simp only at hm; rw [hm] at hlt; simp at hlt
          obtain ⟨e0, e1, e2⟩ := hm.2 q t ht
          have HT : Hid (lx[q]? = some t) := ht
          have hpt : flt pre ++ (⟨kx, mx, sx⟩ :: lx.take q) ++ [t] <+: Cm.terms ⟨(⟨⟨k, m, s⟩, nm, ls⟩, .slice a hn cap), body, .slice a' body.length cap', tests, .slice a'' tests.length cap''⟩ := by
            rw [List.append_assoc]
            exact flt_pre _ HP.out (by show (_ :: lx.take q) ++ [t] <+: _ :: lx; exact pre_take ht)
          have HPT : Hid (flt pre ++ (⟨kx, mx, sx⟩ :: lx.take q) ++ [t] <+: Cm.terms ⟨(⟨⟨k, m, s⟩, nm, ls⟩, .slice a hn cap), body, .slice a' body.length cap', tests, .slice a'' tests.length cap''⟩) := hpt
          have hY1 := hY (mm - 1) _ t _ (hJ.alloc (.cells #[.int .i64 t.k, .int .i64 t.n, .string t.s] 39) HJr.out) hpt
          obtain ⟨f0, -⟩ := one ((HF.out.up hur (Nat.le_refl _)).later (below1 wr (.cells #[.int .i64 t.k, .int .i64 t.n, .string t.s] 39)))
          clear hm ht hpt hJr hur
          obtain ⟨kt, mt, st⟩ := t
          simp only at e0 e1 e2 hY1 f0
          obtain ⟨fn, tmps, assign, bd, hy, hR⟩ := hY1
          gi_wp2
          refine ⟨fun h => (by cases h), hR.mono ?_⟩
          clear hR hy
          rintro e W4 (⟨rfl, hJ4, hu4⟩ | ⟨rfl, hx4, hu4⟩)
          · have HJ4 : Hid (J (flt pre ++ (⟨kx, mx, sx⟩ :: lx.take (q + 1))) W4) := by
              show J _ W4; rw [take_next HT.out]; simpa using hJ4
            have HU4 : Hid (Up W.heap.size X W4) := HUr.out.trans ((Up.alloc _ _ _).trans hu4)
            clear hJ4 hu4
            gi_wp2
            go_roundw
            case rel => exact ⟨q + 1, by go_num, by omega, HJ4.out, HU4.out⟩
            case measure => simp [intOf]; omega
          · have HX4 : Hid _ := hx4
            have HU4 : Hid (Up W.heap.size X W4) := HUr.out.trans ((Up.alloc _ _ _).trans hu4)
            clear hx4 hu4
            gi_wp2
            exact ⟨HU4.out.mono (by omega), rfl, _, HPT.out, HX4.out⟩
        · obtain rfl : q = lx.length := by omega
          have i1 : ¬ ((lx.length : Int) < (lx.length : Int)) := by omega
          clear hJr hur
          gi_wp2
          refine ⟨HUr.out.mono (by omega), ?_, HF.out.up HUr.out (Nat.le_refl _), HB.out.up HUr.out (by omega)⟩
          have := HJr.out
          rw [List.take_length] at this
          rw [flt_snoc]
          exact this
    · have HX3 : Hid _ := hx3
      have HU3 : Hid (Up W.heap.size X W3) := hu3
      clear hx3 hu3
      gi_wp2
      exact ⟨HU3.out.mono (by omega), rfl, _, flt_pre _ HP.out ⟨lx, rfl⟩, HX3.out⟩
  case done =>
    rintro E X hE ⟨hj, hf, hb⟩ hD
    obtain ⟨c0, c1, c2, c3, c4, c5, c6⟩ := cseven (HJB.out _ X hj).1
    simp only at c0 c1 c2 c3 c4 c5 c6
    have HJ0 : Hid (J (flt (Cm.atoms ⟨(⟨⟨k, m, s⟩, nm, ls⟩, .slice a hn cap), body, .slice a' body.length cap', tests, .slice a'' tests.length cap''⟩)) X) := hj
    have HF0 : Hid (CBlk X W.heap.size #[.func (.yield l) #[] #[]] 80) := hf
    have HD0 : Hid (X.heap[E]? = some (.deferred (some []))) := hD
    clear hj hf hb hD
    gi_wp2
    gi_loopw [31] (fun p wr => ∃ (q : Nat), p = .int .i64 (q : Int) ∧ q ≤ tests.length ∧ J (flt (Cm.atoms ⟨(⟨⟨k, m, s⟩, nm, ls⟩, .slice a hn cap), body, .slice a' body.length cap', tests, .slice a'' tests.length cap''⟩) ++ tls (tests.take q)) wr ∧ CBlk wr W.heap.size #[.func (.yield l) #[] #[]] 80 ∧ wr.heap[E]? = some (.deferred (some [])))
      (fun p _ => tests.length - (intOf p).toNat)
    case atStart => exact ⟨0, rfl, Nat.zero_le _, by simpa [tls] using HJ0.out, HF0.out, HD0.out⟩
    case round =>
      obtain ⟨q, rfl, hq, hJr, hfr, hdr⟩ := hrel
      have HJr : Hid (J (flt (Cm.atoms ⟨(⟨⟨k, m, s⟩, nm, ls⟩, .slice a hn cap), body, .slice a' body.length cap', tests, .slice a'' tests.length cap''⟩) ++ tls (tests.take q)) wr) := hJr
      have HFr : Hid (CBlk wr W.heap.size #[.func (.yield l) #[] #[]] 80) := hfr
      have HDr : Hid (wr.heap[E]? = some (.deferred (some []))) := hdr
      clear c0 c1 c2 c3 c4 c5 c6 HJ0 HF0 HD0 hfr hdr
      by_cases hlt : q < tests.length
      · have i0 : (0 : Int) ≤ (q : Int) := by omega
        have i1 : (q : Int) < (tests.length : Int) := by omega
        obtain ⟨t, ht⟩ : ∃ t, tests[q]? = some t := ⟨_, List.getElem?_eq_getElem hlt⟩
        obtain ⟨a1, cap1, hv, -, hm⟩ := (HJB.out _ wr hJr).2.t
        simp only [Value.slice.injEq, true_and] at hv
        obtain ⟨rfl, rfl⟩ := hv
        rcases hm with hm | ⟨b, o, rfl, hm⟩
        · simp only at hm; rw [hm] at hlt; simp at hlt
        obtain ⟨e0, e1, e2, e3, e4, e5, e6⟩ := hm.2 q t ht
        have HT : Hid (tests[q]? = some t) := ht
        have HPL : Hid (flt (Cm.atoms ⟨(⟨⟨k, m, s⟩, nm, ls⟩, .slice a hn cap), body, .slice a' body.length cap', tests, .slice (some ⟨b, o, none⟩) tests.length cap''⟩) ++ tls (tests.take q) ++ [t.l] <+: Cm.terms ⟨(⟨⟨k, m, s⟩, nm, ls⟩, .slice a hn cap), body, .slice a' body.length cap', tests, .slice (some ⟨b, o, none⟩) tests.length cap''⟩) := tls_pre ht ⟨[t.r], rfl⟩
        have HPR : Hid (flt (Cm.atoms ⟨(⟨⟨k, m, s⟩, nm, ls⟩, .slice a hn cap), body, .slice a' body.length cap', tests, .slice (some ⟨b, o, none⟩) tests.length cap''⟩) ++ tls (tests.take q) ++ [t.l] ++ [t.r] <+: Cm.terms ⟨(⟨⟨k, m, s⟩, nm, ls⟩, .slice a hn cap), body, .slice a' body.length cap', tests, .slice (some ⟨b, o, none⟩) tests.length cap''⟩) := by
          show _ <+: _; rw [List.append_assoc _ [t.l] [t.r]]; exact tls_pre ht ⟨[], rfl⟩
        have hb7 := CBlk.new wr #[.int .i64 t.op, .int .i64 t.l.k, .int .i64 t.l.n, .string t.l.s, .int .i64 t.r.k, .int .i64 t.r.n, .string t.r.s] 85
        have hY1 := hY (n - 1) _ t.l _ (hJ.alloc (.cells #[.int .i64 t.op, .int .i64 t.l.k, .int .i64 t.l.n, .string t.l.s, .int .i64 t.r.k, .int .i64 t.r.n, .string t.r.s] 85) HJr.out) HPL.out
        obtain ⟨f0, -⟩ := one (HFr.out.later (below1 wr (.cells #[.int .i64 t.op, .int .i64 t.l.k, .int .i64 t.l.n, .string t.l.s, .int .i64 t.r.k, .int .i64 t.r.n, .string t.r.s] 85)))
        have HB7 : Hid _ := hb7
        have hzw : W.heap.size < wr.heap.size := HFr.out.lt
        have hze : E < wr.heap.size := (Array.getElem?_eq_some_iff.1 HDr.out).1
        clear hm ht hJr hb7
        obtain ⟨op, ⟨kl, ml, sl⟩, ⟨kr, mr, sr⟩⟩ := t
        simp only at e0 e1 e2 e3 e4 e5 e6 hY1 f0 HPL HPR
        obtain ⟨fn, tmps, assign, bd, hy, hR⟩ := hY1
        gi_wp2
        refine ⟨fun h => (by cases h), hR.mono ?_⟩
        clear hR hy
        rintro e W4 (⟨rfl, hJ4, hu4⟩ | ⟨rfl, hx4, hu4⟩)
        · have hY2 := hY (n - 1) _ ⟨kr, mr, sr⟩ _ hJ4 HPR.out
          have hU4 : Up W.heap.size wr W4 := (Up.alloc _ _ _).trans hu4
          have HF4 : Hid (CBlk W4 W.heap.size #[.func (.yield l) #[] #[]] 80) := HFr.out.up hU4 (Nat.le_refl _)
          have HD4 : Hid (W4.heap[E]? = some (.deferred (some []))) := (hU4.same E (by omega) hze).trans HDr.out
          clear f0
          obtain ⟨f0, -⟩ := one HF4.out
          obtain ⟨y0, y1, y2, y3, y4, y5, y6⟩ := cseven (CBlk.up HB7.out hu4 (by omega))
          clear hJ4 hu4 hU4
          obtain ⟨fn, tmps, assign, bd, hy, hR⟩ := hY2
          gi_wp2
          refine ⟨fun h => (by cases h), hR.mono ?_⟩
          clear hR hy
          rintro e W5 (⟨rfl, hJ5, hu5⟩ | ⟨rfl, hx5, hu5⟩)
          · have HJ5 : Hid (J (flt (Cm.atoms ⟨(⟨⟨k, m, s⟩, nm, ls⟩, .slice a hn cap), body, .slice a' body.length cap', tests, .slice (some ⟨b, o, none⟩) tests.length cap''⟩) ++ tls (tests.take (q + 1))) W5) := by
              show J _ W5; rw [take_next HT.out, tls_snoc]; simpa using hJ5
            have HF5 : Hid (CBlk W5 W.heap.size #[.func (.yield l) #[] #[]] 80) := HF4.out.up hu5 (Nat.le_refl _)
            have HD5 : Hid (W5.heap[E]? = some (.deferred (some []))) := (hu5.same E (by omega) (Array.getElem?_eq_some_iff.1 HD4.out).1).trans HD4.out
            clear hJ5 hu5
            gi_wp2
            go_roundw
            case rel => exact ⟨q + 1, by go_num, by omega, HJ5.out, HF5.out, HD5.out⟩
            case measure => simp [intOf]; omega
          · have HX5 : Hid _ := hx5
            have hd5 : W5.heap[E]? = some (.deferred (some [])) := (hu5.same E (by omega) (Array.getElem?_eq_some_iff.1 HD4.out).1).trans HD4.out
            have HD5 : Hid (W5.heap[E]? = some (.deferred (some []))) := hd5
            clear hx5 hu5 hd5
            gi_wp2
            refine ⟨by simp, .inl ⟨_, _, rfl, run_takeDeferred HD5.out, ?_⟩⟩
            exact ⟨_, results_none rfl _ _ _, ⟨_, rfl⟩, .inr ⟨_, HPR.out, hJx.putObj _ HX5.out (by omega) HD5.out rfl⟩⟩
        · have HX4 : Hid _ := hx4
          have hd4 : W4.heap[E]? = some (.deferred (some [])) := (((Up.alloc _ _ _).trans hu4).same E (by omega) hze).trans HDr.out
          have HD4 : Hid (W4.heap[E]? = some (.deferred (some []))) := hd4
          clear hx4 hu4 hd4
          gi_wp2
          refine ⟨fun _ h => (by cases h), ?_⟩
          gi_wp2
          refine ⟨by simp, .inl ⟨_, _, rfl, run_takeDeferred HD4.out, ?_⟩⟩
          exact ⟨_, results_none rfl _ _ _, ⟨_, rfl⟩, .inr ⟨_, HPL.out, hJx.putObj _ HX4.out (by omega) HD4.out rfl⟩⟩
      · obtain rfl : q = tests.length := by omega
        have i1 : ¬ ((tests.length : Int) < (tests.length : Int)) := by omega
        clear hJr
        gi_wp2
        refine ⟨by simp, .inl ⟨_, _, rfl, run_takeDeferred HDr.out, ?_⟩⟩
        refine ⟨_, results_none rfl _ _ _, ⟨_, rfl⟩, .inl ?_⟩
        have := HJr.out
        rw [List.take_length] at this
        exact hJ.putObj _ this (by omega) HDr.out rfl
  case stop =>
    rintro E cd pre X hE hpre ⟨rfl, q, hq, hx⟩ hD
    have HX : Hid _ := hx
    clear hx
    gi_wp2
    refine ⟨by simp, .inl ⟨_, _, rfl, run_takeDeferred hD, ?_⟩⟩
    exact ⟨_, results_none rfl _ _ _, ⟨_, rfl⟩, .inr ⟨q, hq, hJx.putObj _ HX.out (by omega) hD rfl⟩⟩
end Go.Proofs.YtcpjiahdaplhlaaGreatDoor
