import Derived.Test.YtgbiicmkhlnniaaGreatDoorCL3
import Derived.Test.YtgbiicmkhlnniaaGreatDoorCL1
import Derived.Deep.AppendLies
import Derived.WalkMore
import Derived.Deep.LoopGhost
import Derived.Deep.CutRange
/-
  variables: the numbers of a clause's variables, one by one.
-/
namespace Go.Proofs.YtgbiicmkhlnniaaGreatDoor
open Go.RowKit Go.Shelf
attribute [local go_sem] Oper.semAt_some

theorem variables_any (c : Cm) (w : World) (h : c.ok w) :
    Calls Tryz.prog 89 #[c.v] w fun e w' => e = .returned (.func (.func 120) #[] #[.pointer (some ⟨w.heap.size, 0, none⟩)]) ∧ w' = w.alloc (.cells c.cs 30) := by
  obtain ⟨⟨a, n, cap, h1⟩, ⟨a', cap', h2⟩, ⟨a'', cap'', h3⟩, -, -⟩ := h.shape
  obtain ⟨⟨⟨⟨k, m, s⟩, nm, l⟩, hx⟩, body, bv, tests, tv⟩ := c
  simp only at h1 h2 h3
  subst h1 h2 h3
  go_enter Tryz.func89, Tryz.ntmps89
  go_wp2
  go_ret
  exact ⟨rfl, rfl⟩
theorem below_grown {W W' : World} (h : Below W.heap.size W W') : W.grownBy W' none := ⟨h.os, h.tape, h.output, h.size, fun k hk _ => h.block k hk⟩
theorem own_later {β : Type} {B : Nat} {I : β → World → Prop} (h : OwnFrom B I) {s : β} {W W' : World} (hs : I s W) (hb : Below W.heap.size W W') : I s W' :=
  h s W W' none hs (below_grown hb) (fun r e => by cases e)
/-- The variables of terms. -/
def vrs (l : List Tm) : List Int := (l.filter Tm.var).map (·.n)
theorem vrs_yes {l : List Tm} {x : Tm} (h : x.var = true) : vrs (l ++ [x]) = vrs l ++ [x.n] := by simp [vrs, h]
theorem vrs_no {l : List Tm} {x : Tm} (h : x.var = false) : vrs (l ++ [x]) = vrs l := by simp [vrs, h]
theorem vrs_pre {pre xs : List Tm} {x : Tm} (h : pre ++ [x] <+: xs) (hx : x.var = true) : vrs pre ++ [x.n] <+: vrs xs := by
  obtain ⟨suf, rfl⟩ := h
  refine ⟨vrs suf, ?_⟩
  simp [vrs, hx]
theorem cthree {w : World} {g : Nat} {a b c : Value} {t : TypeId} (h : CBlk w g #[a, b, c] t) :
    w.cell? ⟨g, 0, none⟩ = some a ∧ w.cell? ⟨g, 1, none⟩ = some b ∧ w.cell? ⟨g, 2, none⟩ = some c :=
  ⟨cell_of_row _ _ _ _ _ _ h, cell_of_row _ _ _ _ _ _ h, cell_of_row _ _ _ _ _ _ h⟩
set_option maxRecDepth 100000 in
set_option maxHeartbeats 4000000 in
theorem variables_seq (c : Cm) (B0 : Nat) :
    SeqO Tryz.prog 120 #[.pointer (some ⟨B0, 0, none⟩)] (fun v : Int => #[.int .i64 v]) c.vars (CMem c B0) := by
  intro n l J Jx W hJB hJ hJx hY h0
  have hWB := hJB [] W h0
  obtain ⟨⟨a, hn, cap, h1⟩, ⟨a', cap', h2⟩, ⟨a'', cap'', h3⟩, hbl, htl⟩ := hWB.2.shape
  obtain ⟨c0, c1, c2, c3, c4, c5, c6⟩ := cseven (CBlk.later hWB.1 (below1 W (.cells #[.func (.yield l) #[] #[]] 105)))
  have hat := cterms_any c (W.alloc (.cells #[.func (.yield l) #[] #[]] 105)) (hWB.2.later (below1 _ _))
  obtain ⟨⟨⟨⟨k, m, s⟩, nm, ls⟩, hx⟩, body, bv, tests, tv⟩ := c
  simp only at h1 h2 h3 c0 c1 c2 c3 c4 c5 c6 hbl htl hat
  subst h1 h2 h3
  clear hWB
  refine callsIn_of_wp_marks Tryz.func120 rfl trivial ?_ rfl
  simp only [Tryz.ntmps120, List.size_toArray, List.length_cons, List.length_nil, Nat.reduceAdd, Nat.reduceSub, Array.replicate_succ, Array.replicate_zero, List.push_toArray, List.append_toArray, List.nil_append, List.cons_append]
  gi_wp2
  refine ⟨trivial, fun h => (by cases h), (callsIn_wide.2 hat).mono ?_⟩
  rintro e w' ⟨rfl, rfl⟩
  clear hat
  have hz1 : ((W.alloc (.cells #[.func (.yield l) #[] #[]] 105)).alloc (.cells (Cm.cs ⟨(⟨⟨k, m, s⟩, nm, ls⟩, .slice a hn cap), body, .slice a' body.length cap', tests, .slice a'' tests.length cap''⟩) 30)).heap.size = W.heap.size + 2 := by simp
  have b1 : CBlk ((W.alloc (.cells #[.func (.yield l) #[] #[]] 105)).alloc (.cells (Cm.cs ⟨(⟨⟨k, m, s⟩, nm, ls⟩, .slice a hn cap), body, .slice a' body.length cap', tests, .slice a'' tests.length cap''⟩) 30)) W.heap.size #[.func (.yield l) #[] #[]] 105 := (CBlk.new W _ _).later (below1 _ _)
  have b2 := CBlk.new (W.alloc (.cells #[.func (.yield l) #[] #[]] 105)) (Cm.cs ⟨(⟨⟨k, m, s⟩, nm, ls⟩, .slice a hn cap), body, .slice a' body.length cap', tests, .slice a'' tests.length cap''⟩) 30
  rw [show (W.alloc (.cells #[.func (.yield l) #[] #[]] 105)).heap.size = W.heap.size + 1 by simp] at b2
  have j1 : J [] ((W.alloc (.cells #[.func (.yield l) #[] #[]] 105)).alloc (.cells (Cm.cs ⟨(⟨⟨k, m, s⟩, nm, ls⟩, .slice a hn cap), body, .slice a' body.length cap', tests, .slice a'' tests.length cap''⟩) 30)) := hJ.alloc _ (hJ.alloc _ h0)
  gi_wp2
  revert hz1 b1 b2 j1
  generalize (W.alloc (.cells #[.func (.yield l) #[] #[]] 105)).alloc (.cells (Cm.cs ⟨(⟨⟨k, m, s⟩, nm, ls⟩, .slice a hn cap), body, .slice a' body.length cap', tests, .slice a'' tests.length cap''⟩) 30) = W1
  intro hz1 b1 b2 j1
  have HJB : Hid (∀ pre W1, J pre W1 → CMem ⟨(⟨⟨k, m, s⟩, nm, ls⟩, .slice a hn cap), body, .slice a' body.length cap', tests, .slice a'' tests.length cap''⟩ B0 W1) := hJB
  clear c0 c1 c2 c3 c4 c5 c6 h0 hJB
  refine wpIn_seq (gf := 144) (lb := #[.pointer (some ⟨W.heap.size + 1, 0, none⟩)]) rfl (enters_of Tryz.func144 (by kernel_rfl) rfl) (terms_seq ⟨(⟨⟨k, m, s⟩, nm, ls⟩, .slice a hn cap), body, .slice a' body.length cap', tests, .slice a'' tests.length cap''⟩ (W.heap.size + 1)) (fun _ => rfl)
    (fun pre X => J (vrs pre) X ∧ CBlk X W.heap.size #[.func (.yield l) #[] #[]] 105 ∧ CBlk X (W.heap.size + 1) (Cm.cs ⟨(⟨⟨k, m, s⟩, nm, ls⟩, .slice a hn cap), body, .slice a' body.length cap', tests, .slice a'' tests.length cap''⟩) 30)
    (fun cd _ X => cd = .ret ∧ ∃ q, q <+: Cm.vars ⟨(⟨⟨k, m, s⟩, nm, ls⟩, .slice a hn cap), body, .slice a' body.length cap', tests, .slice a'' tests.length cap''⟩ ∧ Jx q X)
    (OwnFrom.and (fun s X Y row hs hg hr => hJ _ X Y row hs hg (fun r e => ⟨by have := (hr r e).1; omega, (hr r e).2⟩)) (OwnFrom.and (cblk_own _ _ _ _) (cblk_own _ _ _ _)))
    (fun cd s X Y row hs hg hr => ⟨hs.1, by obtain ⟨q, hq, hx⟩ := hs.2; exact ⟨q, hq, hJx q X Y row hx hg (fun r e => ⟨by have := (hr r e).1; omega, (hr r e).2⟩)⟩⟩)
    (fun pre X h => ⟨h.2.2, (HJB.out _ X h.1).2⟩)
    ⟨j1, b1, b2⟩
    (fun x act X => ∃ Bx, W.heap.size + 1 < Bx ∧ CBlk X Bx #[.int .i64 x.k, .int .i64 x.n, .string x.s] 23 ∧ act = { tmps := #[.func (.yield l) #[] #[], .pointer (some ⟨B0, 0, none⟩), .pointer (some ⟨W.heap.size, 0, none⟩), .pointer (some ⟨Bx, 0, none⟩), .agg #[.int .i64 k, .int .i64 m, .string s, .string nm, .slice a hn cap, .slice a' body.length cap', .slice a'' tests.length cap''], .func (.func 144) #[] #[.pointer (some ⟨W.heap.size + 1, 0, none⟩)], x.v, undef, undef, undef, undef, undef, undef, undef, undef, undef], defers := [] })
    (fun x _ _ X Y row hs hg hr => by obtain ⟨Bx, h1, h2, h3⟩ := hs; exact ⟨Bx, h1, cblk_own (β := Unit) _ _ _ _ () X Y row h2 hg hr, h3⟩)
    ?assign ?body ?done ?stop
  case assign =>
    rintro l' mm pre x X K hpre ⟨hj, hf, hb⟩ hle hK
    obtain ⟨kx, mx, sx⟩ := x
    gi_wp2
    exact hK _ _ (Up.alloc _ _ _) ⟨hJ.alloc _ hj, hf.later (below1 _ _), hb.later (below1 _ _)⟩ ⟨X.heap.size, by omega, CBlk.new _ _ _, rfl⟩
  case body =>
    rintro l' mm pre x act X hpre ⟨hj, hf, hb⟩ ⟨Bx, hBx, hX, rfl⟩ hle
    have HP : Hid (pre ++ [x] <+: Cm.terms ⟨(⟨⟨k, m, s⟩, nm, ls⟩, .slice a hn cap), body, .slice a' body.length cap', tests, .slice a'' tests.length cap''⟩) := hpre
    have HJ0 : Hid (J (vrs pre) X) := hj
    have HF : Hid (CBlk X W.heap.size #[.func (.yield l) #[] #[]] 105) := hf
    have HB : Hid (CBlk X (W.heap.size + 1) (Cm.cs ⟨(⟨⟨k, m, s⟩, nm, ls⟩, .slice a hn cap), body, .slice a' body.length cap', tests, .slice a'' tests.length cap''⟩) 30) := hb
    have HX : Hid (CBlk X Bx #[.int .i64 x.k, .int .i64 x.n, .string x.s] 23) := hX
    have hva := var_any x X
    obtain ⟨x0, x1, x2⟩ := cthree hX
    cases hv : x.var with
    | true =>
      have HV : Hid (x.var = true) := hv
      rw [hv] at hva
      have hYx := fun (Y : World) (hY' : J (vrs pre) Y) => hY (mm - 1) (vrs pre) x.n Y hY' (vrs_pre hpre hv)
      obtain ⟨kx, mx, sx⟩ := x
      simp only at hva hYx x0 x1 x2
      clear hX hf hb hj hpre hv
      gi_wp2
      refine ⟨trivial, fun h => (by cases h), (CallsIn.inRound l' (callsIn_wide.2 hva)).mono ?_⟩
      clear hva x0 x1 x2
      rintro e w' ⟨rfl, hbw⟩
      obtain ⟨fn, tmps, assign, bd, hy, hR⟩ := hYx w' (own_later hJ HJ0.out hbw)
      obtain ⟨f0, -⟩ := one (HF.out.later hbw)
      obtain ⟨x0, x1, x2⟩ := cthree (HX.out.later hbw)
      have HUw : Hid (Up W.heap.size X w') := Up.below hbw
      clear hYx hbw
      gi_wp2
      refine ⟨fun h => (by cases h), hR.mono ?_⟩
      clear hR hy
      rintro e W3 (⟨rfl, hJ3, hu3⟩ | ⟨rfl, hx3, hu3⟩)
      · have HJ3 : Hid (J (vrs (pre ++ [⟨kx, mx, sx⟩])) W3) := by show J _ W3; rw [vrs_yes HV.out]; exact hJ3
        have HU3 : Hid (Up W.heap.size X W3) := HUw.out.trans hu3
        clear hJ3 hu3
        gi_wp2
        exact ⟨HU3.out.mono (by omega), HJ3.out, HF.out.up HU3.out (Nat.le_refl _), HB.out.up HU3.out (by omega)⟩
      · have HX3 : Hid (Jx (vrs pre ++ [mx]) W3) := hx3
        have HU3 : Hid (Up W.heap.size X W3) := HUw.out.trans hu3
        clear hx3 hu3
        gi_wp2
        exact ⟨HU3.out.mono (by omega), rfl, _, vrs_pre HP.out HV.out, HX3.out⟩
    | false =>
      have HV : Hid (x.var = false) := hv
      rw [hv] at hva
      obtain ⟨kx, mx, sx⟩ := x
      simp only at hva x0 x1 x2
      clear hX hf hb hj hpre hv
      gi_wp2
      refine ⟨trivial, fun h => (by cases h), (CallsIn.inRound l' (callsIn_wide.2 hva)).mono ?_⟩
      clear hva x0 x1 x2
      rintro e w' ⟨rfl, hbw⟩
      have HBw : Hid (Below X.heap.size X w') := hbw
      clear hbw
      gi_wp2
      refine ⟨fun _ h => (by cases h), ?_⟩
      gi_wp2
      have hu := Up.below (B := W.heap.size) HBw.out
      refine ⟨hu.mono (by omega), ?_, HF.out.up hu (Nat.le_refl _), HB.out.up hu (by omega)⟩
      rw [vrs_no HV.out]
      exact own_later hJ HJ0.out HBw.out
  case done =>
    rintro E X hE ⟨hj, hf, hb⟩ hD
    have HJ0 : Hid (J (Cm.vars ⟨(⟨⟨k, m, s⟩, nm, ls⟩, .slice a hn cap), body, .slice a' body.length cap', tests, .slice a'' tests.length cap''⟩) X) := hj
    clear hj hf hb
    gi_wp2
    refine ⟨by simp, .inl ⟨_, _, rfl, run_takeDeferred hD, ?_⟩⟩
    exact ⟨_, results_none rfl _ _ _, ⟨_, rfl⟩, .inl (hJ.putObj _ HJ0.out (by omega) hD rfl)⟩
  case stop =>
    rintro E cd pre X hE hpre ⟨rfl, q, hq, hx⟩ hD
    have HX : Hid _ := hx
    clear hx
    gi_wp2
    refine ⟨by simp, .inl ⟨_, _, rfl, run_takeDeferred hD, ?_⟩⟩
    exact ⟨_, results_none rfl _ _ _, ⟨_, rfl⟩, .inr ⟨q, hq, hJx.putObj _ HX.out (by omega) hD rfl⟩⟩
end Go.Proofs.YtgbiicmkhlnniaaGreatDoor
/-
  Binds in memory that the call itself made; firstBinds.
-/
namespace Go.Proofs.YtgbiicmkhlnniaaGreatDoor
open Go.RowKit

theorem four {w : World} {g : Nat} {a b c d : Value} {t : TypeId} (h : w.heap[g]? = some (.cells #[a, b, c, d] t (0, 0))) :
    w.cell? ⟨g, 0, none⟩ = some a ∧ w.cell? ⟨g, 1, none⟩ = some b ∧ w.cell? ⟨g, 2, none⟩ = some c ∧ w.cell? ⟨g, 3, none⟩ = some d :=
  ⟨cell_of_row _ _ _ _ _ _ h, cell_of_row _ _ _ _ _ _ h, cell_of_row _ _ _ _ _ _ h, cell_of_row _ _ _ _ _ _ h⟩
end Go.Proofs.YtgbiicmkhlnniaaGreatDoor
/-
  Match.
-/
namespace Go.Proofs.YtgbiicmkhlnniaaGreatDoor
open Go.RowKit
attribute [local go_sem ↓] Go.wp_at_zero Go.wp_at_succ

theorem balloc {w W : World} {o : Obj} (h : Below w.heap.size w W) : Below w.heap.size w (W.alloc o) := h.alloc h.size _
theorem bset {w W : World} {G i : Nat} {a : Value} (h : Below w.heap.size w W) (hg : w.heap.size ≤ G) : Below w.heap.size w (W.setCell ⟨G, i, none⟩ a) := h.setCell hg _
end Go.Proofs.YtgbiicmkhlnniaaGreatDoor
/-
  Names of predicates: smallLetter, nameByte, validName; ref's letter, Name.
-/
namespace Go.Proofs.YtgbiicmkhlnniaaGreatDoor
open Go.RowKit

def ch (s : ByteArray) (j : Nat) : Int := if h : j < s.size then (s[j].toNat : Int) else 0
theorem ch_lt (s : ByteArray) (j : Nat) (h : j < s.size) : ch s j = (s[j].toNat : Int) := by unfold ch; rw [dif_pos h]
theorem run_index_ch (s : ByteArray) (j : Nat) (hj : j < s.size) (i : Int) (hi : i = j) (w : World) (k : IntKind) : (Instr.index 9 (.string s) (.int k i)).run Tryz.prog w = .ok (.int .u8 (ch s j)) w := by
  subst hi
  rw [run_index_string w 9 s k _ Tryz.underlying9, dif_pos (by omega), ch_lt s j hj]
  simp
def small (c : Int) : Bool := decide (97 ≤ c ∧ c ≤ 122)
def nb (c : Int) : Bool := decide ((97 ≤ c ∧ c ≤ 122) ∨ (65 ≤ c ∧ c ≤ 90) ∨ (48 ≤ c ∧ c ≤ 57) ∨ c = 95)
theorem small_nb {c : Int} (h : small c = true) : nb c = true := by
  simp only [small, nb, decide_eq_true_eq] at *; exact Or.inl h
def says_ : ByteArray := ⟨#[115, 97, 121, 115]⟩
def nameHead (s : ByteArray) : Bool := decide (s ≠ ⟨#[]⟩ ∧ s.size ≤ 32 ∧ s ≠ says_) && small (ch s 0)
def nameOk (s : ByteArray) : Bool := nameHead s && decide (∀ i, i < s.size → nb (ch s i) = true)
theorem name_bad {s : ByteArray} {i : Nat} (hi : i < s.size) (h : nb (ch s i) = false) : nameOk s = false := by
  unfold nameOk
  rw [decide_eq_false (fun hh => by rw [hh i hi] at h; cases h), Bool.and_false]
theorem name_good {s : ByteArray} (h : nameHead s = true) (hh : ∀ i, i < s.size → nb (ch s i) = true) : nameOk s = true := by
  unfold nameOk; rw [h, decide_eq_true hh]; rfl
theorem head_no {s : ByteArray} (h : nameHead s = false) : nameOk s = false := by unfold nameOk; rw [h]; rfl
theorem says_l : says_.toList = [115, 97, 121, 115] := by kernel_rfl
theorem isS (s : ByteArray) : (s.toList == [115, 97, 121, 115]) = decide (s = says_) := by
  by_cases h : s = says_
  · subst h; rw [decide_eq_true rfl, says_l]; rfl
  · rw [decide_eq_false h]
    cases e : (s.toList == [115, 97, 121, 115])
    · rfl
    · exact absurd (toList_inj (b := says_) (by have := eq_of_beq e; rw [this, says_l])) h
theorem size_pos {s : ByteArray} (h : s ≠ ⟨#[]⟩) : 0 < s.size := by
  rcases Nat.eq_zero_or_pos s.size with h0 | h0
  · exact absurd (ByteArray.ext (Array.eq_empty_of_size_eq_zero h0)) h
  · exact h0

set_option maxHeartbeats 400000 in
theorem small_any (c : Int) (w : World) : Calls Tryz.prog 153 #[.int .u8 c] w fun e w' => e = .returned (.bool (small c)) ∧ Below w.heap.size w w' := by
  unfold small
  go_enter Tryz.func153, Tryz.ntmps153
  go_wp2
  all_goals
    go_ret
    refine ⟨ret_b ?_, Below.refl _ _⟩
    first | (rw [Bool.eq_iff_iff]; simp; omega) | (simp_all; omega) | (simp_all; done)
set_option maxHeartbeats 1000000 in
theorem nb_any (c : Int) (w : World) : Calls Tryz.prog 154 #[.int .u8 c] w fun e w' => e = .returned (.bool (nb c)) ∧ Below w.heap.size w w' := by
  by_cases h1 : small c = true
  · have HN : Hid (nb c = true) := small_nb h1
    go_enter Tryz.func154, Tryz.ntmps154
    go_wp2_with (go_at_call 153; refine (small_any c _).mono ?_; rw [h1]; rintro e w1 ⟨rfl, hb1⟩)
    go_ret
    exact ⟨ret_b HN.out.symm, hb1⟩
  · have h1' : small c = false := by simpa using h1
    have h2 : ¬ (97 ≤ c ∧ c ≤ 122) := by simpa [small] using h1
    clear h1
    go_enter Tryz.func154, Tryz.ntmps154
    go_wp2_with (go_at_call 153; refine (small_any c _).mono ?_; rw [h1']; rintro e w1 ⟨rfl, hb1⟩)
    all_goals
      go_ret
      refine ⟨ret_b ?_, hb1⟩
      unfold nb
      first | (rw [Bool.eq_iff_iff]; simp; omega) | (simp_all; omega) | (simp_all; done)
set_option maxHeartbeats 1000000 in
theorem rnb_any (c : Int) (w : World) : Calls Tryz.prog 123 #[.int .u8 c] w fun e w' => e = .returned (.bool (nb c)) ∧ Below w.heap.size w w' := by
  unfold nb
  go_enter Tryz.func123, Tryz.ntmps123
  go_wp2
  all_goals
    go_ret
    refine ⟨ret_b ?_, Below.refl _ _⟩
    first | (rw [Bool.eq_iff_iff]; simp; omega) | (simp_all; omega) | (simp_all; done)
set_option maxHeartbeats 2000000 in
theorem name_any (s : ByteArray) (w : World) : Calls Tryz.prog 142 #[.string s] w fun e w' => e = .returned (.bool (nameOk s)) ∧ Below w.heap.size w w' := by
  by_cases h0 : s = ⟨#[]⟩
  · have HN : Hid (nameOk s = false) := head_no (by rw [h0]; rfl)
    have q0 : s.toList.isEmpty = true := by rw [isE]; exact decide_eq_true h0
    clear h0
    go_enter Tryz.func142, Tryz.ntmps142
    go_wp2
    go_ret
    exact ⟨ret_b HN.out.symm, Below.refl _ _⟩
  · have hp := size_pos h0
    have q0 : s.toList.isEmpty = false := by rw [isE]; exact decide_eq_false h0
    have hi0 := run_index_ch s 0 hp 0 rfl
    by_cases h1 : s.size ≤ 32
    · have q1 : ¬ (32 : Int) < (s.size : Int) := by omega
      by_cases h2 : s = says_
      · have HN : Hid (nameOk s = false) := head_no (by rw [h2]; rfl)
        have q2 : (s.toList == [115, 97, 121, 115]) = true := by rw [isS]; exact decide_eq_true h2
        clear h0 h1 h2 hi0
        go_enter Tryz.func142, Tryz.ntmps142
        go_wp2
        go_ret
        exact ⟨ret_b HN.out.symm, Below.refl _ _⟩
      · have q2 : (s.toList == [115, 97, 121, 115]) = false := by rw [isS]; exact decide_eq_false h2
        by_cases h3 : small (ch s 0) = true
        · have HH : Hid (nameHead s = true) := by show _ = _; unfold nameHead; rw [h3, decide_eq_true ⟨h0, h1, h2⟩]; rfl
          have H3 : Hid (small (ch s 0) = true) := h3
          obtain ⟨c, hc⟩ : ∃ c, ch s 0 = c := ⟨_, rfl⟩
          rw [hc] at hi0
          have HC : Hid (ch s 0 = c) := hc
          clear h0 h1 h2 h3 hc
          go_enter Tryz.func142, Tryz.ntmps142
          go_wp2_with (go_at_call 153; refine (small_any c _).mono ?_; rw [← HC.out, H3.out]; rintro e w1 ⟨rfl, hb1⟩)
          go_loopg [3] s.size (fun g i wr => ∃ j : Nat, j + g = s.size + 1 ∧ 1 ≤ j ∧ j ≤ s.size ∧ i = .int .i64 j ∧ (∀ t, t < j → nb (ch s t) = true) ∧ Below w.heap.size w wr)
          case atStart =>
            refine ⟨1, by omega, by omega, by omega, rfl, fun t ht => ?_, hb1⟩
            have h0 : t = 0 := by omega
            rw [h0]; exact small_nb H3.out
          case round =>
            obtain ⟨j, hj, h1j, hjs, rfl, hall, hbr⟩ := hrel
            have HA : Hid (∀ t, t < j → nb (ch s t) = true) := hall
            clear hall hi0
            by_cases hlt : j < s.size
            · cases gk with
              | zero => omega
              | succ g =>
                have hix := run_index_ch s j hlt j rfl
                have i2 : (j : Int) < (s.size : Int) := by omega
                obtain ⟨d, hd⟩ : ∃ c, ch s j = c := ⟨_, rfl⟩
                rw [hd] at hix
                cases hnb : nb d
                · have HN : Hid (nameOk s = false) := name_bad hlt (by rw [hd]; exact hnb)
                  go_wp2_with (go_at_call 154; refine (nb_any d _).mono ?_; rw [hnb]; rintro e w2 ⟨rfl, hb2⟩)
                  go_ret
                  exact ⟨ret_b HN.out.symm, below_step hbr hb2⟩
                · have HD : Hid (ch s j = d) := hd
                  have HNB : Hid (nb d = true) := hnb
                  clear hd hnb
                  go_wp2_with (go_at_call 154; refine (nb_any d _).mono ?_; rw [HNB.out]; rintro e w2 ⟨rfl, hb2⟩)
                  go_roundg g
                  case measure => omega
                  case rel =>
                    refine ⟨j + 1, by omega, by omega, by omega, by go_num, fun t ht => ?_, below_step hbr hb2⟩
                    rcases Nat.lt_or_ge t j with h | h
                    · exact HA.out t h
                    · obtain rfl : t = j := by omega
                      rw [HD.out]; exact HNB.out
            · obtain rfl : j = s.size := by omega
              have HN : Hid (nameOk s = true) := name_good HH.out HA.out
              have hz : ¬ ((s.size : Int) < (s.size : Int)) := by omega
              go_wp2
              go_ret
              exact ⟨ret_b HN.out.symm, hbr⟩
        · have h3' : small (ch s 0) = false := by simpa using h3
          have HN : Hid (nameOk s = false) := head_no (by unfold nameHead; rw [h3', Bool.and_false])
          obtain ⟨c, hc⟩ : ∃ c, ch s 0 = c := ⟨_, rfl⟩
          rw [hc] at hi0 h3'
          clear h0 h1 h2 h3 hc
          go_enter Tryz.func142, Tryz.ntmps142
          go_wp2_with (go_at_call 153; refine (small_any c _).mono ?_; rw [h3']; rintro e w1 ⟨rfl, hb1⟩)
          go_ret
          exact ⟨ret_b HN.out.symm, hb1⟩
    · have HN : Hid (nameOk s = false) := head_no (by unfold nameHead; rw [decide_eq_false (fun h => h1 h.2.1)]; rfl)
      have q1 : (32 : Int) < (s.size : Int) := by omega
      clear h0 h1 hi0
      go_enter Tryz.func142, Tryz.ntmps142
      go_wp2
      go_ret
      exact ⟨ret_b HN.out.symm, Below.refl _ _⟩
set_option maxHeartbeats 2000000 in
theorem rname_any (s : ByteArray) (w : World) : Calls Tryz.prog 95 #[.string s] w fun e w' => e = .returned (.bool (nameOk s)) ∧ Below w.heap.size w w' := by
  by_cases h0 : s = ⟨#[]⟩
  · have HN : Hid (nameOk s = false) := head_no (by rw [h0]; rfl)
    have q0 : s.toList.isEmpty = true := by rw [isE]; exact decide_eq_true h0
    clear h0
    go_enter Tryz.func95, Tryz.ntmps95
    go_wp2
    go_ret
    exact ⟨ret_b HN.out.symm, Below.refl _ _⟩
  · have hp := size_pos h0
    have q0 : s.toList.isEmpty = false := by rw [isE]; exact decide_eq_false h0
    have hi0 := run_index_ch s 0 hp 0 rfl
    by_cases h1 : s.size ≤ 32
    · have q1 : ¬ (32 : Int) < (s.size : Int) := by omega
      by_cases h2 : s = says_
      · have HN : Hid (nameOk s = false) := head_no (by rw [h2]; rfl)
        have q2 : (s.toList == [115, 97, 121, 115]) = true := by rw [isS]; exact decide_eq_true h2
        clear h0 h1 h2 hi0
        go_enter Tryz.func95, Tryz.ntmps95
        go_wp2
        go_ret
        exact ⟨ret_b HN.out.symm, Below.refl _ _⟩
      · have q2 : (s.toList == [115, 97, 121, 115]) = false := by rw [isS]; exact decide_eq_false h2
        obtain ⟨c, hc⟩ : ∃ c, ch s 0 = c := ⟨_, rfl⟩
        rw [hc] at hi0
        by_cases ha : c < 97
        · have HN : Hid (nameOk s = false) := head_no (by unfold nameHead; rw [hc, show small c = false from decide_eq_false (by omega), Bool.and_false])
          clear h0 h1 h2 hc
          go_enter Tryz.func95, Tryz.ntmps95
          go_wp2
          go_ret
          exact ⟨ret_b HN.out.symm, Below.refl _ _⟩
        · by_cases hz : 122 < c
          · have HN : Hid (nameOk s = false) := head_no (by unfold nameHead; rw [hc, show small c = false from decide_eq_false (by omega), Bool.and_false])
            clear h0 h1 h2 hc
            go_enter Tryz.func95, Tryz.ntmps95
            go_wp2
            go_ret
            exact ⟨ret_b HN.out.symm, Below.refl _ _⟩
          · have HH : Hid (nameHead s = true) := by show _ = _; unfold nameHead; rw [hc, show small c = true from decide_eq_true (by omega), decide_eq_true ⟨h0, h1, h2⟩]; rfl
            clear h0 h1 h2 hc
            go_enter Tryz.func95, Tryz.ntmps95
            go_wp2
            go_loopg [3] s.size (fun g i wr => ∃ j : Nat, j + g = s.size ∧ i = .int .i64 j ∧ (∀ t, t < j → nb (ch s t) = true) ∧ Below w.heap.size w wr)
            case atStart => exact ⟨0, by omega, rfl, fun t ht => by omega, Below.refl _ _⟩
            case round =>
              obtain ⟨j, hj, rfl, hall, hbr⟩ := hrel
              have HA : Hid (∀ t, t < j → nb (ch s t) = true) := hall
              clear hall hi0
              cases gk with
              | succ g =>
                have hlt : j < s.size := by omega
                have hix := run_index_ch s j hlt j rfl
                have i2 : (j : Int) < (s.size : Int) := by omega
                obtain ⟨d, hd⟩ : ∃ c, ch s j = c := ⟨_, rfl⟩
                rw [hd] at hix
                cases hnb : nb d
                · have HN : Hid (nameOk s = false) := name_bad hlt (by rw [hd]; exact hnb)
                  go_wp2_with (go_at_call 123; refine (rnb_any d _).mono ?_; rw [hnb]; rintro e w2 ⟨rfl, hb2⟩)
                  go_ret
                  exact ⟨ret_b HN.out.symm, below_step hbr hb2⟩
                · have HD : Hid (ch s j = d) := hd
                  have HNB : Hid (nb d = true) := hnb
                  clear hd hnb
                  go_wp2_with (go_at_call 123; refine (rnb_any d _).mono ?_; rw [HNB.out]; rintro e w2 ⟨rfl, hb2⟩)
                  go_roundg g
                  case measure => omega
                  case rel =>
                    refine ⟨j + 1, by omega, by go_num, fun t ht => ?_, below_step hbr hb2⟩
                    rcases Nat.lt_or_ge t j with h | h
                    · exact HA.out t h
                    · obtain rfl : t = j := by omega
                      rw [HD.out]; exact HNB.out
              | zero =>
                obtain rfl : j = s.size := by omega
                have HN : Hid (nameOk s = true) := name_good HH.out HA.out
                have hz : ¬ ((s.size : Int) < (s.size : Int)) := by omega
                go_wp2
                go_ret
                exact ⟨ret_b HN.out.symm, hbr⟩
    · have HN : Hid (nameOk s = false) := head_no (by unfold nameHead; rw [decide_eq_false (fun h => h1 h.2.1)]; rfl)
      have q1 : (32 : Int) < (s.size : Int) := by omega
      clear h0 h1 hi0
      go_enter Tryz.func95, Tryz.ntmps95
      go_wp2
      go_ret
      exact ⟨ret_b HN.out.symm, Below.refl _ _⟩
end Go.Proofs.YtgbiicmkhlnniaaGreatDoor
