import Derived.Test.YtcpjiahdaplhlaaGreatDoorCL3
import Derived.Test.YtcpjiahdaplhlaaGreatDoorD1
import Derived.Deep.AppendLies
import Derived.WalkMore
import Derived.Deep.LoopGhost
import Derived.Deep.CutRange
import Derived.Test.YtcpjiahdaplhlaaGreatDoorB2
/-
  variables: the numbers of a clause's variables, one by one.
-/
namespace Go.Proofs.YtcpjiahdaplhlaaGreatDoor
open Go.RowKit Go.Shelf
attribute [local go_sem] Oper.semAt_some

theorem variables_any (c : Cm) (w : World) (h : c.ok w) :
    Calls Tryz.prog 172 #[c.v] w fun e w' => e = .returned (.func (.func 199) #[] #[.pointer (some ⟨w.heap.size, 0, none⟩)]) ∧ w' = w.alloc (.cells c.cs 53) := by
  obtain ⟨⟨a, n, cap, h1⟩, ⟨a', cap', h2⟩, ⟨a'', cap'', h3⟩, -, -⟩ := h.shape
  obtain ⟨⟨⟨⟨k, m, s⟩, nm, l⟩, hx⟩, body, bv, tests, tv⟩ := c
  simp only at h1 h2 h3
  subst h1 h2 h3
  go_enter Tryz.func172, Tryz.ntmps172
  go_wp2
  go_ret
  exact ⟨rfl, rfl⟩
theorem below_grown {W W' : World} (h : Below W.heap.size W W') : W.grownBy W' none := ⟨h.os, h.tape, h.output, h.size, fun k hk _ => h.block k hk⟩
theorem own_later {β : Type} {B : Nat} {I : β → World → Prop} (h : OwnFrom B I) {s : β} {W W' : World} (hs : I s W) (hb : Below W.heap.size W W') : I s W' :=
  h s W W' none hs (below_grown hb) (fun r e => by cases e)
/-- The variables of terms. -/
def vrs (l : List Tm) : List Int := (l.filter Tm.var).map (·.n)
theorem vrs_yes {l : List Tm} {x : Tm} (h : x.var = true) : vrs (l ++ [x]) = vrs l ++ [x.n] := by simp [vrs, h]
theorem vrs_no {l : List Tm} {x : Tm} (h : x.var = false) : vrs (l ++ [x]) = vrs l := by simp [vrs, h]
theorem vrs_pre {pre xs : List Tm} {x : Tm} (h : pre ++ [x] <+: xs) (hx : x.var = true) : vrs pre ++ [x.n] <+: vrs xs := by
  obtain ⟨suf, rfl⟩ := h
  refine ⟨vrs suf, ?_⟩
  simp [vrs, hx]
theorem cthree {w : World} {g : Nat} {a b c : Value} {t : TypeId} (h : CBlk w g #[a, b, c] t) :
    w.cell? ⟨g, 0, none⟩ = some a ∧ w.cell? ⟨g, 1, none⟩ = some b ∧ w.cell? ⟨g, 2, none⟩ = some c :=
  ⟨cell_of_row _ _ _ _ _ _ h, cell_of_row _ _ _ _ _ _ h, cell_of_row _ _ _ _ _ _ h⟩
set_option maxRecDepth 100000 in
set_option maxHeartbeats 4000000 in
theorem variables_seq (c : Cm) (B0 : Nat) :
    SeqO Tryz.prog 199 #[.pointer (some ⟨B0, 0, none⟩)] (fun v : Int => #[.int .i64 v]) c.vars (CMem c B0) := by
  intro n l J Jx W hJB hJ hJx hY h0
  have hWB := hJB [] W h0
  obtain ⟨⟨a, hn, cap, h1⟩, ⟨a', cap', h2⟩, ⟨a'', cap'', h3⟩, hbl, htl⟩ := hWB.2.shape
  obtain ⟨c0, c1, c2, c3, c4, c5, c6⟩ := cseven (CBlk.later hWB.1 (below1 W (.cells #[.func (.yield l) #[] #[]] 190)))
  have hat := cterms_any c (W.alloc (.cells #[.func (.yield l) #[] #[]] 190)) (hWB.2.later (below1 _ _))
  obtain ⟨⟨⟨⟨k, m, s⟩, nm, ls⟩, hx⟩, body, bv, tests, tv⟩ := c
  simp only at h1 h2 h3 c0 c1 c2 c3 c4 c5 c6 hbl htl hat
  subst h1 h2 h3
  clear hWB
  refine callsIn_of_wp_marks Tryz.func199 rfl trivial ?_ rfl
  simp only [Tryz.ntmps199, List.size_toArray, List.length_cons, List.length_nil, Nat.reduceAdd, Nat.reduceSub, Array.replicate_succ, Array.replicate_zero, List.push_toArray, List.append_toArray, List.nil_append, List.cons_append]
  gi_wp2
  refine ⟨trivial, fun h => (by cases h), (callsIn_wide.2 hat).mono ?_⟩
  rintro e w' ⟨rfl, rfl⟩
  clear hat
  have hz1 : ((W.alloc (.cells #[.func (.yield l) #[] #[]] 190)).alloc (.cells (Cm.cs ⟨(⟨⟨k, m, s⟩, nm, ls⟩, .slice a hn cap), body, .slice a' body.length cap', tests, .slice a'' tests.length cap''⟩) 53)).heap.size = W.heap.size + 2 := by simp
  have b1 : CBlk ((W.alloc (.cells #[.func (.yield l) #[] #[]] 190)).alloc (.cells (Cm.cs ⟨(⟨⟨k, m, s⟩, nm, ls⟩, .slice a hn cap), body, .slice a' body.length cap', tests, .slice a'' tests.length cap''⟩) 53)) W.heap.size #[.func (.yield l) #[] #[]] 190 := (CBlk.new W _ _).later (below1 _ _)
  have b2 := CBlk.new (W.alloc (.cells #[.func (.yield l) #[] #[]] 190)) (Cm.cs ⟨(⟨⟨k, m, s⟩, nm, ls⟩, .slice a hn cap), body, .slice a' body.length cap', tests, .slice a'' tests.length cap''⟩) 53
  rw [show (W.alloc (.cells #[.func (.yield l) #[] #[]] 190)).heap.size = W.heap.size + 1 by simp] at b2
  have j1 : J [] ((W.alloc (.cells #[.func (.yield l) #[] #[]] 190)).alloc (.cells (Cm.cs ⟨(⟨⟨k, m, s⟩, nm, ls⟩, .slice a hn cap), body, .slice a' body.length cap', tests, .slice a'' tests.length cap''⟩) 53)) := hJ.alloc _ (hJ.alloc _ h0)
  gi_wp2
  revert hz1 b1 b2 j1
  generalize (W.alloc (.cells #[.func (.yield l) #[] #[]] 190)).alloc (.cells (Cm.cs ⟨(⟨⟨k, m, s⟩, nm, ls⟩, .slice a hn cap), body, .slice a' body.length cap', tests, .slice a'' tests.length cap''⟩) 53) = W1
  intro hz1 b1 b2 j1
  have HJB : Hid (∀ pre W1, J pre W1 → CMem ⟨(⟨⟨k, m, s⟩, nm, ls⟩, .slice a hn cap), body, .slice a' body.length cap', tests, .slice a'' tests.length cap''⟩ B0 W1) := hJB
  clear c0 c1 c2 c3 c4 c5 c6 h0 hJB
  refine wpIn_seq (gf := 213) (lb := #[.pointer (some ⟨W.heap.size + 1, 0, none⟩)]) rfl (enters_of Tryz.func213 (by kernel_rfl) rfl) (terms_seq ⟨(⟨⟨k, m, s⟩, nm, ls⟩, .slice a hn cap), body, .slice a' body.length cap', tests, .slice a'' tests.length cap''⟩ (W.heap.size + 1)) (fun _ => rfl)
    (fun pre X => J (vrs pre) X ∧ CBlk X W.heap.size #[.func (.yield l) #[] #[]] 190 ∧ CBlk X (W.heap.size + 1) (Cm.cs ⟨(⟨⟨k, m, s⟩, nm, ls⟩, .slice a hn cap), body, .slice a' body.length cap', tests, .slice a'' tests.length cap''⟩) 53)
    (fun cd _ X => cd = .ret ∧ ∃ q, q <+: Cm.vars ⟨(⟨⟨k, m, s⟩, nm, ls⟩, .slice a hn cap), body, .slice a' body.length cap', tests, .slice a'' tests.length cap''⟩ ∧ Jx q X)
    (OwnFrom.and (fun s X Y row hs hg hr => hJ _ X Y row hs hg (fun r e => ⟨by have := (hr r e).1; omega, (hr r e).2⟩)) (OwnFrom.and (cblk_own _ _ _ _) (cblk_own _ _ _ _)))
    (fun cd s X Y row hs hg hr => ⟨hs.1, by obtain ⟨q, hq, hx⟩ := hs.2; exact ⟨q, hq, hJx q X Y row hx hg (fun r e => ⟨by have := (hr r e).1; omega, (hr r e).2⟩)⟩⟩)
    (fun pre X h => ⟨h.2.2, (HJB.out _ X h.1).2⟩)
    ⟨j1, b1, b2⟩
    (fun x act X => ∃ Bx, W.heap.size + 1 < Bx ∧ CBlk X Bx #[.int .i64 x.k, .int .i64 x.n, .string x.s] 39 ∧ act = { tmps := #[.func (.yield l) #[] #[], .pointer (some ⟨B0, 0, none⟩), .pointer (some ⟨W.heap.size, 0, none⟩), .pointer (some ⟨Bx, 0, none⟩), .agg #[.int .i64 k, .int .i64 m, .string s, .string nm, .slice a hn cap, .slice a' body.length cap', .slice a'' tests.length cap''], .func (.func 213) #[] #[.pointer (some ⟨W.heap.size + 1, 0, none⟩)], x.v, undef, undef, undef, undef, undef, undef, undef, undef, undef], defers := [] })
    (fun x _ _ X Y row hs hg hr => by obtain ⟨Bx, h1, h2, h3⟩ := hs; exact ⟨Bx, h1, cblk_own (β := Unit) _ _ _ _ () X Y row h2 hg hr, h3⟩)
    ?assign ?body ?done ?stop
  case assign =>
    rintro l' mm pre x X K hpre ⟨hj, hf, hb⟩ hle hK
    obtain ⟨kx, mx, sx⟩ := x
    gi_wp2
    exact hK _ _ (Up.alloc _ _ _) ⟨hJ.alloc _ hj, hf.later (below1 _ _), hb.later (below1 _ _)⟩ ⟨X.heap.size, by omega, CBlk.new _ _ _, rfl⟩
  case body =>
    rintro l' mm pre x act X hpre ⟨hj, hf, hb⟩ ⟨Bx, hBx, hX, rfl⟩ hle
    have HP : Hid (pre ++ [x] <+: Cm.terms ⟨(⟨⟨k, m, s⟩, nm, ls⟩, .slice a hn cap), body, .slice a' body.length cap', tests, .slice a'' tests.length cap''⟩) := hpre
    have HJ0 : Hid (J (vrs pre) X) := hj
    have HF : Hid (CBlk X W.heap.size #[.func (.yield l) #[] #[]] 190) := hf
    have HB : Hid (CBlk X (W.heap.size + 1) (Cm.cs ⟨(⟨⟨k, m, s⟩, nm, ls⟩, .slice a hn cap), body, .slice a' body.length cap', tests, .slice a'' tests.length cap''⟩) 53) := hb
    have HX : Hid (CBlk X Bx #[.int .i64 x.k, .int .i64 x.n, .string x.s] 39) := hX
    have hva := var_any x X
    obtain ⟨x0, x1, x2⟩ := cthree hX
    cases hv : x.var with
    | true =>
      have HV : Hid (x.var = true) := hv
      rw [hv] at hva
      have hYx := fun (Y : World) (hY' : J (vrs pre) Y) => hY (mm - 1) (vrs pre) x.n Y hY' (vrs_pre hpre hv)
      obtain ⟨kx, mx, sx⟩ := x
      simp only at hva hYx x0 x1 x2
      clear hX hf hb hj hpre hv
      gi_wp2
      refine ⟨trivial, fun h => (by cases h), (CallsIn.inRound l' (callsIn_wide.2 hva)).mono ?_⟩
      clear hva x0 x1 x2
      rintro e w' ⟨rfl, hbw⟩
      obtain ⟨fn, tmps, assign, bd, hy, hR⟩ := hYx w' (own_later hJ HJ0.out hbw)
      obtain ⟨f0, -⟩ := one (HF.out.later hbw)
      obtain ⟨x0, x1, x2⟩ := cthree (HX.out.later hbw)
      have HUw : Hid (Up W.heap.size X w') := Up.below hbw
      clear hYx hbw
      gi_wp2
      refine ⟨fun h => (by cases h), hR.mono ?_⟩
      clear hR hy
      rintro e W3 (⟨rfl, hJ3, hu3⟩ | ⟨rfl, hx3, hu3⟩)
      · have HJ3 : Hid (J (vrs (pre ++ [⟨kx, mx, sx⟩])) W3) := by show J _ W3; rw [vrs_yes HV.out]; exact hJ3
        have HU3 : Hid (Up W.heap.size X W3) := HUw.out.trans hu3
        clear hJ3 hu3
        gi_wp2
        exact ⟨HU3.out.mono (by omega), HJ3.out, HF.out.up HU3.out (Nat.le_refl _), HB.out.up HU3.out (by omega)⟩
      · have HX3 : Hid (Jx (vrs pre ++ [mx]) W3) := hx3
        have HU3 : Hid (Up W.heap.size X W3) := HUw.out.trans hu3
        clear hx3 hu3
        gi_wp2
        exact ⟨HU3.out.mono (by omega), rfl, _, vrs_pre HP.out HV.out, HX3.out⟩
    | false =>
      have HV : Hid (x.var = false) := hv
      rw [hv] at hva
      obtain ⟨kx, mx, sx⟩ := x
      simp only at hva x0 x1 x2
      clear hX hf hb hj hpre hv
      gi_wp2
      refine ⟨trivial, fun h => (by cases h), (CallsIn.inRound l' (callsIn_wide.2 hva)).mono ?_⟩
      clear hva x0 x1 x2
      rintro e w' ⟨rfl, hbw⟩
      have HBw : Hid (Below X.heap.size X w') := hbw
      clear hbw
      gi_wp2
      refine ⟨fun _ h => (by cases h), ?_⟩
      gi_wp2
      have hu := Up.below (B := W.heap.size) HBw.out
      refine ⟨hu.mono (by omega), ?_, HF.out.up hu (Nat.le_refl _), HB.out.up hu (by omega)⟩
      rw [vrs_no HV.out]
      exact own_later hJ HJ0.out HBw.out
  case done =>
    rintro E X hE ⟨hj, hf, hb⟩ hD
    have HJ0 : Hid (J (Cm.vars ⟨(⟨⟨k, m, s⟩, nm, ls⟩, .slice a hn cap), body, .slice a' body.length cap', tests, .slice a'' tests.length cap''⟩) X) := hj
    clear hj hf hb
    gi_wp2
    refine ⟨by simp, .inl ⟨_, _, rfl, run_takeDeferred hD, ?_⟩⟩
    exact ⟨_, results_none rfl _ _ _, ⟨_, rfl⟩, .inl (hJ.putObj _ HJ0.out (by omega) hD rfl)⟩
  case stop =>
    rintro E cd pre X hE hpre ⟨rfl, q, hq, hx⟩ hD
    have HX : Hid _ := hx
    clear hx
    gi_wp2
    refine ⟨by simp, .inl ⟨_, _, rfl, run_takeDeferred hD, ?_⟩⟩
    exact ⟨_, results_none rfl _ _ _, ⟨_, rfl⟩, .inr ⟨q, hq, hJx.putObj _ HX.out (by omega) hD rfl⟩⟩
end Go.Proofs.YtcpjiahdaplhlaaGreatDoor
/-
  Binds in memory that the call itself made; firstBinds.
-/
namespace Go.Proofs.YtcpjiahdaplhlaaGreatDoor
open Go.RowKit

theorem four {w : World} {g : Nat} {a b c d : Value} {t : TypeId} (h : w.heap[g]? = some (.cells #[a, b, c, d] t (0, 0))) :
    w.cell? ⟨g, 0, none⟩ = some a ∧ w.cell? ⟨g, 1, none⟩ = some b ∧ w.cell? ⟨g, 2, none⟩ = some c ∧ w.cell? ⟨g, 3, none⟩ = some d :=
  ⟨cell_of_row _ _ _ _ _ _ h, cell_of_row _ _ _ _ _ _ h, cell_of_row _ _ _ _ _ _ h, cell_of_row _ _ _ _ _ _ h⟩
end Go.Proofs.YtcpjiahdaplhlaaGreatDoor
/-
  Names of predicates: smallLetter, nameByte, validName; ref's letter, Name.
-/
namespace Go.Proofs.YtcpjiahdaplhlaaGreatDoor
open Go.RowKit

def ch (s : ByteArray) (j : Nat) : Int := if h : j < s.size then (s[j].toNat : Int) else 0
theorem ch_lt (s : ByteArray) (j : Nat) (h : j < s.size) : ch s j = (s[j].toNat : Int) := by unfold ch; rw [dif_pos h]
theorem run_index_ch (s : ByteArray) (j : Nat) (hj : j < s.size) (i : Int) (hi : i = j) (w : World) (k : IntKind) : (Instr.index 9 (.string s) (.int k i)).run Tryz.prog w = .ok (.int .u8 (ch s j)) w := by
  subst hi
  rw [run_index_string w 9 s k _ Tryz.underlying9, dif_pos (by omega), ch_lt s j hj]
  simp
def small (c : Int) : Bool := decide (97 ≤ c ∧ c ≤ 122)
def nb (c : Int) : Bool := decide ((97 ≤ c ∧ c ≤ 122) ∨ (65 ≤ c ∧ c ≤ 90) ∨ (48 ≤ c ∧ c ≤ 57) ∨ c = 95)
theorem small_nb {c : Int} (h : small c = true) : nb c = true := by
  simp only [small, nb, decide_eq_true_eq] at *; exact Or.inl h
def says_ : ByteArray := ⟨#[115, 97, 121, 115]⟩
def nameHead (s : ByteArray) : Bool := decide (s ≠ ⟨#[]⟩ ∧ s.size ≤ 32 ∧ s ≠ says_) && small (ch s 0)
def nameOk (s : ByteArray) : Bool := nameHead s && decide (∀ i, i < s.size → nb (ch s i) = true)
theorem name_bad {s : ByteArray} {i : Nat} (hi : i < s.size) (h : nb (ch s i) = false) : nameOk s = false := by
  unfold nameOk
  rw [decide_eq_false (fun hh => by rw [hh i hi] at h; cases h), Bool.and_false]
theorem name_good {s : ByteArray} (h : nameHead s = true) (hh : ∀ i, i < s.size → nb (ch s i) = true) : nameOk s = true := by
  unfold nameOk; rw [h, decide_eq_true hh]; rfl
theorem head_no {s : ByteArray} (h : nameHead s = false) : nameOk s = false := by unfold nameOk; rw [h]; rfl
theorem says_l : says_.toList = [115, 97, 121, 115] := by kernel_rfl
theorem isS (s : ByteArray) : (s.toList == [115, 97, 121, 115]) = decide (s = says_) := by
  by_cases h : s = says_
  · subst h; rw [decide_eq_true rfl, says_l]; rfl
  · rw [decide_eq_false h]
    cases e : (s.toList == [115, 97, 121, 115])
    · rfl
    · exact absurd (toList_inj (b := says_) (by have := eq_of_beq e; rw [this, says_l])) h
theorem size_pos {s : ByteArray} (h : s ≠ ⟨#[]⟩) : 0 < s.size := by
  rcases Nat.eq_zero_or_pos s.size with h0 | h0
  · exact absurd (ByteArray.ext (Array.eq_empty_of_size_eq_zero h0)) h
  · exact h0

set_option maxHeartbeats 400000 in
theorem small_any (c : Int) (w : World) : Calls Tryz.prog 130 #[.int .u8 c] w fun e w' => e = .returned (.bool (small c)) ∧ Below w.heap.size w w' := by
  unfold small
  go_enter Tryz.func130, Tryz.ntmps130
  go_wp2
  all_goals
    go_ret
    refine ⟨ret_b ?_, Below.refl _ _⟩
    first | (rw [Bool.eq_iff_iff]; simp; omega) | (simp_all; omega) | (simp_all; done)
set_option maxHeartbeats 1000000 in
theorem nb_any (c : Int) (w : World) : Calls Tryz.prog 131 #[.int .u8 c] w fun e w' => e = .returned (.bool (nb c)) ∧ Below w.heap.size w w' := by
  by_cases h1 : small c = true
  · have HN : Hid (nb c = true) := small_nb h1
    go_enter Tryz.func131, Tryz.ntmps131
    go_wp2_with (go_at_call 130; refine (small_any c _).mono ?_; rw [h1]; rintro e w1 ⟨rfl, hb1⟩)
    go_ret
    exact ⟨ret_b HN.out.symm, hb1⟩
  · have h1' : small c = false := by simpa using h1
    have h2 : ¬ (97 ≤ c ∧ c ≤ 122) := by simpa [small] using h1
    clear h1
    go_enter Tryz.func131, Tryz.ntmps131
    go_wp2_with (go_at_call 130; refine (small_any c _).mono ?_; rw [h1']; rintro e w1 ⟨rfl, hb1⟩)
    all_goals
      go_ret
      refine ⟨ret_b ?_, hb1⟩
      unfold nb
      first | (rw [Bool.eq_iff_iff]; simp; omega) | (simp_all; omega) | (simp_all; done)
set_option maxHeartbeats 2000000 in
theorem name_any (s : ByteArray) (w : World) : Calls Tryz.prog 92 #[.string s] w fun e w' => e = .returned (.bool (nameOk s)) ∧ Below w.heap.size w w' := by
  by_cases h0 : s = ⟨#[]⟩
  · have HN : Hid (nameOk s = false) := head_no (by rw [h0]; rfl)
    have q0 : s.toList.isEmpty = true := by rw [isE]; exact decide_eq_true h0
    clear h0
    go_enter Tryz.func92, Tryz.ntmps92
    go_wp2
    go_ret
    exact ⟨ret_b HN.out.symm, Below.refl _ _⟩
  · have hp := size_pos h0
    have q0 : s.toList.isEmpty = false := by rw [isE]; exact decide_eq_false h0
    have hi0 := run_index_ch s 0 hp 0 rfl
    by_cases h1 : s.size ≤ 32
    · have q1 : ¬ (32 : Int) < (s.size : Int) := by omega
      by_cases h2 : s = says_
      · have HN : Hid (nameOk s = false) := head_no (by rw [h2]; rfl)
        have q2 : (s.toList == [115, 97, 121, 115]) = true := by rw [isS]; exact decide_eq_true h2
        clear h0 h1 h2 hi0
        go_enter Tryz.func92, Tryz.ntmps92
        go_wp2
        go_ret
        exact ⟨ret_b HN.out.symm, Below.refl _ _⟩
      · have q2 : (s.toList == [115, 97, 121, 115]) = false := by rw [isS]; exact decide_eq_false h2
        by_cases h3 : small (ch s 0) = true
        · have HH : Hid (nameHead s = true) := by show _ = _; unfold nameHead; rw [h3, decide_eq_true ⟨h0, h1, h2⟩]; rfl
          have H3 : Hid (small (ch s 0) = true) := h3
          obtain ⟨c, hc⟩ : ∃ c, ch s 0 = c := ⟨_, rfl⟩
          rw [hc] at hi0
          have HC : Hid (ch s 0 = c) := hc
          clear h0 h1 h2 h3 hc
          go_enter Tryz.func92, Tryz.ntmps92
          go_wp2_with (go_at_call 130; refine (small_any c _).mono ?_; rw [← HC.out, H3.out]; rintro e w1 ⟨rfl, hb1⟩)
          go_loopg [3] s.size (fun g i wr => ∃ j : Nat, j + g = s.size + 1 ∧ 1 ≤ j ∧ j ≤ s.size ∧ i = .int .i64 j ∧ (∀ t, t < j → nb (ch s t) = true) ∧ Below w.heap.size w wr)
          case atStart =>
            refine ⟨1, by omega, by omega, by omega, rfl, fun t ht => ?_, hb1⟩
            have h0 : t = 0 := by omega
            rw [h0]; exact small_nb H3.out
          case round =>
            obtain ⟨j, hj, h1j, hjs, rfl, hall, hbr⟩ := hrel
            have HA : Hid (∀ t, t < j → nb (ch s t) = true) := hall
            clear hall hi0
            by_cases hlt : j < s.size
            · cases gk with
              | zero => omega
              | succ g =>
                have hix := run_index_ch s j hlt j rfl
                have i2 : (j : Int) < (s.size : Int) := by omega
                obtain ⟨d, hd⟩ : ∃ c, ch s j = c := ⟨_, rfl⟩
                rw [hd] at hix
                cases hnb : nb d
                · have HN : Hid (nameOk s = false) := name_bad hlt (by rw [hd]; exact hnb)
                  go_wp2_with (go_at_call 131; refine (nb_any d _).mono ?_; rw [hnb]; rintro e w2 ⟨rfl, hb2⟩)
                  go_ret
                  exact ⟨ret_b HN.out.symm, below_step hbr hb2⟩
                · have HD : Hid (ch s j = d) := hd
                  have HNB : Hid (nb d = true) := hnb
                  clear hd hnb
                  go_wp2_with (go_at_call 131; refine (nb_any d _).mono ?_; rw [HNB.out]; rintro e w2 ⟨rfl, hb2⟩)
                  go_roundg g
                  case measure => omega
                  case rel =>
                    refine ⟨j + 1, by omega, by omega, by omega, by go_num, fun t ht => ?_, below_step hbr hb2⟩
                    rcases Nat.lt_or_ge t j with h | h
                    · exact HA.out t h
                    · obtain rfl : t = j := by omega
                      rw [HD.out]; exact HNB.out
            · obtain rfl : j = s.size := by omega
              have HN : Hid (nameOk s = true) := name_good HH.out HA.out
              have hz : ¬ ((s.size : Int) < (s.size : Int)) := by omega
              go_wp2
              go_ret
              exact ⟨ret_b HN.out.symm, hbr⟩
        · have h3' : small (ch s 0) = false := by simpa using h3
          have HN : Hid (nameOk s = false) := head_no (by unfold nameHead; rw [h3', Bool.and_false])
          obtain ⟨c, hc⟩ : ∃ c, ch s 0 = c := ⟨_, rfl⟩
          rw [hc] at hi0 h3'
          clear h0 h1 h2 h3 hc
          go_enter Tryz.func92, Tryz.ntmps92
          go_wp2_with (go_at_call 130; refine (small_any c _).mono ?_; rw [h3']; rintro e w1 ⟨rfl, hb1⟩)
          go_ret
          exact ⟨ret_b HN.out.symm, hb1⟩
    · have HN : Hid (nameOk s = false) := head_no (by unfold nameHead; rw [decide_eq_false (fun h => h1 h.2.1)]; rfl)
      have q1 : (32 : Int) < (s.size : Int) := by omega
      clear h0 h1 hi0
      go_enter Tryz.func92, Tryz.ntmps92
      go_wp2
      go_ret
      exact ⟨ret_b HN.out.symm, Below.refl _ _⟩
end Go.Proofs.YtcpjiahdaplhlaaGreatDoor
/-
  Blocks of memory.
-/
namespace Go.Proofs.YtcpjiahdaplhlaaGreatDoor
open Go.RowKit

/-- Block g holds these cells. -/
def Blk (W : World) (g : Nat) (c : Array Value) (t : TypeId) : Prop := W.heap[g]? = some (.cells c t (0, 0))
theorem Blk.lt {W : World} {g : Nat} {c : Array Value} {t : TypeId} (h : Blk W g c t) : g < W.heap.size := (Array.getElem?_eq_some_iff.1 h).1
theorem Blk.later {W W' : World} {g : Nat} {c : Array Value} {t : TypeId} (h : Blk W g c t) (hb : Below W.heap.size W W') : Blk W' g c t := (hb.block _ h.lt).trans h
theorem Blk.new (W : World) (c : Array Value) (t : TypeId) : Blk (W.alloc (.cells c t)) W.heap.size c t := heap_alloc_new _ _
end Go.Proofs.YtcpjiahdaplhlaaGreatDoor
/-
  CheckAtom, Fact; ref's CheckAtom.
-/
namespace Go.Proofs.YtcpjiahdaplhlaaGreatDoor
open Go.RowKit

def qualOk (t : Tm) : Bool := decide (t = zt) || (t.prin || t.var)
set_option maxHeartbeats 1000000 in
theorem qual_any (t : Tm) (w : World) : Calls Tryz.prog 93 #[t.v] w fun e w' => e = .returned (.bool (qualOk t)) ∧ Below w.heap.size w w' := by
  obtain ⟨k, n, s⟩ := t
  have he := run_eql_tm ⟨k, n, s⟩ zt
  obtain ⟨b1, h1⟩ : ∃ b, decide (Tm.mk k n s = zt) = b := ⟨_, rfl⟩
  obtain ⟨b2, h2⟩ : ∃ b, Tm.prin ⟨k, n, s⟩ = b := ⟨_, rfl⟩
  obtain ⟨b3, h3⟩ : ∃ b, Tm.var ⟨k, n, s⟩ = b := ⟨_, rfl⟩
  have HR : Hid (qualOk ⟨k, n, s⟩ = (b1 || (b2 || b3))) := by show _ = _; unfold qualOk; rw [h1, h2, h3]
  have H2 : Hid (Tm.prin ⟨k, n, s⟩ = b2) := h2
  have H3 : Hid (Tm.var ⟨k, n, s⟩ = b3) := h3
  rw [h1] at he
  unfold zt at he
  clear h1 h2 h3
  cases b1
  · cases b2
    · go_enter Tryz.func93, Tryz.ntmps93
      go_wp2_with (first
        | (go_at_call 132; refine (prin_any ⟨k, n, s⟩ _).mono ?_; rw [H2.out]; rintro e w1 ⟨rfl, hb1⟩; obtain ⟨p0, p1, p2, -, -, -⟩ := three ((Blk.new w #[.int .i64 k, .int .i64 n, .string s] 39).later hb1))
        | (go_at_call 44; refine (var_any ⟨k, n, s⟩ _).mono ?_; rw [H3.out]; rintro e w2 ⟨rfl, hb2⟩))
      go_ret
      exact ⟨ret_b (by rw [HR.out]; rfl), below_step (below_step (below1 _ _) hb1) hb2⟩
    · go_enter Tryz.func93, Tryz.ntmps93
      go_wp2_with (go_at_call 132; refine (prin_any ⟨k, n, s⟩ _).mono ?_; rw [H2.out]; rintro e w1 ⟨rfl, hb1⟩)
      go_ret
      exact ⟨ret_b (by rw [HR.out]; rfl), below_step (below1 _ _) hb1⟩
  · go_enter Tryz.func93, Tryz.ntmps93
    go_wp2
    go_ret
    exact ⟨ret_b (by rw [HR.out]; rfl), below1 _ _⟩
/-- CheckAtom's answer. -/
def At.err (a : At) : Int := if nameOk a.name = false then 21 else if 8 < a.args.length then 22 else if qualOk a.by_ = false then 23 else if a.args.all Tm.cov then 0 else 24
theorem all_no {l : List Tm} {i : Nat} {t : Tm} (h : l[i]? = some t) (hc : t.cov = false) : l.all Tm.cov = false := by
  obtain ⟨hi, rfl⟩ := List.getElem?_eq_some_iff.1 h
  cases e : l.all Tm.cov
  · rfl
  · rw [List.all_eq_true.1 e _ (List.getElem_mem hi)] at hc; cases hc
theorem all_yes {l : List Tm} (h : ∀ (i : Nat) (t : Tm), l[i]? = some t → t.cov = true) : l.all Tm.cov = true :=
  List.all_eq_true.2 fun t ht => by obtain ⟨i, hi, rfl⟩ := List.getElem_of_mem ht; exact h i _ (List.getElem?_eq_getElem hi)
set_option maxHeartbeats 2000000 in
theorem chk_any (a : At) (x : Value) (w : World) (h : Ts w x a.args) :
    Calls Tryz.prog 54 #[a.v x] w fun e w' => e = .returned (.int .i64 a.err) ∧ Below w.heap.size w w' := by
  obtain ⟨⟨k, n, ss⟩, nm, l⟩ := a
  simp only at h
  obtain ⟨r, hr⟩ : ∃ r, At.err ⟨⟨k, n, ss⟩, nm, l⟩ = r := ⟨_, rfl⟩
  rw [hr]
  simp only [At.err] at hr
  have HX : Hid (Ts w x l) := h
  obtain ⟨ad, cap, rfl, hl, -⟩ := h
  cases hn : nameOk nm
  · have HR : Hid (21 = r) := by show _ = _; rw [← hr, if_pos hn]
    clear hr
    go_enter Tryz.func54, Tryz.ntmps54
    go_wp2_with (go_at_call 92; refine (name_any nm _).mono ?_; rw [hn]; rintro e w1 ⟨rfl, hb1⟩)
    go_ret
    exact ⟨ret_i HR.out, below_step (below1 _ _) hb1⟩
  · rw [hn, if_neg (by simp)] at hr
    have HN : Hid (nameOk nm = true) := hn
    clear hn
    by_cases h8 : 8 < l.length
    · have HR : Hid (22 = r) := by show _ = _; rw [← hr, if_pos h8]
      have q8 : (8 : Int) < (l.length : Int) := by omega
      clear hr h8
      go_enter Tryz.func54, Tryz.ntmps54
      go_wp2_with (go_at_call 92; refine (name_any nm _).mono ?_; rw [HN.out]; rintro e w1 ⟨rfl, hb1⟩; obtain ⟨p0, p1, p2, p3, p4⟩ := five ((Blk.new w #[.int .i64 k, .int .i64 n, .string ss, .string nm, .slice ad l.length cap] 42).later hb1))
      go_ret
      exact ⟨ret_i HR.out, below_step (below1 _ _) hb1⟩
    · rw [if_neg h8] at hr
      have q8 : ¬ (8 : Int) < (l.length : Int) := by omega
      cases hq : qualOk ⟨k, n, ss⟩
      · have HR : Hid (23 = r) := by show _ = _; rw [← hr, if_pos hq]
        have HQ : Hid (qualOk ⟨k, n, ss⟩ = false) := hq
        clear hr h8 hq
        go_enter Tryz.func54, Tryz.ntmps54
        go_wp2_with (first
          | (go_at_call 92; refine (name_any nm _).mono ?_; rw [HN.out]; rintro e w1 ⟨rfl, hb1⟩; obtain ⟨p0, p1, p2, p3, p4⟩ := five ((Blk.new w #[.int .i64 k, .int .i64 n, .string ss, .string nm, .slice ad l.length cap] 42).later hb1))
          | (go_at_call 93; refine (qual_any ⟨k, n, ss⟩ _).mono ?_; rw [HQ.out]; rintro e w2 ⟨rfl, hb2⟩))
        go_ret
        exact ⟨ret_i HR.out, below_step (below_step (below1 _ _) hb1) hb2⟩
      · have HR : Hid ((if l.all Tm.cov then 0 else 24) = r) := by show _ = _; rw [← hr, hq]; rfl
        have HQ : Hid (qualOk ⟨k, n, ss⟩ = true) := hq
        clear hr h8 hq
        go_enter Tryz.func54, Tryz.ntmps54
        go_wp2_with (first
          | (go_at_call 92; refine (name_any nm _).mono ?_; rw [HN.out]; rintro e w1 ⟨rfl, hb1⟩; have B1 := (Blk.new w #[.int .i64 k, .int .i64 n, .string ss, .string nm, .slice ad l.length cap] 42).later hb1; obtain ⟨p0, p1, p2, p3, p4⟩ := five B1; have HB1 : Hid (Blk _ _ _ _) := B1; clear B1)
          | (go_at_call 93; refine (qual_any ⟨k, n, ss⟩ _).mono ?_; rw [HQ.out]; rintro e w2 ⟨rfl, hb2⟩; clear p0 p1 p2 p3 p4; obtain ⟨p0, p1, p2, p3, p4⟩ := five (Blk.later (Hid.out HB1) hb2)))
        clear p0 p1 p2 p3 p4
        have hbw := below_step (below_step (below1 _ _) hb1) hb2
        clear hb1 hb2 HB1
        go_loopg [23] l.length (fun g i wr => ∃ j : Nat, j + g = l.length ∧ i = .int .i64 j ∧ (∀ i t, i < j → l[i]? = some t → t.cov = true) ∧ Below w.heap.size w wr)
        case atStart => exact ⟨0, by omega, rfl, fun i t hi => by omega, hbw⟩
        case round =>
          obtain ⟨j, hj, rfl, hall, hbr⟩ := hrel
          have HA : Hid (∀ i t, i < j → l[i]? = some t → t.cov = true) := hall
          clear hall hbw
          cases gk with
          | succ g =>
            have hlt : j < l.length := by omega
            obtain ⟨t, ht⟩ : ∃ t, l[j]? = some t := ⟨_, List.getElem?_eq_getElem hlt⟩
            obtain ⟨ad', cap', hx, -, hxx⟩ := HX.out.later hbr
            simp only [Value.slice.injEq] at hx
            obtain ⟨rfl, -, rfl⟩ := hx
            rcases hxx with hxx | ⟨b, o, rfl, hbs, hxx⟩
            · subst hxx; simp at hlt
            · obtain ⟨c0, c1, c2⟩ := hxx j _ ht
              have HT : Hid (l[j]? = some t) := ht
              obtain ⟨tk, tn, ts⟩ := t
              simp only at c0 c1 c2
              clear hxx ht
              have i1 : (0 : Int) ≤ (j : Int) := by omega
              have i2 : (j : Int) < (l.length : Int) := by omega
              cases hc : Tm.cov ⟨tk, tn, ts⟩
              · have HR2 : Hid (24 = r) := by show _ = _; rw [← HR.out, all_no HT.out hc]; rfl
                go_wp2_with (go_at_call 94; refine (cov_any ⟨tk, tn, ts⟩ _).mono ?_; rw [hc]; rintro e w3 ⟨rfl, hb3⟩)
                go_ret
                exact ⟨ret_i HR2.out, below_step (below_step hbr (below1 _ _)) hb3⟩
              · have HC : Hid (Tm.cov ⟨tk, tn, ts⟩ = true) := hc
                clear hc
                go_wp2_with (go_at_call 94; refine (cov_any ⟨tk, tn, ts⟩ _).mono ?_; rw [HC.out]; rintro e w3 ⟨rfl, hb3⟩)
                go_roundg g
                case measure => omega
                case rel =>
                  refine ⟨j + 1, by omega, by go_num, fun i t hi ht => ?_, below_step (below_step hbr (below1 _ _)) hb3⟩
                  rcases Nat.lt_or_ge i j with h | h
                  · exact HA.out i t h ht
                  · obtain rfl : i = j := by omega
                    rw [HT.out] at ht; cases ht; exact HC.out
          | zero =>
            obtain rfl : j = l.length := by omega
            have HR2 : Hid (0 = r) := by show _ = _; rw [← HR.out, all_yes fun i t ht => HA.out i t (List.getElem?_eq_some_iff.1 ht).1 ht]; rfl
            have hz : ¬ ((l.length : Int) < (l.length : Int)) := by omega
            go_wp2
            go_ret
            exact ⟨ret_i HR2.out, hbr⟩
end Go.Proofs.YtcpjiahdaplhlaaGreatDoor
