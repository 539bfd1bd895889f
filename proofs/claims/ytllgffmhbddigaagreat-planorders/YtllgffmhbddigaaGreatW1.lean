/-
  Names of predicates: smallLetter, nameByte, validName; ref's letter, Name.
-/
import Derived.Test.YtllgffmhbddigaaGreatB7
namespace Go.Proofs.YtllgffmhbddigaaGreat
open Go.RowKit

def ch (s : ByteArray) (j : Nat) : Int := if h : j < s.size then (s[j].toNat : Int) else 0
theorem ch_lt (s : ByteArray) (j : Nat) (h : j < s.size) : ch s j = (s[j].toNat : Int) := by unfold ch; rw [dif_pos h]
theorem run_index_ch (s : ByteArray) (j : Nat) (hj : j < s.size) (i : Int) (hi : i = j) (w : World) (k : IntKind) : (Instr.index 9 (.string s) (.int k i)).run Tryz.prog w = .ok (.int .u8 (ch s j)) w := by
  subst hi
  rw [run_index_string w 9 s k _ Tryz.underlying9, dif_pos (by omega), ch_lt s j hj]
  simp
def small (c : Int) : Bool := decide (97 ≤ c ∧ c ≤ 122)
def nb (c : Int) : Bool := decide ((97 ≤ c ∧ c ≤ 122) ∨ (65 ≤ c ∧ c ≤ 90) ∨ (48 ≤ c ∧ c ≤ 57) ∨ c = 95)
theorem small_nb {c : Int} (h : small c = true) : nb c = true := by
  simp only [small, nb, decide_eq_true_eq] at *; exact Or.inl h
def says_ : ByteArray := ⟨#[115, 97, 121, 115]⟩
def nameHead (s : ByteArray) : Bool := decide (s ≠ ⟨#[]⟩ ∧ s.size ≤ 32 ∧ s ≠ says_) && small (ch s 0)
def nameOk (s : ByteArray) : Bool := nameHead s && decide (∀ i, i < s.size → nb (ch s i) = true)
theorem name_bad {s : ByteArray} {i : Nat} (hi : i < s.size) (h : nb (ch s i) = false) : nameOk s = false := by
  unfold nameOk
  rw [decide_eq_false (fun hh => by rw [hh i hi] at h; cases h), Bool.and_false]
theorem name_good {s : ByteArray} (h : nameHead s = true) (hh : ∀ i, i < s.size → nb (ch s i) = true) : nameOk s = true := by
  unfold nameOk; rw [h, decide_eq_true hh]; rfl
theorem head_no {s : ByteArray} (h : nameHead s = false) : nameOk s = false := by unfold nameOk; rw [h]; rfl
theorem says_l : says_.toList = [115, 97, 121, 115] := by kernel_rfl
theorem isS (s : ByteArray) : (s.toList == [115, 97, 121, 115]) = decide (s = says_) := by
  by_cases h : s = says_
  · subst h; rw [decide_eq_true rfl, says_l]; rfl
  · rw [decide_eq_false h]
    cases e : (s.toList == [115, 97, 121, 115])
    · rfl
    · exact absurd (toList_inj (b := says_) (by have := eq_of_beq e; rw [this, says_l])) h
theorem size_pos {s : ByteArray} (h : s ≠ ⟨#[]⟩) : 0 < s.size := by
  rcases Nat.eq_zero_or_pos s.size with h0 | h0
  · exact absurd (ByteArray.ext (Array.eq_empty_of_size_eq_zero h0)) h
  · exact h0

set_option maxHeartbeats 400000 in
theorem small_any (c : Int) (w : World) : Calls Tryz.prog 205 #[.int .u8 c] w fun e w' => e = .returned (.bool (small c)) ∧ Below w.heap.size w w' := by
  unfold small
  go_enter Tryz.func205, Tryz.ntmps205
  go_wp2
  all_goals
    go_ret
    refine ⟨ret_b ?_, Below.refl _ _⟩
    first | (rw [Bool.eq_iff_iff]; simp; omega) | (simp_all; omega) | (simp_all; done)
set_option maxHeartbeats 1000000 in
theorem nb_any (c : Int) (w : World) : Calls Tryz.prog 206 #[.int .u8 c] w fun e w' => e = .returned (.bool (nb c)) ∧ Below w.heap.size w w' := by
  by_cases h1 : small c = true
  · have HN : Hid (nb c = true) := small_nb h1
    go_enter Tryz.func206, Tryz.ntmps206
    go_wp2_with (go_at_call 205; refine (small_any c _).mono ?_; rw [h1]; rintro e w1 ⟨rfl, hb1⟩)
    go_ret
    exact ⟨ret_b HN.out.symm, hb1⟩
  · have h1' : small c = false := by simpa using h1
    have h2 : ¬ (97 ≤ c ∧ c ≤ 122) := by simpa [small] using h1
    clear h1
    go_enter Tryz.func206, Tryz.ntmps206
    go_wp2_with (go_at_call 205; refine (small_any c _).mono ?_; rw [h1']; rintro e w1 ⟨rfl, hb1⟩)
    all_goals
      go_ret
      refine ⟨ret_b ?_, hb1⟩
      unfold nb
      first | (rw [Bool.eq_iff_iff]; simp; omega) | (simp_all; omega) | (simp_all; done)
set_option maxHeartbeats 1000000 in
theorem rnb_any (c : Int) (w : World) : Calls Tryz.prog 171 #[.int .u8 c] w fun e w' => e = .returned (.bool (nb c)) ∧ Below w.heap.size w w' := by
  unfold nb
  go_enter Tryz.func171, Tryz.ntmps171
  go_wp2
  all_goals
    go_ret
    refine ⟨ret_b ?_, Below.refl _ _⟩
    first | (rw [Bool.eq_iff_iff]; simp; omega) | (simp_all; omega) | (simp_all; done)
set_option maxHeartbeats 2000000 in
theorem name_any (s : ByteArray) (w : World) : Calls Tryz.prog 187 #[.string s] w fun e w' => e = .returned (.bool (nameOk s)) ∧ Below w.heap.size w w' := by
  by_cases h0 : s = ⟨#[]⟩
  · have HN : Hid (nameOk s = false) := head_no (by rw [h0]; rfl)
    have q0 : s.toList.isEmpty = true := by rw [isE]; exact decide_eq_true h0
    clear h0
    go_enter Tryz.func187, Tryz.ntmps187
    go_wp2
    go_ret
    exact ⟨ret_b HN.out.symm, Below.refl _ _⟩
  · have hp := size_pos h0
    have q0 : s.toList.isEmpty = false := by rw [isE]; exact decide_eq_false h0
    have hi0 := run_index_ch s 0 hp 0 rfl
    by_cases h1 : s.size ≤ 32
    · have q1 : ¬ (32 : Int) < (s.size : Int) := by omega
      by_cases h2 : s = says_
      · have HN : Hid (nameOk s = false) := head_no (by rw [h2]; rfl)
        have q2 : (s.toList == [115, 97, 121, 115]) = true := by rw [isS]; exact decide_eq_true h2
        clear h0 h1 h2 hi0
        go_enter Tryz.func187, Tryz.ntmps187
        go_wp2
        go_ret
        exact ⟨ret_b HN.out.symm, Below.refl _ _⟩
      · have q2 : (s.toList == [115, 97, 121, 115]) = false := by rw [isS]; exact decide_eq_false h2
        by_cases h3 : small (ch s 0) = true
        · have HH : Hid (nameHead s = true) := by show _ = _; unfold nameHead; rw [h3, decide_eq_true ⟨h0, h1, h2⟩]; rfl
          have H3 : Hid (small (ch s 0) = true) := h3
          obtain ⟨c, hc⟩ : ∃ c, ch s 0 = c := ⟨_, rfl⟩
          rw [hc] at hi0
          have HC : Hid (ch s 0 = c) := hc
          clear h0 h1 h2 h3 hc
          go_enter Tryz.func187, Tryz.ntmps187
          go_wp2_with (go_at_call 205; refine (small_any c _).mono ?_; rw [← HC.out, H3.out]; rintro e w1 ⟨rfl, hb1⟩)
          go_loopg [3] s.size (fun g i wr => ∃ j : Nat, j + g = s.size + 1 ∧ 1 ≤ j ∧ j ≤ s.size ∧ i = .int .i64 j ∧ (∀ t, t < j → nb (ch s t) = true) ∧ Below w.heap.size w wr)
          case atStart =>
            refine ⟨1, by omega, by omega, by omega, rfl, fun t ht => ?_, hb1⟩
            have h0 : t = 0 := by omega
            rw [h0]; exact small_nb H3.out
          case round =>
            obtain ⟨j, hj, h1j, hjs, rfl, hall, hbr⟩ := hrel
            have HA : Hid (∀ t, t < j → nb (ch s t) = true) := hall
            clear hall hi0
            by_cases hlt : j < s.size
            · cases gk with
              | zero => omega
              | succ g =>
                have hix := run_index_ch s j hlt j rfl
                have i2 : (j : Int) < (s.size : Int) := by omega
                obtain ⟨d, hd⟩ : ∃ c, ch s j = c := ⟨_, rfl⟩
                rw [hd] at hix
                cases hnb : nb d
                · have HN : Hid (nameOk s = false) := name_bad hlt (by rw [hd]; exact hnb)
                  go_wp2_with (go_at_call 206; refine (nb_any d _).mono ?_; rw [hnb]; rintro e w2 ⟨rfl, hb2⟩)
                  go_ret
                  exact ⟨ret_b HN.out.symm, below_step hbr hb2⟩
                · have HD : Hid (ch s j = d) := hd
                  have HNB : Hid (nb d = true) := hnb
                  clear hd hnb
                  go_wp2_with (go_at_call 206; refine (nb_any d _).mono ?_; rw [HNB.out]; rintro e w2 ⟨rfl, hb2⟩)
                  go_roundg g
                  case measure => omega
                  case rel =>
                    refine ⟨j + 1, by omega, by omega, by omega, by go_num, fun t ht => ?_, below_step hbr hb2⟩
                    rcases Nat.lt_or_ge t j with h | h
                    · exact HA.out t h
                    · obtain rfl : t = j := by omega
                      rw [HD.out]; exact HNB.out
            · obtain rfl : j = s.size := by omega
              have HN : Hid (nameOk s = true) := name_good HH.out HA.out
              have hz : ¬ ((s.size : Int) < (s.size : Int)) := by omega
              go_wp2
              go_ret
              exact ⟨ret_b HN.out.symm, hbr⟩
        · have h3' : small (ch s 0) = false := by simpa using h3
          have HN : Hid (nameOk s = false) := head_no (by unfold nameHead; rw [h3', Bool.and_false])
          obtain ⟨c, hc⟩ : ∃ c, ch s 0 = c := ⟨_, rfl⟩
          rw [hc] at hi0 h3'
          clear h0 h1 h2 h3 hc
          go_enter Tryz.func187, Tryz.ntmps187
          go_wp2_with (go_at_call 205; refine (small_any c _).mono ?_; rw [h3']; rintro e w1 ⟨rfl, hb1⟩)
          go_ret
          exact ⟨ret_b HN.out.symm, hb1⟩
    · have HN : Hid (nameOk s = false) := head_no (by unfold nameHead; rw [decide_eq_false (fun h => h1 h.2.1)]; rfl)
      have q1 : (32 : Int) < (s.size : Int) := by omega
      clear h0 h1 hi0
      go_enter Tryz.func187, Tryz.ntmps187
      go_wp2
      go_ret
      exact ⟨ret_b HN.out.symm, Below.refl _ _⟩
set_option maxHeartbeats 2000000 in
theorem rname_any (s : ByteArray) (w : World) : Calls Tryz.prog 117 #[.string s] w fun e w' => e = .returned (.bool (nameOk s)) ∧ Below w.heap.size w w' := by
  by_cases h0 : s = ⟨#[]⟩
  · have HN : Hid (nameOk s = false) := head_no (by rw [h0]; rfl)
    have q0 : s.toList.isEmpty = true := by rw [isE]; exact decide_eq_true h0
    clear h0
    go_enter Tryz.func117, Tryz.ntmps117
    go_wp2
    go_ret
    exact ⟨ret_b HN.out.symm, Below.refl _ _⟩
  · have hp := size_pos h0
    have q0 : s.toList.isEmpty = false := by rw [isE]; exact decide_eq_false h0
    have hi0 := run_index_ch s 0 hp 0 rfl
    by_cases h1 : s.size ≤ 32
    · have q1 : ¬ (32 : Int) < (s.size : Int) := by omega
      by_cases h2 : s = says_
      · have HN : Hid (nameOk s = false) := head_no (by rw [h2]; rfl)
        have q2 : (s.toList == [115, 97, 121, 115]) = true := by rw [isS]; exact decide_eq_true h2
        clear h0 h1 h2 hi0
        go_enter Tryz.func117, Tryz.ntmps117
        go_wp2
        go_ret
        exact ⟨ret_b HN.out.symm, Below.refl _ _⟩
      · have q2 : (s.toList == [115, 97, 121, 115]) = false := by rw [isS]; exact decide_eq_false h2
        obtain ⟨c, hc⟩ : ∃ c, ch s 0 = c := ⟨_, rfl⟩
        rw [hc] at hi0
        by_cases ha : c < 97
        · have HN : Hid (nameOk s = false) := head_no (by unfold nameHead; rw [hc, show small c = false from decide_eq_false (by omega), Bool.and_false])
          clear h0 h1 h2 hc
          go_enter Tryz.func117, Tryz.ntmps117
          go_wp2
          go_ret
          exact ⟨ret_b HN.out.symm, Below.refl _ _⟩
        · by_cases hz : 122 < c
          · have HN : Hid (nameOk s = false) := head_no (by unfold nameHead; rw [hc, show small c = false from decide_eq_false (by omega), Bool.and_false])
            clear h0 h1 h2 hc
            go_enter Tryz.func117, Tryz.ntmps117
            go_wp2
            go_ret
            exact ⟨ret_b HN.out.symm, Below.refl _ _⟩
          · have HH : Hid (nameHead s = true) := by show _ = _; unfold nameHead; rw [hc, show small c = true from decide_eq_true (by omega), decide_eq_true ⟨h0, h1, h2⟩]; rfl
            clear h0 h1 h2 hc
            go_enter Tryz.func117, Tryz.ntmps117
            go_wp2
            go_loopg [3] s.size (fun g i wr => ∃ j : Nat, j + g = s.size ∧ i = .int .i64 j ∧ (∀ t, t < j → nb (ch s t) = true) ∧ Below w.heap.size w wr)
            case atStart => exact ⟨0, by omega, rfl, fun t ht => by omega, Below.refl _ _⟩
            case round =>
              obtain ⟨j, hj, rfl, hall, hbr⟩ := hrel
              have HA : Hid (∀ t, t < j → nb (ch s t) = true) := hall
              clear hall hi0
              cases gk with
              | succ g =>
                have hlt : j < s.size := by omega
                have hix := run_index_ch s j hlt j rfl
                have i2 : (j : Int) < (s.size : Int) := by omega
                obtain ⟨d, hd⟩ : ∃ c, ch s j = c := ⟨_, rfl⟩
                rw [hd] at hix
                cases hnb : nb d
                · have HN : Hid (nameOk s = false) := name_bad hlt (by rw [hd]; exact hnb)
                  go_wp2_with (go_at_call 171; refine (rnb_any d _).mono ?_; rw [hnb]; rintro e w2 ⟨rfl, hb2⟩)
                  go_ret
                  exact ⟨ret_b HN.out.symm, below_step hbr hb2⟩
                · have HD : Hid (ch s j = d) := hd
                  have HNB : Hid (nb d = true) := hnb
                  clear hd hnb
                  go_wp2_with (go_at_call 171; refine (rnb_any d _).mono ?_; rw [HNB.out]; rintro e w2 ⟨rfl, hb2⟩)
                  go_roundg g
                  case measure => omega
                  case rel =>
                    refine ⟨j + 1, by omega, by go_num, fun t ht => ?_, below_step hbr hb2⟩
                    rcases Nat.lt_or_ge t j with h | h
                    · exact HA.out t h
                    · obtain rfl : t = j := by omega
                      rw [HD.out]; exact HNB.out
              | zero =>
                obtain rfl : j = s.size := by omega
                have HN : Hid (nameOk s = true) := name_good HH.out HA.out
                have hz : ¬ ((s.size : Int) < (s.size : Int)) := by omega
                go_wp2
                go_ret
                exact ⟨ret_b HN.out.symm, hbr⟩
    · have HN : Hid (nameOk s = false) := head_no (by unfold nameHead; rw [decide_eq_false (fun h => h1 h.2.1)]; rfl)
      have q1 : (32 : Int) < (s.size : Int) := by omega
      clear h0 h1 hi0
      go_enter Tryz.func117, Tryz.ntmps117
      go_wp2
      go_ret
      exact ⟨ret_b HN.out.symm, Below.refl _ _⟩
end Go.Proofs.YtllgffmhbddigaaGreat
