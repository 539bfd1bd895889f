/-
  The plain mathematics of the document's FromHex: nothing of the dump.
-/
import Derived.Test.YthgkcbnicpfjmaaMath
namespace Go.Proofs.Ythgkcbnicpfjmaa
namespace M
/-- A byte with a digit behind it. -/
def st (d c : Int) : Int := if okc c then d * 16 + val c else d
theorem st_range (d c : Int) (h0 : 0 ≤ d) (h1 : d ≤ 15) : 0 ≤ st d c ∧ st d c ≤ 255 := by
  have := val_range c
  unfold st; split <;> omega
theorem val_bad (c : Int) (h : okc c = false) : val c = 0 := by
  unfold okc at h; simp at h
  unfold val; rw [if_neg (by omega), if_neg (by omega)]
theorem st_zero (c : Int) : st 0 c = val c := by
  unfold st; cases h : okc c
  · simp [val_bad c h]
  · simp
/-- Byte b behind i rounds. -/
def rf (s : ByteArray) (i b : Nat) : Int := if 2 * b + 1 < i then st (val (at_ s (2 * b))) (at_ s (2 * b + 1)) else if 2 * b < i then val (at_ s (2 * b)) else 0
/-- Byte b at the end. -/
def rd (s : ByteArray) (b : Nat) : Int := st (val (at_ s (2 * b))) (at_ s (2 * b + 1))
theorem rd_range (s : ByteArray) (b : Nat) : 0 ≤ rd s b ∧ rd s b ≤ 255 := st_range _ _ (val_range _).1 (val_range _).2
theorem rf_cur (s : ByteArray) (i : Nat) : 0 ≤ rf s i (i / 2) ∧ rf s i (i / 2) ≤ 15 := by
  unfold rf
  rw [if_neg (by omega)]
  split
  · exact val_range _
  · omega
theorem rf_next (s : ByteArray) (i : Nat) : rf s (i + 1) (i / 2) = st (rf s i (i / 2)) (at_ s i) := by
  rcases Nat.mod_two_eq_zero_or_one i with h | h
  · have e : i = 2 * (i / 2) := by omega
    unfold rf
    rw [if_neg (by omega), if_pos (by omega), if_neg (by omega), if_neg (by omega), st_zero, ← e]
  · have e : 2 * (i / 2) + 1 = i := by omega
    have e' : 2 * (i / 2) = i - 1 := by omega
    unfold rf
    rw [if_pos (by omega), if_neg (by omega), if_pos (by omega), e]
theorem rf_other (s : ByteArray) (i b : Nat) (h : b ≠ i / 2) : rf s (i + 1) b = rf s i b := by
  have h1 : (2 * b + 1 < i + 1) ↔ (2 * b + 1 < i) := by omega
  have h2 : (2 * b < i + 1) ↔ (2 * b < i) := by omega
  unfold rf; simp only [h1, h2]
theorem okc_zero : okc 0 = false := by decide
theorem val_zero : val 0 = 0 := by decide
theorem at_ge (s : ByteArray) (j : Nat) (h : s.size ≤ j) : at_ s j = 0 := by unfold at_; rw [dif_neg (by omega)]
theorem rf_end (s : ByteArray) (n b : Nat) (hb : b < 32) (h : s.size ≤ n ∨ 64 ≤ n) : rf s n b = rd s b := by
  unfold rf rd
  split
  · rfl
  · have hs : s.size ≤ n := by omega
    rw [at_ge s (2 * b + 1) (by omega)]
    split
    · simp [st, okc_zero]
    · rw [at_ge s (2 * b) (by omega)]; simp [st, okc_zero, val_zero]
theorem dgt_eq_iff (v c : Int) (h0 : 0 ≤ v) (h1 : v ≤ 15) : dgt v = c ↔ okc c = true ∧ val c = v := by
  constructor
  · rintro rfl; exact ⟨okc_dgt v h0 h1, val_dgt v h0 h1⟩
  · rintro ⟨a, rfl⟩; exact dgt_val c a
/-- A byte with a digit behind it, once the values below v have been tried. -/
def stV (d c : Int) (v : Nat) : Int := if okc c = true ∧ val c < v then d * 16 + val c else d
theorem stV_zero (d c : Int) : stV d c 0 = d := by
  have := val_range c
  unfold stV; rw [if_neg (by omega)]
theorem stV_end (d c : Int) : stV d c 16 = st d c := by
  have := val_range c
  unfold stV st
  cases h : okc c
  · simp
  · simp; omega
theorem stV_hit (d c : Int) (v : Nat) (h : dgt v = c) (hv : v < 16) : stV d c v = d ∧ stV d c (v + 1) = d * 16 + v := by
  obtain ⟨a, b⟩ := (dgt_eq_iff v c (by omega) (by omega)).1 h
  unfold stV
  exact ⟨if_neg (by omega), by rw [if_pos ⟨a, by omega⟩, b]⟩
theorem stV_miss (d c : Int) (v : Nat) (h : ¬ dgt v = c) (hv : v < 16) : stV d c (v + 1) = stV d c v := by
  rw [dgt_eq_iff v c (by omega) (by omega)] at h
  unfold stV
  cases e : okc c
  · simp
  · have hne : val c ≠ v := fun q => h ⟨e, q⟩
    have : (val c < ((v + 1 : Nat) : Int)) ↔ (val c < (v : Int)) := by omega
    simp only [this]
def rdL (s : ByteArray) : List Int := (List.range 32).map (rd s)
theorem rdL_length (s : ByteArray) : (rdL s).length = 32 := by simp [rdL]
theorem rdL_range (s : ByteArray) : ∀ x ∈ rdL s, 0 ≤ x ∧ x ≤ 255 := by
  intro x hx
  simp only [rdL, List.mem_map] at hx
  obtain ⟨b, _, rfl⟩ := hx
  exact rd_range s b
theorem rdL_getD (s : ByteArray) (b : Nat) (h : b < 32) : (rdL s).getD b 0 = rd s b := by simp [rdL, List.getD, h]
theorem rd_good (s : ByteArray) (h : goodB s = true) (b : Nat) (hb : b < 32) : rd s b = byteAt s b := by
  have := ((goodB_iff s).1 h).2 (2 * b + 1) (by omega)
  simp [rd, st, this, byteAt]
theorem hexAt_rd (s : ByteArray) (h : goodB s = true) (j : Nat) (hj : j < 64) : hexAt (rdL s) j = at_ s j := by
  have hok := ((goodB_iff s).1 h).2
  have hb : j / 2 < 32 := by omega
  have v0 := val_range (at_ s (2 * (j / 2)))
  have v1 := val_range (at_ s (2 * (j / 2) + 1))
  unfold hexAt
  rw [rdL_getD s _ hb, rd_good s h _ hb]
  unfold byteAt
  rcases Nat.mod_two_eq_zero_or_one j with e | e
  · rw [if_pos e]
    have ej : 2 * (j / 2) = j := by omega
    have : (val (at_ s (2 * (j / 2))) * 16 + val (at_ s (2 * (j / 2) + 1))) / 16 = val (at_ s (2 * (j / 2))) := by omega
    rw [this, ej]
    exact dgt_val _ (hok j hj)
  · rw [if_neg (by omega)]
    have ej : 2 * (j / 2) + 1 = j := by omega
    have : (val (at_ s (2 * (j / 2))) * 16 + val (at_ s (2 * (j / 2) + 1))) % 16 = val (at_ s (2 * (j / 2) + 1)) := by omega
    rw [this, ej]
    exact dgt_val _ (hok j hj)
theorem hexB_iff (s : ByteArray) : hexB (rdL s) = s.data.toList ↔ goodB s = true := by
  constructor
  · intro h
    have hl : s.data.toList.length = 64 := by rw [← h, hexB_length]
    have hs : s.size = 64 := by simpa using hl
    refine (goodB_iff s).2 ⟨hs, fun j hj => ?_⟩
    have hj' : j < (hexB (rdL s)).length := by rw [hexB_length]; exact hj
    have e : at_ s j = hexAt (rdL s) j := by
      rw [at_lt s j (by omega), ← hexB_get (rdL_range s) j hj']
      congr 2
      have : (hexB (rdL s))[j] = s.data.toList[j]'(by omega) := by simp only [h]
      rw [this]; rfl
    rw [e]
    have := getD_range (rdL_range s) (j / 2)
    unfold hexAt
    apply okc_dgt <;> split <;> omega
  · intro h
    have hs := ((goodB_iff s).1 h).1
    apply List.ext_getElem
    · rw [hexB_length]; simpa using hs.symm
    · intro j h1 h2
      have hj : j < 64 := by rw [hexB_length] at h1; exact h1
      have e := hexB_get (rdL_range s) j h1
      rw [hexAt_rd s h j hj, at_lt s j (by omega)] at e
      have e' : (hexB (rdL s))[j].toNat = s[j].toNat := by omega
      exact UInt8.toNat_inj.1 e'

end M
end Go.Proofs.Ythgkcbnicpfjmaa
