/-
  The plain mathematics of hexadecimal digits: nothing of the dump.
-/
namespace Go.Proofs.Ythgkcbnicpfjmaa
namespace M
/-- The digit of a value from 0 to 15. -/
def dgt (v : Int) : Int := if v < 10 then 48 + v else 87 + v
/-- Is it a digit? -/
def okc (c : Int) : Bool := decide (48 ≤ c ∧ c ≤ 57) || decide (97 ≤ c ∧ c ≤ 102)
/-- A digit's value; 0 of what is none. -/
def val (c : Int) : Int := if 48 ≤ c ∧ c ≤ 57 then c - 48 else if 97 ≤ c ∧ c ≤ 102 then c - 87 else 0

theorem val_range (c : Int) : 0 ≤ val c ∧ val c ≤ 15 := by
  unfold val; split
  · omega
  · split <;> omega
theorem dgt_range (v : Int) (h0 : 0 ≤ v) (h1 : v ≤ 15) : 48 ≤ dgt v ∧ dgt v ≤ 102 := by
  unfold dgt; split <;> omega
theorem okc_dgt (v : Int) (h0 : 0 ≤ v) (h1 : v ≤ 15) : okc (dgt v) = true := by
  unfold okc dgt; split <;> simp <;> omega
theorem val_dgt (v : Int) (h0 : 0 ≤ v) (h1 : v ≤ 15) : val (dgt v) = v := by
  unfold val dgt; split <;> (try split) <;> (try split) <;> omega
theorem dgt_val (c : Int) (h : okc c = true) : dgt (val c) = c := by
  unfold okc at h; simp at h
  unfold val dgt; split <;> (try split) <;> (try split) <;> omega

/-- The j-th digit of the text of xs. -/
def hexAt (xs : List Int) (j : Nat) : Int := dgt (if j % 2 = 0 then xs.getD (j / 2) 0 / 16 else xs.getD (j / 2) 0 % 16)
theorem getD_range {xs : List Int} (hr : ∀ x ∈ xs, 0 ≤ x ∧ x ≤ 255) (k : Nat) : 0 ≤ xs.getD k 0 ∧ xs.getD k 0 ≤ 255 := by
  rcases Nat.lt_or_ge k xs.length with h | h
  · have e : xs.getD k 0 = xs[k] := by simp [List.getD, h]
    rw [e]; exact hr _ (List.getElem_mem h)
  · have e : xs.getD k 0 = 0 := by simp [List.getD, h]
    rw [e]; omega
theorem hexAt_even (xs : List Int) (k : Nat) : hexAt xs (2 * k) = dgt (xs.getD k 0 / 16) := by
  unfold hexAt; rw [if_pos (by omega)]; congr 3; omega
theorem hexAt_odd (xs : List Int) (k : Nat) : hexAt xs (2 * k + 1) = dgt (xs.getD k 0 % 16) := by
  unfold hexAt; rw [if_neg (by omega)]; congr 3; omega
theorem hexAt_range {xs : List Int} (hr : ∀ x ∈ xs, 0 ≤ x ∧ x ≤ 255) (j : Nat) : 48 ≤ hexAt xs j ∧ hexAt xs j ≤ 102 := by
  have := getD_range hr (j / 2)
  unfold hexAt
  apply dgt_range <;> split <;> omega

/-- The bytes of the text. -/
def hexB (xs : List Int) : List UInt8 := (List.range 64).map fun j => UInt8.ofNat (hexAt xs j).toNat
theorem hexB_length (xs : List Int) : (hexB xs).length = 64 := by simp [hexB]
theorem hexB_get {xs : List Int} (hr : ∀ x ∈ xs, 0 ≤ x ∧ x ≤ 255) (j : Nat) (hj : j < (hexB xs).length) : ((hexB xs)[j].toNat : Int) = hexAt xs j := by
  have h := hexAt_range hr j
  simp only [hexB, List.getElem_map, List.getElem_range, UInt8.toNat_ofNat']
  omega

/-- The byte of s at j; 0 where there is none. -/
def at_ (s : ByteArray) (j : Nat) : Int := if h : j < s.size then (s[j].toNat : Int) else 0
theorem at_lt (s : ByteArray) (j : Nat) (h : j < s.size) : at_ s j = (s[j].toNat : Int) := by unfold at_; rw [dif_pos h]
theorem at_range (s : ByteArray) (j : Nat) : 0 ≤ at_ s j ∧ at_ s j ≤ 255 := by
  unfold at_; split
  · rename_i h; have := s[j].toNat_lt; omega
  · omega
/-- Is it the text of a digest? -/
def goodB (s : ByteArray) : Bool := decide (s.size = 64) && (List.range 64).all fun j => okc (at_ s j)
theorem goodB_iff (s : ByteArray) : goodB s = true ↔ s.size = 64 ∧ ∀ j, j < 64 → okc (at_ s j) = true := by
  simp [goodB]
/-- The byte that two digits make. -/
def byteAt (s : ByteArray) (i : Nat) : Int := val (at_ s (2 * i)) * 16 + val (at_ s (2 * i + 1))
theorem byteAt_range (s : ByteArray) (i : Nat) : 0 ≤ byteAt s i ∧ byteAt s i ≤ 255 := by
  have a := val_range (at_ s (2 * i))
  have b := val_range (at_ s (2 * i + 1))
  unfold byteAt; omega
/-- What FromHex answers. -/
def fhX (s : ByteArray) : List Int := (List.range 32).map fun i => if goodB s then byteAt s i else 0
def fhE (s : ByteArray) : Int := if goodB s then 0 else 11

end M
end Go.Proofs.Ythgkcbnicpfjmaa
