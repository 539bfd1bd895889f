import Derived.Test.YtdfdnjkeiddfjaaDoorSC7
import Derived.Lib.Bytealg
import Derived.Lib.Strings
import Derived.Shelf.Small.Strs
import Derived.Shelf.Strings.Prefix
import Derived.Ground.NamesProg
import Derived.Test.YtdfdnjkeiddfjaaDoorProg
/-
  script (stage 25): a text's lines, one after the other, as the library cuts them.
-/
namespace Go.Proofs.YtdfdnjkeiddfjaaDoor
open Go.RowKit

theorem ib_spec (c : UInt8) : ∀ l : List UInt8, (Lib.indexByte l c = -1 ∧ c ∉ l) ∨ ∃ n : Nat, Lib.indexByte l c = n ∧ l[n]? = some c ∧ ∀ m, m < n → l[m]? ≠ some c
  | [] => Or.inl ⟨rfl, by simp⟩
  | b :: l => by
    by_cases hb : b = c
    · refine Or.inr ⟨0, ?_, by simp [hb], fun m hm => by omega⟩
      simp [Lib.indexByte, hb]
    · have hb2 : (b == c) = false := by simpa using hb
      rcases ib_spec c l with ⟨h1, h2⟩ | ⟨n, h1, h2, h3⟩
      · refine Or.inl ⟨by simp [Lib.indexByte, hb2, h1], ?_⟩
        simp only [List.mem_cons, not_or]
        exact ⟨fun e => hb e.symm, h2⟩
      · refine Or.inr ⟨n + 1, ?_, by simpa using h2, fun m hm => ?_⟩
        · have hn : ((n : Int) == -1) = false := by rw [beq_eq_false_iff_ne]; omega
          unfold Lib.indexByte
          rw [hb2, h1, hn]
          rfl
        · cases m with
          | zero => simpa using hb
          | succ m => simpa using h3 m (by omega)
/-- What the iterator hands out next of what is left, and what is left behind it. -/
def lnA (r : ByteArray) : ByteArray := if Lib.indexByte r.data.toList 10 ≥ 0 then r.extract 0 ((Lib.indexByte r.data.toList 10).toNat + 1) else r
def rsA (r : ByteArray) : ByteArray := if Lib.indexByte r.data.toList 10 ≥ 0 then r.extract ((Lib.indexByte r.data.toList 10).toNat + 1) r.size else ⟨#[]⟩
def trA (x : ByteArray) : ByteArray := ⟨(Lib.trimSuffix x.data.toList [10]).toArray⟩
/-- These lines have come of the text, and this is left. -/
def InvA (s : ByteArray) (L : List ByteArray) (r : ByteArray) : Prop :=
  (∃ F, F ≤ s.size ∧ r = s.extract F s.size ∧ lnF s F = (L, F)) ∨ (r = ⟨#[]⟩ ∧ lnS s = L)
theorem InvA.zero (s : ByteArray) : InvA s [] s := Or.inl ⟨0, Nat.zero_le _, by simp, rfl⟩
theorem InvA.done {s : ByteArray} {L : List ByteArray} {r : ByteArray} (h : InvA s L r) (hr : r.size = 0) : lnS s = L := by
  rcases h with ⟨F, hF, rfl, hl⟩ | ⟨-, h⟩
  · rw [ByteArray.size_extract] at hr
    have : F = s.size := by omega
    subst this
    unfold lnS
    rw [hl, if_neg (by simp)]
  · exact h
theorem InvA.le {s : ByteArray} {L : List ByteArray} {r : ByteArray} (h : InvA s L r) (hr : r.size ≠ 0) : L.length + r.size ≤ s.size := by
  rcases h with ⟨F, hF, rfl, hl⟩ | ⟨rfl, -⟩
  · have h1 := lnF_le s F
    rw [hl] at h1
    rw [ByteArray.size_extract] at hr ⊢
    simp only at h1
    omega
  · exact absurd rfl hr
theorem ex_toList (s : ByteArray) (a b : Nat) : (s.extract a b).data.toList = (s.data.toList.drop a).take (b - a) := by
  rw [ByteArray.data_extract, Array.toList_extract, List.extract_eq_take_drop]
theorem atK_data {s : ByteArray} {j : Nat} {c : UInt8} (h : s.data.toList[j]? = some c) : atK_ s j = c.toNat := by
  obtain ⟨hj, e⟩ := List.getElem?_eq_some_iff.1 h
  have hj' : j < s.size := by simpa using hj
  unfold atK_
  rw [dif_pos hj']
  have e2 : s[j] = c := by rw [← e, Array.getElem_toList]; rfl
  rw [e2]
theorem lnF_keep {s : ByteArray} {L : List ByteArray} {F : Nat} (h : lnF s F = (L, F)) : ∀ n, (∀ m, m < n → s.data.toList[F + m]? ≠ some 10) → F + n ≤ s.size → lnF s (F + n) = (L, F)
  | 0, _, _ => h
  | n + 1, hm, hn => by
    have ih := lnF_keep h n (fun m hm2 => hm m (by omega)) (by omega)
    have hlt : F + n < s.data.toList.length := by
      have : s.size = s.data.toList.length := by simp
      omega
    have hne : atK_ s (F + n) ≠ 10 := fun e => by
      have h1 := atK_data (List.getElem?_eq_getElem hlt)
      have h2 := hm n (by omega)
      rw [List.getElem?_eq_getElem hlt] at h2
      rw [h1] at e
      apply h2
      congr 1
      apply UInt8.toNat_inj.1
      have : s.data.toList[F + n].toNat = 10 := by omega
      exact this
    show (if atK_ s (F + n) = 10 then _ else lnF s (F + n)) = _
    rw [if_neg hne, ih]
theorem trA_cut {x y : ByteArray} (h : x.data.toList = y.data.toList ++ [10]) : trA x = y := by
  unfold trA Lib.trimSuffix Lib.hasSuffix
  rw [h, if_pos (by rw [List.isSuffixOf_iff_suffix]; exact List.suffix_append _ _)]
  simp
theorem trA_keep {x : ByteArray} (h : (10 : UInt8) ∉ x.data.toList) : trA x = x := by
  unfold trA Lib.trimSuffix Lib.hasSuffix
  rw [if_neg (by rw [List.isSuffixOf_iff_suffix]; intro hs; exact h (hs.subset (by simp)))]
theorem InvA.step {s : ByteArray} {L : List ByteArray} {r : ByteArray} (h : InvA s L r) (hr : r.size ≠ 0) : InvA s (L ++ [trA (lnA r)]) (rsA r) := by
  rcases h with ⟨F, hF, rfl, hl⟩ | ⟨rfl, -⟩
  · have hsz : s.size = s.data.toList.length := by simp
    have hrl : (s.extract F s.size).data.toList = s.data.toList.drop F := by rw [ex_toList, List.take_of_length_le (by rw [List.length_drop]; omega)]
    rw [ByteArray.size_extract] at hr
    rcases ib_spec 10 (s.extract F s.size).data.toList with ⟨h1, h2⟩ | ⟨n, h1, h2, h3⟩
    · refine Or.inr ⟨by unfold rsA; rw [h1]; rfl, ?_⟩
      have e1 : lnA (s.extract F s.size) = s.extract F s.size := by unfold lnA; rw [h1]; rfl
      rw [e1, trA_keep h2]
      have h4 := lnF_keep hl (s.size - F) (fun m hm e => h2 (by
        rw [hrl]
        exact List.mem_of_getElem? (by rw [List.getElem?_drop]; exact e))) (by omega)
      rw [show F + (s.size - F) = s.size by omega] at h4
      unfold lnS
      rw [h4, if_pos (by simp only; omega)]
    · rw [hrl, List.getElem?_drop] at h2
      have hn : F + n < s.size := by rw [hsz]; exact (List.getElem?_eq_some_iff.1 h2).1
      have hge : Lib.indexByte (s.extract F s.size).data.toList 10 ≥ 0 := by rw [h1]; omega
      have h4 := lnF_keep hl n (fun m hm e => h3 m hm (by rw [hrl, List.getElem?_drop]; exact e)) (by omega)
      refine Or.inl ⟨F + n + 1, by omega, ?_, ?_⟩
      · unfold rsA
        rw [if_pos hge, h1, Int.toNat_natCast]
        apply ByteArray.ext
        apply Array.toList_inj.1
        rw [ex_toList, hrl, ex_toList, ByteArray.size_extract, List.drop_drop]
        rw [List.take_of_length_le (by rw [List.length_drop]; omega), List.take_of_length_le (by rw [List.length_drop]; omega), Nat.add_assoc]
      · have e1 : trA (lnA (s.extract F s.size)) = s.extract F (F + n) := by
          apply trA_cut
          unfold lnA
          rw [if_pos hge, h1, Int.toNat_natCast, ex_toList, hrl, ex_toList, List.drop_zero, Nat.sub_zero, Nat.add_sub_cancel_left, List.take_add_one, List.getElem?_drop, h2]
          rfl
        rw [e1]
        show (if atK_ s (F + n) = 10 then _ else _) = _
        rw [if_pos (by rw [atK_data h2]; rfl), h4]
  · exact absurd rfl hr
end Go.Proofs.YtdfdnjkeiddfjaaDoor
/-
  DERIVED: THE SHELF's CONTRACTS AT THIS DUMP, IN PLAIN WORDS (tools/lay-plain.mjs out of 'YtdfdnjkeiddfjaaDoorShelf2.lean', which tools/lay-shelf.mjs wrote): THE SAME DECLARATIONS UNDER THE SAME NAMES: 'import', 'namespace', 'open', 'def', 'theorem' AND NOTHING ELSE: no command of the shelf's: FOR A HAND-IN. Each laying: the table of numbers ('.._ren') and one theorem, a field a fact of the dump's own or the kernel's comparison; each contract: ONE APPLICATION.
-/
namespace Go.Proofs
open Go.Shelf
def Tryd.idxbL_ren : Go.Shelf.Ren := ⟨fun | 137 => 44 | 217 => 67 | 266 => 81 | n => n, fun | 9 => 9 | 5 => 5 | 3 => 3 | n => n, fun | n => n⟩
theorem Tryd.idxbL : Go.Proofs.Lays.n137 Tryd.prog Tryd.idxbL_ren := {
  mixed := by kernel_rfl
  f137 := Tryd.func44.trans (congrArg some (by kernel_rfl))
  f217 := Tryd.func67.trans (congrArg some (by kernel_rfl))
  f266 := Tryd.func81.trans (congrArg some (by kernel_rfl))
  t3 := Tryd.underlying3
  a3 := Tryd.isAgg3
  z3 := Tryd.sizeOf3
  v3 := Tryd.zeroValue3
  t5 := Tryd.underlying5
  a5 := Tryd.isAgg5
  z5 := Tryd.sizeOf5
  v5 := Tryd.zeroValue5
  t9 := Tryd.underlying9
  a9 := Tryd.isAgg9
  z9 := Tryd.sizeOf9
  v9 := Tryd.zeroValue9 }
def Tryd.trsfL_ren : Go.Shelf.Ren := ⟨fun | 102 => 30 | 209 => 45 | 207 => 68 | n => n, fun | 9 => 9 | 4 => 4 | 3 => 3 | n => n, fun | n => n⟩
theorem Tryd.trsfL : Go.Proofs.Lays.n102 Tryd.prog Tryd.trsfL_ren := {
  mixed := by kernel_rfl
  f102 := Tryd.func30.trans (congrArg some (by kernel_rfl))
  f207 := Tryd.func68.trans (congrArg some (by kernel_rfl))
  f209 := Tryd.func45.trans (congrArg some (by kernel_rfl))
  t3 := Tryd.underlying3
  a3 := Tryd.isAgg3
  z3 := Tryd.sizeOf3
  v3 := Tryd.zeroValue3
  t4 := Tryd.underlying4
  a4 := Tryd.isAgg4
  z4 := Tryd.sizeOf4
  v4 := Tryd.zeroValue4
  t9 := Tryd.underlying9
  a9 := Tryd.isAgg9
  z9 := Tryd.sizeOf9
  v9 := Tryd.zeroValue9 }
end Go.Proofs
