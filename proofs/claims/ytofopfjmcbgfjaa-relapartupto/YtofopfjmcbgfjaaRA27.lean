import Derived.Test.YtofopfjmcbgfjaaRA44
import Derived.Test.YtofopfjmcbgfjaaRA26
/-
  rel: Find by columns is the sieve that the law asks (plain).
-/
namespace Go.Proofs.Ytofopfjmcbgfjaa
open Go.RowKit Go.Lib

/-- Has the row these numbers in these columns, all of which it has? -/
def fits8 (cols keys row : List Int) : Bool := decide (cols.length = keys.length) && (cols.zip keys).all fun p => decide (0 ≤ p.1 ∧ p.1 < (row.length : Int) ∧ row[p.1.toNat]?.getD 0 = p.2)
theorem zip_left {cols keys : List Int} (hl : cols.length = keys.length) {c : Int} (hc : c ∈ cols) : ∃ k, (c, k) ∈ cols.zip keys := by
  obtain ⟨j, hj⟩ := List.getElem?_of_mem hc
  have h1 := (List.getElem?_eq_some_iff.1 hj).1
  exact ⟨keys[j]'(by omega), List.mem_of_getElem? (i := j) (by rw [List.getElem?_zip_eq_some]; exact ⟨hj, List.getElem?_eq_getElem (by omega)⟩)⟩
theorem bad_none {wd : Nat} {cols keys : List Int} (h : bad7 wd cols keys) {row : List Int} (hr : row.length = wd) : fits8 cols keys row = false := by
  unfold fits8
  by_cases hl : cols.length = keys.length
  · rw [decide_eq_true hl, Bool.true_and]
    cases hq : (cols.zip keys).all fun p => decide (0 ≤ p.1 ∧ p.1 < (row.length : Int) ∧ row[p.1.toNat]?.getD 0 = p.2) with
    | false => rfl
    | true =>
      exfalso
      rw [List.all_eq_true] at hq
      have hq' : ∀ p ∈ cols.zip keys, 0 ≤ p.1 ∧ p.1 < (row.length : Int) ∧ row[p.1.toNat]?.getD 0 = p.2 := fun p hp => by simpa using hq p hp
      rcases h with h | ⟨c, hc, h⟩ | ⟨l, hu, j, p, q, hp, hq2, he⟩
      · exact h hl
      · obtain ⟨k, hk⟩ := zip_left hl hc
        have := hq' _ hk
        rw [col7, decide_eq_false_iff_not] at h
        simp only at this
        rw [hr] at this
        exact h ⟨this.1, this.2.1⟩
      · have h1 := hq' p ((unq7_mem hu p).1 (List.mem_of_getElem? hp))
        have h2 := hq' q ((unq7_mem hu q).1 (List.mem_of_getElem? hq2))
        obtain ⟨l', -, hs, rfl⟩ := hu
        have h3 := compact_rise hs
        obtain ⟨a1, rfl⟩ := List.getElem?_eq_some_iff.1 hp
        obtain ⟨a2, rfl⟩ := List.getElem?_eq_some_iff.1 hq2
        have h4 := List.pairwise_iff_getElem.1 h3 j (j + 1) a1 a2 (by omega)
        rw [← he] at h2
        have := h1.2.2.symm.trans h2.2.2
        omega
  · rw [decide_eq_false hl]; rfl
theorem good_fit {wd : Nat} {cols keys : List Int} (hl : cols.length = keys.length) (hc : ∀ c ∈ cols, col7 wd c = true) {row : List Int} (hr : row.length = wd) : fits8 cols keys row = fit7 (cols.zip keys) row := by
  unfold fits8 fit7
  rw [decide_eq_true hl, Bool.true_and, Bool.eq_iff_iff, List.all_eq_true, List.all_eq_true]
  refine forall_congr' fun p => forall_congr' fun hp => ?_
  have h1 := hc p.1 (List.of_mem_zip hp).1
  rw [col7, decide_eq_true_eq] at h1
  simp only [decide_eq_true_eq]
  rw [hr]
  exact ⟨fun h => h.2.2, fun h => ⟨h1.1, h1.2, h⟩⟩
theorem nums8_w {s : St7} (ho : s.Ok) {r : List Int} (hr : r ∈ s.rows) (cols : List Nat) : w64 (nums7 cols r) := by
  intro x hx
  simp only [nums7, List.mem_map] at hx
  obtain ⟨c, -, rfl⟩ := hx
  cases h : r[c]? with
  | none => rfl
  | some y => exact ho.w r hr y (List.mem_of_getElem? h)
theorem sift8 {s : St7} (ho : s.Ok) {cols keys : List Int} {l : List (Int × Int)} (parts : Int) (hl : cols.length = keys.length) (hc : ∀ c ∈ cols, col7 s.wd c = true) (hu : unq7 (cols.zip keys) l) (hw : w64 keys) :
    srt7 (sel7 s parts (l.map fun p => p.1.toNat) (l.map Prod.snd)) = (srt7 (sel7 s parts [] [])).filter (fits8 cols keys) := by
  rw [sel7_sift, srt7_filter]
  apply List.filter_congr
  intro r hr
  have hm : r ∈ s.rows := sel_mem r ((srt7_perm _).mem_iff.1 hr)
  have hwl : w64 (l.map Prod.snd) := by
    intro x hx
    simp only [List.mem_map] at hx
    obtain ⟨p, hp, rfl⟩ := hx
    exact hw p.2 (List.of_mem_zip ((unq7_mem hu p).1 hp)).2
  rw [good_fit hl hc (ho.wid r hm), ← fit7_mem (unq7_mem hu) r, Bool.eq_iff_iff, decide_eq_true_eq, ← nums7_fit]
  exact ⟨fun h => tx_inj (nums8_w ho hm _) hwl h, fun h => by rw [h]⟩
end Go.Proofs.Ytofopfjmcbgfjaa
/-
  law 7: Add and Rows as they are used; batches.
-/
namespace Go.Proofs.Ytofopfjmcbgfjaa
open Go.RowKit

/-- What Add leaves. -/
def AD (w : World) (g : Nat) (F S : Nat → Prop) (m : Nat) (s : St7) (r : List Int) (e : Ending) (w' : World) : Prop :=
  e = .returned (.tuple #[.bool (decide (r ∉ s.rows)), .int .i64 0]) ∧ (∃ F' S' : Nat → Prop, RM w' g F' S' m (ad7 s r) ∧ (∀ b, F' b → F b ∨ w.heap.size ≤ b) ∧ ∀ b, S' b → S b ∨ w.heap.size ≤ b) ∧ Fr F w w'
theorem add8_any (g : Nat) (F S G : Nat → Prop) (m : Nat) (s : St7) (v : Value) (r : List Int) (w : World) (h : RM w g F S m s) (hv : Li G w v r) (he : r.length = s.wd) (hl : r.length ≤ 10000000000) (hc : s.rows.length < 10000000000) :
    Calls Try.prog 16 #[.pointer (some ⟨g, 0, none⟩), v] w (AD w g F S m s r) := by
  cases hx : txi s.rows (tx r) with
  | some i =>
    obtain ⟨r', h1, h2⟩ := txi_some hx
    have hm := List.mem_of_getElem? h1
    have e : r' = r := tx_inj (h.ok.w r' hm) hv.w h2
    rw [e] at hm
    refine (add7_old g F S G m s v r w h hv hl he (by rw [hx]; rfl)).mono ?_
    rintro e w' ⟨rfl, hb⟩
    refine ⟨by rw [decide_eq_false (by simpa using hm)], ⟨F, S, by rw [ad7, if_pos hm]; exact h.below hb, fun b hb => Or.inl hb, fun b hb => Or.inl hb⟩, Fr.of hb⟩
  | none =>
    have hm : r ∉ s.rows := fun hm => txi_none hx r hm rfl
    refine (add7_new g F S G m s v r w h hv hl he hx hc).mono ?_
    rintro e w' ⟨rfl, ⟨F', S', h1, h2, h3, -, -⟩, h4⟩
    exact ⟨by rw [decide_eq_true hm], ⟨F', S', by rw [ad7, if_neg hm]; exact h1, h2, h3⟩, h4⟩
theorem rows8_any (g : Nat) (F S : Nat → Prop) (m : Nat) (s : St7) (parts : Int) (w : World) (h : RM w g F S m s) (hm : m ≤ 100000000000000) :
    Calls Try.prog 12 #[.pointer (some ⟨g, 0, none⟩), .int .i64 parts] w (RW w g F S m s (srt7 (sel7 s parts [] []))) := by
  have hx : ∀ x ∈ srt7 (sel7 s parts [] []), x ∈ s.rows := fun x hx => sel_mem x ((srt7_perm _).mem_iff.1 hx)
  refine rows7_any g F S m s parts w h hm _ (srt7_srt _) (srt7_perm _) (fun x hq => ?_) ?_ fun x hq => h.ok.w x (hx x hq)
  · rw [h.ok.wid x (hx x hq)]
    have := h.ok.d (List.ne_nil_of_mem (hx x hq))
    omega
  · rw [(srt7_perm _).length_eq]
    have h1 := sel_len s.rows (pls7 s [] []) (sts7 s parts)
    have h2 := pls7_len h.ok [] []
    have h3 := sts7_len s parts
    have := Nat.mul_le_mul h3 h2
    unfold sel7
    omega
/-- A list of batches that came in. -/
def Bt7 (w : World) (v : Value) (Bs : List (List (List Int × Value) × Value)) : Prop :=
  ∃ a cap, v = .slice a Bs.length cap ∧ (Bs = [] ∨ ∃ b o, a = some ⟨b, o, none⟩ ∧ b < w.heap.size ∧ ∀ (i : Nat) p, Bs[i]? = some p → w.cell? ⟨b, o + i, none⟩ = some p.2) ∧ ∀ p ∈ Bs, Rn7 w p.2 p.1
theorem Bt7.below {w w' : World} {v : Value} {Bs : List (List (List Int × Value) × Value)} (h : Bt7 w v Bs) (hb : Below w.heap.size w w') : Bt7 w' v Bs := by
  obtain ⟨a, cap, rfl, h1, h2⟩ := h
  refine ⟨a, cap, rfl, h1.imp id ?_, fun p hp => (h2 p hp).below hb⟩
  rintro ⟨b, o, rfl, hl, hc⟩
  exact ⟨b, o, rfl, Nat.lt_of_lt_of_le hl hb.size, fun i p hp => by rw [hb.cell (p := ⟨b, o + i, none⟩) hl]; exact hc i p hp⟩
/-- A batch's rows, brought to the width. -/
def bt7 (k : Nat) (q : List (List Int × Value) × Value) : List (List Int) := q.1.map fun p => wd7 k p.1
/-- Ahead of batch j: a turn, but for the first. -/
def tn7 (j : Nat) (s : St7) : St7 := if 0 < j then Turn7 s else s
/-- The relation behind the first j batches. -/
def grw (k : Nat) (Bs : List (List (List Int × Value) × Value)) : Nat → St7
  | 0 => New7 k
  | j + 1 => adL (tn7 j (grw k Bs j)) (bt7 k (Bs[j]?.getD ([], .slice none 0 0)))
def tot7 (Bs : List (List (List Int × Value) × Value)) : Nat := (Bs.map fun q => q.1.length).sum
theorem tn7_rows (j : Nat) (s : St7) : (tn7 j s).rows = s.rows ∧ (tn7 j s).wd = s.wd := by unfold tn7; split <;> exact ⟨rfl, rfl⟩
theorem tot7_take (Bs : List (List (List Int × Value) × Value)) (j : Nat) (q : List (List Int × Value) × Value) (h : Bs[j]? = some q) : tot7 (Bs.take (j + 1)) = tot7 (Bs.take j) + q.1.length := by
  unfold tot7
  rw [List.take_add_one, h]
  simp
theorem tot7_le (Bs : List (List (List Int × Value) × Value)) (j : Nat) : tot7 (Bs.take j) ≤ tot7 Bs := by
  unfold tot7
  conv => rhs; rw [← List.take_append_drop j Bs]
  rw [List.map_append, List.sum_append]
  omega
theorem tot7_get {Bs : List (List (List Int × Value) × Value)} {j : Nat} {q : List (List Int × Value) × Value} (h : Bs[j]? = some q) : tot7 (Bs.take j) + q.1.length ≤ tot7 Bs := by
  rw [← tot7_take Bs j q h]; exact tot7_le Bs _
theorem grw_wd (k : Nat) (Bs : List (List (List Int × Value) × Value)) : ∀ j, (grw k Bs j).wd = k
  | 0 => rfl
  | j + 1 => by rw [grw, (adL_wd _ _).1, (tn7_rows _ _).2, grw_wd k Bs j]
theorem grw_len (k : Nat) (Bs : List (List (List Int × Value) × Value)) : ∀ j, j ≤ Bs.length → (grw k Bs j).rows.length ≤ tot7 (Bs.take j)
  | 0, _ => Nat.zero_le _
  | j + 1, hj => by
    have h1 := grw_len k Bs j (by omega)
    obtain ⟨q, hq⟩ : ∃ q, Bs[j]? = some q := ⟨_, List.getElem?_eq_getElem (by omega)⟩
    rw [tot7_take Bs j q hq, grw, hq]
    have h2 := adL_len (bt7 k q) (tn7 j (grw k Bs j))
    rw [(tn7_rows _ _).1] at h2
    have h3 : (bt7 k q).length = q.1.length := by simp [bt7]
    simp only [Option.getD_some]
    omega
end Go.Proofs.Ytofopfjmcbgfjaa
