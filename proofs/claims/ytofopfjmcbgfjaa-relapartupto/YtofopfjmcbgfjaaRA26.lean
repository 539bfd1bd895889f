/-
  rel: what is found of all rows (plain).
-/
import Derived.Test.YtofopfjmcbgfjaaRA25
import Derived.Test.YtofopfjmcbgfjaaRA22
namespace Go.Proofs.Ytofopfjmcbgfjaa
open Go.RowKit

/-- Rows in rising order. -/
def srt7 (l : List (List Int)) : List (List Int) := l.mergeSort fun a b => decide (cmpR a b ≤ 0)
theorem srt7_srt (l : List (List Int)) : srtR (srt7 l) := by
  have h := List.pairwise_mergeSort (le := fun a b => decide (cmpR a b ≤ 0)) (fun a b c h1 h2 => by simp only [decide_eq_true_eq] at *; exact cmpR_le h1 h2) (fun a b => by
    have := cmpR_neg a b
    simp only [Bool.or_eq_true, decide_eq_true_eq]
    omega) l
  exact h.imp fun h => by simpa using h
theorem srt7_perm (l : List (List Int)) : (srt7 l).Perm l := List.mergeSort_perm _ _
theorem srt7_eq {a b : List (List Int)} (h : a.Perm b) : srt7 a = srt7 b := srtR_uniq (srt7_srt a) (srt7_srt b) ((srt7_perm a).trans (h.trans (srt7_perm b).symm))
theorem rws_mem {rows : List (List Int)} {l : List Int} (h : ∀ i ∈ l, 0 ≤ i ∧ i < (rows.length : Int)) : ∀ x ∈ rws7 rows l, x ∈ rows := by
  intro x hx
  simp only [rws7, List.mem_map] at hx
  obtain ⟨i, hi, rfl⟩ := hx
  obtain ⟨h0, h1⟩ := h i hi
  rw [List.getElem?_eq_getElem (by omega : i.toNat < rows.length)]
  exact List.getElem_mem _
theorem sel_mem {s : St7} {parts : Int} {cols : List Nat} {nums : List Int} : ∀ x ∈ sel7 s parts cols nums, x ∈ s.rows := by
  intro x hx
  simp only [sel7, List.mem_flatMap] at hx
  obtain ⟨p, -, hx⟩ := hx
  exact rws_mem (fun i hi => pls7_lt i (List.mem_filter.1 hi).1) x hx
theorem pls7_all (s : St7) : pls7 s [] [] = nat7 (List.range s.rows.length) := by
  unfold pls7 grp
  rw [List.filter_eq_self.2]
  intro i _
  simp [nums7]
theorem range_split (a b n : Nat) (hab : a ≤ b) (hbn : b ≤ n) : (nat7 (List.range n)).filter (fun x => decide ((a : Int) ≤ x ∧ x < (b : Int))) = nat7 (List.range' a (b - a)) := by
  have e : List.range n = List.range' 0 a ++ (List.range' a (b - a) ++ List.range' b (n - b)) := by
    rw [List.range_eq_range']
    have h1 : List.range' 0 n = List.range' 0 a ++ List.range' a (n - a) := by
      have := List.range'_append_1 (s := 0) (m := a) (n := n - a)
      rw [Nat.zero_add] at this
      rw [this]; congr 1; omega
    have h2 : List.range' a (n - a) = List.range' a (b - a) ++ List.range' b (n - b) := by
      have := List.range'_append_1 (s := a) (m := b - a) (n := n - b)
      rw [show a + (b - a) = b by omega] at this
      rw [this]; congr 1; omega
    rw [h1, h2]
  rw [e]
  unfold nat7
  rw [List.map_append, List.map_append, List.filter_append, List.filter_append]
  have q1 : ((List.range' 0 a).map fun (i : Nat) => (i : Int)).filter (fun x => decide ((a : Int) ≤ x ∧ x < (b : Int))) = [] := by
    rw [List.filter_eq_nil_iff]
    intro x hx
    simp only [List.mem_map, List.mem_range'_1] at hx
    obtain ⟨i, hi, rfl⟩ := hx
    simp only [decide_eq_true_eq]; omega
  have q2 : ((List.range' a (b - a)).map fun (i : Nat) => (i : Int)).filter (fun x => decide ((a : Int) ≤ x ∧ x < (b : Int))) = (List.range' a (b - a)).map fun (i : Nat) => (i : Int) := by
    rw [List.filter_eq_self]
    intro x hx
    simp only [List.mem_map, List.mem_range'_1] at hx
    obtain ⟨i, hi, rfl⟩ := hx
    simp only [decide_eq_true_eq]; omega
  have q3 : ((List.range' b (n - b)).map fun (i : Nat) => (i : Int)).filter (fun x => decide ((a : Int) ≤ x ∧ x < (b : Int))) = [] := by
    rw [List.filter_eq_nil_iff]
    intro x hx
    simp only [List.mem_map, List.mem_range'_1] at hx
    obtain ⟨i, hi, rfl⟩ := hx
    simp only [decide_eq_true_eq]; omega
  rw [q1, q2, q3]
  simp
theorem rws_range (rows : List (List Int)) (a b : Nat) (hab : a ≤ b) (hbn : b ≤ rows.length) : rws7 rows (wn7 (a : Int) (b : Int) (nat7 (List.range rows.length))) = (rows.take b).drop a := by
  unfold wn7
  rw [range_split a b _ hab hbn]
  unfold rws7 nat7
  rw [List.map_map]
  apply List.ext_getElem?
  intro i
  rw [List.getElem?_map, List.getElem?_drop, List.getElem?_take]
  by_cases hi : i < b - a
  · rw [List.getElem?_range' hi, if_pos (by omega)]
    simp [List.getElem?_eq_getElem (by omega : a + i < rows.length)]
    rw [show ((a : Int) + (i : Int)).toNat = a + i by omega, List.getElem?_eq_getElem (by omega : a + i < rows.length)]
    rfl
  · rw [if_neg (by omega), List.getElem?_eq_none (by simp; omega)]
    rfl
/-- The three parts of a relation. -/
def pt7 (s : St7) (k : Int) : List (List Int) := if k = 1 then s.rows.take s.nf else if k = 2 then (s.rows.take s.xf).drop s.nf else s.rows.drop s.xf
theorem sel_one {s : St7} (ho : s.Ok) : sel7 s 1 [] [] = s.rows.take s.nf := by
  have e : sts7 s 1 = [(0, (s.nf : Int))] := by
    unfold sts7
    rw [show hp7 1 1 = true by decide, show hp7 1 2 = false by decide, show hp7 1 4 = false by decide]
    rfl
  rw [sel7, e, pls7_all]
  have := rws_range s.rows 0 s.nf (by omega) (Nat.le_trans ho.a ho.b)
  simpa using this
theorem sel_two {s : St7} (ho : s.Ok) : sel7 s 2 [] [] = (s.rows.take s.xf).drop s.nf := by
  have e : sts7 s 2 = [((s.nf : Int), (s.xf : Int))] := by
    unfold sts7
    rw [show hp7 2 1 = false by decide, show hp7 2 2 = true by decide, show hp7 2 4 = false by decide]
    rfl
  rw [sel7, e, pls7_all]
  have := rws_range s.rows s.nf s.xf ho.a ho.b
  simpa using this
theorem sel_four {s : St7} (ho : s.Ok) : sel7 s 4 [] [] = s.rows.drop s.xf := by
  have e : sts7 s 4 = [((s.xf : Int), (s.rows.length : Int))] := by
    unfold sts7
    rw [show hp7 4 1 = false by decide, show hp7 4 2 = false by decide, show hp7 4 4 = true by decide]
    rfl
  rw [sel7, e, pls7_all]
  have := rws_range s.rows s.xf s.rows.length ho.b (Nat.le_refl _)
  rw [List.take_length] at this
  simpa using this
theorem sel_seven {s : St7} (ho : s.Ok) : sel7 s 7 [] [] = s.rows := by
  have e : sts7 s 7 = [(((0 : Nat) : Int), (s.nf : Int)), ((s.nf : Int), (s.xf : Int)), ((s.xf : Int), (s.rows.length : Int))] := by
    unfold sts7
    rw [show hp7 7 1 = true by decide, show hp7 7 2 = true by decide, show hp7 7 4 = true by decide]
    rfl
  rw [sel7, e, pls7_all]
  simp only [List.flatMap_cons, List.flatMap_nil, List.append_nil]
  rw [rws_range s.rows 0 s.nf (by omega) (Nat.le_trans ho.a ho.b), rws_range s.rows s.nf s.xf ho.a ho.b, rws_range s.rows s.xf s.rows.length ho.b (Nat.le_refl _), List.take_length, List.drop_zero]
  have h1 : s.rows.take s.nf ++ (s.rows.take s.xf).drop s.nf = s.rows.take s.xf := by
    have := List.take_append_drop s.nf (s.rows.take s.xf)
    rwa [List.take_take, Nat.min_eq_left ho.a] at this
  rw [← List.append_assoc, h1, List.take_append_drop]
/-- Add, plain. -/
def ad7 (s : St7) (r : List Int) : St7 := if r ∈ s.rows then s else Add7 s r
def adL (s : St7) (l : List (List Int)) : St7 := l.foldl ad7 s
theorem adL_snoc (s : St7) (l : List (List Int)) (r : List Int) : adL s (l ++ [r]) = ad7 (adL s l) r := by simp [adL]
theorem ad7_wd (s : St7) (r : List Int) : (ad7 s r).wd = s.wd ∧ (ad7 s r).nf = s.nf ∧ (ad7 s r).xf = s.xf := by unfold ad7; split <;> exact ⟨rfl, rfl, rfl⟩
theorem ad7_pre (s : St7) (r : List Int) : s.rows <+: (ad7 s r).rows := by
  unfold ad7; split
  · exact List.prefix_rfl
  · exact ⟨[r], rfl⟩
theorem ad7_mem (s : St7) (r x : List Int) : x ∈ (ad7 s r).rows ↔ x ∈ s.rows ∨ x = r := by
  unfold ad7; split
  · rename_i h
    exact ⟨Or.inl, fun h' => h'.elim id fun e => by rw [e]; exact h⟩
  · simp [Add7]
theorem ad7_len (s : St7) (r : List Int) : (ad7 s r).rows.length ≤ s.rows.length + 1 := by unfold ad7; split <;> simp [Add7]
theorem adL_wd : ∀ (l : List (List Int)) (s : St7), (adL s l).wd = s.wd ∧ (adL s l).nf = s.nf ∧ (adL s l).xf = s.xf
  | [], s => ⟨rfl, rfl, rfl⟩
  | r :: l, s => by
    have h1 := adL_wd l (ad7 s r)
    have h2 := ad7_wd s r
    exact ⟨h1.1.trans h2.1, h1.2.1.trans h2.2.1, h1.2.2.trans h2.2.2⟩
theorem adL_pre : ∀ (l : List (List Int)) (s : St7), s.rows <+: (adL s l).rows
  | [], _ => List.prefix_rfl
  | r :: l, s => (ad7_pre s r).trans (adL_pre l (ad7 s r))
theorem adL_mem : ∀ (l : List (List Int)) (s : St7) (x : List Int), x ∈ (adL s l).rows ↔ x ∈ s.rows ∨ x ∈ l
  | [], s, x => by simp [adL]
  | r :: l, s, x => by
    have h1 := adL_mem l (ad7 s r) x
    rw [ad7_mem] at h1
    rw [show adL s (r :: l) = adL (ad7 s r) l from rfl, h1]
    simp only [List.mem_cons]
    exact ⟨fun h => h.elim (fun h => h.elim Or.inl fun e => Or.inr (Or.inl e)) fun h => Or.inr (Or.inr h), fun h => h.elim (fun h => Or.inl (Or.inl h)) fun h => h.elim (fun e => Or.inl (Or.inr e)) Or.inr⟩
theorem adL_len : ∀ (l : List (List Int)) (s : St7), (adL s l).rows.length ≤ s.rows.length + l.length
  | [], _ => Nat.le_refl _
  | r :: l, s => by
    have h1 := adL_len l (ad7 s r)
    have h2 := ad7_len s r
    rw [show adL s (r :: l) = adL (ad7 s r) l from rfl, List.length_cons]
    omega
/-- Two relations that have the same rows in each part. -/
structure Eqv (r s : St7) : Prop where
  wd : r.wd = s.wd
  o : (r.rows.take r.nf).Perm (s.rows.take s.nf)
  n : (r.rows.take r.xf).Perm (s.rows.take s.xf)
  a : r.rows.Perm s.rows
theorem Eqv.turn {r s : St7} (h : Eqv r s) : Eqv (Turn7 r) (Turn7 s) := ⟨h.wd, h.n, by simpa [Turn7] using h.a, h.a⟩
theorem take_pre {α : Type} {a b : List α} (h : a <+: b) {n : Nat} (hn : n ≤ a.length) : b.take n = a.take n := by
  obtain ⟨c, rfl⟩ := h
  rw [List.take_append_of_le_length hn]
theorem Eqv.add {r s : St7} (h : Eqv r s) (hr : r.Ok) (hs : s.Ok) {l l' : List (List Int)} (hl : ∀ x, x ∈ l ↔ x ∈ l') (hr' : (adL r l).Ok) (hs' : (adL s l').Ok) : Eqv (adL r l) (adL s l') := by
  have r1 := adL_wd l r
  have s1 := adL_wd l' s
  refine ⟨by rw [r1.1, s1.1, h.wd], ?_, ?_, ?_⟩
  · rw [r1.2.1, s1.2.1, take_pre (adL_pre l r) (Nat.le_trans hr.a hr.b), take_pre (adL_pre l' s) (Nat.le_trans hs.a hs.b)]; exact h.o
  · rw [r1.2.2, s1.2.2, take_pre (adL_pre l r) hr.b, take_pre (adL_pre l' s) hs.b]; exact h.n
  · rw [List.perm_ext_iff_of_nodup hr'.nd hs'.nd]
    intro x
    rw [adL_mem, adL_mem, hl x, h.a.mem_iff]
theorem Eqv.sel {r s : St7} (h : Eqv r s) (hr : r.Ok) (hs : s.Ok) : (sel7 r 1 [] []).Perm (sel7 s 1 [] []) ∧ (sel7 r 2 [] []).Perm (sel7 s 2 [] []) ∧ (sel7 r 4 [] []).Perm (sel7 s 4 [] []) := by
  rw [sel_one hr, sel_one hs, sel_two hr, sel_two hs, sel_four hr, sel_four hs]
  refine ⟨h.o, ?_, ?_⟩
  · have e1 := List.take_append_drop r.nf (r.rows.take r.xf)
    have e2 := List.take_append_drop s.nf (s.rows.take s.xf)
    rw [List.take_take, Nat.min_eq_left hr.a] at e1
    rw [List.take_take, Nat.min_eq_left hs.a] at e2
    have h3 := h.n
    rw [← e1, ← e2] at h3
    exact (List.perm_append_left_iff _).1 (h3.trans (h.o.symm.append_right _))
  · have h3 := h.a
    rw [← List.take_append_drop r.xf r.rows, ← List.take_append_drop s.xf s.rows] at h3
    exact (List.perm_append_left_iff _).1 (h3.trans (h.n.symm.append_right _))
end Go.Proofs.Ytofopfjmcbgfjaa
