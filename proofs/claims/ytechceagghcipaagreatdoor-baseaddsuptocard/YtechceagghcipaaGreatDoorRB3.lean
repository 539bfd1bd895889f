import Derived.Test.YtechceagghcipaaGreatDoorRA41
import Derived.RangeFuncCalls
import Derived.Shelf.Abstract
import Derived.Shelf.RegionOpen
import Derived.WalkKit
import Derived.OwnWalkIn
import Derived.TacticsInMore
import Derived.LoopNIn
import Derived.LoopIn
import Derived.Test.YtechceagghcipaaGreatDoorRA21
import Derived.Laws.CopyOwn
import Derived.Test.YtechceagghcipaaGreatDoorRA19
import Derived.Laws.Cover1
import Derived.Deep.QuietTactic
import Derived.BigQuiet
import Derived.Sort.QuietIn
/-
  rel: Find by columns.
-/
namespace Go.Proofs.YtechceagghcipaaGreatDoor
open Go.RowKit Go.Shelf

/-- Why Find by these columns gives nothing. -/
def bad7 (wd : Nat) (cols keys : List Int) : Prop := cols.length ≠ keys.length ∨ (∃ c ∈ cols, col7 wd c = false) ∨ ∃ l, unq7 (cols.zip keys) l ∧ ∃ j p q, l[j]? = some p ∧ l[j + 1]? = some q ∧ p.1 = q.1
/-- What Find by columns leaves. -/
def FI (w : World) (g : Nat) (parts : Int) (wd : Nat) (cols keys : List Int) (e : Ending) (w' : World) : Prop :=
  Below w.heap.size w w' ∧ ∃ b1 b2 b3 b4 b5, e = .returned (fnd7 b1 b2 b3 b4 b5) ∧ (w.heap.size ≤ b1 ∧ w.heap.size ≤ b2 ∧ w.heap.size ≤ b3 ∧ w.heap.size ≤ b4 ∧ w.heap.size ≤ b5) ∧
    ((Bk w' b1 #[.bool false] 4 ∧ bad7 wd cols keys) ∨ ∃ sv nv l, FB w' g parts sv nv b1 b2 b3 b4 b5 ∧ cols.length = keys.length ∧ (∀ c ∈ cols, col7 wd c = true) ∧ unq7 (cols.zip keys) l ∧ (∀ j p q, l[j]? = some p → l[j + 1]? = some q → p.1 ≠ q.1) ∧ OwI w' w.heap.size sv (l.map Prod.fst) ∧ OwI w' w.heap.size nv (l.map Prod.snd))
theorem SE.form {w w' : World} {wd : Nat} {cols keys : List Int} {e : Ending} (h : SE w wd cols keys e w') : ∃ a1 n1 c1 a2 n2 c2 ok, e = .returned (.tuple #[.slice a1 n1 c1, .slice a2 n2 c2, .bool ok]) ∧ Below w.heap.size w w' ∧ (ok = false → bad7 wd cols keys) ∧ (ok = true → cols.length = keys.length ∧ (∀ c ∈ cols, col7 wd c = true) ∧ ∃ l, unq7 (cols.zip keys) l ∧ (∀ j p q, l[j]? = some p → l[j + 1]? = some q → p.1 ≠ q.1) ∧ OwI w' w.heap.size (.slice a1 n1 c1) (l.map Prod.fst) ∧ OwI w' w.heap.size (.slice a2 n2 c2) (l.map Prod.snd)) := by
  obtain ⟨hb, ⟨rfl, h⟩ | ⟨sv, nv, rfl, h1, h2, l, h3, h4, h5, h6⟩⟩ := h
  · exact ⟨none, 0, 0, none, 0, 0, false, rfl, hb, fun _ => h, (fun e => by cases e)⟩
  · obtain ⟨a1, c1, rfl, -⟩ := row7_form h5
    obtain ⟨a2, c2, rfl, -⟩ := row7_form h6
    exact ⟨a1, _, c1, a2, _, c2, true, rfl, hb, (fun e => by cases e), fun _ => ⟨h1, h2, l, h3, h4, h5, h6⟩⟩
attribute [local go_sem ↓] Go.wp_at_zero Go.wp_at_succ
set_option maxRecDepth 20000 in
set_option maxHeartbeats 1000000 in
theorem find8_any (g : Nat) (F S G N : Nat → Prop) (m : Nat) (s : St7) (parts : Int) (cols keys : List Int) (cv kv : Value) (w : World) (h : RM w g F S m s) (hc : Li G w cv cols) (hk : Li N w kv keys) (hl : cols.length ≤ 1000000000) :
    Calls Tryz.prog 61 #[.pointer (some ⟨g, 0, none⟩), .int .i64 parts, cv, kv] w (FI w g parts s.wd cols keys) := by
  obtain ⟨W2, hW2⟩ : ∃ W2, (w.alloc (.cells #[.pointer (some ⟨g, 0, none⟩)] 73)).alloc (.cells #[.int .i64 parts] 3) = W2 := ⟨_, rfl⟩
  have hz : W2.heap.size = w.heap.size + 2 := by rw [← hW2]; simp
  have hbw : Below w.heap.size w W2 := by rw [← hW2]; exact below2 _ _ _
  have k1 : Bk W2 w.heap.size #[.pointer (some ⟨g, 0, none⟩)] 73 := by rw [← hW2]; exact (Bk.new _ _ _).below (below1 _ _)
  have k2 : Bk W2 (w.heap.size + 1) #[.int .i64 parts] 3 := by
    have := Bk.new (w.alloc (.cells #[.pointer (some ⟨g, 0, none⟩)] 73)) #[.int .i64 parts] 3
    rw [World.size_alloc, hW2] at this
    exact this
  have c1 := k1.cell (i := 0) rfl
  have HS := hm7 (settle7_any g F S G N m s cols keys cv kv W2 (h.below hbw) (hc.below hbw) (hk.below hbw) hl)
  obtain ⟨ca, cn, cc, rfl⟩ : ∃ a n c, cv = .slice a n c := by obtain ⟨a, c, e, -⟩ := hc; exact ⟨_, _, _, e⟩
  obtain ⟨ka, kn, kc, rfl⟩ : ∃ a n c, kv = .slice a n c := by obtain ⟨a, c, e, -⟩ := hk; exact ⟨_, _, _, e⟩
  have HKK := hm7 (And.intro k1 (And.intro k2 hbw))
  clear h hc hk k1 k2 hbw
  go_enter Tryz.func61, Tryz.ntmps61
  go_upto_region 1 with fail
  clear hW2
  go_wp2_with (go_at_call 90; refine HS.out.mono ?_; rintro e w1 hse; obtain ⟨a1, n1, c1, a2, n2, c2, ok, rfl, hb, hbad, hgood⟩ := hse.form; have HB := hm7 hb; have HBAD := hm7 hbad; have HGOOD := hm7 hgood; clear hb hbad hgood hse)
  have hs1 := HB.out.size
  obtain ⟨x2, hx2⟩ : ∃ x, w1.alloc (.cells #[.slice a1 n1 c1] 71) = x := ⟨_, rfl⟩
  obtain ⟨x3, hx3⟩ : ∃ x, x2.alloc (.cells #[.slice a2 n2 c2] 71) = x := ⟨_, rfl⟩
  obtain ⟨x4, hx4⟩ : ∃ x, x3.alloc (.cells #[.bool ok] 4) = x := ⟨_, rfl⟩
  have b2 : Below w1.heap.size w1 x2 := by rw [← hx2]; exact below1 _ _
  have b3 : Below x2.heap.size x2 x3 := by rw [← hx3]; exact below1 _ _
  have b4 : Below x3.heap.size x3 x4 := by rw [← hx4]; exact below1 _ _
  have z2 : x2.heap.size = w1.heap.size + 1 := by rw [← hx2]; simp
  have z3 : x3.heap.size = x2.heap.size + 1 := by rw [← hx3]; simp
  have e2 : Bk x2 w1.heap.size #[.slice a1 n1 c1] 71 := by rw [← hx2]; exact Bk.new _ _ _
  have e3 : Bk x3 x2.heap.size #[.slice a2 n2 c2] 71 := by rw [← hx3]; exact Bk.new _ _ _
  have e4 : Bk x4 x3.heap.size #[.bool ok] 4 := by rw [← hx4]; exact Bk.new _ _ _
  have b14 : Below w1.heap.size w1 x4 := b2.trans ((b3.mono (by omega)).trans (b4.mono (by omega)))
  have hbw := HKK.out.2.2
  have HFB : ok = true → FB x4 g parts (.slice a1 n1 c1) (.slice a2 n2 c2) (w1.heap.size + 1 + 1) w.heap.size (w.heap.size + 1) w1.heap.size (w1.heap.size + 1) := fun hok => by
    refine ⟨?_, (HKK.out.1.below HB.out).below b14, (HKK.out.2.1.below HB.out).below b14, (e2.below b3).below b4, ?_⟩
    · rw [← z2, ← z3, ← hok]; exact e4
    · rw [← z2]; exact e3.below b4
  rw [hx2, hx3, hx4]
  go_ret
  refine ⟨hbw.trans ((HB.out.mono (by omega)).trans (b14.mono (by omega))), w1.heap.size + 1 + 1, w.heap.size, w.heap.size + 1, w1.heap.size, w1.heap.size + 1, rfl, by omega, ?_⟩
  cases ok with
  | false => exact Or.inl ⟨by rw [← z2, ← z3]; exact e4, HBAD.out rfl⟩
  | true =>
    obtain ⟨h1, h2, l, h3, h4, h5, h6⟩ := HGOOD.out rfl
    exact Or.inr ⟨_, _, l, HFB rfl, h1, h2, h3, h4, (OwI.mono (row7_below h5 b14) (by omega)), (OwI.mono (row7_below h6 b14) (by omega))⟩
end Go.Proofs.YtechceagghcipaaGreatDoor
/-
  rel: what is found of all rows (plain).
-/
namespace Go.Proofs.YtechceagghcipaaGreatDoor
open Go.RowKit

/-- Rows in rising order. -/
def srt7 (l : List (List Int)) : List (List Int) := l.mergeSort fun a b => decide (cmpR a b ≤ 0)
theorem srt7_srt (l : List (List Int)) : srtR (srt7 l) := by
  have h := List.pairwise_mergeSort (le := fun a b => decide (cmpR a b ≤ 0)) (fun a b c h1 h2 => by simp only [decide_eq_true_eq] at *; exact cmpR_le h1 h2) (fun a b => by
    have := cmpR_neg a b
    simp only [Bool.or_eq_true, decide_eq_true_eq]
    omega) l
  exact h.imp fun h => by simpa using h
theorem srt7_perm (l : List (List Int)) : (srt7 l).Perm l := List.mergeSort_perm _ _
theorem rws_mem {rows : List (List Int)} {l : List Int} (h : ∀ i ∈ l, 0 ≤ i ∧ i < (rows.length : Int)) : ∀ x ∈ rws7 rows l, x ∈ rows := by
  intro x hx
  simp only [rws7, List.mem_map] at hx
  obtain ⟨i, hi, rfl⟩ := hx
  obtain ⟨h0, h1⟩ := h i hi
  rw [List.getElem?_eq_getElem (by omega : i.toNat < rows.length)]
  exact List.getElem_mem _
theorem sel_mem {s : St7} {parts : Int} {cols : List Nat} {nums : List Int} : ∀ x ∈ sel7 s parts cols nums, x ∈ s.rows := by
  intro x hx
  simp only [sel7, List.mem_flatMap] at hx
  obtain ⟨p, -, hx⟩ := hx
  exact rws_mem (fun i hi => pls7_lt i (List.mem_filter.1 hi).1) x hx
theorem pls7_all (s : St7) : pls7 s [] [] = nat7 (List.range s.rows.length) := by
  unfold pls7 grp
  rw [List.filter_eq_self.2]
  intro i _
  simp [nums7]
theorem range_split (a b n : Nat) (hab : a ≤ b) (hbn : b ≤ n) : (nat7 (List.range n)).filter (fun x => decide ((a : Int) ≤ x ∧ x < (b : Int))) = nat7 (List.range' a (b - a)) := by
  have e : List.range n = List.range' 0 a ++ (List.range' a (b - a) ++ List.range' b (n - b)) := by
    rw [List.range_eq_range']
    have h1 : List.range' 0 n = List.range' 0 a ++ List.range' a (n - a) := by
      have := List.range'_append_1 (s := 0) (m := a) (n := n - a)
      rw [Nat.zero_add] at this
      rw [this]; congr 1; omega
    have h2 : List.range' a (n - a) = List.range' a (b - a) ++ List.range' b (n - b) := by
      have := List.range'_append_1 (s := a) (m := b - a) (n := n - b)
      rw [show a + (b - a) = b by omega] at this
      rw [this]; congr 1; omega
    rw [h1, h2]
  rw [e]
  unfold nat7
  rw [List.map_append, List.map_append, List.filter_append, List.filter_append]
  have q1 : ((List.range' 0 a).map fun (i : Nat) => (i : Int)).filter (fun x => decide ((a : Int) ≤ x ∧ x < (b : Int))) = [] := by
    rw [List.filter_eq_nil_iff]
    intro x hx
    simp only [List.mem_map, List.mem_range'_1] at hx
    obtain ⟨i, hi, rfl⟩ := hx
    simp only [decide_eq_true_eq]; omega
  have q2 : ((List.range' a (b - a)).map fun (i : Nat) => (i : Int)).filter (fun x => decide ((a : Int) ≤ x ∧ x < (b : Int))) = (List.range' a (b - a)).map fun (i : Nat) => (i : Int) := by
    rw [List.filter_eq_self]
    intro x hx
    simp only [List.mem_map, List.mem_range'_1] at hx
    obtain ⟨i, hi, rfl⟩ := hx
    simp only [decide_eq_true_eq]; omega
  have q3 : ((List.range' b (n - b)).map fun (i : Nat) => (i : Int)).filter (fun x => decide ((a : Int) ≤ x ∧ x < (b : Int))) = [] := by
    rw [List.filter_eq_nil_iff]
    intro x hx
    simp only [List.mem_map, List.mem_range'_1] at hx
    obtain ⟨i, hi, rfl⟩ := hx
    simp only [decide_eq_true_eq]; omega
  rw [q1, q2, q3]
  simp
theorem rws_range (rows : List (List Int)) (a b : Nat) (hab : a ≤ b) (hbn : b ≤ rows.length) : rws7 rows (wn7 (a : Int) (b : Int) (nat7 (List.range rows.length))) = (rows.take b).drop a := by
  unfold wn7
  rw [range_split a b _ hab hbn]
  unfold rws7 nat7
  rw [List.map_map]
  apply List.ext_getElem?
  intro i
  rw [List.getElem?_map, List.getElem?_drop, List.getElem?_take]
  by_cases hi : i < b - a
  · rw [List.getElem?_range' hi, if_pos (by omega)]
    simp [List.getElem?_eq_getElem (by omega : a + i < rows.length)]
    rw [show ((a : Int) + (i : Int)).toNat = a + i by omega, List.getElem?_eq_getElem (by omega : a + i < rows.length)]
    rfl
  · rw [if_neg (by omega), List.getElem?_eq_none (by simp; omega)]
    rfl
/-- Add, plain. -/
def ad7 (s : St7) (r : List Int) : St7 := if r ∈ s.rows then s else Add7 s r
theorem ad7_wd (s : St7) (r : List Int) : (ad7 s r).wd = s.wd ∧ (ad7 s r).nf = s.nf ∧ (ad7 s r).xf = s.xf := by unfold ad7; split <;> exact ⟨rfl, rfl, rfl⟩
theorem ad7_mem (s : St7) (r x : List Int) : x ∈ (ad7 s r).rows ↔ x ∈ s.rows ∨ x = r := by
  unfold ad7; split
  · rename_i h
    exact ⟨Or.inl, fun h' => h'.elim id fun e => by rw [e]; exact h⟩
  · simp [Add7]
end Go.Proofs.YtechceagghcipaaGreatDoor
/-
  rel: what Find by columns gives, plain.
-/
namespace Go.Proofs.YtechceagghcipaaGreatDoor
open Go.RowKit Go.Lib

theorem compact_mem (l : List (Int × Int)) (x : Int × Int) : x ∈ compact l ↔ x ∈ l := by
  unfold compact compactUpTo
  constructor
  · intro h
    simp only [List.mem_map, List.mem_filter, List.mem_range] at h
    obtain ⟨j, ⟨hj, -⟩, rfl⟩ := h
    rw [getElem!_pos l.toArray j (by simpa using hj)]
    simp
  · intro h
    obtain ⟨j, hj⟩ := List.getElem?_of_mem h
    have hjl := (List.getElem?_eq_some_iff.1 hj).1
    have hx : l.toArray[j]! = x := arr7 hj
    clear h hj
    have key : ∀ n j, j ≤ n → j < l.length → ∃ i, i < l.length ∧ keeps l.toArray i = true ∧ l.toArray[i]! = l.toArray[j]! := by
      intro n
      induction n with
      | zero => intro j hj hl; exact ⟨j, hl, keeps_lt_one _ j (by omega), rfl⟩
      | succ n ih =>
        intro j hj hl
        by_cases hk : keeps l.toArray j = true
        · exact ⟨j, hl, hk, rfl⟩
        · have h0 : ¬ (j = 0 ∨ l.toArray[j]! ≠ l.toArray[j - 1]!) := by simpa [keeps] using hk
          have h1 : j ≠ 0 := fun e => h0 (Or.inl e)
          have h2 : l.toArray[j]! = l.toArray[j - 1]! := Classical.byContradiction fun e => h0 (Or.inr e)
          obtain ⟨i, a, b, c⟩ := ih (j - 1) (by omega) (by omega)
          exact ⟨i, a, b, by rw [c, h2]⟩
    obtain ⟨i, a, b, c⟩ := key j j (Nat.le_refl _) hjl
    simp only [List.mem_map, List.mem_filter, List.mem_range]
    exact ⟨i, ⟨a, b⟩, by rw [c, hx]⟩
theorem unq7_mem {z l : List (Int × Int)} (h : unq7 z l) (x : Int × Int) : x ∈ l ↔ x ∈ z := by
  obtain ⟨l', hp, -, rfl⟩ := h
  rw [compact_mem, hp.mem_iff]
/-- Has the row these numbers in these columns? -/
def fit7 (z : List (Int × Int)) (r : List Int) : Bool := z.all fun p => decide (r[p.1.toNat]?.getD 0 = p.2)
theorem fit7_mem {z l : List (Int × Int)} (h : ∀ x, x ∈ l ↔ x ∈ z) (r : List Int) : fit7 l r = fit7 z r := by
  unfold fit7
  rw [Bool.eq_iff_iff, List.all_eq_true, List.all_eq_true]
  exact ⟨fun k x hx => k x ((h x).2 hx), fun k x hx => k x ((h x).1 hx)⟩
theorem nums7_fit (l : List (Int × Int)) (r : List Int) : nums7 (l.map fun p => p.1.toNat) r = l.map Prod.snd ↔ fit7 l r = true := by
  induction l with
  | nil => simp [nums7, fit7]
  | cons p l ih =>
    have e : nums7 ((p :: l).map fun p => p.1.toNat) r = r[p.1.toNat]?.getD 0 :: nums7 (l.map fun p => p.1.toNat) r := rfl
    have e2 : fit7 (p :: l) r = (decide (r[p.1.toNat]?.getD 0 = p.2) && fit7 l r) := rfl
    rw [e, e2, List.map_cons, List.cons.injEq, ih]
    simp
/-- What is found, as a sieve of all rows. -/
theorem sel7_sift (s : St7) (parts : Int) (cols : List Nat) (nums : List Int) : sel7 s parts cols nums = (sel7 s parts [] []).filter fun r => decide (tx (nums7 cols r) = tx nums) := by
  unfold sel7
  rw [List.filter_flatMap]
  congr 1
  funext p
  unfold rws7
  rw [List.filter_map]
  congr 1
  rw [pls7_all]
  unfold wn7 pls7 grp nat7
  rw [List.filter_filter, List.filter_map, List.filter_map, List.filter_filter]
  congr 1
  apply List.filter_congr
  intro i _
  simp [Function.comp, Bool.and_comm]
theorem srt7_filter (P : List Int → Bool) (l : List (List Int)) : srt7 (l.filter P) = (srt7 l).filter P :=
  srtR_uniq (srt7_srt _) ((srt7_srt l).filter _) ((srt7_perm _).trans ((srt7_perm l).filter P).symm)
end Go.Proofs.YtechceagghcipaaGreatDoor
/-
  rel: Find by columns that fit no row: a range of none; how neighbours differ where each stands once.
-/
namespace Go.Proofs.YtechceagghcipaaGreatDoor
open Go.RowKit Go.Shelf Go.Lib
attribute [local go_sem] Oper.semAt_some

set_option maxRecDepth 100000 in
theorem find_none (b1 b2 b3 b4 b5 : Nat) :
    SeqX Tryz.prog 91 #[.pointer (some ⟨b1, 0, none⟩), .pointer (some ⟨b2, 0, none⟩), .pointer (some ⟨b3, 0, none⟩), .pointer (some ⟨b4, 0, none⟩), .pointer (some ⟨b5, 0, none⟩)] [] (fun W => Bk W b1 #[.bool false] 4) (fun W W1 => W1 = W) (fun _ _ => True) := by
  intro n l J Jx W hd hEff hK hY
  have c1 := hd.cell (i := 0) rfl
  have HE := hm7 (hEff W rfl)
  clear hd hEff hK hY
  refine callsIn_of_wp Tryz.func91 rfl trivial ?_ rfl
  simp only [Tryz.ntmps91, List.size_toArray, List.length_cons, List.length_nil, Nat.reduceAdd, Nat.reduceSub, Array.replicate_succ, Array.replicate_zero, List.push_toArray, List.append_toArray, List.nil_append, List.cons_append]
  gi_wp2
  refine bodyPost_ret (results_none rfl _ _ _) rfl ?_
  exact ⟨⟨_, rfl⟩, _, .inl HE.out⟩
/-- Cells that rise and are kept once: each ahead of the next. -/
theorem compact_rise {l : List (Int × Int)} (h : srtZ7 l) : (compact l).Pairwise fun a b => a.1 < b.1 ∨ (a.1 = b.1 ∧ a.2 < b.2) := by
  unfold compact compactUpTo
  rw [List.pairwise_map]
  have h0 : ((List.range l.length).filter (keeps l.toArray)).Pairwise (· < ·) := List.Pairwise.filter _ List.pairwise_lt_range
  refine List.Pairwise.imp_of_mem ?_ h0
  intro i j hi hj hij
  simp only [List.mem_filter, List.mem_range] at hi hj
  have gi : l.toArray[i]! = l[i]'hi.1 := by rw [getElem!_pos l.toArray i (by simpa using hi.1)]; simp
  have gj : l.toArray[j]! = l[j]'hj.1 := by rw [getElem!_pos l.toArray j (by simpa using hj.1)]; simp
  have gp : l.toArray[j - 1]! = l[j - 1]'(by omega) := by rw [getElem!_pos l.toArray (j - 1) (by simp; omega)]; simp
  have hk : j = 0 ∨ l.toArray[j]! ≠ l.toArray[j - 1]! := by simpa [keeps] using hj.2
  have hne : l[j]'hj.1 ≠ l[j - 1]'(by omega) := by
    rcases hk with hk | hk
    · omega
    · rw [gj, gp] at hk; exact hk
  have hs := List.pairwise_iff_getElem.1 h
  have h1 := hs (j - 1) j (by omega) hj.1 (by omega)
  have h2 : l[i]'hi.1 = l[j - 1]'(by omega) ∨ ((l[i]'hi.1).1 < (l[j - 1]'(by omega)).1 ∨ ((l[i]'hi.1).1 = (l[j - 1]'(by omega)).1 ∧ (l[i]'hi.1).2 ≤ (l[j - 1]'(by omega)).2)) := by
    by_cases e : i = j - 1
    · left; subst e; rfl
    · exact Or.inr (hs i (j - 1) hi.1 (by omega) (by omega))
  rw [gi, gj]
  have h3 : (l[j]'hj.1).1 = (l[j - 1]'(by omega)).1 → (l[j]'hj.1).2 ≠ (l[j - 1]'(by omega)).2 := fun e1 e2 => hne (Prod.ext e1 e2)
  rcases h2 with h2 | h2
  · rw [h2]; omega
  · omega
end Go.Proofs.YtechceagghcipaaGreatDoor
/-
  rel: Find by columns is the sieve that the law asks (plain).
-/
namespace Go.Proofs.YtechceagghcipaaGreatDoor
open Go.RowKit Go.Lib

/-- Has the row these numbers in these columns, all of which it has? -/
def fits8 (cols keys row : List Int) : Bool := decide (cols.length = keys.length) && (cols.zip keys).all fun p => decide (0 ≤ p.1 ∧ p.1 < (row.length : Int) ∧ row[p.1.toNat]?.getD 0 = p.2)
theorem zip_left {cols keys : List Int} (hl : cols.length = keys.length) {c : Int} (hc : c ∈ cols) : ∃ k, (c, k) ∈ cols.zip keys := by
  obtain ⟨j, hj⟩ := List.getElem?_of_mem hc
  have h1 := (List.getElem?_eq_some_iff.1 hj).1
  exact ⟨keys[j]'(by omega), List.mem_of_getElem? (i := j) (by rw [List.getElem?_zip_eq_some]; exact ⟨hj, List.getElem?_eq_getElem (by omega)⟩)⟩
theorem bad_none {wd : Nat} {cols keys : List Int} (h : bad7 wd cols keys) {row : List Int} (hr : row.length = wd) : fits8 cols keys row = false := by
  unfold fits8
  by_cases hl : cols.length = keys.length
  · rw [decide_eq_true hl, Bool.true_and]
    cases hq : (cols.zip keys).all fun p => decide (0 ≤ p.1 ∧ p.1 < (row.length : Int) ∧ row[p.1.toNat]?.getD 0 = p.2) with
    | false => rfl
    | true =>
      exfalso
      rw [List.all_eq_true] at hq
      have hq' : ∀ p ∈ cols.zip keys, 0 ≤ p.1 ∧ p.1 < (row.length : Int) ∧ row[p.1.toNat]?.getD 0 = p.2 := fun p hp => by simpa using hq p hp
      rcases h with h | ⟨c, hc, h⟩ | ⟨l, hu, j, p, q, hp, hq2, he⟩
      · exact h hl
      · obtain ⟨k, hk⟩ := zip_left hl hc
        have := hq' _ hk
        rw [col7, decide_eq_false_iff_not] at h
        simp only at this
        rw [hr] at this
        exact h ⟨this.1, this.2.1⟩
      · have h1 := hq' p ((unq7_mem hu p).1 (List.mem_of_getElem? hp))
        have h2 := hq' q ((unq7_mem hu q).1 (List.mem_of_getElem? hq2))
        obtain ⟨l', -, hs, rfl⟩ := hu
        have h3 := compact_rise hs
        obtain ⟨a1, rfl⟩ := List.getElem?_eq_some_iff.1 hp
        obtain ⟨a2, rfl⟩ := List.getElem?_eq_some_iff.1 hq2
        have h4 := List.pairwise_iff_getElem.1 h3 j (j + 1) a1 a2 (by omega)
        rw [← he] at h2
        have := h1.2.2.symm.trans h2.2.2
        omega
  · rw [decide_eq_false hl]; rfl
theorem good_fit {wd : Nat} {cols keys : List Int} (hl : cols.length = keys.length) (hc : ∀ c ∈ cols, col7 wd c = true) {row : List Int} (hr : row.length = wd) : fits8 cols keys row = fit7 (cols.zip keys) row := by
  unfold fits8 fit7
  rw [decide_eq_true hl, Bool.true_and, Bool.eq_iff_iff, List.all_eq_true, List.all_eq_true]
  refine forall_congr' fun p => forall_congr' fun hp => ?_
  have h1 := hc p.1 (List.of_mem_zip hp).1
  rw [col7, decide_eq_true_eq] at h1
  simp only [decide_eq_true_eq]
  rw [hr]
  exact ⟨fun h => h.2.2, fun h => ⟨h1.1, h1.2, h⟩⟩
theorem nums8_w {s : St7} (ho : s.Ok) {r : List Int} (hr : r ∈ s.rows) (cols : List Nat) : w64 (nums7 cols r) := by
  intro x hx
  simp only [nums7, List.mem_map] at hx
  obtain ⟨c, -, rfl⟩ := hx
  cases h : r[c]? with
  | none => rfl
  | some y => exact ho.w r hr y (List.mem_of_getElem? h)
theorem sift8 {s : St7} (ho : s.Ok) {cols keys : List Int} {l : List (Int × Int)} (parts : Int) (hl : cols.length = keys.length) (hc : ∀ c ∈ cols, col7 s.wd c = true) (hu : unq7 (cols.zip keys) l) (hw : w64 keys) :
    srt7 (sel7 s parts (l.map fun p => p.1.toNat) (l.map Prod.snd)) = (srt7 (sel7 s parts [] [])).filter (fits8 cols keys) := by
  rw [sel7_sift, srt7_filter]
  apply List.filter_congr
  intro r hr
  have hm : r ∈ s.rows := sel_mem r ((srt7_perm _).mem_iff.1 hr)
  have hwl : w64 (l.map Prod.snd) := by
    intro x hx
    simp only [List.mem_map] at hx
    obtain ⟨p, hp, rfl⟩ := hx
    exact hw p.2 (List.of_mem_zip ((unq7_mem hu p).1 hp)).2
  rw [good_fit hl hc (ho.wid r hm), ← fit7_mem (unq7_mem hu) r, Bool.eq_iff_iff, decide_eq_true_eq, ← nums7_fit]
  exact ⟨fun h => tx_inj (nums8_w ho hm _) hwl h, fun h => by rw [h]⟩
end Go.Proofs.YtechceagghcipaaGreatDoor
/-
  law 7: Add and Rows as they are used; batches.
-/
namespace Go.Proofs.YtechceagghcipaaGreatDoor
open Go.RowKit

/-- What Add leaves. -/
def AD (w : World) (g : Nat) (F S : Nat → Prop) (m : Nat) (s : St7) (r : List Int) (e : Ending) (w' : World) : Prop :=
  e = .returned (.tuple #[.bool (decide (r ∉ s.rows)), .int .i64 0]) ∧ (∃ F' S' : Nat → Prop, RM w' g F' S' m (ad7 s r) ∧ (∀ b, F' b → F b ∨ w.heap.size ≤ b) ∧ ∀ b, S' b → S b ∨ w.heap.size ≤ b) ∧ Fr F w w'
theorem add8_any (g : Nat) (F S G : Nat → Prop) (m : Nat) (s : St7) (v : Value) (r : List Int) (w : World) (h : RM w g F S m s) (hv : Li G w v r) (he : r.length = s.wd) (hl : r.length ≤ 10000000000) (hc : s.rows.length < 10000000000) :
    Calls Tryz.prog 34 #[.pointer (some ⟨g, 0, none⟩), v] w (AD w g F S m s r) := by
  cases hx : txi s.rows (tx r) with
  | some i =>
    obtain ⟨r', h1, h2⟩ := txi_some hx
    have hm := List.mem_of_getElem? h1
    have e : r' = r := tx_inj (h.ok.w r' hm) hv.w h2
    rw [e] at hm
    refine (add7_old g F S G m s v r w h hv hl he (by rw [hx]; rfl)).mono ?_
    rintro e w' ⟨rfl, hb⟩
    refine ⟨by rw [decide_eq_false (by simpa using hm)], ⟨F, S, by rw [ad7, if_pos hm]; exact h.below hb, fun b hb => Or.inl hb, fun b hb => Or.inl hb⟩, Fr.of hb⟩
  | none =>
    have hm : r ∉ s.rows := fun hm => txi_none hx r hm rfl
    refine (add7_new g F S G m s v r w h hv hl he hx hc).mono ?_
    rintro e w' ⟨rfl, ⟨F', S', h1, h2, h3, -, -⟩, h4⟩
    exact ⟨by rw [decide_eq_true hm], ⟨F', S', by rw [ad7, if_neg hm]; exact h1, h2, h3⟩, h4⟩
end Go.Proofs.YtechceagghcipaaGreatDoor
/-
  law 7: head.
-/
namespace Go.Proofs.YtechceagghcipaaGreatDoor
open Go.RowKit
attribute [local go_sem ↓] Go.wp_at_zero Go.wp_at_succ

theorem low7 {w wr w' : World} {F : Nat → Prop} (h3 : Below w.heap.size w wr) (h : Fr F wr w') (hd : ∀ b, F b → w.heap.size ≤ b) : Below w.heap.size w w' := h3.trans ((h.mono (Q := fun b => w.heap.size ≤ b) fun b _ hF => hd b hF).low h3.size)
end Go.Proofs.YtechceagghcipaaGreatDoor
/-
  law 7: what RelOrder's walk asks (plain).
-/
namespace Go.Proofs.YtechceagghcipaaGreatDoor
open Go.RowKit

theorem ad7_ok {s : St7} {r : List Int} (h : s.Ok) (he : r.length = s.wd) (hw : w64 r) (hl : s.wd ≤ 10000000000) (hc : s.rows.length < 10000000000) : (ad7 s r).Ok := by
  unfold ad7
  split
  · exact h
  · rename_i hn
    refine ⟨?_, fun x hx => ?_, fun x hx => ?_, h.a, Nat.le_trans h.b (by simp [Add7]), by simp [Add7]; omega, fun _ => hl, h.e⟩
    · show (s.rows ++ [r]).Nodup
      rw [List.nodup_append]
      refine ⟨h.nd, by simp, fun a ha b hb => ?_⟩
      simp at hb
      subst hb
      intro e
      subst e
      exact hn ha
    · rcases List.mem_append.1 hx with hx | hx
      · exact h.wid x hx
      · simp at hx; subst hx; exact he
    · rcases List.mem_append.1 hx with hx | hx
      · exact h.w x hx
      · simp at hx; subst hx; exact hw
theorem turn_ok7 {s : St7} (h : s.Ok) : (Turn7 s).Ok := ⟨h.nd, h.wid, h.w, h.b, Nat.le_refl _, h.c, h.d, h.e⟩
end Go.Proofs.YtechceagghcipaaGreatDoor
/-
  law 7: a relation of the call's own, beside blocks that it leaves alone.
-/
namespace Go.Proofs.YtechceagghcipaaGreatDoor
open Go.RowKit

/-- A relation of the call's own, that touches no block of X. -/
def KR (w : World) (X : Nat → Prop) (g m : Nat) (s : St7) (wr : World) : Prop :=
  ∃ F S : Nat → Prop, RM wr g F S m s ∧ (∀ b, F b ∨ S b → w.heap.size ≤ b ∧ ¬ X b) ∧ Below w.heap.size w wr
/-- All that isn't new to the call, and X, stay. -/
def Fx (w : World) (X : Nat → Prop) (wr w' : World) : Prop := Fr (fun b => w.heap.size ≤ b ∧ ¬ X b) wr w'
theorem KR.add {w wr : World} {X : Nat → Prop} {g m : Nat} {s : St7} {G : Nat → Prop} {v : Value} {r : List Int} (h : KR w X g m s wr) (hX : ∀ b, X b → b < wr.heap.size) (hv : Li G wr v r) (he : r.length = s.wd) (hl : r.length ≤ 10000000000) (hc : s.rows.length < 10000000000) :
    Calls Tryz.prog 34 #[.pointer (some ⟨g, 0, none⟩), v] wr fun e w' => e = .returned (.tuple #[.bool (decide (r ∉ s.rows)), .int .i64 0]) ∧ KR w X g m (ad7 s r) w' ∧ Fx w X wr w' := by
  obtain ⟨F, S, h1, h2, h3⟩ := h
  refine (add8_any g F S G m s v r wr h1 hv he hl hc).mono ?_
  rintro e w' ⟨rfl, ⟨F', S', k1, k2, k3⟩, k4⟩
  have := h3.size
  refine ⟨rfl, ⟨F', S', k1, fun b hb => ?_, low7 h3 k4 fun b hF => (h2 b (Or.inl hF)).1⟩, Fr.mono k4 fun b _ hF => h2 b (Or.inl hF)⟩
  have hn : wr.heap.size ≤ b → w.heap.size ≤ b ∧ ¬ X b := fun hb => ⟨by omega, fun hc => by have := hX b hc; omega⟩
  exact hb.elim (fun h => (k2 b h).elim (fun h => h2 b (Or.inl h)) hn) fun h => (k3 b h).elim (fun h => h2 b (Or.inr h)) hn
theorem KR.turn {w wr : World} {X : Nat → Prop} {g m : Nat} {s : St7} (h : KR w X g m s wr) :
    Calls Tryz.prog 35 #[.pointer (some ⟨g, 0, none⟩)] wr fun e w' => e = .returned (.int .i64 ((s.rows.length : Int) - (s.xf : Int))) ∧ KR w X g m (Turn7 s) w' ∧ Fx w X wr w' := by
  obtain ⟨F, S, h1, h2, h3⟩ := h
  refine (turn7_any g F S m s wr h1).mono ?_
  rintro e w' ⟨rfl, k1, k4⟩
  exact ⟨rfl, ⟨F, S, k1, h2, low7 h3 k4 fun b hF => (h2 b (Or.inl hF)).1⟩, Fr.mono k4 fun b _ hF => h2 b (Or.inl hF)⟩
theorem KR.len {w wr : World} {X : Nat → Prop} {g m : Nat} {s : St7} (h : KR w X g m s wr) (parts : Int) :
    Calls Tryz.prog 112 #[.pointer (some ⟨g, 0, none⟩), .int .i64 parts] wr fun e w' => e = .returned (.int .i64 (len7 s parts)) ∧ Below wr.heap.size wr w' := by
  obtain ⟨F, S, h1, h2, h3⟩ := h
  exact len7_any g F S m s parts wr h1
end Go.Proofs.YtechceagghcipaaGreatDoor
/-
  A region that draws its order and only reads, inside a round of a range over a function; marks of ranges that are behind.
-/
namespace Go.Proofs.YtechceagghcipaaGreatDoor
open Go.RowKit Go.Shelf
section
variable {F : Fence} {n : Nat} {P : Program} {ops : Array Oper} {C : World → Prop} {md : Region.Mode}
/-- No operation of it is a defer statement. -/
def plainOps (ops : Array Oper) : Bool := ops.toList.all fun o => match o.op with | .defer _ => false | _ => true
theorem plainOps_get {i : Nat} {o : Oper} (h : plainOps ops = true) (ho : ops[i]? = some o) : ∀ c, o.op ≠ .defer c := by
  intro c hc
  have h1 := List.all_eq_true.1 h o (by rw [← Array.getElem?_toList] at ho; exact List.mem_of_getElem? ho)
  rw [hc] at h1
  cases h1
end
/-- The marks that a function has laid: each in a block of its own, with no call in it. -/
def mk7 (Es : List Nat) : List Deferred := Es.map fun E => { target := .collected E, args := #[] }
structure Mk7 (X : World) (Es : List Nat) : Prop where
  nd : Es.Nodup
  bl : ∀ E ∈ Es, X.heap[E]? = some (.deferred (some []))
theorem Mk7.lt {X : World} {Es : List Nat} (h : Mk7 X Es) : ∀ E ∈ Es, E < X.heap.size := fun E hE => (Array.getElem?_eq_some_iff.1 (h.bl E hE)).1
theorem Mk7.same {X Y : World} {Es : List Nat} (h : Mk7 X Es) (hs : ∀ E ∈ Es, Y.heap[E]? = X.heap[E]?) : Mk7 Y Es := ⟨h.nd, fun E hE => (hs E hE).trans (h.bl E hE)⟩
theorem Mk7.cons {E : Nat} {X : World} {Es : List Nat} (h : Mk7 X Es) (hn : E ∉ Es) (hE : X.heap[E]? = some (.deferred (some []))) : Mk7 X (E :: Es) :=
  ⟨List.nodup_cons.2 ⟨hn, h.nd⟩, fun e he => by rcases List.mem_cons.1 he with rfl | he; exact hE; exact h.bl e he⟩
/-- Left as it should be, or not at all. -/
def NQ (R : Act → World → Prop) : Exit → Act → World → Prop
  | .normal, a, w => R a w
  | _, _, _ => False
/-- A frame of so many slots, written out. -/
theorem arr_of (n : Nat) (tmps : Array Value) (h : tmps.size = n) : ∃ f : Nat → Value, tmps = ((List.range n).map f).toArray ∧ ∀ i, i < n → tmps[i]? = some (f i) := by
  refine ⟨fun i => tmps[i]?.getD undef, ?_, fun i hi => ?_⟩
  · apply Array.ext
    · simp [h]
    · intro i h1 h2
      simp [h1]
  · have h1 : tmps[i]? = some (tmps[i]'(by omega)) := Array.getElem?_eq_getElem (by omega)
    simp only [h1, Option.getD_some]
end Go.Proofs.YtechceagghcipaaGreatDoor
