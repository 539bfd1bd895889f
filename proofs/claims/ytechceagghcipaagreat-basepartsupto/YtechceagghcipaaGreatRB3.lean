import Derived.Test.YtechceagghcipaaGreatRA44
import Derived.Sort.QuietIn
/-
  rel: Find by columns is the sieve that the law asks (plain).
-/
namespace Go.Proofs.YtechceagghcipaaGreat
open Go.RowKit Go.Lib

/-- Has the row these numbers in these columns, all of which it has? -/
def fits8 (cols keys row : List Int) : Bool := decide (cols.length = keys.length) && (cols.zip keys).all fun p => decide (0 ≤ p.1 ∧ p.1 < (row.length : Int) ∧ row[p.1.toNat]?.getD 0 = p.2)
theorem zip_left {cols keys : List Int} (hl : cols.length = keys.length) {c : Int} (hc : c ∈ cols) : ∃ k, (c, k) ∈ cols.zip keys := by
  obtain ⟨j, hj⟩ := List.getElem?_of_mem hc
  have h1 := (List.getElem?_eq_some_iff.1 hj).1
  exact ⟨keys[j]'(by omega), List.mem_of_getElem? (i := j) (by rw [List.getElem?_zip_eq_some]; exact ⟨hj, List.getElem?_eq_getElem (by omega)⟩)⟩
theorem bad_none {wd : Nat} {cols keys : List Int} (h : bad7 wd cols keys) {row : List Int} (hr : row.length = wd) : fits8 cols keys row = false := by
  unfold fits8
  by_cases hl : cols.length = keys.length
  · rw [decide_eq_true hl, Bool.true_and]
    cases hq : (cols.zip keys).all fun p => decide (0 ≤ p.1 ∧ p.1 < (row.length : Int) ∧ row[p.1.toNat]?.getD 0 = p.2) with
    | false => rfl
    | true =>
      exfalso
      rw [List.all_eq_true] at hq
      have hq' : ∀ p ∈ cols.zip keys, 0 ≤ p.1 ∧ p.1 < (row.length : Int) ∧ row[p.1.toNat]?.getD 0 = p.2 := fun p hp => by simpa using hq p hp
      rcases h with h | ⟨c, hc, h⟩ | ⟨l, hu, j, p, q, hp, hq2, he⟩
      · exact h hl
      · obtain ⟨k, hk⟩ := zip_left hl hc
        have := hq' _ hk
        rw [col7, decide_eq_false_iff_not] at h
        simp only at this
        rw [hr] at this
        exact h ⟨this.1, this.2.1⟩
      · have h1 := hq' p ((unq7_mem hu p).1 (List.mem_of_getElem? hp))
        have h2 := hq' q ((unq7_mem hu q).1 (List.mem_of_getElem? hq2))
        obtain ⟨l', -, hs, rfl⟩ := hu
        have h3 := compact_rise hs
        obtain ⟨a1, rfl⟩ := List.getElem?_eq_some_iff.1 hp
        obtain ⟨a2, rfl⟩ := List.getElem?_eq_some_iff.1 hq2
        have h4 := List.pairwise_iff_getElem.1 h3 j (j + 1) a1 a2 (by omega)
        rw [← he] at h2
        have := h1.2.2.symm.trans h2.2.2
        omega
  · rw [decide_eq_false hl]; rfl
theorem good_fit {wd : Nat} {cols keys : List Int} (hl : cols.length = keys.length) (hc : ∀ c ∈ cols, col7 wd c = true) {row : List Int} (hr : row.length = wd) : fits8 cols keys row = fit7 (cols.zip keys) row := by
  unfold fits8 fit7
  rw [decide_eq_true hl, Bool.true_and, Bool.eq_iff_iff, List.all_eq_true, List.all_eq_true]
  refine forall_congr' fun p => forall_congr' fun hp => ?_
  have h1 := hc p.1 (List.of_mem_zip hp).1
  rw [col7, decide_eq_true_eq] at h1
  simp only [decide_eq_true_eq]
  rw [hr]
  exact ⟨fun h => h.2.2, fun h => ⟨h1.1, h1.2, h⟩⟩
theorem nums8_w {s : St7} (ho : s.Ok) {r : List Int} (hr : r ∈ s.rows) (cols : List Nat) : w64 (nums7 cols r) := by
  intro x hx
  simp only [nums7, List.mem_map] at hx
  obtain ⟨c, -, rfl⟩ := hx
  cases h : r[c]? with
  | none => rfl
  | some y => exact ho.w r hr y (List.mem_of_getElem? h)
theorem sift8 {s : St7} (ho : s.Ok) {cols keys : List Int} {l : List (Int × Int)} (parts : Int) (hl : cols.length = keys.length) (hc : ∀ c ∈ cols, col7 s.wd c = true) (hu : unq7 (cols.zip keys) l) (hw : w64 keys) :
    srt7 (sel7 s parts (l.map fun p => p.1.toNat) (l.map Prod.snd)) = (srt7 (sel7 s parts [] [])).filter (fits8 cols keys) := by
  rw [sel7_sift, srt7_filter]
  apply List.filter_congr
  intro r hr
  have hm : r ∈ s.rows := sel_mem r ((srt7_perm _).mem_iff.1 hr)
  have hwl : w64 (l.map Prod.snd) := by
    intro x hx
    simp only [List.mem_map] at hx
    obtain ⟨p, hp, rfl⟩ := hx
    exact hw p.2 (List.of_mem_zip ((unq7_mem hu p).1 hp)).2
  rw [good_fit hl hc (ho.wid r hm), ← fit7_mem (unq7_mem hu) r, Bool.eq_iff_iff, decide_eq_true_eq, ← nums7_fit]
  exact ⟨fun h => tx_inj (nums8_w ho hm _) hwl h, fun h => by rw [h]⟩
end Go.Proofs.YtechceagghcipaaGreat
/-
  law 7: Add and Rows as they are used; batches.
-/
namespace Go.Proofs.YtechceagghcipaaGreat
open Go.RowKit

/-- What Add leaves. -/
def AD (w : World) (g : Nat) (F S : Nat → Prop) (m : Nat) (s : St7) (r : List Int) (e : Ending) (w' : World) : Prop :=
  e = .returned (.tuple #[.bool (decide (r ∉ s.rows)), .int .i64 0]) ∧ (∃ F' S' : Nat → Prop, RM w' g F' S' m (ad7 s r) ∧ (∀ b, F' b → F b ∨ w.heap.size ≤ b) ∧ ∀ b, S' b → S b ∨ w.heap.size ≤ b) ∧ Fr F w w'
theorem add8_any (g : Nat) (F S G : Nat → Prop) (m : Nat) (s : St7) (v : Value) (r : List Int) (w : World) (h : RM w g F S m s) (hv : Li G w v r) (he : r.length = s.wd) (hl : r.length ≤ 10000000000) (hc : s.rows.length < 10000000000) :
    Calls Tryz.prog 49 #[.pointer (some ⟨g, 0, none⟩), v] w (AD w g F S m s r) := by
  cases hx : txi s.rows (tx r) with
  | some i =>
    obtain ⟨r', h1, h2⟩ := txi_some hx
    have hm := List.mem_of_getElem? h1
    have e : r' = r := tx_inj (h.ok.w r' hm) hv.w h2
    rw [e] at hm
    refine (add7_old g F S G m s v r w h hv hl he (by rw [hx]; rfl)).mono ?_
    rintro e w' ⟨rfl, hb⟩
    refine ⟨by rw [decide_eq_false (by simpa using hm)], ⟨F, S, by rw [ad7, if_pos hm]; exact h.below hb, fun b hb => Or.inl hb, fun b hb => Or.inl hb⟩, Fr.of hb⟩
  | none =>
    have hm : r ∉ s.rows := fun hm => txi_none hx r hm rfl
    refine (add7_new g F S G m s v r w h hv hl he hx hc).mono ?_
    rintro e w' ⟨rfl, ⟨F', S', h1, h2, h3, -, -⟩, h4⟩
    exact ⟨by rw [decide_eq_true hm], ⟨F', S', by rw [ad7, if_neg hm]; exact h1, h2, h3⟩, h4⟩
end Go.Proofs.YtechceagghcipaaGreat
/-
  law 7: head.
-/
namespace Go.Proofs.YtechceagghcipaaGreat
open Go.RowKit
attribute [local go_sem ↓] Go.wp_at_zero Go.wp_at_succ

theorem low7 {w wr w' : World} {F : Nat → Prop} (h3 : Below w.heap.size w wr) (h : Fr F wr w') (hd : ∀ b, F b → w.heap.size ≤ b) : Below w.heap.size w w' := h3.trans ((h.mono (Q := fun b => w.heap.size ≤ b) fun b _ hF => hd b hF).low h3.size)
end Go.Proofs.YtechceagghcipaaGreat
/-
  law 7: what RelOrder's walk asks (plain).
-/
namespace Go.Proofs.YtechceagghcipaaGreat
open Go.RowKit

theorem ad7_ok {s : St7} {r : List Int} (h : s.Ok) (he : r.length = s.wd) (hw : w64 r) (hl : s.wd ≤ 10000000000) (hc : s.rows.length < 10000000000) : (ad7 s r).Ok := by
  unfold ad7
  split
  · exact h
  · rename_i hn
    refine ⟨?_, fun x hx => ?_, fun x hx => ?_, h.a, Nat.le_trans h.b (by simp [Add7]), by simp [Add7]; omega, fun _ => hl, h.e⟩
    · show (s.rows ++ [r]).Nodup
      rw [List.nodup_append]
      refine ⟨h.nd, by simp, fun a ha b hb => ?_⟩
      simp at hb
      subst hb
      intro e
      subst e
      exact hn ha
    · rcases List.mem_append.1 hx with hx | hx
      · exact h.wid x hx
      · simp at hx; subst hx; exact he
    · rcases List.mem_append.1 hx with hx | hx
      · exact h.w x hx
      · simp at hx; subst hx; exact hw
theorem turn_ok7 {s : St7} (h : s.Ok) : (Turn7 s).Ok := ⟨h.nd, h.wid, h.w, h.b, Nat.le_refl _, h.c, h.d, h.e⟩
end Go.Proofs.YtechceagghcipaaGreat
/-
  law 7: a relation of the call's own, beside blocks that it leaves alone.
-/
namespace Go.Proofs.YtechceagghcipaaGreat
open Go.RowKit

/-- A relation of the call's own, that touches no block of X. -/
def KR (w : World) (X : Nat → Prop) (g m : Nat) (s : St7) (wr : World) : Prop :=
  ∃ F S : Nat → Prop, RM wr g F S m s ∧ (∀ b, F b ∨ S b → w.heap.size ≤ b ∧ ¬ X b) ∧ Below w.heap.size w wr
/-- All that isn't new to the call, and X, stay. -/
def Fx (w : World) (X : Nat → Prop) (wr w' : World) : Prop := Fr (fun b => w.heap.size ≤ b ∧ ¬ X b) wr w'
theorem KR.add {w wr : World} {X : Nat → Prop} {g m : Nat} {s : St7} {G : Nat → Prop} {v : Value} {r : List Int} (h : KR w X g m s wr) (hX : ∀ b, X b → b < wr.heap.size) (hv : Li G wr v r) (he : r.length = s.wd) (hl : r.length ≤ 10000000000) (hc : s.rows.length < 10000000000) :
    Calls Tryz.prog 49 #[.pointer (some ⟨g, 0, none⟩), v] wr fun e w' => e = .returned (.tuple #[.bool (decide (r ∉ s.rows)), .int .i64 0]) ∧ KR w X g m (ad7 s r) w' ∧ Fx w X wr w' := by
  obtain ⟨F, S, h1, h2, h3⟩ := h
  refine (add8_any g F S G m s v r wr h1 hv he hl hc).mono ?_
  rintro e w' ⟨rfl, ⟨F', S', k1, k2, k3⟩, k4⟩
  have := h3.size
  refine ⟨rfl, ⟨F', S', k1, fun b hb => ?_, low7 h3 k4 fun b hF => (h2 b (Or.inl hF)).1⟩, Fr.mono k4 fun b _ hF => h2 b (Or.inl hF)⟩
  have hn : wr.heap.size ≤ b → w.heap.size ≤ b ∧ ¬ X b := fun hb => ⟨by omega, fun hc => by have := hX b hc; omega⟩
  exact hb.elim (fun h => (k2 b h).elim (fun h => h2 b (Or.inl h)) hn) fun h => (k3 b h).elim (fun h => h2 b (Or.inr h)) hn
theorem KR.turn {w wr : World} {X : Nat → Prop} {g m : Nat} {s : St7} (h : KR w X g m s wr) :
    Calls Tryz.prog 53 #[.pointer (some ⟨g, 0, none⟩)] wr fun e w' => e = .returned (.int .i64 ((s.rows.length : Int) - (s.xf : Int))) ∧ KR w X g m (Turn7 s) w' ∧ Fx w X wr w' := by
  obtain ⟨F, S, h1, h2, h3⟩ := h
  refine (turn7_any g F S m s wr h1).mono ?_
  rintro e w' ⟨rfl, k1, k4⟩
  exact ⟨rfl, ⟨F, S, k1, h2, low7 h3 k4 fun b hF => (h2 b (Or.inl hF)).1⟩, Fr.mono k4 fun b _ hF => h2 b (Or.inl hF)⟩
theorem KR.len {w wr : World} {X : Nat → Prop} {g m : Nat} {s : St7} (h : KR w X g m s wr) (parts : Int) :
    Calls Tryz.prog 29 #[.pointer (some ⟨g, 0, none⟩), .int .i64 parts] wr fun e w' => e = .returned (.int .i64 (len7 s parts)) ∧ Below wr.heap.size wr w' := by
  obtain ⟨F, S, h1, h2, h3⟩ := h
  exact len7_any g F S m s parts wr h1
end Go.Proofs.YtechceagghcipaaGreat
/-
  A region that draws its order and only reads, inside a round of a range over a function; marks of ranges that are behind.
-/
namespace Go.Proofs.YtechceagghcipaaGreat
open Go.RowKit Go.Shelf
section
variable {F : Fence} {n : Nat} {P : Program} {ops : Array Oper} {C : World → Prop} {md : Region.Mode}
/-- No operation of it is a defer statement. -/
def plainOps (ops : Array Oper) : Bool := ops.toList.all fun o => match o.op with | .defer _ => false | _ => true
theorem plainOps_get {i : Nat} {o : Oper} (h : plainOps ops = true) (ho : ops[i]? = some o) : ∀ c, o.op ≠ .defer c := by
  intro c hc
  have h1 := List.all_eq_true.1 h o (by rw [← Array.getElem?_toList] at ho; exact List.mem_of_getElem? ho)
  rw [hc] at h1
  cases h1
end
/-- The marks that a function has laid: each in a block of its own, with no call in it. -/
def mk7 (Es : List Nat) : List Deferred := Es.map fun E => { target := .collected E, args := #[] }
structure Mk7 (X : World) (Es : List Nat) : Prop where
  nd : Es.Nodup
  bl : ∀ E ∈ Es, X.heap[E]? = some (.deferred (some []))
theorem Mk7.lt {X : World} {Es : List Nat} (h : Mk7 X Es) : ∀ E ∈ Es, E < X.heap.size := fun E hE => (Array.getElem?_eq_some_iff.1 (h.bl E hE)).1
theorem Mk7.same {X Y : World} {Es : List Nat} (h : Mk7 X Es) (hs : ∀ E ∈ Es, Y.heap[E]? = X.heap[E]?) : Mk7 Y Es := ⟨h.nd, fun E hE => (hs E hE).trans (h.bl E hE)⟩
theorem Mk7.cons {E : Nat} {X : World} {Es : List Nat} (h : Mk7 X Es) (hn : E ∉ Es) (hE : X.heap[E]? = some (.deferred (some []))) : Mk7 X (E :: Es) :=
  ⟨List.nodup_cons.2 ⟨hn, h.nd⟩, fun e he => by rcases List.mem_cons.1 he with rfl | he; exact hE; exact h.bl e he⟩
/-- Left as it should be, or not at all. -/
def NQ (R : Act → World → Prop) : Exit → Act → World → Prop
  | .normal, a, w => R a w
  | _, _, _ => False
/-- A frame of so many slots, written out. -/
theorem arr_of (n : Nat) (tmps : Array Value) (h : tmps.size = n) : ∃ f : Nat → Value, tmps = ((List.range n).map f).toArray ∧ ∀ i, i < n → tmps[i]? = some (f i) := by
  refine ⟨fun i => tmps[i]?.getD undef, ?_, fun i hi => ?_⟩
  · apply Array.ext
    · simp [h]
    · intro i h1 h2
      simp [h1]
  · have h1 : tmps[i]? = some (tmps[i]'(by omega)) := Array.getElem?_eq_getElem (by omega)
    simp only [h1, Option.getD_some]
end Go.Proofs.YtechceagghcipaaGreat
