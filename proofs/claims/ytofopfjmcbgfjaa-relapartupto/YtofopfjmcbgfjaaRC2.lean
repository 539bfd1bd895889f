/-
  law 7: a relation and the blocks that are its own; what RelParts asks (plain).
-/
import Derived.Test.YtofopfjmcbgfjaaRB4
namespace Go.Proofs.Ytofopfjmcbgfjaa
open Go.RowKit Go.Shelf

/-- A relation of the call's own, that lies in the blocks of T. -/
def PT (w : World) (T : Nat → Prop) (g m : Nat) (s : St7) (Y : World) : Prop :=
  ∃ F S : Nat → Prop, RM Y g F S m s ∧ (∀ b, F b ∨ S b → T b) ∧ (∀ b, T b → w.heap.size ≤ b ∧ b < Y.heap.size) ∧ Below w.heap.size w Y
/-- What a call leaves of it: only its own blocks are written, and what it takes besides is new. -/
def PX (w : World) (T : Nat → Prop) (g m : Nat) (s : St7) (Y Y' : World) : Prop := Fr T Y Y' ∧ ∃ T' : Nat → Prop, PT w T' g m s Y' ∧ ∀ b, T' b → T b ∨ Y.heap.size ≤ b
theorem PT.b {w : World} {T : Nat → Prop} {g m : Nat} {s : St7} {Y : World} (h : PT w T g m s Y) : Below w.heap.size w Y := by obtain ⟨F, S, h1, h2, h3, h4⟩ := h; exact h4
theorem PT.ok {w : World} {T : Nat → Prop} {g m : Nat} {s : St7} {Y : World} (h : PT w T g m s Y) : s.Ok := by obtain ⟨F, S, h1, h2, h3, h4⟩ := h; exact h1.ok
theorem PT.t {w : World} {T : Nat → Prop} {g m : Nat} {s : St7} {Y : World} (h : PT w T g m s Y) : ∀ b, T b → w.heap.size ≤ b ∧ b < Y.heap.size := by obtain ⟨F, S, h1, h2, h3, h4⟩ := h; exact h3
theorem PT.kr {w : World} {T : Nat → Prop} {g m : Nat} {s : St7} {Y : World} (h : PT w T g m s Y) : KR w (fun b => b < Y.heap.size ∧ ¬ T b) g m s Y := by
  obtain ⟨F, S, h1, h2, h3, h4⟩ := h
  exact ⟨F, S, h1, fun b hb => ⟨(h3 b (h2 b hb)).1, fun hc => hc.2 (h2 b hb)⟩, h4⟩
theorem PT.fr {w : World} {T P : Nat → Prop} {g m : Nat} {s : St7} {Y Y' : World} (h : PT w T g m s Y) (hf : Fr P Y Y') (hP : ∀ b, P b → b < Y.heap.size → w.heap.size ≤ b ∧ ¬ T b) : PT w T g m s Y' := by
  obtain ⟨F, S, h1, h2, h3, h4⟩ := h
  refine ⟨F, S, h1.same hf.size fun b hb hl => hf.block b hl fun hc => (hP b hc hl).2 (h2 b hb), h2, fun b hb => ⟨(h3 b hb).1, Nat.lt_of_lt_of_le (h3 b hb).2 hf.size⟩, h4.trans (Fr.low (Fr.mono hf (Q := fun b => w.heap.size ≤ b) fun b hl hb => (hP b hb hl).1) h4.size)⟩
theorem PT.below {w : World} {T : Nat → Prop} {g m : Nat} {s : St7} {Y Y' : World} (h : PT w T g m s Y) (hb : Below Y.heap.size Y Y') : PT w T g m s Y' := h.fr (P := fun _ => False) (Fr.of hb) fun _ h => h.elim
theorem PX.of {w : World} {T : Nat → Prop} {g m : Nat} {s : St7} {Y Y' : World} (h : KR w (fun b => b < Y.heap.size ∧ ¬ T b) g m s Y') (hf : Fx w (fun b => b < Y.heap.size ∧ ¬ T b) Y Y') : PX w T g m s Y Y' := by
  obtain ⟨F, S, h1, h2, h3⟩ := h
  have hz := hf.size
  refine ⟨Fr.mono hf fun b hl hb => Classical.byContradiction fun hc => hb.2 ⟨hl, hc⟩, fun b => (T b ∨ Y.heap.size ≤ b) ∧ w.heap.size ≤ b ∧ b < Y'.heap.size, ⟨F, S, h1, fun b hb => ⟨?_, (h2 b hb).1, hb.elim (fun h => (h1.q b h).2) (h1.q2 b)⟩, fun b hb => ⟨hb.2.1, hb.2.2⟩, h3⟩, fun b hb => hb.1⟩
  by_cases hl : Y.heap.size ≤ b
  · exact Or.inr hl
  · exact Or.inl (Classical.byContradiction fun hc => (h2 b hb).2 ⟨by omega, hc⟩)
theorem PX.tr {w : World} {T : Nat → Prop} {g m' : Nat} {s' : St7} {Y Y' Y'' : World} (h : Fr T Y Y') (T' : Nat → Prop) (ht : ∀ b, T' b → T b ∨ Y.heap.size ≤ b) (k : PX w T' g m' s' Y' Y'') : PX w T g m' s' Y Y'' := by
  obtain ⟨k1, T2, k2, k3⟩ := k
  have hz := h.size
  refine ⟨h.trans k1 fun b hb hc => (ht b hc).elim id fun h => by omega, T2, k2, fun b hb => ?_⟩
  rcases k3 b hb with hb | hb
  · exact ht b hb
  · exact Or.inr (by omega)
theorem PT.add {w Y : World} {T : Nat → Prop} {g m : Nat} {s : St7} {G : Nat → Prop} {v : Value} {r : List Int} (h : PT w T g m s Y) (hv : Li G Y v r) (he : r.length = s.wd) (hl : r.length ≤ 10000000000) (hc : s.rows.length < 10000000000) :
    Calls Try.prog 16 #[.pointer (some ⟨g, 0, none⟩), v] Y fun e Y' => e = .returned (.tuple #[.bool (decide (r ∉ s.rows)), .int .i64 0]) ∧ PX w T g m (ad7 s r) Y Y' := by
  refine (h.kr.add (fun b hb => hb.1) hv he hl hc).mono ?_
  rintro e Y' ⟨rfl, k1, k2⟩
  exact ⟨rfl, PX.of k1 k2⟩
theorem PT.turn {w Y : World} {T : Nat → Prop} {g m : Nat} {s : St7} (h : PT w T g m s Y) :
    Calls Try.prog 18 #[.pointer (some ⟨g, 0, none⟩)] Y fun e Y' => e = .returned (.int .i64 ((s.rows.length : Int) - (s.xf : Int))) ∧ PX w T g m (Turn7 s) Y Y' := by
  refine h.kr.turn.mono ?_
  rintro e Y' ⟨rfl, k1, k2⟩
  exact ⟨rfl, PX.of k1 k2⟩
theorem PT.rows {w Y : World} {T : Nat → Prop} {g m : Nat} {s : St7} (h : PT w T g m s Y) (parts : Int) (hm : m ≤ 100000000000000) :
    Calls Try.prog 12 #[.pointer (some ⟨g, 0, none⟩), .int .i64 parts] Y fun e Y' => ∃ u, e = .returned u ∧ ∃ Q B, OL Y' B u Q ∧ Y.heap.size ≤ B ∧ Q.map Prod.fst = srt7 (sel7 s parts [] []) ∧ PX w T g (m + 1) s Y Y' := by
  refine (h.kr.rows (fun b hb => hb.1) parts hm).mono ?_
  rintro e Y' ⟨u, rfl, Q, B, k1, k2, k3, k4, k5⟩
  exact ⟨u, rfl, Q, B, k1, k2, k3, PX.of (k4.mono fun b hb _ => Or.inl hb) k5⟩
/-- Where the lists lie that the law holds: apart from the relation. -/
theorem LX.px {T T' : Nat → Prop} {Y Y' : World} {v : Value} {P : List (List Int × Value)} (h : LX (fun b => ¬ T b) Y v P) (hf : Fr T Y Y') (ht : ∀ b, T' b → T b ∨ Y.heap.size ≤ b) : LX (fun b => ¬ T' b) Y' v P :=
  ((h.mono (Y := fun b => ¬ T b ∧ b < Y.heap.size) fun b hl hb => ⟨hb, hl⟩).same hf.size fun b hb hl => hf.block b hl hb.1).mono fun b _ hb hc => (ht b hc).elim hb.1 fun h => by omega
theorem Li.px {T T' : Nat → Prop} {Y Y' : World} {v : Value} {l : List Int} (h : Li (fun b => ¬ T b) Y v l) (hf : Fr T Y Y') (ht : ∀ b, T' b → T b ∨ Y.heap.size ≤ b) : Li (fun b => ¬ T' b) Y' v l :=
  ((h.mono (G := fun b => ¬ T b ∧ b < Y.heap.size) fun b hl hb => ⟨hb, hl⟩).same hf.size fun b hb hl => hf.block b hl hb.1).mono fun b _ hb hc => (ht b hc).elim hb.1 fun h => by omega
theorem lt7_of : ∀ {a b : List Int}, a.length = b.length → cmpR a b ≤ 0 → a ≠ b → lt7 a b
  | [], [], _, _, hn => absurd rfl hn
  | [], _ :: _, hl, _, _ => by simp at hl
  | _ :: _, [], hl, _, _ => by simp at hl
  | x :: a, y :: b, hl, hc, hn => by
    rcases sg7_v x y with ⟨h1, h2⟩ | ⟨h1, h2⟩ | ⟨h1, h2⟩
    · exact ⟨0, x, y, rfl, rfl, rfl, h2⟩
    · rw [cmpR, if_pos h1] at hc
      subst h2
      obtain ⟨k, u, v, e1, e2, e3, e4⟩ := lt7_of (by simpa using hl) hc (fun e => hn (by rw [e]))
      exact ⟨k + 1, u, v, by rw [List.take_succ_cons, List.take_succ_cons, e1], by simpa using e2, by simpa using e3, e4⟩
    · rw [cmpR, if_neg (by omega), h1] at hc
      omega
theorem rise_of {L : List (List Int)} {k : Nat} (hn : L.Nodup) (hk : ∀ r ∈ L, r.length = k) (hs : srtR L) : ∀ (j : Nat) (a b : List Int), L[j]? = some a → L[j + 1]? = some b → lt7 a b := by
  intro j a b ha hb
  obtain ⟨h1, rfl⟩ := List.getElem?_eq_some_iff.1 ha
  obtain ⟨h2, rfl⟩ := List.getElem?_eq_some_iff.1 hb
  refine lt7_of (by rw [hk _ (List.getElem_mem h1), hk _ (List.getElem_mem h2)]) (List.pairwise_iff_getElem.1 hs j (j + 1) h1 h2 (by omega)) fun e => ?_
  have := (List.getElem_inj hn).1 e
  omega
theorem len7_one (s : St7) : len7 s 1 = (s.nf : Int) := by
  unfold len7 sts7
  rw [show hp7 1 1 = true by decide, show hp7 1 2 = false by decide, show hp7 1 4 = false by decide]
  simp [sum7]
theorem len7_two (s : St7) : len7 s 2 = (s.xf : Int) - (s.nf : Int) := by
  unfold len7 sts7
  rw [show hp7 2 1 = false by decide, show hp7 2 2 = true by decide, show hp7 2 4 = false by decide]
  simp [sum7]
theorem len7_four (s : St7) : len7 s 4 = (s.rows.length : Int) - (s.xf : Int) := by
  unfold len7 sts7
  rw [show hp7 4 1 = false by decide, show hp7 4 2 = false by decide, show hp7 4 4 = true by decide]
  simp [sum7]
theorem len7_seven (s : St7) : len7 s 7 = (s.rows.length : Int) := by
  unfold len7 sts7
  rw [show hp7 7 1 = true by decide, show hp7 7 2 = true by decide, show hp7 7 4 = true by decide]
  simp [sum7]
  omega
/-- Where a row stands. -/
theorem txi_at {s : St7} (ho : s.Ok) {i : Nat} {r : List Int} (h : s.rows[i]? = some r) : txi s.rows (tx r) = some i := by
  cases hx : txi s.rows (tx r) with
  | none => exact absurd rfl (txi_none hx r (List.mem_of_getElem? h))
  | some j =>
    obtain ⟨r', h1, h2⟩ := txi_some hx
    have e : r' = r := tx_inj (ho.w r' (List.mem_of_getElem? h1)) (ho.w r (List.mem_of_getElem? h)) h2
    subst e
    obtain ⟨a1, e1⟩ := List.getElem?_eq_some_iff.1 h1
    obtain ⟨a2, e2⟩ := List.getElem?_eq_some_iff.1 h
    have := (List.getElem_inj ho.nd).1 (e1.trans e2.symm)
    rw [this]
theorem part7_at {s : St7} (ho : s.Ok) {i : Nat} {r : List Int} (h : s.rows[i]? = some r) : part7 s r = if i < s.nf then 1 else if i < s.xf then 2 else 4 := by
  unfold part7
  rw [txi_at ho h]
/-- The places of a part. -/
def inP (s : St7) (parts : Int) (i : Nat) : Prop := (parts = 1 ∧ i < s.nf) ∨ (parts = 2 ∧ s.nf ≤ i ∧ i < s.xf) ∨ (parts = 4 ∧ s.xf ≤ i)
theorem sel_in {s : St7} (ho : s.Ok) {parts : Int} (hp : parts = 1 ∨ parts = 2 ∨ parts = 4) {i : Nat} {r : List Int} (h : s.rows[i]? = some r) : r ∈ sel7 s parts [] [] ↔ inP s parts i := by
  obtain ⟨hi, e⟩ := List.getElem?_eq_some_iff.1 h
  have hu : ∀ j, s.rows[j]? = some r → j = i := fun j hj => by
    obtain ⟨a1, e1⟩ := List.getElem?_eq_some_iff.1 hj
    exact (List.getElem_inj ho.nd).1 (e1.trans e.symm)
  rcases hp with rfl | rfl | rfl
  · rw [sel_one ho]
    unfold inP
    constructor
    · intro hm
      obtain ⟨j, hj⟩ := List.getElem?_of_mem hm
      rw [List.getElem?_take] at hj
      split at hj
      · rename_i h1; have := hu j hj; subst this; exact Or.inl ⟨rfl, h1⟩
      · cases hj
    · rintro (⟨-, h1⟩ | ⟨h1, -⟩ | ⟨h1, -⟩)
      · exact List.mem_of_getElem? (i := i) (by rw [List.getElem?_take_of_lt h1]; exact h)
      · cases h1
      · cases h1
  · rw [sel_two ho]
    unfold inP
    constructor
    · intro hm
      obtain ⟨j, hj⟩ := List.getElem?_of_mem hm
      rw [List.getElem?_drop, List.getElem?_take] at hj
      split at hj
      · rename_i h1; have := hu _ hj; exact Or.inr (Or.inl ⟨rfl, by omega, by omega⟩)
      · cases hj
    · rintro (⟨h1, -⟩ | ⟨-, h1, h2⟩ | ⟨h1, -⟩)
      · cases h1
      · exact List.mem_of_getElem? (i := i - s.nf) (by rw [List.getElem?_drop, show s.nf + (i - s.nf) = i by omega, List.getElem?_take_of_lt h2]; exact h)
      · cases h1
  · rw [sel_four ho]
    unfold inP
    constructor
    · intro hm
      obtain ⟨j, hj⟩ := List.getElem?_of_mem hm
      rw [List.getElem?_drop] at hj
      have := hu _ hj
      exact Or.inr (Or.inr ⟨rfl, by omega⟩)
    · rintro (⟨h1, -⟩ | ⟨h1, -⟩ | ⟨-, h1⟩)
      · cases h1
      · cases h1
      · exact List.mem_of_getElem? (i := i - s.xf) (by rw [List.getElem?_drop, show s.xf + (i - s.xf) = i by omega]; exact h)
theorem part_in {s : St7} (ho : s.Ok) {parts : Int} (hp : parts = 1 ∨ parts = 2 ∨ parts = 4) {i : Nat} {r : List Int} (h : s.rows[i]? = some r) : part7 s r = parts ↔ inP s parts i := by
  have h1 := ho.a
  rw [part7_at ho h]
  unfold inP
  by_cases a : i < s.nf
  · rw [if_pos a]; rcases hp with rfl | rfl | rfl <;> simp <;> omega
  · rw [if_neg a]
    by_cases b : i < s.xf
    · rw [if_pos b]; rcases hp with rfl | rfl | rfl <;> simp <;> omega
    · rw [if_neg b]; rcases hp with rfl | rfl | rfl <;> simp <;> omega
theorem sel_nodup {s : St7} (ho : s.Ok) {parts : Int} (hp : parts = 1 ∨ parts = 2 ∨ parts = 4) : (sel7 s parts [] []).Nodup := by
  rcases hp with rfl | rfl | rfl
  · rw [sel_one ho]; exact ho.nd.sublist (List.take_sublist _ _)
  · rw [sel_two ho]; exact ho.nd.sublist ((List.drop_sublist _ _).trans (List.take_sublist _ _))
  · rw [sel_four ho]; exact ho.nd.sublist (List.drop_sublist _ _)
theorem sel_len7 {s : St7} (ho : s.Ok) {parts : Int} (hp : parts = 1 ∨ parts = 2 ∨ parts = 4) : len7 s parts = ((sel7 s parts [] []).length : Int) := by
  have h1 := ho.a
  have h2 := ho.b
  rcases hp with rfl | rfl | rfl
  · rw [sel_one ho, len7_one, List.length_take]; omega
  · rw [sel_two ho, len7_two, List.length_drop, List.length_take]; omega
  · rw [sel_four ho, len7_four, List.length_drop]; omega
/-- All columns of a row: only the row itself fits. -/
def cls7 (k : Nat) : List Int := nat7 (List.range k)
theorem fits_all {k : Nat} {key row : List Int} (hk : key.length = k) (hr : row.length = k) : fits8 (cls7 k) key row = decide (row = key) := by
  have hl : (cls7 k).length = key.length := by simp [cls7, nat7, hk]
  unfold fits8
  rw [decide_eq_true hl, Bool.true_and, Bool.eq_iff_iff, List.all_eq_true, decide_eq_true_eq]
  constructor
  · intro h
    apply List.ext_getElem?
    intro i
    by_cases hi : i < k
    · have hm : ((i : Int), key[i]'(by omega)) ∈ (cls7 k).zip key := List.mem_of_getElem? (i := i) (by
        rw [List.getElem?_zip_eq_some]
        exact ⟨by simp [cls7, nat7, hi], List.getElem?_eq_getElem (by omega)⟩)
      have h1 := h _ hm
      simp only [decide_eq_true_eq] at h1
      have h2 := h1.2.2
      rw [Int.toNat_natCast, List.getElem?_eq_getElem (by omega : i < row.length)] at h2
      rw [List.getElem?_eq_getElem (by omega : i < row.length), List.getElem?_eq_getElem (by omega : i < key.length)]
      simpa using h2
    · rw [List.getElem?_eq_none (by omega), List.getElem?_eq_none (by omega)]
  · rintro rfl p hp
    obtain ⟨j, hj⟩ := List.getElem?_of_mem hp
    rw [List.getElem?_zip_eq_some] at hj
    obtain ⟨h1, h2⟩ := hj
    have hjk : j < k := by have := (List.getElem?_eq_some_iff.1 h2).1; omega
    have h3 : p.1 = (j : Int) := by simp [cls7, nat7, hjk] at h1; exact h1.symm
    simp only [decide_eq_true_eq]
    rw [h3, Int.toNat_natCast, h2]
    exact ⟨by omega, by omega, rfl⟩
theorem filter_one {α : Type} [DecidableEq α] {r : α} : ∀ {L : List α}, L.Nodup → L.filter (fun x => decide (x = r)) = if r ∈ L then [r] else []
  | [], _ => by simp
  | y :: L, h => by
    have h1 := List.nodup_cons.1 h
    rw [List.filter_cons, filter_one h1.2]
    by_cases e : y = r
    · subst e
      rw [if_pos (by simp), if_neg h1.1, if_pos (by simp)]
    · rw [if_neg (by simpa using e)]
      by_cases m : r ∈ L
      · rw [if_pos m, if_pos (by simp [m])]
      · rw [if_neg m, if_neg (by simp [m]; exact fun e' => e e'.symm)]
theorem fnd_all {s : St7} (ho : s.Ok) {parts : Int} (hp : parts = 1 ∨ parts = 2 ∨ parts = 4) {i : Nat} {r : List Int} (h : s.rows[i]? = some r) : fnd8 s parts (cls7 s.wd) r = if part7 s r = parts then [r] else [] := by
  have hw := ho.wid r (List.mem_of_getElem? h)
  have e : fnd8 s parts (cls7 s.wd) r = (srt7 (sel7 s parts [] [])).filter fun x => decide (x = r) := by
    unfold fnd8
    apply List.filter_congr
    intro x hx
    exact fits_all hw (ho.wid x (sel_mem x ((srt7_perm _).mem_iff.1 hx)))
  have hnd : (srt7 (sel7 s parts [] [])).Nodup := (srt7_perm _).nodup_iff.2 (sel_nodup ho hp)
  have hm : r ∈ srt7 (sel7 s parts [] []) ↔ part7 s r = parts := by rw [(srt7_perm _).mem_iff, sel_in ho hp h, part_in ho hp h]
  rw [e, filter_one hnd]
  by_cases hc : part7 s r = parts
  · rw [if_pos hc, if_pos (hm.2 hc)]
  · rw [if_neg hc, if_neg fun h' => hc (hm.1 h')]
end Go.Proofs.Ytofopfjmcbgfjaa
