import Derived.Test.YtechceagghcipaaGreatEG4
/-
  law 8: two bases side by side.
-/
namespace Go.Proofs.YtechceagghcipaaGreat
open Go.RowKit

def sz8 (E : List (At × Int)) : Nat := (E.map fun x => x.1.pl.length).sum
def aF8 (E : List (At × Int)) (a : At) : List (At × Int) := if a.fact = true then aE8 E a else E
theorem sz8_perm {E F : List (At × Int)} (h : E.Perm F) : sz8 E = sz8 F := (h.map _).sum_nat
theorem sz8_add (E : List (At × Int)) (f : At) : sz8 (aE8 E f) = if f ∈ E.map Prod.fst then sz8 E else sz8 E + f.pl.length := by
  unfold aE8
  split
  · rfl
  · simp [sz8]
theorem sz8_len (E : List (At × Int)) : E.length ≤ sz8 E := by
  induction E with
  | nil => simp [sz8]
  | cons x E ih =>
    have : 1 ≤ x.1.pl.length := by simp [At.pl]
    simp only [sz8, List.map_cons, List.sum_cons, List.length_cons] at ih ⊢
    omega
theorem sz8_F (E : List (At × Int)) (f : At) : sz8 (aF8 E f) ≤ sz8 E + f.pl.length := by
  unfold aF8
  split
  · rw [sz8_add]; split <;> omega
  · omega
theorem sz8_Fs (l : List At) : ∀ E : List (At × Int), sz8 (l.foldl aF8 E) ≤ sz8 E + (l.flatMap At.pl).length := by
  induction l with
  | nil => intro E; simp
  | cons a l ih =>
    intro E
    have h1 := ih (aF8 E a)
    have h2 := sz8_F E a
    simp only [List.foldl_cons, List.flatMap_cons, List.length_append]
    omega
theorem sz8_map (E : List (At × Int)) (k : Int → Int) : sz8 (E.map fun x => (x.1, k x.2)) = sz8 E := by simp [sz8, Function.comp_def]
theorem aE8_mem (E : List (At × Int)) (f : At) (x : At × Int) : x ∈ aE8 E f ↔ x ∈ E ∨ (f ∉ E.map Prod.fst ∧ x = (f, 4)) := by
  unfold aE8
  by_cases h : f ∈ E.map Prod.fst
  · rw [if_pos h]; exact ⟨Or.inl, fun h' => h'.elim id fun h' => absurd h h'.1⟩
  · rw [if_neg h, List.mem_append, List.mem_singleton]; exact ⟨fun h' => h'.imp id fun e => ⟨h, e⟩, fun h' => h'.imp id fun e => e.2⟩
theorem aF8_mem (E : List (At × Int)) (f : At) (x : At × Int) : x ∈ aF8 E f ↔ x ∈ E ∨ (f.fact = true ∧ f ∉ E.map Prod.fst ∧ x = (f, 4)) := by
  unfold aF8
  by_cases h : f.fact = true
  · rw [if_pos h, aE8_mem]; simp [h]
  · rw [if_neg h]; simp [h]
theorem aF8_fst (E : List (At × Int)) (f y : At) : y ∈ (aF8 E f).map Prod.fst ↔ y ∈ E.map Prod.fst ∨ (f.fact = true ∧ y = f) := by
  constructor
  · intro h
    obtain ⟨x, hx, rfl⟩ := List.mem_map.1 h
    rcases (aF8_mem E f x).1 hx with h | ⟨h1, -, rfl⟩
    · exact Or.inl (List.mem_map.2 ⟨x, h, rfl⟩)
    · exact Or.inr ⟨h1, rfl⟩
  · rintro (h | ⟨h1, rfl⟩)
    · obtain ⟨x, hx, rfl⟩ := List.mem_map.1 h
      exact List.mem_map.2 ⟨x, (aF8_mem E f x).2 (Or.inl hx), rfl⟩
    · by_cases hm : y ∈ E.map Prod.fst
      · obtain ⟨x, hx, e⟩ := List.mem_map.1 hm
        exact List.mem_map.2 ⟨x, (aF8_mem E y x).2 (Or.inl hx), e⟩
      · exact List.mem_map.2 ⟨(y, 4), (aF8_mem E y _).2 (Or.inr ⟨h1, hm, rfl⟩), rfl⟩
theorem aFs8_fst (l : List At) : ∀ (E : List (At × Int)) (y : At), y ∈ (l.foldl aF8 E).map Prod.fst ↔ y ∈ E.map Prod.fst ∨ (y.fact = true ∧ y ∈ l) := by
  induction l with
  | nil => intro E y; simp
  | cons a l ih =>
    intro E y
    rw [List.foldl_cons, ih, aF8_fst, List.mem_cons]
    constructor
    · rintro ((h | ⟨h, rfl⟩) | ⟨h, h'⟩)
      · exact Or.inl h
      · exact Or.inr ⟨h, Or.inl rfl⟩
      · exact Or.inr ⟨h, Or.inr h'⟩
    · rintro (h | ⟨h, rfl | h'⟩)
      · exact Or.inl (Or.inl h)
      · exact Or.inl (Or.inr ⟨h, rfl⟩)
      · exact Or.inr ⟨h, h'⟩
theorem aFs8_mem (l : List At) : ∀ (E : List (At × Int)) (x : At × Int), x ∈ l.foldl aF8 E ↔ x ∈ E ∨ (x.1.fact = true ∧ x.1 ∉ E.map Prod.fst ∧ x.1 ∈ l ∧ x.2 = 4) := by
  induction l with
  | nil => intro E x; simp
  | cons a l ih =>
    intro E x
    rw [List.foldl_cons, ih, aF8_mem, aF8_fst, List.mem_cons]
    obtain ⟨y, q⟩ := x
    simp only [Prod.mk.injEq]
    constructor
    · rintro ((h | ⟨h1, h2, rfl, rfl⟩) | ⟨h1, h2, h3, h4⟩)
      · exact Or.inl h
      · exact Or.inr ⟨h1, h2, Or.inl rfl, rfl⟩
      · exact Or.inr ⟨h1, fun h => h2 (Or.inl h), Or.inr h3, h4⟩
    · rintro (h | ⟨h1, h2, h3, rfl⟩)
      · exact Or.inl (Or.inl h)
      · by_cases e : y = a
        · subst e; exact Or.inl (Or.inr ⟨h1, h2, rfl, rfl⟩)
        · exact Or.inr ⟨h1, fun h => h.elim h2 fun h => e h.2, h3.resolve_left e, rfl⟩
theorem aF8_nd {E : List (At × Int)} (h : (E.map Prod.fst).Nodup) (f : At) : ((aF8 E f).map Prod.fst).Nodup := by
  unfold aF8
  split
  · unfold aE8
    split
    · exact h
    · rename_i hm
      rw [List.map_append, List.nodup_append]
      refine ⟨h, by simp, fun a ha b hb e => ?_⟩
      obtain rfl : b = f := by simpa using hb
      exact hm (e ▸ ha)
  · exact h
theorem aFs8_nd (l : List At) : ∀ {E : List (At × Int)}, (E.map Prod.fst).Nodup → ((l.foldl aF8 E).map Prod.fst).Nodup := by
  induction l with
  | nil => intro E h; exact h
  | cons a l ih => intro E h; exact ih (aF8_nd h a)
/-- The order of the Adds does not show. -/
theorem aFs8_rev (l : List At) {E : List (At × Int)} (h : (E.map Prod.fst).Nodup) : (l.reverse.foldl aF8 E).Perm (l.foldl aF8 E) := by
  have nd : ∀ {F : List (At × Int)}, (F.map Prod.fst).Nodup → F.Nodup := fun {F} h => by
    rw [List.nodup_iff_pairwise_ne, List.pairwise_map] at h
    exact List.nodup_iff_pairwise_ne.2 (h.imp fun hne e => hne (by rw [e]))
  refine (List.perm_ext_iff_of_nodup (nd (aFs8_nd _ h)) (nd (aFs8_nd _ h))).2 fun x => ?_
  rw [aFs8_mem, aFs8_mem, List.mem_reverse]
theorem aF8_again {l : List At} {E : List (At × Int)} {a : At} (h : a ∈ l) : aF8 (l.foldl aF8 E) a = l.foldl aF8 E := by
  unfold aF8
  split
  · rename_i hf
    have : a ∈ (l.foldl aF8 E).map Prod.fst := (aFs8_fst l E a).2 (Or.inr ⟨hf, h⟩)
    exact if_pos this
  · rfl
theorem ens8_same {L : List Tm} : ∀ {T : List Tm}, kn8 T L = true → ens8 T L = T := by
  induction L with
  | nil => intro T _; rfl
  | cons t L ih =>
    intro T h
    have h1 : (ix8 T t).isSome = true := by
      simp only [kn8, List.all_cons, Bool.and_eq_true] at h; exact h.1
    have h2 : kn8 T L = true := by
      simp only [kn8, List.all_cons, Bool.and_eq_true] at h; exact h.2
    show ens8 (en8 T t) L = T
    rw [show en8 T t = T from if_pos h1, ih h2]
theorem EL8_kn {T : List Tm} {K : List Pd} {s : Pd → St7} (h : In8 T K s) {f : At} (hf : f ∈ (EL8 T K s).map Prod.fst) : kn8 T f.pl = true := by
  unfold EL8 at hf
  rw [List.map_flatMap] at hf
  obtain ⟨p, hp, hf⟩ := List.mem_flatMap.1 hf
  rw [ep8_fst] at hf
  obtain ⟨r, hr, rfl⟩ := List.mem_map.1 hf
  obtain ⟨n, -, -, -, h4⟩ := h.ar p hp
  exact (h4 r hr).at.2.2.1
end Go.Proofs.YtechceagghcipaaGreat
/-
  law 8: two bases side by side, their calls.
-/
namespace Go.Proofs.YtechceagghcipaaGreat
open Go.RowKit

/-- Two bases with the facts E and F; the blocks X are neither's. -/
def Two (w0 : World) (g h : Nat) (X : Nat → Prop) (m n : Nat) (E F : List (At × Int)) (Y : World) : Prop :=
  ∃ A B, BP8 w0 A g m (sz8 E) E Y ∧ BP8 w0 B h n (sz8 F) F Y ∧ (∀ b, A b → ¬ B b) ∧ ∀ b, X b → b < Y.heap.size ∧ ¬ A b ∧ ¬ B b
section
variable {w0 : World} {g h m n : Nat} {X A B : Nat → Prop} {E F : List (At × Int)} {Y Y' : World}
theorem Two.swap (t : Two w0 g h X m n E F Y) : Two w0 h g X n m F E Y := by
  obtain ⟨A, B, h1, h2, h3, h4⟩ := t
  exact ⟨B, A, h2, h1, fun b hb ha => h3 b ha hb, fun b hb => ⟨(h4 b hb).1, (h4 b hb).2.2, (h4 b hb).2.1⟩⟩
theorem Two.bl (t : Two w0 g h X m n E F Y) : Below w0.heap.size w0 Y := by
  obtain ⟨A, B, h1, -⟩ := t
  exact h1.bl
theorem Two.below (t : Two w0 g h X m n E F Y) (hb : Below Y.heap.size Y Y') : Two w0 g h X m n E F Y' := by
  obtain ⟨A, B, h1, h2, h3, h4⟩ := t
  exact ⟨A, B, h1.below hb, h2.below hb, h3, fun b hx => ⟨Nat.lt_of_lt_of_le (h4 b hx).1 hb.size, (h4 b hx).2⟩⟩
theorem Two.free (t : Two w0 g h X m n E F Y) : Two w0 g h (fun _ => False) m n E F Y := by
  obtain ⟨A, B, h1, h2, h3, -⟩ := t
  exact ⟨A, B, h1, h2, h3, fun _ h => h.elim⟩
theorem Two.perm (t : Two w0 g h X m n E F Y) {F' : List (At × Int)} (hp : F'.Perm F) : Two w0 g h X m n E F' Y := by
  obtain ⟨A, B, h1, h2, h3, h4⟩ := t
  exact ⟨A, B, h1, by rw [sz8_perm hp]; exact h2.perm hp, h3, h4⟩
theorem Two.nd (t : Two w0 g h X m n E F Y) : (E.map Prod.fst).Nodup := by
  obtain ⟨A, B, h1, -⟩ := t
  exact h1.nd
/-- A call on the first base. -/
theorem Two.step {A' X' : Nat → Prop} {m' : Nat} {E' : List (At × Int)} (h1 : BP8 w0 A g m (sz8 E) E Y) (h2 : BP8 w0 B h n (sz8 F) F Y) (h3 : ∀ b, A b → ¬ B b) (h4 : ∀ b, X b → b < Y.heap.size ∧ ¬ A b ∧ ¬ B b)
    (k1 : BP8 w0 A' g m' (sz8 E') E' Y') (hf : Fr A Y Y') (hn : ∀ b, A' b → A b ∨ Y.heap.size ≤ b) (hx : ∀ b, X' b → X b ∨ (Y.heap.size ≤ b ∧ b < Y'.heap.size ∧ ¬ A' b)) : Two w0 g h X' m' n E' F Y' := by
  have hB : BP8 w0 B h n (sz8 F) F Y' := h2.fr hf fun b hb hl => ⟨h3 b hb, (h1.lt hb).1⟩
  refine ⟨A', B, k1, hB, fun b ha hb => ?_, fun b hb => ?_⟩
  · rcases hn b ha with h | h
    · exact h3 b h hb
    · have := (h2.lt hb).2; omega
  · rcases hx b hb with h | ⟨p1, p2, p3⟩
    · obtain ⟨q1, q2, q3⟩ := h4 b h
      refine ⟨Nat.lt_of_lt_of_le q1 hf.size, fun ha => ?_, q3⟩
      rcases hn b ha with h | h
      · exact q2 h
      · omega
    · exact ⟨p2, p3, fun hb => by have := (h2.lt hb).2; omega⟩
section
variable {tb : Nat}
theorem bp_add_same (h : BP8 w0 A g m tb E Y) (f : At) (x : Value) (hx : TsP Y x f.args) (hf : f.fact = true) (hk : ∀ t ∈ f.pl, KeyT t) (hkp : KeyP f.pd8) (hn : f.args.length ≤ 100000000) (ht : tb + f.pl.length ≤ 1000000000) (hE : E.length < 1000000000) (hm : f ∈ E.map Prod.fst) :
    Calls Tryz.prog 17 #[.pointer (some ⟨g, 0, none⟩), f.v x] Y fun e Y' => ∃ c : Bool, e = .returned (.tuple #[.bool c, .int .i64 0]) ∧ BW8 w0 A g m tb E Y Y' := by
  obtain ⟨tv, mn, mr, ga, B, T, K, s, h1, h2, h3, h4, h5⟩ := h
  have hEl := h4.length_eq
  have hKl := K_len h2
  have hwd : f.pl.length = (st8 K s f.pd8 f.args.length).wd := by
    by_cases hp : f.pd8 ∈ K
    · have e : st8 K s f.pd8 f.args.length = s f.pd8 := if_pos hp
      obtain ⟨n, k1, -, k3, -⟩ := h2.ar _ hp
      have enn : n = f.args.length := by have : f.pd8.ar = (f.args.length : Int) := rfl; omega
      rw [e, k3, enn]
      simp [At.pl]
      omega
    · have e : st8 K s f.pd8 f.args.length = New7 (1 + f.args.length) := if_neg hp
      rw [e]
      simp [At.pl, New7]
      omega
  have hc : (st8 K s f.pd8 f.args.length).rows.length < 10000000000 := by
    by_cases hp : f.pd8 ∈ K
    · have e : st8 K s f.pd8 f.args.length = s f.pd8 := if_pos hp
      rw [e]
      have := rows_len h2 hp
      omega
    · have e : st8 K s f.pd8 f.args.length = New7 (1 + f.args.length) := if_neg hp
      rw [e]
      simp [New7]
  refine (badd8_any w0 g tv mn mr ga B m T K s f x Y h1 hx hf hk hkp (by omega) (by omega) hwd hc).mono ?_
  rintro e Y' ⟨rfl, s', ⟨tv', ga', B', k1, k2, k3⟩, k4, k5⟩
  obtain ⟨q1, q2⟩ := add_EL8 h2 f hn (by omega) hc k4 k5
  have e2 : aE8 E f = E := if_pos hm
  have e3 := ens8_same (EL8_kn h2 ((h4.map Prod.fst).mem_iff.1 hm))
  refine ⟨_, rfl, _, ⟨tv', mn, mr, ga', B', _, _, s', k1, q1, ?_, by have := (aE8_perm h4 f).trans q2.symm; rwa [e2] at this, fun b => Iff.rfl⟩, k2.mono fun b _ hb => (h5 b).2 hb, fun b hb => (k3 b hb).imp (h5 b).2 id⟩
  rw [e3]
  exact h3
end
theorem two_add (t : Two w0 g h X m n E F Y) (f : At) (x : Value) (hx : TsP Y x f.args) (hk : ∀ t ∈ f.pl, KeyT t) (hkp : KeyP f.pd8) (hs : sz8 E + f.pl.length ≤ 10000000) :
    Calls Tryz.prog 17 #[.pointer (some ⟨g, 0, none⟩), f.v x] Y fun e Y' => (∃ (c : Bool) (k : Int), e = .returned (.tuple #[.bool c, .int .i64 k])) ∧ Two w0 g h X m n (aF8 E f) F Y' := by
  have hpl : f.pl.length = f.args.length + 1 := by simp [At.pl]
  have hEs := sz8_len E
  by_cases hf : f.fact = true
  · obtain ⟨A, B, h1, h2, h3, h4⟩ := t
    have e1 : aF8 E f = aE8 E f := if_pos hf
    rw [e1]
    by_cases hm : f ∈ E.map Prod.fst
    · have := bp_add_same h1 f x hx hf hk hkp (by omega) (by omega) (by omega) hm
      refine this.mono ?_
      rintro e Y' ⟨c, rfl, A', q1, q2, q3⟩
      have e2 : aE8 E f = E := if_pos hm
      rw [e2]
      exact ⟨⟨_, _, rfl⟩, Two.step h1 h2 h3 h4 q1 q2 q3 fun b hb => Or.inl hb⟩
    · refine (bp_add h1 f x hx hf hk hkp (by omega) (by omega) (by omega)).mono ?_
      rintro e Y' ⟨c, -, rfl, A', q1, q2, q3⟩
      have e2 : sz8 E + f.pl.length = sz8 (aE8 E f) := by rw [sz8_add, if_neg hm]
      rw [e2] at q1
      exact ⟨⟨_, _, rfl⟩, Two.step h1 h2 h3 h4 q1 q2 q3 fun b hb => Or.inl hb⟩
  · have hf' : f.fact = false := by simpa using hf
    refine (badd8_no f x g Y hx (by omega) hf').mono ?_
    rintro e Y' ⟨rfl, hb⟩
    have e1 : aF8 E f = E := if_neg hf
    rw [e1]
    exact ⟨⟨_, _, rfl⟩, t.below hb⟩
theorem two_turn (t : Two w0 g h X m n E F Y) (hs : sz8 E ≤ 10000000) : Calls Tryz.prog 19 #[.pointer (some ⟨g, 0, none⟩)] Y fun e Y' => e = .returned (.int .i64 (((E.filter fun x => hp7 4 x.2).length : Nat) : Int)) ∧ Two w0 g h X m n (E.map fun x => (x.1, tE8 x.2)) F Y' := by
  have hEs := sz8_len E
  obtain ⟨A, B, h1, h2, h3, h4⟩ := t
  refine (bp_turn h1 (by omega)).mono ?_
  rintro e Y' ⟨rfl, A', q1, q2, q3⟩
  rw [← sz8_map E tE8] at q1
  exact ⟨rfl, Two.step h1 h2 h3 h4 q1 q2 q3 fun b hb => Or.inl hb⟩
theorem two_facts (t : Two w0 g h X m n E F Y) (parts : Int) (hs : sz8 E ≤ 10000000) (hm : m ≤ 10000000000000) : Calls Tryz.prog 7 #[.pointer (some ⟨g, 0, none⟩), .int .i64 parts] Y fun e Y' => ∃ fv Q, e = .returned fv ∧ AL8 Y' Y.heap.size fv Q ∧ srtC8 Q ∧ (Q.map Prod.fst).Perm ((E.filter fun x => hp7 parts x.2).map Prod.fst) ∧
    Two w0 g h (fun b => X b ∨ fv.ownBlock = some b ∨ ∃ x ∈ Q, x.2 = b) (m + E.length) n E F Y' ∧ ∀ b, X b → Y'.heap[b]? = Y.heap[b]? := by
  have hEs := sz8_len E
  obtain ⟨A, B, h1, h2, h3, h4⟩ := t
  refine (bp_facts h1 parts (by omega) hm).mono ?_
  rintro e Y' ⟨fv, Q, A', rfl, q1, q2, q3, q4, q5, q6, q7⟩
  refine ⟨fv, Q, rfl, q1, q2, q3, Two.step h1 h2 h3 h4 q4 q5 q6 fun b hb => ?_, fun b hb => ?_⟩
  · rcases hb with hb | hb
    · exact Or.inl hb
    · exact Or.inr ⟨(q1.lt hb).1, (q1.lt hb).2, q7 b hb⟩
  · exact q5.block b (h4 b hb).1 (h4 b hb).2.1
theorem two_preds (t : Two w0 g h X m n E F Y) (hs : sz8 E ≤ 10000000) : Calls Tryz.prog 12 #[.pointer (some ⟨g, 0, none⟩)] Y (PW8 E Y) := by
  have hEs := sz8_len E
  obtain ⟨A, B, h1, -⟩ := t
  exact bp_preds h1 (by omega)
theorem two_part (t : Two w0 g h X m n E F Y) (f : At) (x : Value) (hx : TsP Y x f.args) (hk : ∀ t ∈ f.pl, KeyT t) (hkp : KeyP f.pd8) (hl : f.pl.length ≤ 1000000000) :
    Calls Tryz.prog 8 #[.pointer (some ⟨g, 0, none⟩), f.v x] Y fun e Y' => ∃ q : Int, e = .returned (.int .i64 q) ∧ Below Y.heap.size Y Y' := by
  obtain ⟨A, B, h1, -⟩ := t
  refine (bp_part h1 f x hx hk hkp hl).mono ?_
  rintro e Y' ⟨q, -, rfl, hb⟩
  exact ⟨q, rfl, hb⟩
theorem two_find (t : Two w0 g h X m n E F Y) (parts : Int) (f : At) (x : Value) (hx : TsP Y x f.args) (hl : f.args.length ≤ 100000000000) :
    Calls Tryz.prog 18 #[.pointer (some ⟨g, 0, none⟩), .int .i64 parts, f.v x] Y fun e Y' => ∃ v, e = .returned v ∧ Two w0 g h X m n E F Y' := by
  refine (bfind8_any g parts f x Y hx hl).mono ?_
  rintro e Y' ⟨rfl, hb⟩
  exact ⟨_, rfl, t.below hb.b⟩
theorem two_new (Y : World) : Calls Tryz.prog 16 #[] Y fun e Y' => ∃ g A, e = .returned (.pointer (some ⟨g, 0, none⟩)) ∧ BP8 Y A g 0 0 [] Y' := by
  refine (bp_new Y Y (Below.refl _ _)).mono ?_
  rintro e Y' ⟨g, A, rfl, h, -⟩
  exact ⟨g, A, rfl, h⟩
theorem two_new2 (h1 : BP8 w0 A g 0 0 [] Y) : Calls Tryz.prog 16 #[] Y fun e Y' => ∃ h, e = .returned (.pointer (some ⟨h, 0, none⟩)) ∧ Two w0 g h (fun _ => False) 0 0 [] [] Y' := by
  refine (bp_new w0 Y h1.bl).mono ?_
  rintro e Y' ⟨h, B, rfl, h2, h3, h4⟩
  exact ⟨h, rfl, A, B, h1.below h4, h2, fun b ha hb => by have := (h1.lt ha).2; have := h3 b hb; omega, fun _ h => h.elim⟩
end
theorem srtC8_eq {P Q : List (At × Nat)} (h1 : srtC8 P) (h2 : srtC8 Q) (hp : (P.map Prod.fst).Perm (Q.map Prod.fst)) : P.map Prod.fst = Q.map Prod.fst :=
  List.Perm.eq_of_pairwise (le := fun a b : At => a.cmp b ≤ 0) (fun x y _ _ h1 h2 => ord_at.zero x y (by have := ord_at.neg x y; omega)) (List.pairwise_map.2 h1) (List.pairwise_map.2 h2) hp
theorem srt8P_eq {P Q : List Pd} (h1 : srt8P P) (h2 : srt8P Q) (n1 : P.Nodup) (n2 : Q.Nodup) (hm : ∀ p, p ∈ P ↔ p ∈ Q) : P = Q :=
  List.Perm.eq_of_pairwise (le := fun a b : Pd => cmpP a b ≤ 0) (fun x y _ _ h1 h2 => ord_pd.zero x y (by have := ord_pd.neg x y; omega)) h1 h2 ((List.perm_ext_iff_of_nodup n1 n2).2 hm)
theorem AL8.as {V : World} {base : Nat} {fv : Value} {Q : List (At × Nat)} (h : AL8 V base fv Q) (hl : Q.length ≤ 1000000000) : As V fv (Q.map enc8) := by
  refine h.o.a.as (by rw [List.length_map]; omega) fun x hx => ?_
  obtain ⟨y, hy, rfl⟩ := List.mem_map.1 hx
  obtain ⟨k1, -, k3⟩ := h.t y hy
  exact TBlk.ts rfl (by omega) k1
theorem fsts_enc8 (Q : List (At × Nat)) : fsts (Q.map enc8) = Q.map Prod.fst := by
  unfold fsts
  rw [List.map_map]
  rfl
end Go.Proofs.YtechceagghcipaaGreat
