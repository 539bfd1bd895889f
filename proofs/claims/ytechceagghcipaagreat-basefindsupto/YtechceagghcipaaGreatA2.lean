import Derived.Test.YtechceagghcipaaGreatEF9
import Derived.BigQuiet
import Derived.Test.YtechceagghcipaaGreatEB2
/-
  law 8, PLAIN: Find and Preds of a base that is a list of facts with their parts.
-/
namespace Go.Proofs.YtechceagghcipaaGreat
open Go.RowKit

theorem mt8_ok {a f : At} (h : mt8 a f = true) : shB a f = true ∧ fixOk a.pl f.pl = true := by
  unfold mt8 mRes at h
  split at h
  · rename_i hm
    unfold mOk at hm
    simp only [Bool.and_eq_true] at hm
    exact ⟨hm.1.1, hm.1.2⟩
  · cases h
theorem shB_pd8 {a f : At} (h : shB a f = true) : a.pd8 = f.pd8 := by
  unfold shB at h
  simp only [Bool.and_eq_true, beq_iff_eq] at h
  unfold At.pd8
  rw [toList_inj h.1, h.2]
theorem fixOk_at {p q : List Tm} (h : fixOk p q = true) {i : Nat} {t u : Tm} (ht : p[i]? = some t) (hu : q[i]? = some u) (hv : t.var = false) : t = u := by
  unfold fixOk at h
  have := List.all_eq_true.1 h (t, u) (List.mem_of_getElem? (i := i) (List.getElem?_zip_eq_some.2 ⟨ht, hu⟩))
  simpa [hv] using this
theorem zip_fx (T L : List Tm) : (fxC L).zip (fxK T L) = (L.zipIdx.filter fun x => !x.1.var).map fun x => ((x.2 : Int), (((ix8 T x.1).getD 0 : Nat) : Int)) := by
  have e : fxK T L = (L.zipIdx.filter fun x => !x.1.var).map fun x => (((ix8 T x.1).getD 0 : Nat) : Int) := by
    unfold fxK
    have e1 : (L.zipIdx.filter fun x => !x.1.var).map Prod.fst = L.filter fun t => !t.var := by
      have e3 : (fun x : Tm × Nat => !x.1.var) = (fun t : Tm => !t.var) ∘ Prod.fst := rfl
      rw [e3, ← List.filter_map, List.zipIdx_map_fst]
    rw [← e1, List.map_map]
    rfl
  rw [e]
  unfold fxC
  exact List.zip_map'
theorem fits_of {T : List Tm} {a f : At} (hm : mt8 a f = true) (hl : a.pl.length = f.pl.length) : fits8 (fxC a.pl) (fxK T a.pl) (nm8 T f.pl) = true := by
  have hfx := (mt8_ok hm).2
  unfold fits8
  have e1 : (fxC a.pl).length = (fxK T a.pl).length := by
    unfold fxC fxK
    rw [List.length_map, List.length_map]
    have e3 : (fun x : Tm × Nat => !x.1.var) = (fun t : Tm => !t.var) ∘ Prod.fst := rfl
    have : (a.pl.filter fun t => !t.var) = (a.pl.zipIdx.filter fun x => !x.1.var).map Prod.fst := by rw [e3, ← List.filter_map, List.zipIdx_map_fst]
    rw [this, List.length_map]
  rw [decide_eq_true e1, Bool.true_and, zip_fx, List.all_eq_true]
  intro p hp
  obtain ⟨⟨t, i⟩, hx, rfl⟩ := List.mem_map.1 hp
  obtain ⟨h1, h2⟩ := List.mem_filter.1 hx
  have h3 := List.mem_zipIdx_iff_getElem?.1 h1
  have hi := (List.getElem?_eq_some_iff.1 h3).1
  obtain ⟨u, hu⟩ : ∃ u, f.pl[i]? = some u := ⟨_, List.getElem?_eq_getElem (by omega)⟩
  have e := fixOk_at hfx h3 hu (by simpa using h2)
  subst e
  simp only [decide_eq_true_eq]
  refine ⟨by omega, by rw [nm8_len]; omega, ?_⟩
  rw [Int.toNat_natCast]
  unfold nm8
  rw [List.getElem?_map, hu]
  rfl
section
variable {T : List Tm} {K : List Pd} {s : Pd → St7}
/-- What Find gathers. -/
theorem find_perm (h : In8 T K s) (parts : Int) (a : At) : (fo8 T K s parts a).Perm (((EL8 T K s).filter fun x => hp7 parts x.2 && mt8 a x.1).map Prod.fst) := by
  have hno : ∀ p ∈ K, p ≠ a.pd8 → ((ep8 T s p).filter fun x => hp7 parts x.2 && mt8 a x.1) = [] := fun p hp hne => by
    rw [List.filter_eq_nil_iff]
    intro x hx hc
    obtain ⟨i, r, hr, rfl⟩ := mem_ep8.1 hx
    obtain ⟨n, h1, -, -, h4⟩ := h.ar p hp
    simp only [Bool.and_eq_true] at hc
    have := shB_pd8 (mt8_ok hc.2).1
    rw [pd8_at (h4 r (List.mem_of_getElem? hr)) h1] at this
    exact hne this.symm
  unfold EL8
  rw [List.filter_flatMap]
  by_cases hp : a.pd8 ∈ K
  · have e1 : (K.flatMap fun p => (ep8 T s p).filter fun x => hp7 parts x.2 && mt8 a x.1).Perm ((ep8 T s a.pd8).filter fun x => hp7 parts x.2 && mt8 a x.1) := by
      have := fm_snoc8 (f := fun _ => ([] : List (At × Int))) (g := fun p => (ep8 T s p).filter fun x => hp7 parts x.2 && mt8 a x.1) (d := (ep8 T s a.pd8).filter fun x => hp7 parts x.2 && mt8 a x.1) hp h.nd (by simp) (fun q hq hne => hno q hq hne)
      have e0 : (K.flatMap fun _ => ([] : List (At × Int))) = [] := by rw [List.flatMap_eq_nil_iff]; intros; rfl
      rw [e0, List.nil_append] at this
      exact this
    refine List.Perm.trans ?_ (e1.map Prod.fst).symm
    have ho := h.ok _ hp
    obtain ⟨n, h1, -, h3, h4⟩ := h.ar _ hp
    have enn : n = a.args.length := by have : a.pd8.ar = (a.args.length : Int) := rfl; omega
    subst enn
    rw [ep8_filter ho (mt8 a) parts]
    have hrl : ∀ r ∈ (s a.pd8).rows, a.pl.length = (at8 T a.pd8.nm r).pl.length ∧ nm8 T (at8 T a.pd8.nm r).pl = r ∧ kn8 T (at8 T a.pd8.nm r).pl = true := fun r hr => by
      obtain ⟨k1, k2, k3, k4⟩ := (h4 r hr).at
      refine ⟨?_, k4, k3⟩
      show a.args.length + 1 = (at8 T a.pd8.nm r).args.length + 1
      rw [k2]
    cases hb : fxB T a.pl with
    | true =>
      have e2 : fo8 T K s parts a = ((fnd8 (s a.pd8) parts (fxC a.pl) (fxK T a.pl)).map (at8 T a.name)).filter (mt8 a) := if_pos ⟨hp, hb⟩
      rw [e2, List.filter_map]
      have e3 : a.pd8.nm = a.name := rfl
      rw [e3]
      refine List.Perm.map _ ?_
      unfold fnd8
      rw [rsel_eq ho]
      unfold rsel7
      rw [List.filter_filter, List.filter_filter]
      refine List.Perm.trans (List.Perm.filter _ (srt7_perm _)) ?_
      apply List.Perm.of_eq
      apply List.filter_congr
      intro r hr
      obtain ⟨k1, k2, k3⟩ := hrl r hr
      simp only [Function.comp]
      cases hmm : mt8 a (at8 T a.name r) with
      | false => simp
      | true =>
        have := fits_of (T := T) hmm k1
        rw [show nm8 T (at8 T a.name r).pl = r from k2] at this
        simp [this]
    | false =>
      have e2 : fo8 T K s parts a = [] := if_neg fun hc => by rw [hb] at hc; cases hc.2
      rw [e2]
      have : ((s a.pd8).rows.filter fun r => hp7 parts (part7 (s a.pd8) r) && mt8 a (at8 T a.pd8.nm r)) = [] := by
        rw [List.filter_eq_nil_iff]
        intro r hr hc
        simp only [Bool.and_eq_true] at hc
        obtain ⟨k1, k2, k3⟩ := hrl r hr
        have hfx := (mt8_ok hc.2).2
        have hk := List.all_eq_true.1 k3
        unfold fxB at hb
        rw [List.all_eq_false] at hb
        obtain ⟨t, ht, hv⟩ := hb
        simp only [Bool.or_eq_true, not_or, Bool.not_eq_true] at hv
        obtain ⟨i, hi⟩ := List.getElem?_of_mem ht
        obtain ⟨u, hu⟩ : ∃ u, (at8 T a.pd8.nm r).pl[i]? = some u := ⟨_, List.getElem?_eq_getElem (by have := (List.getElem?_eq_some_iff.1 hi).1; omega)⟩
        have e := fixOk_at hfx hi hu hv.1
        subst e
        have := hk t (List.mem_of_getElem? hu)
        rw [hv.2] at this
        cases this
      rw [this]
      exact List.Perm.refl _
  · have e2 : fo8 T K s parts a = [] := if_neg fun hc => hp hc.1
    have e1 : (K.flatMap fun p => (ep8 T s p).filter fun x => hp7 parts x.2 && mt8 a x.1) = [] := by
      rw [List.flatMap_eq_nil_iff]
      exact fun p hq => hno p hq fun e => hp (e ▸ hq)
    rw [e2, e1]
    exact List.Perm.refl _
theorem K_len (h : In8 T K s) : K.length ≤ (EL8 T K s).length := by
  have : ∀ L : List Pd, (∀ p ∈ L, p ∈ K) → L.length ≤ (L.flatMap (ep8 T s)).length := fun L => by
    induction L with
    | nil => intro _; simp
    | cons p L ih =>
      intro hL
      have h1 := ih fun q hq => hL q (by simp [hq])
      have h2 : (ep8 T s p).length = (s p).rows.length := by unfold ep8; simp
      have h3 := h.ne p (hL p (by simp))
      have h4 : 0 < (s p).rows.length := List.length_pos_iff.2 h3
      rw [List.flatMap_cons, List.length_append, List.length_cons]
      omega
  exact this K fun _ h => h
theorem rows_len (h : In8 T K s) {p : Pd} (hp : p ∈ K) : (s p).rows.length ≤ (EL8 T K s).length := by
  obtain ⟨a, b, rfl⟩ := List.append_of_mem hp
  unfold EL8
  have h2 : (ep8 T s p).length = (s p).rows.length := by unfold ep8; simp
  rw [List.flatMap_append, List.flatMap_cons, List.length_append, List.length_append]
  omega
end
end Go.Proofs.YtechceagghcipaaGreat
/-
  law 8: a base as a list of facts with their parts, in blocks A; all its calls.
-/
namespace Go.Proofs.YtechceagghcipaaGreat
open Go.RowKit

def BP8 (w0 : World) (A : Nat → Prop) (g m tb : Nat) (E : List (At × Int)) (Y : World) : Prop :=
  ∃ tv mn mr ga B T K s, BS w0 g tv mn mr ga B m T K s Y ∧ In8 T K s ∧ T.length ≤ tb ∧ E.Perm (EL8 T K s) ∧ ∀ b, A b ↔ PA8 g tv mn mr B K b
/-- What a call leaves of a base. -/
def BW8 (w0 : World) (A : Nat → Prop) (g m tb : Nat) (E : List (At × Int)) (Y Y' : World) : Prop := ∃ A', BP8 w0 A' g m tb E Y' ∧ Fr A Y Y' ∧ ∀ b, A' b → A b ∨ Y.heap.size ≤ b
section
variable {w0 : World} {A : Nat → Prop} {g m tb : Nat} {E : List (At × Int)} {Y Y' : World}
theorem BP8.fr (h : BP8 w0 A g m tb E Y) {P : Nat → Prop} (hf : Fr P Y Y') (hn : ∀ b, P b → b < Y.heap.size → ¬ A b ∧ w0.heap.size ≤ b) : BP8 w0 A g m tb E Y' := by
  obtain ⟨tv, mn, mr, ga, B, T, K, s, h1, h2, h3, h4, h5⟩ := h
  exact ⟨tv, mn, mr, ga, B, T, K, s, h1.fr hf (fun b hb hl hc => (hn b hb hl).1 ((h5 b).2 hc)) (fun b hb hl => (hn b hb hl).2), h2, h3, h4, h5⟩
theorem BP8.below (h : BP8 w0 A g m tb E Y) (hb : Below Y.heap.size Y Y') : BP8 w0 A g m tb E Y' := h.fr (P := fun _ => False) (Fr.of hb) fun _ h => h.elim
theorem BP8.lt (h : BP8 w0 A g m tb E Y) {b : Nat} (hb : A b) : w0.heap.size ≤ b ∧ b < Y.heap.size := by
  obtain ⟨tv, mn, mr, ga, B, T, K, s, h1, -, -, -, h5⟩ := h
  exact h1.lt ((h5 b).1 hb)
theorem BP8.bl (h : BP8 w0 A g m tb E Y) : Below w0.heap.size w0 Y := by
  obtain ⟨tv, mn, mr, ga, B, T, K, s, h1, -⟩ := h
  exact h1.bl
theorem BP8.nd (h : BP8 w0 A g m tb E Y) : (E.map Prod.fst).Nodup := by
  obtain ⟨tv, mn, mr, ga, B, T, K, s, -, h2, -, h4, -⟩ := h
  exact (h4.map Prod.fst).nodup_iff.2 (EL8_nd h2)
theorem BP8.pos (h : BP8 w0 A g m tb E Y) : ∀ x ∈ E, x.2 = 1 ∨ x.2 = 2 ∨ x.2 = 4 := fun x hx => by
  obtain ⟨tv, mn, mr, ga, B, T, K, s, -, h2, -, h4, -⟩ := h
  exact EL8_pos (h4.mem_iff.1 hx)
theorem aE8_perm {E E' : List (At × Int)} (hp : E.Perm E') (f : At) : (aE8 E f).Perm (aE8 E' f) := by
  unfold aE8
  by_cases hm : f ∈ E.map Prod.fst
  · rw [if_pos hm, if_pos ((hp.map Prod.fst).mem_iff.1 hm)]; exact hp
  · rw [if_neg hm, if_neg fun hc => hm ((hp.map Prod.fst).mem_iff.2 hc)]; exact hp.append_right _
theorem bp_new (w0 Y : World) (hb : Below w0.heap.size w0 Y) : Calls Tryz.prog 16 #[] Y fun e Y' => ∃ g A, e = .returned (.pointer (some ⟨g, 0, none⟩)) ∧ BP8 w0 A g 0 0 [] Y' ∧ (∀ b, A b → Y.heap.size ≤ b) ∧ Below Y.heap.size Y Y' := by
  refine (bnew8_any w0 Y hb).mono ?_
  rintro e Y' ⟨g, mn, mr, rfl, h1, ⟨k1, k2, k3⟩, h3⟩
  refine ⟨g, _, rfl, ⟨_, _, _, _, _, _, _, _, h1, ⟨List.nodup_nil, nofun, nofun, nofun, by simp⟩, by simp, List.Perm.refl _, fun b => Iff.rfl⟩, fun b hb => ?_, h3⟩
  rcases hb with (rfl | hb | rfl) | rfl | ⟨p, hp, -⟩
  · exact k1
  · cases hb
  · exact k2
  · exact k3
  · cases hp
theorem bp_add (h : BP8 w0 A g m tb E Y) (f : At) (x : Value) (hx : TsP Y x f.args) (hf : f.fact = true) (hk : ∀ t ∈ f.pl, KeyT t) (hkp : KeyP f.pd8) (hn : f.args.length ≤ 100000000) (ht : tb + f.pl.length ≤ 1000000000) (hE : E.length < 1000000000) :
    Calls Tryz.prog 17 #[.pointer (some ⟨g, 0, none⟩), f.v x] Y fun e Y' => ∃ c : Bool, (c = true ↔ f ∉ E.map Prod.fst) ∧ e = .returned (.tuple #[.bool c, .int .i64 0]) ∧ BW8 w0 A g m (tb + f.pl.length) (aE8 E f) Y Y' := by
  obtain ⟨tv, mn, mr, ga, B, T, K, s, h1, h2, h3, h4, h5⟩ := h
  have hEl := h4.length_eq
  have hKl := K_len h2
  have hwd : f.pl.length = (st8 K s f.pd8 f.args.length).wd := by
    by_cases hp : f.pd8 ∈ K
    · have e : st8 K s f.pd8 f.args.length = s f.pd8 := if_pos hp
      obtain ⟨n, k1, -, k3, -⟩ := h2.ar _ hp
      have enn : n = f.args.length := by have : f.pd8.ar = (f.args.length : Int) := rfl; omega
      rw [e, k3, enn]
      simp [At.pl]
      omega
    · have e : st8 K s f.pd8 f.args.length = New7 (1 + f.args.length) := if_neg hp
      rw [e]
      simp [At.pl, New7]
      omega
  have hc : (st8 K s f.pd8 f.args.length).rows.length < 10000000000 := by
    by_cases hp : f.pd8 ∈ K
    · have e : st8 K s f.pd8 f.args.length = s f.pd8 := if_pos hp
      rw [e]
      have := rows_len h2 hp
      omega
    · have e : st8 K s f.pd8 f.args.length = New7 (1 + f.args.length) := if_neg hp
      rw [e]
      simp [New7]
  refine (badd8_any w0 g tv mn mr ga B m T K s f x Y h1 hx hf hk hkp (by omega) (by omega) hwd hc).mono ?_
  rintro e Y' ⟨rfl, s', ⟨tv', ga', B', k1, k2, k3⟩, k4, k5⟩
  obtain ⟨q1, q2⟩ := add_EL8 h2 f hn (by omega) hc k4 k5
  have hm := add_mem h2 f
  refine ⟨_, ?_, rfl, _, ⟨tv', mn, mr, ga', B', _, _, s', k1, q1, ?_, (aE8_perm h4 f).trans q2.symm, fun b => Iff.rfl⟩, k2.mono fun b _ hb => (h5 b).2 hb, fun b hb => (k3 b hb).imp (h5 b).2 id⟩
  · rw [decide_eq_true_eq, hm, (h4.map Prod.fst).mem_iff]
  · have := ens8_len f.pl T
    omega
theorem bp_turn (h : BP8 w0 A g m tb E Y) (hE : E.length ≤ 100000000) : Calls Tryz.prog 19 #[.pointer (some ⟨g, 0, none⟩)] Y fun e Y' => e = .returned (.int .i64 (((E.filter fun x => hp7 4 x.2).length : Nat) : Int)) ∧ BW8 w0 A g m tb (E.map fun x => (x.1, tE8 x.2)) Y Y' := by
  obtain ⟨tv, mn, mr, ga, B, T, K, s, h1, h2, h3, h4, h5⟩ := h
  have hEl := h4.length_eq
  have hKl := K_len h2
  refine (bturn8_any w0 g tv mn mr ga B m T K s Y h1 (by omega)).mono ?_
  rintro e Y' ⟨rfl, tv', ga', B', k1, k2, k3⟩
  refine ⟨?_, _, ⟨tv', mn, mr, ga', B', T, K, _, k1, turn_In8 h2, h3, ?_, fun b => Iff.rfl⟩, k2.mono fun b _ hb => (h5 b).2 hb, fun b hb => (k3 b hb).imp (h5 b).2 id⟩
  · have e1 := len_sum h2 4
    have e2 : (fun p => len7 (s p) 4) = fun p => ((s p).rows.length : Int) - ((s p).xf : Int) := funext fun p => len7_four (s p)
    rw [e2] at e1
    rw [e1, (h4.filter _).length_eq]
  · rw [turn_EL8 h2]
    exact h4.map _
/-- What a call that gathers facts leaves. -/
def FW8 (w0 : World) (A : Nat → Prop) (g m tb : Nat) (E : List (At × Int)) (L : List At) (Y : World) (e : Ending) (Y' : World) : Prop :=
  ∃ fv Q A', e = .returned fv ∧ AL8 Y' Y.heap.size fv Q ∧ srtC8 Q ∧ (Q.map Prod.fst).Perm L ∧ BP8 w0 A' g m tb E Y' ∧ Fr A Y Y' ∧ (∀ b, A' b → A b ∨ Y.heap.size ≤ b) ∧ ∀ b, (fv.ownBlock = some b ∨ ∃ x ∈ Q, x.2 = b) → ¬ A' b
theorem bp_facts (h : BP8 w0 A g m tb E Y) (parts : Int) (hE : E.length ≤ 10000000) (hm : m ≤ 10000000000000) : Calls Tryz.prog 7 #[.pointer (some ⟨g, 0, none⟩), .int .i64 parts] Y (FW8 w0 A g (m + E.length) tb E ((E.filter fun x => hp7 parts x.2).map Prod.fst) Y) := by
  obtain ⟨tv, mn, mr, ga, B, T, K, s, h1, h2, h3, h4, h5⟩ := h
  have hEl := h4.length_eq
  have hKl := K_len h2
  have hfp := facts_perm h2 parts
  have hfl : (K.flatMap (fcp8 T s parts)).length ≤ 1000000000 := by
    have := hfp.length_eq
    rw [List.length_map] at this
    have := List.length_filter_le (fun x : At × Int => hp7 parts x.2) (EL8 T K s)
    omega
  refine (facts8_any w0 g tv mn mr ga B m T K s parts Y h1 (by omega) hm (fun p hp => ?_) hfl).mono ?_
  · obtain ⟨n, k1, k2, -, k4⟩ := h2.ar p hp
    exact ⟨n, k1, by omega, k4⟩
  · rintro e Y' ⟨fv, Q, B', rfl, q1, q2, q3, q4, q5, q6, q7⟩
    exact ⟨fv, Q, _, rfl, q1, q2, q3.trans (hfp.trans ((h4.filter _).map _).symm), ⟨tv, mn, mr, ga, B', T, K, s, q4.up (by omega), h2, h3, h4, fun b => Iff.rfl⟩, q5.mono fun b _ hb => (h5 b).2 hb, fun b hb => (q6 b hb).imp (h5 b).2 id, q7⟩
theorem bp_lfound (h : BP8 w0 A g m tb E Y) (parts : Int) (a : At) (x : Value) (hx : TsP Y x a.args) (hk : ∀ t ∈ a.pl, t.var = false → KeyT t) (hkp : KeyP a.pd8) (hl : a.pl.length ≤ 1000000000) (hE : E.length ≤ 10000000) (hm : m ≤ 10000000000000) :
    Calls Tryz.prog 14 #[.pointer (some ⟨g, 0, none⟩), .int .i64 parts, a.v x] Y (FW8 w0 A g (m + 1) tb E ((E.filter fun x => hp7 parts x.2 && mt8 a x.1).map Prod.fst) Y) := by
  obtain ⟨tv, mn, mr, ga, B, T, K, s, h1, h2, h3, h4, h5⟩ := h
  have hEl := h4.length_eq
  have hfp := find_perm h2 parts a
  have hfl : (fo8 T K s parts a).length ≤ 1000000000000 := by
    have := hfp.length_eq
    rw [List.length_map] at this
    have := List.length_filter_le (fun x : At × Int => hp7 parts x.2 && mt8 a x.1) (EL8 T K s)
    omega
  refine (lfound8_any w0 g tv mn mr ga B m T K s parts a x Y h1 hx hk hkp hl (by omega) (fun hp => ?_) hfl).mono ?_
  · obtain ⟨n, k1, k2, -, k4⟩ := h2.ar _ hp
    have enn : n = a.args.length := by have : a.pd8.ar = (a.args.length : Int) := rfl; omega
    subst enn
    exact k4
  · rintro e Y' ⟨fv, Q, B', rfl, q1, q2, q3, q4, q5, q6, q7⟩
    exact ⟨fv, Q, _, rfl, q1, q2, q3.trans (hfp.trans ((h4.filter _).map _).symm), ⟨tv, mn, mr, ga, B', T, K, s, q4, h2, h3, h4, fun b => Iff.rfl⟩, q5.mono fun b _ hb => (h5 b).2 hb, fun b hb => (q6 b hb).imp (h5 b).2 id, q7⟩
end
end Go.Proofs.YtechceagghcipaaGreat
/-
  law 8: fact, preds.
-/
namespace Go.Proofs.YtechceagghcipaaGreat
open Go.RowKit
attribute [local go_sem ↓] Go.wp_at_zero Go.wp_at_succ

def p8 (k : Int) : At := ⟨⟨0, 0, ⟨#[]⟩⟩, ⟨#[112]⟩, [⟨1, k, ⟨#[]⟩⟩]⟩
set_option maxRecDepth 20000 in
set_option maxHeartbeats 1000000 in
theorem lfact8_any (k : Int) (Y : World) : Calls Tryz.prog 37 #[.int .i64 k] Y fun e Y' => ∃ A, e = .returned ((p8 k).v (.slice (some ⟨A, 0, none⟩) 1 1)) ∧ TBlk Y' A [⟨1, k, ⟨#[]⟩⟩] 1 ∧ Y.heap.size ≤ A ∧ Below Y.heap.size Y Y' := by
  go_enter Tryz.func37, Tryz.ntmps37
  go_wp2
  have hb := below2 Y (.cells #[.int .i64 0, .int .i64 0, .string ⟨#[]⟩, .string ⟨#[112]⟩, .slice (some ⟨Y.heap.size + 1, 0, none⟩) 1 1] 34) (.cells #[.int .i64 1, .int .i64 k, .string ⟨#[]⟩] 31)
  have hx := (Bk.new Y #[.int .i64 0, .int .i64 0, .string ⟨#[]⟩, .string ⟨#[112]⟩, .slice (some ⟨Y.heap.size + 1, 0, none⟩) 1 1] 34).below (below1 _ (.cells #[.int .i64 1, .int .i64 k, .string ⟨#[]⟩] 31))
  have ht : TBlk ((Y.alloc (.cells #[.int .i64 0, .int .i64 0, .string ⟨#[]⟩, .string ⟨#[112]⟩, .slice (some ⟨Y.heap.size + 1, 0, none⟩) 1 1] 34)).alloc (.cells #[.int .i64 1, .int .i64 k, .string ⟨#[]⟩] 31)) (Y.heap.size + 1) [⟨1, k, ⟨#[]⟩⟩] 1 := by
    have h1 := Bk.new (Y.alloc (.cells #[.int .i64 0, .int .i64 0, .string ⟨#[]⟩, .string ⟨#[112]⟩, .slice (some ⟨Y.heap.size + 1, 0, none⟩) 1 1] 34)) #[.int .i64 1, .int .i64 k, .string ⟨#[]⟩] 31
    rw [show (Y.alloc (.cells #[.int .i64 0, .int .i64 0, .string ⟨#[]⟩, .string ⟨#[112]⟩, .slice (some ⟨Y.heap.size + 1, 0, none⟩) 1 1] 34)).heap.size = Y.heap.size + 1 by simp] at h1
    refine ⟨_, h1, rfl, fun j t hj ht => ?_⟩
    obtain rfl : j = 0 := by omega
    cases ht
    exact ⟨rfl, rfl, rfl⟩
  obtain ⟨⟨r0, r1⟩, r2, r3, r4⟩ := five8 hx
  exact bodyPost_ret (v := (p8 k).v (.slice (some ⟨Y.heap.size + 1, 0, none⟩) 1 1)) (by simp [results, Tryz.results37, go_sem, r0, r1, r2, r3, r4, p8]) rfl ⟨Y.heap.size + 1, rfl, ht, by omega, hb⟩
end Go.Proofs.YtechceagghcipaaGreat
/-
  Apply: what it answers is its own. (Written out of A1.)
-/
namespace Go.Proofs.YtechceagghcipaaGreat
open Go.RowKit
attribute [local go_sem ↓] Go.wp_at_zero Go.wp_at_succ

theorem TBlk.own {w : World} {B g : Nat} {l : List Tm} {n : Nat} (hn : n = l.length) (hl : n ≤ 4398046511104) (hB : B ≤ g) (h : TBlk w g l n) : OwnT w B (.slice (some ⟨g, 0, none⟩) n n) l := by
  subst hn
  obtain ⟨C, h1, h2, h3⟩ := h
  refine ⟨tcs_len l, Or.inr ⟨g, l.length, C, rfl, hB, h1, Nat.le_refl _, by unfold maxLen; omega, h2, ?_⟩⟩
  rw [List.take_of_length_le (by rw [Array.length_toList, h2]; exact Nat.le_refl _)]
  apply List.ext_getElem?
  intro j
  by_cases hj : j < l.length * 3
  · have hq : j / 3 < l.length := by omega
    obtain ⟨d, hd⟩ : ∃ d, l[j / 3]? = some d := ⟨_, List.getElem?_eq_getElem hq⟩
    have hg := tcs_get l (j / 3) d hd (j % 3) (by omega)
    rw [show j / 3 * 3 + j % 3 = j by omega] at hg
    obtain ⟨a, b, c⟩ := h3 (j / 3) d hq hd
    rw [hg, Array.getElem?_toList]
    have h4 : j % 3 = 0 ∨ j % 3 = 1 ∨ j % 3 = 2 := by omega
    rcases h4 with e | e | e
    · rw [e, show j = j / 3 * 3 by omega, a]; rfl
    · rw [e, show j = j / 3 * 3 + 1 by omega, b]; rfl
    · rw [e, show j = j / 3 * 3 + 2 by omega, c]; rfl
  · rw [List.getElem?_eq_none (by rw [Array.length_toList]; omega), List.getElem?_eq_none (by rw [tcs_len]; omega)]
end Go.Proofs.YtechceagghcipaaGreat
