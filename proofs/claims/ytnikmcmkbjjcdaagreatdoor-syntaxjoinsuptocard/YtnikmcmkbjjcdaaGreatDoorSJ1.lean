/-
  PLAIN: tokens with more behind them are read alike, unless the end is met.
-/
import Derived.Test.YtnikmcmkbjjcdaaGreatDoorK2
namespace Go.Proofs.YtnikmcmkbjjcdaaGreatDoor
open Go.RowKit

/-- The end of the n tokens is met. -/
def EndR {α : Type} (n La : Nat) : R5 α → Prop
  | .error e => e.2 = (La : Int)
  | .ok (_, s) => n ≤ s.nx
/-- f (of the tokens alone) and g (with more behind) agree, unless the end is met. -/
def Jn {α : Type} (n La k : Nat) (f g : Ps → R5 α) : Prop := ∀ s, s.op = k → EndR n La (f s) ∨ (s.nx < n ∧ f s = g s)
theorem Jn.and {α β : Type} {n La k : Nat} {f g : Ps → R5 α} {p q : α → Ps → R5 β} (h : Jn n La k f g) (hg : Goes f) (hp : ∀ a, Jn n La k (p a) (q a)) : Jn n La k (fun s => (f s).and p) (fun s => (g s).and q) := fun s hs => by
  show EndR n La ((f s).and p) ∨ (s.nx < n ∧ (f s).and p = (g s).and q)
  rcases h s hs with h1 | ⟨hn, h1⟩
  · cases hf : f s with
    | error e => rw [hf] at h1; exact Or.inl h1
    | ok a =>
      obtain ⟨a, s'⟩ := a
      rw [hf] at h1
      have ho := (hg s a s' hf).1
      rcases hp a s' (ho.trans hs) with h2 | ⟨h2, -⟩
      · exact Or.inl h2
      · have : n ≤ s'.nx := h1
        omega
  · rw [← h1]
    cases hf : f s with
    | error e => exact Or.inr ⟨hn, rfl⟩
    | ok a =>
      obtain ⟨a, s'⟩ := a
      have ho := (hg s a s' hf).1
      rcases hp a s' (ho.trans hs) with h2 | ⟨-, h2⟩
      · exact Or.inl h2
      · exact Or.inr ⟨hn, h2⟩
theorem Jn.pure {α : Type} {n La k : Nat} {F : Ps → α × Ps} (hF : ∀ s, s.nx ≤ (F s).2.nx) : Jn n La k (fun s => (.ok (F s) : R5 α)) (fun s => .ok (F s)) := fun s _ => by
  rcases Nat.lt_or_ge s.nx n with h | h
  · exact Or.inr ⟨h, rfl⟩
  · exact Or.inl (Nat.le_trans h (hF s))
theorem Jn.ite {α : Type} {n La k : Nat} {c d : Ps → Prop} [∀ s, Decidable (c s)] [∀ s, Decidable (d s)] {f g p q : Ps → R5 α} (h : Jn n La k f g) (hp : Jn n La k p q) (hc : ∀ s, s.nx < n → (c s ↔ d s)) : Jn n La k (fun s => if c s then f s else p s) (fun s => if d s then g s else q s) := fun s hs => by
  show EndR n La (if c s then f s else p s) ∨ (s.nx < n ∧ (if c s then f s else p s) = if d s then g s else q s)
  by_cases e : c s
  · rw [if_pos e]
    rcases h s hs with h1 | ⟨hn, h1⟩
    · exact Or.inl h1
    · rw [if_pos ((hc s hn).1 e)]; exact Or.inr ⟨hn, h1⟩
  · rw [if_neg e]
    rcases hp s hs with h1 | ⟨hn, h1⟩
    · exact Or.inl h1
    · rw [if_neg fun h => e ((hc s hn).2 h)]; exact Or.inr ⟨hn, h1⟩
/-- The tokens, and the tokens with more behind. -/
structure Mo (A T : List Tk) : Prop where
  ex : ∃ B, T = A ++ B
theorem Mo.at_ {A T : List Tk} (h : Mo A T) {i : Nat} (hi : i < A.length) : T[i]? = A[i]? := by
  obtain ⟨B, rfl⟩ := h.ex
  rw [List.getElem?_append_left hi]
theorem Mo.le {A T : List Tk} (h : Mo A T) : A.length ≤ T.length := by
  obtain ⟨B, rfl⟩ := h.ex
  rw [List.length_append]; omega
theorem Mo.kd {A T : List Tk} (h : Mo A T) {s : Ps} {k : Nat} (hi : s.nx + k < A.length) : kd5 T s k = kd5 A s k := by
  unfold kd5; rw [h.at_ hi]
theorem kd_end {A : List Tk} {s : Ps} {k : Nat} (hi : A.length ≤ s.nx + k) : kd5 A s k = 0 := by
  unfold kd5; rw [List.getElem?_eq_none hi]; rfl
theorem Mo.kd0 {A T : List Tk} (h : Mo A T) (b : Int) : ∀ s : Ps, s.nx < A.length → (kd5 A s 0 = b ↔ kd5 T s 0 = b) := fun s hs => by rw [h.kd (k := 0) hs]
theorem Mo.pl {A T : List Tk} (h : Mo A T) {La L : Nat} {s : Ps} (hi : s.nx < A.length) : pl5 A La s = pl5 T L s := by
  unfold pl5
  rw [h.at_ hi, List.getElem?_eq_getElem hi]
  rfl
theorem pl_end {A : List Tk} {La : Nat} {s : Ps} (hi : A.length ≤ s.nx) : pl5 A La s = La := by
  unfold pl5; rw [List.getElem?_eq_none hi]; rfl
theorem jn_tk {A T : List Tk} (h : Mo A T) (La L k : Nat) (ks : List Int) : Jn A.length La k (tk5 A La ks) (tk5 T L ks) := fun s _ => by
  rcases Nat.lt_or_ge s.nx A.length with hn | hn
  · refine Or.inr ⟨hn, ?_⟩
    unfold tk5
    rw [h.at_ hn, List.getElem?_eq_getElem hn]
  · refine Or.inl ?_
    unfold tk5
    rw [List.getElem?_eq_none hn]
    rfl
theorem jn_mean {n La k : Nat} (t : Tk) : Jn n La k (fun s => (.ok (mean5 t s) : R5 Tm)) (fun s => .ok (mean5 t s)) := Jn.pure fun s => Nat.le_of_eq (mean5_nx t s).symm
theorem jn_ok {α : Type} {n La k : Nat} (a : α) : Jn n La k (fun s => (.ok (a, s) : R5 α)) (fun s => .ok (a, s)) := Jn.pure fun _ => Nat.le_refl _
theorem jn_tm {A T : List Tk} (h : Mo A T) (La L k : Nat) : Jn A.length La k (tm5 A La) (tm5 T L) := (jn_tk h La L k _).and (goes_tk A La _) jn_mean
theorem jn_who {A T : List Tk} (h : Mo A T) (La L k : Nat) : Jn A.length La k (who5 A La) (who5 T L) := (jn_tk h La L k _).and (goes_tk A La _) jn_mean
theorem jn_ls {α : Type} {one one' : Ps → R5 α} {A T : List Tk} (h : Mo A T) (La L k : Nat) (b : Int) (ho : Jn A.length La k one one') (hg : Goes one) : ∀ (f : Nat) (acc : List α), Jn A.length La k (ls5 one A La b f acc) (ls5 one' T L b f acc)
  | 0, acc => jn_ok acc
  | f + 1, acc => Jn.ite ((jn_tk h La L k _).and (goes_tk A La _) fun _ => ho.and hg fun a => jn_ls h La L k b ho hg f (acc ++ [a])) (jn_ok acc) (h.kd0 b)
/-- How much room there is beyond what is needed doesn't show. -/
theorem ls5_fuel {α : Type} {one : Ps → R5 α} {T : List Tk} {L : Nat} {b : Int} (hb : b ≠ 0) (hg : Goes one) : ∀ (f f' : Nat) (acc : List α) (s : Ps), T.length < f + s.nx → T.length < f' + s.nx → ls5 one T L b f acc s = ls5 one T L b f' acc s
  | 0, 0, acc, s, _, _ => rfl
  | 0, f' + 1, acc, s, h, _ => by
    have e : kd5 T s 0 = 0 := kd_end (by omega)
    show _ = if kd5 T s 0 = b then _ else _
    rw [e, if_neg fun h => hb h.symm]
    rfl
  | f + 1, 0, acc, s, _, h => by
    have e : kd5 T s 0 = 0 := kd_end (by omega)
    show (if kd5 T s 0 = b then _ else _) = _
    rw [e, if_neg fun h => hb h.symm]
    rfl
  | f + 1, f' + 1, acc, s, h, h' => by
    show (if kd5 T s 0 = b then _ else _) = if kd5 T s 0 = b then _ else _
    by_cases e : kd5 T s 0 = b
    · rw [if_pos e, if_pos e]
      cases ht : tk5 T L [b] s with
      | error x => rfl
      | ok p =>
        obtain ⟨t, s1⟩ := p
        have e1 : s1.nx = s.nx + 1 := by
          unfold tk5 at ht
          split at ht
          · split at ht
            · have := (Prod.mk.inj (Except.ok.inj ht)).2
              rw [← this]
            · cases ht
          · cases ht
        show (one s1).and _ = (one s1).and _
        cases ho : one s1 with
        | error x => rfl
        | ok p =>
          obtain ⟨a, s2⟩ := p
          have e2 := (hg s1 a s2 ho).2
          exact ls5_fuel hb hg f f' (acc ++ [a]) s2 (by omega) (by omega)
    · rw [if_neg e, if_neg e]
theorem list5_fuel {α : Type} {one : Ps → R5 α} {T : List Tk} {L : Nat} {b : Int} (hb : b ≠ 0) (hg : Goes one) {f : Nat} (hf : T.length < f) : list5 one T L b = fun s => (one s).and fun a s => ls5 one T L b f [a] s := by
  funext s
  unfold list5
  cases ho : one s with
  | error x => rfl
  | ok p => obtain ⟨a, s'⟩ := p; exact ls5_fuel hb hg _ _ _ _ (by omega) (by omega)
theorem jn_list {α : Type} {one one' : Ps → R5 α} {A T : List Tk} (h : Mo A T) (La L k : Nat) {b : Int} (hb : b ≠ 0) (ho : Jn A.length La k one one') (hg : Goes one) : Jn A.length La k (list5 one A La b) (list5 one' T L b) := by
  rw [list5_fuel hb hg (f := T.length + 1) (by have := h.le; omega)]
  exact ho.and hg fun a => jn_ls h La L k b ho hg _ _
theorem jn_args {A T : List Tk} (h : Mo A T) (La L k : Nat) : Jn A.length La k (args5 A La) (args5 T L) :=
  Jn.ite ((jn_tk h La L k _).and (goes_tk A La _) fun _ => (jn_list h La L k (by decide) (jn_tm h La L k) (goes_tm A La)).and (goes_list A La 8 (goes_tm A La)) fun l => (jn_tk h La L k _).and (goes_tk A La _) fun _ => jn_ok l) (jn_ok []) (h.kd0 6)
/-- What follows an atom's speaker. -/
def rest5 (T : List Tk) (L : Nat) (b : Tm) (s : Ps) : R5 At := (tk5 T L [1] s).and fun t s => (args5 T L s).and fun l s => .ok (⟨b, t.x, l⟩, s)
theorem jn_rest {A T : List Tk} (h : Mo A T) (La L k : Nat) (b : Tm) : Jn A.length La k (rest5 A La b) (rest5 T L b) :=
  (jn_tk h La L k _).and (goes_tk A La _) fun _ => (jn_args h La L k).and (goes_args A La) fun _ => jn_ok _
theorem jn_arest {A T : List Tk} (h : Mo A T) (La L k : Nat) (x : ByteArray) : Jn A.length La k (fun s => (args5 A La s).and fun l s => .ok ((⟨⟨0, 0, ⟨#[]⟩⟩, x, l⟩ : At), s)) (fun s => (args5 T L s).and fun l s => .ok ((⟨⟨0, 0, ⟨#[]⟩⟩, x, l⟩ : At), s)) := (jn_args h La L k).and (goes_args A La) fun _ => jn_ok _
theorem jn_at {A T : List Tk} (h : Mo A T) (La L k : Nat) : Jn A.length La k (at5 A La) (at5 T L) := fun s hs => by
  have hw : Jn A.length La k (fun s => ((who5 A La s).and fun t s => (tk5 A La [5] s).and fun _ s => .ok (t, s)).and (rest5 A La)) (fun s => ((who5 T L s).and fun t s => (tk5 T L [5] s).and fun _ s => .ok (t, s)).and (rest5 T L)) :=
    ((jn_who h La L k).and (goes_who A La) fun t => (jn_tk h La L k _).and (goes_tk A La _) fun _ => jn_ok t).and ((goes_who A La).and fun t => (goes_tk A La _).and fun _ => goes_ok t) (jn_rest h La L k)
  have ea : ∀ (X : List Tk) (M : Nat), at5 X M s = if kd5 X s 0 = 1 ∧ kd5 X s 1 ≠ 5 then rest5 X M ⟨0, 0, ⟨#[]⟩⟩ s else ((who5 X M s).and fun t s => (tk5 X M [5] s).and fun _ s => .ok (t, s)).and (rest5 X M) := fun X M => by
    unfold at5 by5
    split
    · rfl
    · rfl
  rw [ea, ea]
  by_cases hc : kd5 A s 0 = 1 ∧ kd5 A s 1 ≠ 5
  · rw [if_pos hc]
    rcases Nat.lt_or_ge (s.nx + 1) A.length with hn | hn
    · rw [if_pos (by rw [h.kd (k := 0) (by omega), h.kd hn]; exact hc)]
      exact jn_rest h La L k _ s hs
    · refine Or.inl ?_
      have hlt : s.nx < A.length := by
        rcases Nat.lt_or_ge s.nx A.length with h1 | h1
        · exact h1
        · have := kd_end (k := 0) (A := A) (s := s) h1
          rw [this] at hc
          exact absurd hc.1 (by decide)
      obtain ⟨t, -, ht, -⟩ := kd5_some (L := La) hc.1 (by decide)
      show EndR _ _ ((tk5 A La [1] s).and _)
      rw [ht]
      rcases jn_arest h La L k t.x ⟨s.nx + 1, s.op, s.vs, s.nm⟩ hs with h1 | ⟨h1, -⟩
      · exact h1
      · exact absurd h1 (Nat.not_lt.2 hn)
  · rw [if_neg hc]
    rcases Nat.lt_or_ge (s.nx + 1) A.length with hn | hn
    · rw [if_neg (by rw [h.kd (k := 0) (by omega), h.kd hn]; exact hc)]
      exact hw s hs
    · have e1 := kd_end (k := 1) (A := A) (s := s) hn
      have hk : kd5 A s 0 ≠ 1 := fun e => hc ⟨e, by rw [e1]; decide⟩
      rcases Nat.lt_or_ge s.nx A.length with h1 | h1
      · rw [if_neg fun e => hk (by rw [← h.kd (k := 0) h1]; exact e.1)]
        exact hw s hs
      · rcases hw s hs with h2 | ⟨h2, -⟩
        · exact Or.inl h2
        · omega
theorem jn_te {A T : List Tk} (h : Mo A T) (La L k : Nat) : Jn A.length La k (te5 A La) (te5 T L) :=
  (jn_tm h La L k).and (goes_tm A La) fun _ => (jn_tk h La L k _).and (goes_tk A La _) fun _ => (jn_tm h La L k).and (goes_tm A La) fun _ => jn_ok _
theorem jn_conj {one one' : Ps → R5 (List (List Lf5))} {A T : List Tk} (h : Mo A T) (La L k : Nat) (ho : Jn A.length La k one one') (hg : Goes one) : Jn A.length La k (conjOf5 one A La) (conjOf5 one' T L) :=
  (jn_list h La L k (by decide) ho hg).and (goes_list A La 8 hg) fun _ => jn_ok _
theorem jn_alt {one one' : Ps → R5 (List (List Lf5))} {A T : List Tk} (h : Mo A T) (La L k : Nat) (ho : Jn A.length La k one one') (hg : Goes one) : Jn A.length La k (altOf5 one A La) (altOf5 one' T L) :=
  (jn_list h La L k (by decide) (jn_conj h La L k ho hg) (goes_conj A La hg)).and (goes_list A La 9 (goes_conj A La hg)) fun _ => jn_ok _
theorem jn_br {one one' : Ps → R5 (List (List Lf5))} {A T : List Tk} (h : Mo A T) (La L k : Nat) (ho : k ≠ 16 → Jn A.length La (k + 1) one one') (hg : Goes one) : Jn A.length La k (brOf5 one A La) (brOf5 one' T L) := fun s hs => by
  unfold brOf5
  by_cases e : s.op = 16
  · rw [if_pos e, if_pos e]
    rcases Nat.lt_or_ge s.nx A.length with h1 | h1
    · refine Or.inr ⟨h1, ?_⟩
      rw [h.pl (L := L) h1]
    · exact Or.inl (pl_end h1)
  · rw [if_neg e, if_neg e]
    have h1 := ho fun e1 => e (hs.trans e1)
    have hi : Jn A.length La (k + 1) (fun s => (altOf5 one A La s).and fun m s => (tk5 A La [7] s).and fun _ s => .ok (m, ⟨s.nx, s.op - 1, s.vs, s.nm⟩)) (fun s => (altOf5 one' T L s).and fun m s => (tk5 T L [7] s).and fun _ s => .ok (m, ⟨s.nx, s.op - 1, s.vs, s.nm⟩)) :=
      (jn_alt h La L (k + 1) h1 hg).and (goes_alt A La hg) fun m => (jn_tk h La L (k + 1) _).and (goes_tk A La _) fun _ => Jn.pure (F := fun s => (m, ⟨s.nx, s.op - 1, s.vs, s.nm⟩)) fun _ => Nat.le_refl _
    have hj : Jn A.length La k (fun s => (altOf5 one A La ⟨s.nx, s.op + 1, s.vs, s.nm⟩).and fun m s => (tk5 A La [7] s).and fun _ s => .ok (m, ⟨s.nx, s.op - 1, s.vs, s.nm⟩)) (fun s => (altOf5 one' T L ⟨s.nx, s.op + 1, s.vs, s.nm⟩).and fun m s => (tk5 T L [7] s).and fun _ s => .ok (m, ⟨s.nx, s.op - 1, s.vs, s.nm⟩)) := fun s hs => hi ⟨s.nx, s.op + 1, s.vs, s.nm⟩ (by show s.op + 1 = k + 1; rw [hs])
    exact ((jn_tk h La L k [6]).and (goes_tk A La _) fun _ => hj) s hs
theorem jn_lit {A T : List Tk} (h : Mo A T) (La L : Nat) : ∀ f k : Nat, k ≤ 16 → k + f = 17 → Jn A.length La k (lit5 A La f) (lit5 T L f)
  | 0, k, hk, e => by omega
  | f + 1, k, hk, e => by
    have hb : Jn A.length La k (brOf5 (lit5 A La f) A La) (brOf5 (lit5 T L f) T L) := jn_br h La L k (fun hne => jn_lit h La L f (k + 1) (by omega) (by omega)) (goes_lit A La f)
    have h1 : Jn A.length La k (fun s => (at5 A La s).and fun a s => .ok ([[Lf5.a a]], s)) (fun s => (at5 T L s).and fun a s => .ok ([[Lf5.a a]], s)) := (jn_at h La L k).and (goes_at A La) fun _ => jn_ok _
    have h2 : Jn A.length La k (fun s => (te5 A La s).and fun t s => .ok ([[Lf5.t t]], s)) (fun s => (te5 T L s).and fun t s => .ok ([[Lf5.t t]], s)) := (jn_te h La L k).and (goes_te A La) fun _ => jn_ok _
    refine Jn.ite hb (fun s hs => ?_) (h.kd0 6)
    show EndR _ _ (if ba5 A s = true then (at5 A La s).and _ else (te5 A La s).and _) ∨ (_ ∧ (if ba5 A s = true then (at5 A La s).and _ else (te5 A La s).and _) = if ba5 T s = true then (at5 T L s).and _ else (te5 T L s).and _)
    rcases Nat.lt_or_ge (s.nx + 1) A.length with hn | hn
    · have e1 : ba5 T s = ba5 A s := by unfold ba5; rw [h.kd (k := 0) (by omega), h.kd hn]
      rw [e1]
      by_cases hc : ba5 A s = true
      · rw [if_pos hc, if_pos hc]; exact h1 s hs
      · rw [if_neg hc, if_neg hc]; exact h2 s hs
    · rcases Nat.lt_or_ge s.nx A.length with hl | hl
      · have k1 := kd_end (k := 1) (A := A) (s := s) hn
        have k0 := h.kd (k := 0) (s := s) hl
        by_cases c1 : kd5 A s 0 = 1
        · have hc : ba5 A s = true := by unfold ba5; rw [if_pos c1, k1]; decide
          rw [if_pos hc]
          refine Or.inl ?_
          have hq : EndR A.length La (at5 A La s) := by
            obtain ⟨t, -, ht, -⟩ := kd5_some (L := La) c1 (by decide)
            have : at5 A La s = rest5 A La ⟨0, 0, ⟨#[]⟩⟩ s := by
              unfold at5 by5
              rw [if_pos ⟨c1, by rw [k1]; decide⟩]
              rfl
            rw [this]
            show EndR _ _ ((tk5 A La [1] s).and _)
            rw [ht]
            rcases jn_arest h La L k t.x ⟨s.nx + 1, s.op, s.vs, s.nm⟩ hs with h1 | ⟨h1, -⟩
            · exact h1
            · exact absurd h1 (Nat.not_lt.2 hn)
          cases ha : at5 A La s with
          | error x => rw [ha] at hq; exact hq
          | ok p => obtain ⟨a, s'⟩ := p; rw [ha] at hq; exact hq
        · by_cases c2 : kd5 A s 0 = 3 ∨ kd5 A s 0 = 2
          · have hc : ¬ ba5 A s = true := by unfold ba5; rw [if_neg c1, if_pos c2, k1]; decide
            rw [if_neg hc]
            refine Or.inl ?_
            have ht : ∃ t, tk5 A La [1, 3, 2, 4] s = .ok (t, ⟨s.nx + 1, s.op, s.vs, s.nm⟩) := by
              have e0 : ∃ t, A[s.nx]? = some t ∧ kd5 A s 0 = t.k := by
                unfold kd5
                rw [Nat.add_zero, List.getElem?_eq_getElem hl]
                exact ⟨_, rfl, rfl⟩
              obtain ⟨t, e2, e3⟩ := e0
              refine ⟨t, ?_⟩
              unfold tk5
              rw [e2]
              rw [e3] at c2
              show (if t.k ∈ _ then _ else _) = _
              rw [if_pos (by rcases c2 with e | e <;> rw [e] <;> decide)]
            obtain ⟨t, ht⟩ := ht
            have e4 : tm5 A La s = .ok (mean5 t ⟨s.nx + 1, s.op, s.vs, s.nm⟩) := by unfold tm5; rw [ht]; rfl
            have e5 : te5 A La s = .error (51, (La : Int)) := by
              unfold te5
              rw [e4]
              show (tk5 A La [13, 14, 15, 16] (mean5 t ⟨s.nx + 1, s.op, s.vs, s.nm⟩).2).and _ = _
              have : A[(mean5 t ⟨s.nx + 1, s.op, s.vs, s.nm⟩).2.nx]? = none := List.getElem?_eq_none (by rw [mean5_nx]; exact hn)
              have e6 : tk5 A La [13, 14, 15, 16] (mean5 t ⟨s.nx + 1, s.op, s.vs, s.nm⟩).2 = .error (51, (La : Int)) := by unfold tk5; rw [this]
              rw [e6]; rfl
            rw [e5]
            exact rfl
          · have e1 : ba5 T s = ba5 A s := by unfold ba5; rw [k0, if_neg c1, if_neg c1, if_neg c2, if_neg c2]
            rw [e1]
            by_cases hc : ba5 A s = true
            · rw [if_pos hc, if_pos hc]; exact h1 s hs
            · rw [if_neg hc, if_neg hc]; exact h2 s hs
      · refine Or.inl ?_
        by_cases hc : ba5 A s = true
        · rw [if_pos hc]
          rcases h1 s hs with h3 | ⟨h3, -⟩
          · exact h3
          · omega
        · rw [if_neg hc]
          rcases h2 s hs with h3 | ⟨h3, -⟩
          · exact h3
          · omega
theorem jn_bd {A T : List Tk} (h : Mo A T) (La L : Nat) : Jn A.length La 0 (bd5 A La) (bd5 T L) :=
  Jn.ite ((jn_tk h La L 0 _).and (goes_tk A La _) fun _ => jn_alt h La L 0 (jn_lit h La L 17 0 (by decide) rfl) (goes_lit A La 17)) (jn_ok [[]]) (h.kd0 11)
end Go.Proofs.YtnikmcmkbjjcdaaGreatDoor
