import Derived.Test.YtechceagghcipaaGreatDoorEK1
namespace Go.Proofs.YtechceagghcipaaGreatDoor
open Go.RowKit

structure MI8 (w : World) (A B : Nat -> Prop) (b r M T : Nat) (E : List (At × Int)) (R : List It8) (Z Z1 : World) : Prop where
 x : ∃ A', BP8 w A' b M T E Z1 /\ (∀ x, A' x -> A x ∨ Z.heap.size <= x) /\ ∀ x, A' x -> ¬ B x
 q : ∃ lv, RB8 w B r lv R Z1
 f : Fr A Z Z1
def EN8 (w : World) (A B : Nat -> Prop) (b r M T : Nat) (R : List It8) (Z Z2 : World) : Prop :=
 ∃ A' B', DO8 w A' B' b r M T R Z2 /\ Fr (fun x => A x ∨ B x) Z Z2 /\ ∀ x, A' x ∨ B' x -> (A x ∨ B x) ∨ Z.heap.size <= x
section
variable {w : World} {A B : Nat -> Prop} {b r M T M' T' : Nat} {E : List (At × Int)} {R R' : List It8} {Z Z1 Z2 : World}
theorem DO8.mi (h : DO8 w A B b r M T R Z) {A' : Nat -> Prop} (hp : BP8 w A' b M' T' E Z1) (hf : Fr A Z Z1) (hn : ∀ x, A' x -> A x ∨ Z.heap.size <= x) : MI8 w A B b r M' T' E R Z Z1 := by
 obtain ⟨lv, hq⟩ := h.q
 refine ⟨⟨A', hp, hn, fun x hx hb => ?_⟩, ⟨lv, hq.fr hf fun x hx _ => ⟨h.d x hx, (h.p.lt hx).1⟩⟩, hf⟩
 rcases hn x hx with h1 | h1
 ·exact h.d x h1 hb
 ·have := (hq.lt hb).2; omega
theorem MI8.en (h : MI8 w A B b r M T E R Z Z1) (hr : RW8 w B r R' Z1 Z2) (hE : (Ei R').Perm E) (hs : so9 R') (hk : Kd8 R') : EN8 w A B b r M T R' Z Z2 := by
 obtain ⟨⟨A', h1, h2, h3⟩, ⟨lv, h4⟩, h5⟩ := h
 obtain ⟨B', lv', k1, k2, k3⟩ := hr
 refine ⟨A', B', ⟨(h1.fr k2 fun x hx _ => ⟨fun ha => h3 x ha hx, (h4.lt hx).1⟩).perm hE, ⟨lv', k1⟩, fun x ha hb => ?_, hs, hk⟩, (h5.mono fun x _ hx => Or.inl hx).trans k2 fun x _ hx => Or.inr hx, fun x hx => ?_⟩
 ·rcases k3 x hb with h | h
  ·exact h3 x ha h
  ·have := (h1.lt ha).2; omega
 ·have hz := h5.size
  rcases hx with hx | hx
  ·exact (h2 x hx).imp Or.inl id
  ·rcases k3 x hx with h | h
   ·exact Or.inl (Or.inr h)
   ·exact Or.inr (by omega)
theorem MI8.look (h : MI8 w A B b r M T (Ei R) R Z Z1) (hb : Below Z1.heap.size Z1 Z2) (hs : so9 R) (hk : Kd8 R) : EN8 w A B b r M T R Z Z2 := by
 obtain ⟨lv, hq⟩ := h.q
 exact h.en ⟨B, lv, hq.below hb, Fr.of hb, fun x hx => Or.inl hx⟩ (List.Perm.refl _) hs hk
theorem DO8.look (h : DO8 w A B b r M T R Z) (hb : Below Z.heap.size Z Z2) : EN8 w A B b r M T R Z Z2 := ⟨A, B, h.below hb, Fr.of hb, fun _ hx => Or.inl hx⟩
theorem dturn1 (h : DO8 w A B b r M T R Z) (hl : R.length <= 1048576) : Calls Tryz.prog 11 #[.pointer (some ⟨b, 0, none⟩)] Z fun e Z1 => e = .returned (.int .i64 (((Ei R).filter fun x => hp7 4 x.2).length : Int)) /\ MI8 w A B b r M T (Ei (R.map tI8)) R Z Z1 := by
 refine (bp_turn h.p (by rw [Ei_len]; omega)).mono ?_
 rintro e Z1 ⟨rfl, A', h1, h2, h3⟩
 rw [Ei_turn] at h1
 exact ⟨rfl, h.mi h1 h2 h3⟩
theorem dturn2 (h : DO8 w A B b r M T R Z) (hm : MI8 w A B b r M T (Ei (R.map tI8)) R Z Z1) (hl : R.length <= 1048576) : Calls Tryz.prog 72 #[.pointer (some ⟨r, 0, none⟩)] Z1 fun e Z2 => e = .returned (.int .i64 (((Ei R).filter fun x => hp7 4 x.2).length : Int)) /\ EN8 w A B b r M T (R.map tI8) Z Z2 /\ Fr B Z1 Z2 := by
 obtain ⟨lv, hq⟩ := hm.q
 refine (rbturn8_any w B r lv R Z1 hq (fun x hx => h.p.pos (x.1.1, x.2) (List.mem_map.2 ⟨x, hx, rfl⟩)) (by omega)).mono ?_
 rintro e Z2 ⟨rfl, h1, h2⟩
 exact ⟨rfl, hm.en ⟨B, lv, h1, h2, fun x hx => Or.inl hx⟩ (List.Perm.refl _) (so9_turn h.so) h.kd.turn, h2⟩
theorem dadd1 (h : DO8 w A B b r M T R Z) (hl : R.length <= 1048576) (f : At) (x : Value) (hx : TsP Z x f.args) (hf : f.fact = true) (hk : ∀ t ∈ f.pl, KeyT t) (hkp : KeyP f.pd8) (hn : f.pl.length <= 1048576) (ht : T + f.pl.length <= 100000000) :
  Calls Tryz.prog 10 #[.pointer (some ⟨b, 0, none⟩), f.v x] Z fun e Z1 => e = .returned (.tuple #[.bool (decide (f ∉ (Ei R).map Prod.fst)), .int .i64 0]) /\ MI8 w A B b r M (T + f.pl.length) (aE8 (Ei R) f) R Z Z1 := by
 refine (bp_add h.p f x hx hf hk hkp (by simp [At.pl] at hn; omega) (by omega) (by rw [Ei_len]; omega)).mono ?_
 rintro e Z1 ⟨c, hc, rfl, A', h1, h2, h3⟩
 refine ⟨?_, h.mi h1 h2 h3⟩
 congr 5
 cases c with
 | true => exact (decide_eq_true (hc.1 rfl)).symm
 | false => exact (decide_eq_false fun hm => by have := hc.2 hm; cases this).symm
theorem dadd2 (h : DO8 w A B b r M T R Z) (hl : R.length <= 1048576) (f : At) (hm : MI8 w A B b r M (T + f.pl.length) (aE8 (Ei R) f) R Z Z1) (x : Value) (hx : TsP Z1 x f.args) (hf : f.fact = true) (hk : ∀ t ∈ f.pl, KeyT t) (hkp : KeyP f.pd8) (hn : f.pl.length <= 1048576) :
  Calls Tryz.prog 71 #[.pointer (some ⟨r, 0, none⟩), f.v x] Z1 fun e Z2 => e = .returned (.tuple #[.bool (decide (f ∉ (Ei R).map Prod.fst)), .int .i64 0]) /\ (∃ R', EN8 w A B b r M (T + f.pl.length) R' Z Z2 /\ sz8 (Ei R') <= sz8 (Ei R) + f.pl.length) /\ Fr B Z1 Z2 := by
 obtain ⟨lv, hq⟩ := hm.q
 refine (rbadd8_any w B r lv R f x Z1 hq hx (by simp [At.pl] at hn; omega) hf (Sz8.of hk hkp) h.kd h.so (by omega)).mono ?_
 rintro e Z2 ⟨c, R', hc, rfl, h1, h2, h3⟩
 refine ⟨?_, ⟨R', hm.en h3 h2 h1 (h.kd.perm ⟨hk, hkp⟩ h2), ?_⟩, ?_⟩
 ·congr 5
  cases c with
  | true => exact (decide_eq_true (hc.1 rfl)).symm
  | false => exact (decide_eq_false fun hm => by have := hc.2 hm; cases this).symm
 ·rw [sz8_perm h2, sz8_add]
  split <;> omega
 ·obtain ⟨B', lv', -, k2, -⟩ := h3
  exact k2
theorem dfacts1 (h : DO8 w A B b r M T R Z) (hl : R.length <= 1048576) (hM : M <= 5000000000000) (parts : Int) : Calls Tryz.prog 17 #[.pointer (some ⟨b, 0, none⟩), .int .i64 parts] Z fun e Z1 => ∃ fv Q, e = .returned fv /\ AL8 Z1 Z.heap.size fv Q /\ Q.map Prod.fst = ((Ei R).filter fun x => hp7 parts x.2).map Prod.fst /\ Q.length <= 1048576 /\ MI8 w A B b r (M + (Ei R).length) T (Ei R) R Z Z1 := by
 refine (bp_facts h.p parts (by rw [Ei_len]; omega) (by omega)).mono ?_
 rintro e Z1 ⟨fv, Q, A', rfl, h1, h2, h3, h4, h5, h6, -⟩
 have e := facts_eq h2 h3 (so9_filter h.so _)
 refine ⟨fv, Q, rfl, h1, e, ?_, h.mi h4 h5 h6⟩
 have h7 := congrArg List.length e
 rw [List.length_map, List.length_map] at h7
 have h8 := List.length_filter_le (fun x : At × Int => hp7 parts x.2) (Ei R)
 rw [Ei_len] at h8
 omega
theorem dfind1 (h : DO8 w A B b r M T R Z) (hl : R.length <= 1048576) (hM : M <= 5000000000000) (parts : Int) (f : At) (x : Value) (hx : TsP Z x f.args) (hk : ∀ t ∈ f.pl, KeyT t) (hkp : KeyP f.pd8) (hn : f.pl.length <= 1048576) : Calls Tryz.prog 12 #[.pointer (some ⟨b, 0, none⟩), .int .i64 parts, f.v x] Z fun e Z1 => ∃ fv Q, e = .returned fv /\ AL8 Z1 Z.heap.size fv Q /\ Q.map Prod.fst = ((Ei R).filter fun x => hp7 parts x.2 && mt8 f x.1).map Prod.fst /\ Q.length <= 1048576 /\ MI8 w A B b r (M + 1) T (Ei R) R Z Z1 := by
 refine (bp_lfound h.p parts f x hx (fun t ht _ => hk t ht) hkp (by omega) (by rw [Ei_len]; omega) (by omega)).mono ?_
 rintro e Z1 ⟨fv, Q, A', rfl, h1, h2, h3, h4, h5, h6, -⟩
 have e := facts_eq h2 h3 (so9_filter h.so _)
 refine ⟨fv, Q, rfl, h1, e, ?_, h.mi h4 h5 h6⟩
 have h7 := congrArg List.length e
 rw [List.length_map, List.length_map] at h7
 have h8 := List.length_filter_le (fun x : At × Int => hp7 parts x.2 && mt8 f x.1) (Ei R)
 rw [Ei_len] at h8
 omega
end
theorem same8 {V : World} {base base' : Nat} {fv v : Value} {Q : List (At × Nat)} {Q' : List (At × Value)} {L : List At} (h : AL8 V base fv Q) (h' : FL8 V base' v Q') (e : Q.map Prod.fst = L) (e' : Q'.map Prod.fst = L) (hl : Q.length <= 1048576) : Calls Tryz.prog 19 #[fv, v] V fun e w' => e = .returned (.bool true) /\ Below V.heap.size V w' := by
 have hl' : Q'.length = Q.length := by
  have := congrArg List.length (e.trans e'.symm)
  rw [List.length_map, List.length_map] at this
  exact this.symm
 have := sameAtoms_any (Q.map enc8) Q' fv v V (h.as (by omega)) (h'.as (by omega))
 rw [decide_eq_true (show fsts (Q.map enc8) = fsts Q' by
  show (Q.map enc8).map Prod.fst = Q'.map Prod.fst
  rw [e', <- e, List.map_map]; rfl)] at this
 exact this
end Go.Proofs.YtechceagghcipaaGreatDoor
