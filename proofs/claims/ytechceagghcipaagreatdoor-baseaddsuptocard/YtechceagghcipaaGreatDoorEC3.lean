import Derived.Test.YtechceagghcipaaGreatDoorEC2
import Derived.Test.YtechceagghcipaaGreatDoorW3
namespace Go.Proofs.YtechceagghcipaaGreatDoor
open Go.RowKit
attribute [local go_sem ↓] Go.wp_at_zero Go.wp_at_succ

section
variable {w : World} {g : Nat} {tv : Value} {mn mr : Nat} {ga : Pd -> Nat} {B : Pd -> Nat -> Prop} {m : Nat} {T : List Tm} {K : List Pd} {s : Pd -> St7} {Y Y' : World}
theorem BS.low (h : BS w g tv mn mr ga B m T K s Y) {P : Nat -> Prop} (hf : Fr P Y Y') (hP : ∀ b, P b -> b < Y.heap.size -> w.heap.size <= b) : Below w.heap.size w Y' :=
 h.bl.trans (Fr.low (Fr.mono hf (Q := fun b => w.heap.size <= b) fun b hl hb => hP b hb hl) h.bl.size)
theorem BS.tab (h : BS w g tv mn mr ga B m T K s Y) {tv' : Value} {T' : List Tm} (ht : TB8 g tv' mn (.map (some mr)) T' Y') (hf : Fr (PB8 g tv mn) Y Y') (ha : ∀ b, tv'.ownBlock = some b -> tv.ownBlock = some b ∨ Y.heap.size <= b) :
  BS w g tv' mn mr ga B m T' K s Y' /\ ∀ b, PA8 g tv' mn mr B K b -> PA8 g tv mn mr B K b ∨ Y.heap.size <= b := by
 have hp : ∀ b, PB8 g tv' mn b -> PB8 g tv mn b ∨ Y.heap.size <= b := fun b hb => by
  rcases hb with rfl | hb | rfl
  ·exact Or.inl (Or.inl rfl)
  ·exact (ha b hb).elim (fun q => Or.inl (Or.inr (Or.inl q))) Or.inr
  ·exact Or.inl (Or.inr (Or.inr rfl))
 have hz := h.bl.size
 refine ⟨⟨ht, h.r.fr hf h.am, h.nd, h.kp, fun p hp' => (h.pt p hp').fr hf fun b hb _ => ⟨h.lo b (Or.inl hb), fun hq => (h.ap p hp' b hq).1 hb⟩, fun p hp' b hb => ⟨fun hq => ?_, (h.ap p hp' b hb).2⟩, h.a2, fun hq => ?_, fun b hb => ?_, h.low hf fun b hb _ => h.lo b (Or.inl hb)⟩, fun b hb => ?_⟩
 ·rcases hp b hq with q | q
  ·exact (h.ap p hp' b hb).1 q
  ·have := ((h.pt p hp').t b hb).2; omega
 ·rcases hp _ hq with q | q
  ·exact h.am q
  ·have := h.r.lt; omega
 ·rcases hb with hb | hb
  ·rcases hp b hb with q | q
   ·exact h.lo b (Or.inl q)
   ·omega
  ·exact h.lo b (Or.inr hb)
 ·rcases hb with hb | hb
  ·exact (hp b hb).elim (fun q => Or.inl (Or.inl q)) Or.inr
  ·exact Or.inl (Or.inr hb)
theorem BS.one (h : BS w g tv mn mr ga B m T K s Y) {p : Pd} (hp : p ∈ K) {x : St7} (hx : PX w (B p) (ga p) m x Y Y') :
  ∃ N, BS w g tv mn mr ga (up8 B p N) m T K (up8 s p x) Y' /\ Fr (B p) Y Y' /\ ∀ b, N b -> B p b ∨ Y.heap.size <= b := by
 obtain ⟨hf, N, hN, hn⟩ := hx
 have hlt := fun q hq b hb => ((h.pt q hq).t b hb).2
 have hm : ∀ {P : Pd -> Prop}, (∀ q ∈ K, q ≠ p -> P q) -> P p -> ∀ q ∈ K, P q := fun h1 h2 q hq => by
  by_cases e : q = p
  ·rw [e]; exact h2
  ·exact h1 q hq e
 refine ⟨N, ⟨h.t.fr hf fun b hb hq => (h.ap p hp b hq).1 hb, h.r.fr hf fun hq => (h.ap p hp _ hq).2 rfl, h.nd, h.kp, hm (fun q hq e => ?_) ?_, hm (fun q hq e => ?_) ?_, hm (fun q hq e => hm (fun r hr e' => ?_) ?_) (hm (fun r hr e' => ?_) ?_), h.am, h.lo, h.low hf fun b hb _ => ((h.pt p hp).t b hb).1⟩, hf, hn⟩
 ·rw [up8_other _ _ e, up8_other _ _ e]
  exact (h.pt q hq).fr hf fun b hb _ => ⟨((h.pt p hp).t b hb).1, h.a2 p hp q hq (Ne.symm e) b hb⟩
 ·rw [up8_same, up8_same]; exact hN
 ·rw [up8_other _ _ e]; exact h.ap q hq
 ·rw [up8_same]
  intro b hb
  rcases hn b hb with q | q
  ·exact h.ap p hp b q
  ·exact ⟨fun hq => by have := h.t.lt hq; omega, fun hq => by have := h.r.lt; omega⟩
 ·rw [up8_other _ _ e, up8_other _ _ e']; exact h.a2 q hq r hr
 ·intro _ b hb hc
  rw [up8_other _ _ e] at hb
  rw [up8_same] at hc
  rcases hn b hc with c | c
  ·exact h.a2 q hq p hp e b hb c
  ·have := hlt q hq b hb; omega
 ·intro _ b hb hc
  rw [up8_other _ _ e'] at hc
  rw [up8_same] at hb
  rcases hn b hb with c | c
  ·exact h.a2 p hp r hr (Ne.symm e') b c hc
  ·have := hlt r hr b hc; omega
 ·exact fun e => absurd rfl e
end
open Classical in
noncomputable def ky8 (K : List Pd) (p : Pd) : List Pd := if p ∈ K then K else K ++ [p]
open Classical in
noncomputable def st8 (K : List Pd) (s : Pd -> St7) (p : Pd) (n : Nat) : St7 := if p ∈ K then s p else New7 (1 + n)
def At.pd8 (a : At) : Pd := ⟨a.name, (a.args.length : Int)⟩
def BX8 (w : World) (g mn mr m : Nat) (T : List Tm) (K : List Pd) (s : Pd -> St7) (A : Nat -> Prop) (Y Y' : World) : Prop :=
 ∃ tv ga B, BS w g tv mn mr ga B m T K s Y' /\ Fr A Y Y' /\ ∀ b, PA8 g tv mn mr B K b -> A b ∨ Y.heap.size <= b
theorem relFor8_any (w : World) (g : Nat) (tv : Value) (mn mr : Nat) (ga : Pd -> Nat) (B : Pd -> Nat -> Prop) (m : Nat) (T : List Tm) (K : List Pd) (s : Pd -> St7) (a : At) (Y : World) (h : BS w g tv mn mr ga B m T K s Y) (hk : KeyP a.pd8) (hn : a.args.length <= 1000000000000) (hkl : K.length <= 1000000000000) :
  Calls Tryz.prog 32 #[.pointer (some ⟨g, 0, none⟩), .agg #[.string a.name, .int .i64 (a.args.length : Int)]] Y fun e Y' => ∃ ga' B' s', e = .returned (.pointer (some ⟨ga' a.pd8, 0, none⟩)) /\ BS w g tv mn mr ga' B' m T (ky8 K a.pd8) s' Y' /\ a.pd8 ∈ ky8 K a.pd8 /\ s' a.pd8 = st8 K s a.pd8 a.args.length /\ (∀ q, q ≠ a.pd8 -> s' q = s q) /\ Fr (fun b => b = mr) Y Y' /\ ∀ b, PA8 g tv mn mr B' (ky8 K a.pd8) b -> PA8 g tv mn mr B K b ∨ Y.heap.size <= b := by
 by_cases hp : a.pd8 ∈ K
 ·refine (relFor8_old w g tv mn mr ga B m T K s a.name a.args.length Y h hk hp).mono ?_
  rintro e Y' ⟨rfl, hb⟩
  have e1 : ky8 K a.pd8 = K := if_pos hp
  have e2 : st8 K s a.pd8 a.args.length = s a.pd8 := if_pos hp
  rw [e1, e2]
  exact ⟨ga, B, s, rfl, h.below hb, hp, rfl, fun _ _ => rfl, Fr.of hb, fun b hb => Or.inl hb⟩
 ·refine (relFor8_new w g tv mn mr ga B m T K s a.name a.args.length Y h hk hp hn hkl).mono ?_
  rintro e Y' ⟨g1, N, rfl, hs, hf, hN⟩
  have e1 : ky8 K a.pd8 = K ++ [a.pd8] := if_neg hp
  have e2 : st8 K s a.pd8 a.args.length = New7 (1 + a.args.length) := if_neg hp
  rw [e1, e2]
  refine ⟨up8 ga a.pd8 g1, up8 B a.pd8 N, up8 s a.pd8 (New7 (1 + a.args.length)), by rw [up8_same], hs, by simp, up8_same _ _ _, fun q hq => up8_other _ _ hq, hf, ?_⟩
  rintro b (hb | hb | ⟨q, hq, hb⟩)
  ·exact Or.inl (Or.inl hb)
  ·exact Or.inl (Or.inr (Or.inl hb))
  ·by_cases e : q = a.pd8
   ·subst e
    rw [up8_same] at hb
    exact Or.inr (hN b hb)
   ·rw [up8_other _ _ e] at hb
    rcases List.mem_append.1 hq with hq | hq
    ·exact Or.inl (Or.inr (Or.inr ⟨q, hq, hb⟩))
    ·exact absurd (List.mem_singleton.1 hq) e
end Go.Proofs.YtechceagghcipaaGreatDoor
