import Derived.Test.YtechceagghcipaaGreatDoorEG1
namespace Go.Proofs.YtechceagghcipaaGreatDoor
open Go.RowKit

def BP8 (w0 : World) (A : Nat -> Prop) (g m tb : Nat) (E : List (At × Int)) (Y : World) : Prop :=
 ∃ tv mn mr ga B T K s, BS w0 g tv mn mr ga B m T K s Y /\ In8 T K s /\ T.length <= tb /\ E.Perm (EL8 T K s) /\ ∀ b, A b ↔ PA8 g tv mn mr B K b
def BW8 (w0 : World) (A : Nat -> Prop) (g m tb : Nat) (E : List (At × Int)) (Y Y' : World) : Prop := ∃ A', BP8 w0 A' g m tb E Y' /\ Fr A Y Y' /\ ∀ b, A' b -> A b ∨ Y.heap.size <= b
section
variable {w0 : World} {A : Nat -> Prop} {g m tb : Nat} {E : List (At × Int)} {Y Y' : World}
theorem BP8.fr (h : BP8 w0 A g m tb E Y) {P : Nat -> Prop} (hf : Fr P Y Y') (hn : ∀ b, P b -> b < Y.heap.size -> ¬ A b /\ w0.heap.size <= b) : BP8 w0 A g m tb E Y' := by
 obtain ⟨tv, mn, mr, ga, B, T, K, s, h1, h2, h3, h4, h5⟩ := h
 exact ⟨tv, mn, mr, ga, B, T, K, s, h1.fr hf (fun b hb hl hc => (hn b hb hl).1 ((h5 b).2 hc)) (fun b hb hl => (hn b hb hl).2), h2, h3, h4, h5⟩
theorem BP8.below (h : BP8 w0 A g m tb E Y) (hb : Below Y.heap.size Y Y') : BP8 w0 A g m tb E Y' := h.fr (P := fun _ => False) (Fr.of hb) fun _ h => h.elim
theorem BP8.lt (h : BP8 w0 A g m tb E Y) {b : Nat} (hb : A b) : w0.heap.size <= b /\ b < Y.heap.size := by
 obtain ⟨tv, mn, mr, ga, B, T, K, s, h1, -, -, -, h5⟩ := h
 exact h1.lt ((h5 b).1 hb)
theorem BP8.bl (h : BP8 w0 A g m tb E Y) : Below w0.heap.size w0 Y := by
 obtain ⟨tv, mn, mr, ga, B, T, K, s, h1, -⟩ := h
 exact h1.bl
theorem BP8.pos (h : BP8 w0 A g m tb E Y) : ∀ x ∈ E, x.2 = 1 ∨ x.2 = 2 ∨ x.2 = 4 := fun x hx => by
 obtain ⟨tv, mn, mr, ga, B, T, K, s, -, h2, -, h4, -⟩ := h
 exact EL8_pos (h4.mem_iff.1 hx)
theorem BP8.perm (h : BP8 w0 A g m tb E Y) {E' : List (At × Int)} (hp : E'.Perm E) : BP8 w0 A g m tb E' Y := by
 obtain ⟨tv, mn, mr, ga, B, T, K, s, h1, h2, h3, h4, h5⟩ := h
 exact ⟨tv, mn, mr, ga, B, T, K, s, h1, h2, h3, hp.trans h4, h5⟩
theorem aE8_perm {E E' : List (At × Int)} (hp : E.Perm E') (f : At) : (aE8 E f).Perm (aE8 E' f) := by
 unfold aE8
 by_cases hm : f ∈ E.map Prod.fst
 ·rw [if_pos hm, if_pos ((hp.map Prod.fst).mem_iff.1 hm)]; exact hp
 ·rw [if_neg hm, if_neg fun hc => hm ((hp.map Prod.fst).mem_iff.2 hc)]; exact hp.append_right _
theorem bp_new (w0 Y : World) (hb : Below w0.heap.size w0 Y) : Calls Tryz.prog 16 #[] Y fun e Y' => ∃ g A, e = .returned (.pointer (some ⟨g, 0, none⟩)) /\ BP8 w0 A g 0 0 [] Y' /\ (∀ b, A b -> Y.heap.size <= b) /\ Below Y.heap.size Y Y' := by
 refine (bnew8_any w0 Y hb).mono ?_
 rintro e Y' ⟨g, mn, mr, rfl, h1, ⟨k1, k2, k3⟩, h3⟩
 refine ⟨g, _, rfl, ⟨_, _, _, _, _, _, _, _, h1, ⟨List.nodup_nil, nofun, nofun, nofun, by simp⟩, by simp, List.Perm.refl _, fun b => Iff.rfl⟩, fun b hb => ?_, h3⟩
 rcases hb with (rfl | hb | rfl) | rfl | ⟨p, hp, -⟩
 ·exact k1
 ·cases hb
 ·exact k2
 ·exact k3
 ·cases hp
theorem bp_add (h : BP8 w0 A g m tb E Y) (f : At) (x : Value) (hx : TsP Y x f.args) (hf : f.fact = true) (hk : ∀ t ∈ f.pl, KeyT t) (hkp : KeyP f.pd8) (hn : f.args.length <= 100000000) (ht : tb + f.pl.length <= 1000000000) (hE : E.length < 1000000000) :
  Calls Tryz.prog 10 #[.pointer (some ⟨g, 0, none⟩), f.v x] Y fun e Y' => ∃ c : Bool, (c = true ↔ f ∉ E.map Prod.fst) /\ e = .returned (.tuple #[.bool c, .int .i64 0]) /\ BW8 w0 A g m (tb + f.pl.length) (aE8 E f) Y Y' := by
 obtain ⟨tv, mn, mr, ga, B, T, K, s, h1, h2, h3, h4, h5⟩ := h
 have hEl := h4.length_eq
 have hKl := K_len h2
 have hwd : f.pl.length = (st8 K s f.pd8 f.args.length).wd := by
  by_cases hp : f.pd8 ∈ K
  ·have e : st8 K s f.pd8 f.args.length = s f.pd8 := if_pos hp
   obtain ⟨n, k1, -, k3, -⟩ := h2.ar _ hp
   have enn : n = f.args.length := by have : f.pd8.ar = (f.args.length : Int) := rfl; omega
   rw [e, k3, enn]
   simp [At.pl]
   omega
  ·have e : st8 K s f.pd8 f.args.length = New7 (1 + f.args.length) := if_neg hp
   rw [e]
   simp [At.pl, New7]
   omega
 have hc : (st8 K s f.pd8 f.args.length).rows.length < 10000000000 := by
  by_cases hp : f.pd8 ∈ K
  ·have e : st8 K s f.pd8 f.args.length = s f.pd8 := if_pos hp
   rw [e]
   have := rows_len h2 hp
   omega
  ·have e : st8 K s f.pd8 f.args.length = New7 (1 + f.args.length) := if_neg hp
   rw [e]
   simp [New7]
 refine (badd8_any w0 g tv mn mr ga B m T K s f x Y h1 hx hf hk hkp (by omega) (by omega) hwd hc).mono ?_
 rintro e Y' ⟨rfl, s', ⟨tv', ga', B', k1, k2, k3⟩, k4, k5⟩
 obtain ⟨q1, q2⟩ := add_EL8 h2 f hn (by omega) hc k4 k5
 have hm := add_mem h2 f
 refine ⟨_, ?_, rfl, _, ⟨tv', mn, mr, ga', B', _, _, s', k1, q1, ?_, (aE8_perm h4 f).trans q2.symm, fun b => Iff.rfl⟩, k2.mono fun b _ hb => (h5 b).2 hb, fun b hb => (k3 b hb).imp (h5 b).2 id⟩
 ·rw [decide_eq_true_eq, hm, (h4.map Prod.fst).mem_iff]
 ·have := ens8_len f.pl T
  omega
theorem bp_turn (h : BP8 w0 A g m tb E Y) (hE : E.length <= 100000000) : Calls Tryz.prog 11 #[.pointer (some ⟨g, 0, none⟩)] Y fun e Y' => e = .returned (.int .i64 (((E.filter fun x => hp7 4 x.2).length : Nat) : Int)) /\ BW8 w0 A g m tb (E.map fun x => (x.1, tE8 x.2)) Y Y' := by
 obtain ⟨tv, mn, mr, ga, B, T, K, s, h1, h2, h3, h4, h5⟩ := h
 have hEl := h4.length_eq
 have hKl := K_len h2
 refine (bturn8_any w0 g tv mn mr ga B m T K s Y h1 (by omega)).mono ?_
 rintro e Y' ⟨rfl, tv', ga', B', k1, k2, k3⟩
 refine ⟨?_, _, ⟨tv', mn, mr, ga', B', T, K, _, k1, turn_In8 h2, h3, ?_, fun b => Iff.rfl⟩, k2.mono fun b _ hb => (h5 b).2 hb, fun b hb => (k3 b hb).imp (h5 b).2 id⟩
 ·have e1 := len_sum h2 4
  have e2 : (fun p => len7 (s p) 4) = fun p => ((s p).rows.length : Int) - ((s p).xf : Int) := funext fun p => len7_four (s p)
  rw [e2] at e1
  rw [e1, (h4.filter _).length_eq]
 ·rw [turn_EL8 h2]
  exact h4.map _
theorem bp_part (h : BP8 w0 A g m tb E Y) (f : At) (x : Value) (hx : TsP Y x f.args) (hk : ∀ t ∈ f.pl, KeyT t) (hkp : KeyP f.pd8) (hl : f.pl.length <= 1000000000) :
  Calls Tryz.prog 73 #[.pointer (some ⟨g, 0, none⟩), f.v x] Y fun e Y' => ∃ q : Int, (∀ q', (f, q') ∈ E ↔ q' ≠ 0 /\ q = q') /\ e = .returned (.int .i64 q) /\ Below Y.heap.size Y Y' := by
 obtain ⟨tv, mn, mr, ga, B, T, K, s, h1, h2, h3, h4, h5⟩ := h
 refine (bpart8_any w0 g tv mn mr ga B m T K s f x Y h1 hx hk hkp hl).mono ?_
 rintro e Y' ⟨rfl, hb⟩
 exact ⟨_, fun q' => by rw [h4.mem_iff]; exact bpt8_mem h2 f q', rfl, hb⟩
theorem bp_len (h : BP8 w0 A g m tb E Y) (parts : Int) (hE : E.length <= 100000000) : Calls Tryz.prog 75 #[.pointer (some ⟨g, 0, none⟩), .int .i64 parts] Y fun e Y' => e = .returned (.int .i64 (((E.filter fun x => hp7 parts x.2).length : Nat) : Int)) /\ Below Y.heap.size Y Y' := by
 obtain ⟨tv, mn, mr, ga, B, T, K, s, h1, h2, h3, h4, h5⟩ := h
 have hEl := h4.length_eq
 have hKl := K_len h2
 refine (blen8_any w0 g tv mn mr ga B m T K s parts Y h1 (by omega)).mono ?_
 rintro e Y' ⟨rfl, hb⟩
 exact ⟨by rw [len_sum h2 parts, (h4.filter _).length_eq], hb⟩
def FW8 (w0 : World) (A : Nat -> Prop) (g m tb : Nat) (E : List (At × Int)) (L : List At) (Y : World) (e : Ending) (Y' : World) : Prop :=
 ∃ fv Q A', e = .returned fv /\ AL8 Y' Y.heap.size fv Q /\ srtC8 Q /\ (Q.map Prod.fst).Perm L /\ BP8 w0 A' g m tb E Y' /\ Fr A Y Y' /\ (∀ b, A' b -> A b ∨ Y.heap.size <= b) /\ ∀ b, (fv.ownBlock = some b ∨ ∃ x ∈ Q, x.2 = b) -> ¬ A' b
theorem bp_facts (h : BP8 w0 A g m tb E Y) (parts : Int) (hE : E.length <= 10000000) (hm : m <= 10000000000000) : Calls Tryz.prog 17 #[.pointer (some ⟨g, 0, none⟩), .int .i64 parts] Y (FW8 w0 A g (m + E.length) tb E ((E.filter fun x => hp7 parts x.2).map Prod.fst) Y) := by
 obtain ⟨tv, mn, mr, ga, B, T, K, s, h1, h2, h3, h4, h5⟩ := h
 have hEl := h4.length_eq
 have hKl := K_len h2
 have hfp := facts_perm h2 parts
 have hfl : (K.flatMap (fcp8 T s parts)).length <= 1000000000 := by
  have := hfp.length_eq
  rw [List.length_map] at this
  have := List.length_filter_le (fun x : At × Int => hp7 parts x.2) (EL8 T K s)
  omega
 refine (facts8_any w0 g tv mn mr ga B m T K s parts Y h1 (by omega) hm (fun p hp => ?_) hfl).mono ?_
 ·obtain ⟨n, k1, k2, -, k4⟩ := h2.ar p hp
  exact ⟨n, k1, by omega, k4⟩
 ·rintro e Y' ⟨fv, Q, B', rfl, q1, q2, q3, q4, q5, q6, q7⟩
  exact ⟨fv, Q, _, rfl, q1, q2, q3.trans (hfp.trans ((h4.filter _).map _).symm), ⟨tv, mn, mr, ga, B', T, K, s, q4.up (by omega), h2, h3, h4, fun b => Iff.rfl⟩, q5.mono fun b _ hb => (h5 b).2 hb, fun b hb => (q6 b hb).imp (h5 b).2 id, q7⟩
theorem bp_lfound (h : BP8 w0 A g m tb E Y) (parts : Int) (a : At) (x : Value) (hx : TsP Y x a.args) (hk : ∀ t ∈ a.pl, t.var = false -> KeyT t) (hkp : KeyP a.pd8) (hl : a.pl.length <= 1000000000) (hE : E.length <= 10000000) (hm : m <= 10000000000000) :
  Calls Tryz.prog 12 #[.pointer (some ⟨g, 0, none⟩), .int .i64 parts, a.v x] Y (FW8 w0 A g (m + 1) tb E ((E.filter fun x => hp7 parts x.2 && mt8 a x.1).map Prod.fst) Y) := by
 obtain ⟨tv, mn, mr, ga, B, T, K, s, h1, h2, h3, h4, h5⟩ := h
 have hEl := h4.length_eq
 have hfp := find_perm h2 parts a
 have hfl : (fo8 T K s parts a).length <= 1000000000000 := by
  have := hfp.length_eq
  rw [List.length_map] at this
  have := List.length_filter_le (fun x : At × Int => hp7 parts x.2 && mt8 a x.1) (EL8 T K s)
  omega
 refine (lfound8_any w0 g tv mn mr ga B m T K s parts a x Y h1 hx hk hkp hl (by omega) (fun hp => ?_) hfl).mono ?_
 ·obtain ⟨n, k1, k2, -, k4⟩ := h2.ar _ hp
  have enn : n = a.args.length := by have : a.pd8.ar = (a.args.length : Int) := rfl; omega
  subst enn
  exact k4
 ·rintro e Y' ⟨fv, Q, B', rfl, q1, q2, q3, q4, q5, q6, q7⟩
  exact ⟨fv, Q, _, rfl, q1, q2, q3.trans (hfp.trans ((h4.filter _).map _).symm), ⟨tv, mn, mr, ga, B', T, K, s, q4, h2, h3, h4, fun b => Iff.rfl⟩, q5.mono fun b _ hb => (h5 b).2 hb, fun b hb => (q6 b hb).imp (h5 b).2 id, q7⟩
def PW8 (E : List (At × Int)) (Y : World) (e : Ending) (Y' : World) : Prop := ∃ v l, e = .returned v /\ OwnP Y' Y.heap.size v l /\ l.Nodup /\ srt8P l /\ (∀ p, p ∈ l ↔ ∃ x ∈ E, x.1.pd8 = p) /\ Below Y.heap.size Y Y'
theorem bp_preds (h : BP8 w0 A g m tb E Y) (hE : E.length <= 10000000) : Calls Tryz.prog 18 #[.pointer (some ⟨g, 0, none⟩)] Y (PW8 E Y) := by
 obtain ⟨tv, mn, mr, ga, B, T, K, s, h1, h2, h3, h4, h5⟩ := h
 have hEl := h4.length_eq
 have hKl := K_len h2
 refine (preds8_any w0 g tv mn mr ga B m T K s Y h1 (by omega)).mono ?_
 rintro e Y' ⟨v, l, rfl, q1, q2, q3, q4⟩
 refine ⟨v, l, rfl, q1, q2.nodup_iff.2 h2.nd, q3, fun p => ?_, q4⟩
 rw [q2.mem_iff, preds_mem h2 p]
 exact ⟨fun ⟨x, hx, e⟩ => ⟨x, h4.mem_iff.2 hx, e⟩, fun ⟨x, hx, e⟩ => ⟨x, h4.mem_iff.1 hx, e⟩⟩
end
end Go.Proofs.YtechceagghcipaaGreatDoor
