import Derived.Test.YtechceagghcipabGreatDoorEG1
import Derived.BigQuiet
import Derived.Test.YtechceagghcipabGreatDoorA1
import Derived.Test.YtechceagghcipabGreatDoorEB3
import Derived.Test.YtechceagghcipabGreatDoorRA2
import Derived.Test.YtechceagghcipabGreatDoorEB6
namespace Go.Proofs.YtechceagghcipabGreatDoor
open Go.RowKit
def BP8 (w0 : World) (A : Nat -> Prop) (g m tb : Nat) (E : List (At × Int)) (Y : World) : Prop :=
 ∃ tv mn mr ga B T K s, BS w0 g tv mn mr ga B m T K s Y /\ In8 T K s /\ T.length <= tb /\ E.Perm (EL8 T K s) /\ ∀ b, A b ↔ PA8 g tv mn mr B K b
def BW8 (w0 : World) (A : Nat -> Prop) (g m tb : Nat) (E : List (At × Int)) (Y Y' : World) : Prop := ∃ A', BP8 w0 A' g m tb E Y' /\ Fr A Y Y' /\ ∀ b, A' b -> A b ∨ Y.heap.size <= b
section
variable {w0 : World} {A : Nat -> Prop} {g m tb : Nat} {E : List (At × Int)} {Y Y' : World}
theorem BP8.fr (h : BP8 w0 A g m tb E Y) {P : Nat -> Prop} (hf : Fr P Y Y') (hn : ∀ b, P b -> b < Y.heap.size -> ¬ A b /\ w0.heap.size <= b) : BP8 w0 A g m tb E Y' := by
 obtain ⟨tv, mn, mr, ga, B, T, K, s, h1, h2, h3, h4, h5⟩ := h
 exact ⟨tv, mn, mr, ga, B, T, K, s, h1.fr hf (fun b hb hl hc => (hn b hb hl).1 ((h5 b).2 hc)) (fun b hb hl => (hn b hb hl).2), h2, h3, h4, h5⟩
theorem BP8.below (h : BP8 w0 A g m tb E Y) (hb : Below Y.heap.size Y Y') : BP8 w0 A g m tb E Y' := h.fr (P := fun _ => False) (Fr.of hb) fun _ h => h.elim
theorem BP8.lt (h : BP8 w0 A g m tb E Y) {b : Nat} (hb : A b) : w0.heap.size <= b /\ b < Y.heap.size := by
 obtain ⟨tv, mn, mr, ga, B, T, K, s, h1, -, -, -, h5⟩ := h
 exact h1.lt ((h5 b).1 hb)
theorem BP8.bl (h : BP8 w0 A g m tb E Y) : Below w0.heap.size w0 Y := by
 obtain ⟨tv, mn, mr, ga, B, T, K, s, h1, -⟩ := h
 exact h1.bl
theorem BP8.pos (h : BP8 w0 A g m tb E Y) : ∀ x ∈ E, x.2 = 1 ∨ x.2 = 2 ∨ x.2 = 4 := fun x hx => by
 obtain ⟨tv, mn, mr, ga, B, T, K, s, -, h2, -, h4, -⟩ := h
 exact EL8_pos (h4.mem_iff.1 hx)
theorem BP8.perm (h : BP8 w0 A g m tb E Y) {E' : List (At × Int)} (hp : E'.Perm E) : BP8 w0 A g m tb E' Y := by
 obtain ⟨tv, mn, mr, ga, B, T, K, s, h1, h2, h3, h4, h5⟩ := h
 exact ⟨tv, mn, mr, ga, B, T, K, s, h1, h2, h3, hp.trans h4, h5⟩
theorem aE8_perm {E E' : List (At × Int)} (hp : E.Perm E') (f : At) : (aE8 E f).Perm (aE8 E' f) := by
 unfold aE8
 by_cases hm : f ∈ E.map Prod.fst
 ·rw [if_pos hm, if_pos ((hp.map Prod.fst).mem_iff.1 hm)]; exact hp
 ·rw [if_neg hm, if_neg fun hc => hm ((hp.map Prod.fst).mem_iff.2 hc)]; exact hp.append_right _
theorem bp_new (w0 Y : World) (hb : Below w0.heap.size w0 Y) : Calls Tryz.prog 6 #[] Y fun e Y' => ∃ g A, e = .returned (.pointer (some ⟨g, 0, none⟩)) /\ BP8 w0 A g 0 0 [] Y' /\ (∀ b, A b -> Y.heap.size <= b) /\ Below Y.heap.size Y Y' := by
 refine (bnew8_any w0 Y hb).mono ?_
 rintro e Y' ⟨g, mn, mr, rfl, h1, ⟨k1, k2, k3⟩, h3⟩
 refine ⟨g, _, rfl, ⟨_, _, _, _, _, _, _, _, h1, ⟨List.nodup_nil, nofun, nofun, nofun, by simp⟩, by simp, List.Perm.refl _, fun b => Iff.rfl⟩, fun b hb => ?_, h3⟩
 rcases hb with (rfl | hb | rfl) | rfl | ⟨p, hp, -⟩
 ·exact k1
 ·cases hb
 ·exact k2
 ·exact k3
 ·cases hp
theorem bp_add (h : BP8 w0 A g m tb E Y) (f : At) (x : Value) (hx : TsP Y x f.args) (hf : f.fact = true) (hk : ∀ t ∈ f.pl, KeyT t) (hkp : KeyP f.pd8) (hn : f.args.length <= 100000000) (ht : tb + f.pl.length <= 1000000000) (hE : E.length < 1000000000) :
  Calls Tryz.prog 12 #[.pointer (some ⟨g, 0, none⟩), f.v x] Y fun e Y' => ∃ c : Bool, (c = true ↔ f ∉ E.map Prod.fst) /\ e = .returned (.tuple #[.bool c, .int .i64 0]) /\ BW8 w0 A g m (tb + f.pl.length) (aE8 E f) Y Y' := by
 obtain ⟨tv, mn, mr, ga, B, T, K, s, h1, h2, h3, h4, h5⟩ := h
 have hEl := h4.length_eq
 have hKl := K_len h2
 have hwd : f.pl.length = (st8 K s f.pd8 f.args.length).wd := by
  by_cases hp : f.pd8 ∈ K
  ·have e : st8 K s f.pd8 f.args.length = s f.pd8 := if_pos hp
   obtain ⟨n, k1, -, k3, -⟩ := h2.ar _ hp
   have enn : n = f.args.length := by have : f.pd8.ar = (f.args.length : Int) := rfl; omega
   rw [e, k3, enn]
   simp [At.pl]
   omega
  ·have e : st8 K s f.pd8 f.args.length = New7 (1 + f.args.length) := if_neg hp
   rw [e]
   simp [At.pl, New7]
   omega
 have hc : (st8 K s f.pd8 f.args.length).rows.length < 10000000000 := by
  by_cases hp : f.pd8 ∈ K
  ·have e : st8 K s f.pd8 f.args.length = s f.pd8 := if_pos hp
   rw [e]
   have := rows_len h2 hp
   omega
  ·have e : st8 K s f.pd8 f.args.length = New7 (1 + f.args.length) := if_neg hp
   rw [e]
   simp [New7]
 refine (badd8_any w0 g tv mn mr ga B m T K s f x Y h1 hx hf hk hkp (by omega) (by omega) hwd hc).mono ?_
 rintro e Y' ⟨rfl, s', ⟨tv', ga', B', k1, k2, k3⟩, k4, k5⟩
 obtain ⟨q1, q2⟩ := add_EL8 h2 f hn (by omega) hc k4 k5
 have hm := add_mem h2 f
 refine ⟨_, ?_, rfl, _, ⟨tv', mn, mr, ga', B', _, _, s', k1, q1, ?_, (aE8_perm h4 f).trans q2.symm, fun b => Iff.rfl⟩, k2.mono fun b _ hb => (h5 b).2 hb, fun b hb => (k3 b hb).imp (h5 b).2 id⟩
 ·rw [decide_eq_true_eq, hm, (h4.map Prod.fst).mem_iff]
 ·have := ens8_len f.pl T
  omega
theorem bp_turn (h : BP8 w0 A g m tb E Y) (hE : E.length <= 100000000) : Calls Tryz.prog 14 #[.pointer (some ⟨g, 0, none⟩)] Y fun e Y' => e = .returned (.int .i64 (((E.filter fun x => hp7 4 x.2).length : Nat) : Int)) /\ BW8 w0 A g m tb (E.map fun x => (x.1, tE8 x.2)) Y Y' := by
 obtain ⟨tv, mn, mr, ga, B, T, K, s, h1, h2, h3, h4, h5⟩ := h
 have hEl := h4.length_eq
 have hKl := K_len h2
 refine (bturn8_any w0 g tv mn mr ga B m T K s Y h1 (by omega)).mono ?_
 rintro e Y' ⟨rfl, tv', ga', B', k1, k2, k3⟩
 refine ⟨?_, _, ⟨tv', mn, mr, ga', B', T, K, _, k1, turn_In8 h2, h3, ?_, fun b => Iff.rfl⟩, k2.mono fun b _ hb => (h5 b).2 hb, fun b hb => (k3 b hb).imp (h5 b).2 id⟩
 ·have e1 := len_sum h2 4
  have e2 : (fun p => len7 (s p) 4) = fun p => ((s p).rows.length : Int) - ((s p).xf : Int) := funext fun p => len7_four (s p)
  rw [e2] at e1
  rw [e1, (h4.filter _).length_eq]
 ·rw [turn_EL8 h2]
  exact h4.map _
theorem bp_part (h : BP8 w0 A g m tb E Y) (f : At) (x : Value) (hx : TsP Y x f.args) (hk : ∀ t ∈ f.pl, KeyT t) (hkp : KeyP f.pd8) (hl : f.pl.length <= 1000000000) :
  Calls Tryz.prog 16 #[.pointer (some ⟨g, 0, none⟩), f.v x] Y fun e Y' => ∃ q : Int, (∀ q', (f, q') ∈ E ↔ q' ≠ 0 /\ q = q') /\ e = .returned (.int .i64 q) /\ Below Y.heap.size Y Y' := by
 obtain ⟨tv, mn, mr, ga, B, T, K, s, h1, h2, h3, h4, h5⟩ := h
 refine (bpart8_any w0 g tv mn mr ga B m T K s f x Y h1 hx hk hkp hl).mono ?_
 rintro e Y' ⟨rfl, hb⟩
 exact ⟨_, fun q' => by rw [h4.mem_iff]; exact bpt8_mem h2 f q', rfl, hb⟩
theorem bp_len (h : BP8 w0 A g m tb E Y) (parts : Int) (hE : E.length <= 100000000) : Calls Tryz.prog 18 #[.pointer (some ⟨g, 0, none⟩), .int .i64 parts] Y fun e Y' => e = .returned (.int .i64 (((E.filter fun x => hp7 parts x.2).length : Nat) : Int)) /\ Below Y.heap.size Y Y' := by
 obtain ⟨tv, mn, mr, ga, B, T, K, s, h1, h2, h3, h4, h5⟩ := h
 have hEl := h4.length_eq
 have hKl := K_len h2
 refine (blen8_any w0 g tv mn mr ga B m T K s parts Y h1 (by omega)).mono ?_
 rintro e Y' ⟨rfl, hb⟩
 exact ⟨by rw [len_sum h2 parts, (h4.filter _).length_eq], hb⟩
def FW8 (w0 : World) (A : Nat -> Prop) (g m tb : Nat) (E : List (At × Int)) (L : List At) (Y : World) (e : Ending) (Y' : World) : Prop :=
 ∃ fv Q A', e = .returned fv /\ AL8 Y' Y.heap.size fv Q /\ srtC8 Q /\ (Q.map Prod.fst).Perm L /\ BP8 w0 A' g m tb E Y' /\ Fr A Y Y' /\ (∀ b, A' b -> A b ∨ Y.heap.size <= b) /\ ∀ b, (fv.ownBlock = some b ∨ ∃ x ∈ Q, x.2 = b) -> ¬ A' b
theorem bp_facts (h : BP8 w0 A g m tb E Y) (parts : Int) (hE : E.length <= 10000000) (hm : m <= 10000000000000) : Calls Tryz.prog 21 #[.pointer (some ⟨g, 0, none⟩), .int .i64 parts] Y (FW8 w0 A g (m + E.length) tb E ((E.filter fun x => hp7 parts x.2).map Prod.fst) Y) := by
 obtain ⟨tv, mn, mr, ga, B, T, K, s, h1, h2, h3, h4, h5⟩ := h
 have hEl := h4.length_eq
 have hKl := K_len h2
 have hfp := facts_perm h2 parts
 have hfl : (K.flatMap (fcp8 T s parts)).length <= 1000000000 := by
  have := hfp.length_eq
  rw [List.length_map] at this
  have := List.length_filter_le (fun x : At × Int => hp7 parts x.2) (EL8 T K s)
  omega
 refine (facts8_any w0 g tv mn mr ga B m T K s parts Y h1 (by omega) hm (fun p hp => ?_) hfl).mono ?_
 ·obtain ⟨n, k1, k2, -, k4⟩ := h2.ar p hp
  exact ⟨n, k1, by omega, k4⟩
 ·rintro e Y' ⟨fv, Q, B', rfl, q1, q2, q3, q4, q5, q6, q7⟩
  exact ⟨fv, Q, _, rfl, q1, q2, q3.trans (hfp.trans ((h4.filter _).map _).symm), ⟨tv, mn, mr, ga, B', T, K, s, q4.up (by omega), h2, h3, h4, fun b => Iff.rfl⟩, q5.mono fun b _ hb => (h5 b).2 hb, fun b hb => (q6 b hb).imp (h5 b).2 id, q7⟩
theorem bp_lfound (h : BP8 w0 A g m tb E Y) (parts : Int) (a : At) (x : Value) (hx : TsP Y x a.args) (hk : ∀ t ∈ a.pl, t.var = false -> KeyT t) (hkp : KeyP a.pd8) (hl : a.pl.length <= 1000000000) (hE : E.length <= 10000000) (hm : m <= 10000000000000) :
  Calls Tryz.prog 26 #[.pointer (some ⟨g, 0, none⟩), .int .i64 parts, a.v x] Y (FW8 w0 A g (m + 1) tb E ((E.filter fun x => hp7 parts x.2 && mt8 a x.1).map Prod.fst) Y) := by
 obtain ⟨tv, mn, mr, ga, B, T, K, s, h1, h2, h3, h4, h5⟩ := h
 have hEl := h4.length_eq
 have hfp := find_perm h2 parts a
 have hfl : (fo8 T K s parts a).length <= 1000000000000 := by
  have := hfp.length_eq
  rw [List.length_map] at this
  have := List.length_filter_le (fun x : At × Int => hp7 parts x.2 && mt8 a x.1) (EL8 T K s)
  omega
 refine (lfound8_any w0 g tv mn mr ga B m T K s parts a x Y h1 hx hk hkp hl (by omega) (fun hp => ?_) hfl).mono ?_
 ·obtain ⟨n, k1, k2, -, k4⟩ := h2.ar _ hp
  have enn : n = a.args.length := by have : a.pd8.ar = (a.args.length : Int) := rfl; omega
  subst enn
  exact k4
 ·rintro e Y' ⟨fv, Q, B', rfl, q1, q2, q3, q4, q5, q6, q7⟩
  exact ⟨fv, Q, _, rfl, q1, q2, q3.trans (hfp.trans ((h4.filter _).map _).symm), ⟨tv, mn, mr, ga, B', T, K, s, q4, h2, h3, h4, fun b => Iff.rfl⟩, q5.mono fun b _ hb => (h5 b).2 hb, fun b hb => (q6 b hb).imp (h5 b).2 id, q7⟩
def PW8 (E : List (At × Int)) (Y : World) (e : Ending) (Y' : World) : Prop := ∃ v l, e = .returned v /\ OwnP Y' Y.heap.size v l /\ l.Nodup /\ srt8P l /\ (∀ p, p ∈ l ↔ ∃ x ∈ E, x.1.pd8 = p) /\ Below Y.heap.size Y Y'
theorem bp_preds (h : BP8 w0 A g m tb E Y) (hE : E.length <= 10000000) : Calls Tryz.prog 24 #[.pointer (some ⟨g, 0, none⟩)] Y (PW8 E Y) := by
 obtain ⟨tv, mn, mr, ga, B, T, K, s, h1, h2, h3, h4, h5⟩ := h
 have hEl := h4.length_eq
 have hKl := K_len h2
 refine (preds8_any w0 g tv mn mr ga B m T K s Y h1 (by omega)).mono ?_
 rintro e Y' ⟨v, l, rfl, q1, q2, q3, q4⟩
 refine ⟨v, l, rfl, q1, q2.nodup_iff.2 h2.nd, q3, fun p => ?_, q4⟩
 rw [q2.mem_iff, preds_mem h2 p]
 exact ⟨fun ⟨x, hx, e⟩ => ⟨x, h4.mem_iff.2 hx, e⟩, fun ⟨x, hx, e⟩ => ⟨x, h4.mem_iff.1 hx, e⟩⟩
end
end Go.Proofs.YtechceagghcipabGreatDoor
namespace Go.Proofs.YtechceagghcipabGreatDoor
open Go.RowKit
attribute [local go_sem ↓] Go.wp_at_zero Go.wp_at_succ
def p8 (k : Int) : At := ⟨⟨0, 0, ⟨#[]⟩⟩, ⟨#[112]⟩, [⟨1, k, ⟨#[]⟩⟩]⟩
set_option maxRecDepth 20000 in
set_option maxHeartbeats 1000000 in
theorem lfact8_any (k : Int) (Y : World) : Calls Tryz.prog 29 #[.int .i64 k] Y fun e Y' => ∃ A, e = .returned ((p8 k).v (.slice (some ⟨A, 0, none⟩) 1 1)) /\ TBlk Y' A [⟨1, k, ⟨#[]⟩⟩] 1 /\ Y.heap.size <= A /\ Below Y.heap.size Y Y' := by
 go_enter Tryz.func29, Tryz.ntmps29
 go_wp2
 have hb := below2 Y (.cells #[.int .i64 0, .int .i64 0, .string ⟨#[]⟩, .string ⟨#[112]⟩, .slice (some ⟨Y.heap.size + 1, 0, none⟩) 1 1] 33) (.cells #[.int .i64 1, .int .i64 k, .string ⟨#[]⟩] 30)
 have hx := (Bk.new Y #[.int .i64 0, .int .i64 0, .string ⟨#[]⟩, .string ⟨#[112]⟩, .slice (some ⟨Y.heap.size + 1, 0, none⟩) 1 1] 33).below (below1 _ (.cells #[.int .i64 1, .int .i64 k, .string ⟨#[]⟩] 30))
 have ht : TBlk ((Y.alloc (.cells #[.int .i64 0, .int .i64 0, .string ⟨#[]⟩, .string ⟨#[112]⟩, .slice (some ⟨Y.heap.size + 1, 0, none⟩) 1 1] 33)).alloc (.cells #[.int .i64 1, .int .i64 k, .string ⟨#[]⟩] 30)) (Y.heap.size + 1) [⟨1, k, ⟨#[]⟩⟩] 1 := by
  have h1 := Bk.new (Y.alloc (.cells #[.int .i64 0, .int .i64 0, .string ⟨#[]⟩, .string ⟨#[112]⟩, .slice (some ⟨Y.heap.size + 1, 0, none⟩) 1 1] 33)) #[.int .i64 1, .int .i64 k, .string ⟨#[]⟩] 30
  rw [show (Y.alloc (.cells #[.int .i64 0, .int .i64 0, .string ⟨#[]⟩, .string ⟨#[112]⟩, .slice (some ⟨Y.heap.size + 1, 0, none⟩) 1 1] 33)).heap.size = Y.heap.size + 1 by simp] at h1
  refine ⟨_, h1, rfl, fun j t hj ht => ?_⟩
  obtain rfl : j = 0 := by omega
  cases ht
  exact ⟨rfl, rfl, rfl⟩
 obtain ⟨⟨r0, r1⟩, r2, r3, r4⟩ := five8 hx
 exact bodyPost_ret (v := (p8 k).v (.slice (some ⟨Y.heap.size + 1, 0, none⟩) 1 1)) (by simp [results, Tryz.results29, go_sem, r0, r1, r2, r3, r4, p8]) rfl ⟨Y.heap.size + 1, rfl, ht, by omega, hb⟩
set_option maxRecDepth 20000 in
set_option maxHeartbeats 1000000 in
theorem lpreds8_yes (l : List Pd) (x y : Value) (Y : World) (hx : PsP Y x l) (hy : PsP Y y l) (hl : l.length <= 1000000000) : Calls Tryz.prog 23 #[x, y] Y fun e Y' => e = .returned (.bool true) /\ Below Y.heap.size Y Y' := by
 obtain ⟨ad, cap, rfl, h⟩ : ∃ ad cap, x = .slice ad l.length cap /\ (l = [] ∨ ∃ b o, ad = some ⟨b, o, none⟩ /\ PRow Y b o l) := by
  rcases hx with ⟨rfl, rfl⟩ | ⟨ad, cap, rfl, h⟩
  ·exact ⟨none, 0, rfl, Or.inl rfl⟩
  ·refine ⟨some ad, cap, rfl, ?_⟩
   rcases h with h | ⟨b, o, rfl, h⟩
   ·exact Or.inl h
   ·exact Or.inr ⟨b, o, rfl, h⟩
 obtain ⟨ad', cap', rfl, h'⟩ : ∃ ad cap, y = .slice ad l.length cap /\ (l = [] ∨ ∃ b o, ad = some ⟨b, o, none⟩ /\ PRow Y b o l) := by
  rcases hy with ⟨rfl, rfl⟩ | ⟨ad, cap, rfl, h⟩
  ·exact ⟨none, 0, rfl, Or.inl rfl⟩
  ·refine ⟨some ad, cap, rfl, ?_⟩
   rcases h with h | ⟨b, o, rfl, h⟩
   ·exact Or.inl h
   ·exact Or.inr ⟨b, o, rfl, h⟩
 clear hx hy
 go_enter Tryz.func23, Tryz.ntmps23
 go_wp2
 go_loopg [5] l.length (fun g i wr => ∃ j : Nat, j + g = l.length /\ i = .int .i64 j /\ Below Y.heap.size Y wr)
 case atStart => exact ⟨0, by omega, rfl, Below.refl _ _⟩
 case round =>
  obtain ⟨j, hj, rfl, hb⟩ := hrel
  have HB := hm7 hb
  cases gk with
  | succ g =>
   have hlt : (j : Int) < (l.length : Int) := by omega
   have j0 : (0 : Int) <= (j : Int) := by omega
   obtain ⟨t, ht⟩ : ∃ t, l[j]? = some t := ⟨_, List.getElem?_eq_getElem (by omega)⟩
   rcases h with h | ⟨b1, o1, rfl, h⟩
   ·subst h; simp at hj
   rcases h' with h' | ⟨b2, o2, rfl, h'⟩
   ·subst h'; simp at ht
   obtain ⟨a0, a1⟩ := (h.later hb).2 j t ht
   obtain ⟨c0, c1⟩ := (h'.later hb).2 j t ht
   obtain ⟨s, n⟩ := t
   simp only at a0 a1 c0 c1
   clear h h' hb
   go_upto_region 6 with fail
   go_quiet (fail)
   go_wp2
   go_roundg g
   case measure => omega
   case rel => exact ⟨j + 1, by omega, by go_num, below_drewN HB.out _⟩
  | zero =>
   have hlt : ¬ (j : Int) < (l.length : Int) := by omega
   go_wp2
   go_ret
   exact ⟨rfl, HB.out⟩
end Go.Proofs.YtechceagghcipabGreatDoor
namespace Go.Proofs.YtechceagghcipabGreatDoor
open Go.RowKit
attribute [local go_sem ↓] Go.wp_at_zero Go.wp_at_succ
theorem TBlk.own {w : World} {B g : Nat} {l : List Tm} {n : Nat} (hn : n = l.length) (hl : n <= 4398046511104) (hB : B <= g) (h : TBlk w g l n) : OwnT w B (.slice (some ⟨g, 0, none⟩) n n) l := by
 subst hn
 obtain ⟨C, h1, h2, h3⟩ := h
 refine ⟨tcs_len l, Or.inr ⟨g, l.length, C, rfl, hB, h1, Nat.le_refl _, by unfold maxLen; omega, h2, ?_⟩⟩
 rw [List.take_of_length_le (by rw [Array.length_toList, h2]; exact Nat.le_refl _)]
 apply List.ext_getElem?
 intro j
 by_cases hj : j < l.length * 3
 ·have hq : j / 3 < l.length := by omega
  obtain ⟨d, hd⟩ : ∃ d, l[j / 3]? = some d := ⟨_, List.getElem?_eq_getElem hq⟩
  have hg := tcs_get l (j / 3) d hd (j % 3) (by omega)
  rw [show j / 3 * 3 + j % 3 = j by omega] at hg
  obtain ⟨a, b, c⟩ := h3 (j / 3) d hq hd
  rw [hg, Array.getElem?_toList]
  have h4 : j % 3 = 0 ∨ j % 3 = 1 ∨ j % 3 = 2 := by omega
  rcases h4 with e | e | e
  ·rw [e, show j = j / 3 * 3 by omega, a]; rfl
  ·rw [e, show j = j / 3 * 3 + 1 by omega, b]; rfl
  ·rw [e, show j = j / 3 * 3 + 2 by omega, c]; rfl
 ·rw [List.getElem?_eq_none (by rw [Array.length_toList]; omega), List.getElem?_eq_none (by rw [tcs_len]; omega)]
end Go.Proofs.YtechceagghcipabGreatDoor
namespace Go.Proofs.YtechceagghcipabGreatDoor
open Go.RowKit
attribute [local go_sem ↓] Go.wp_at_zero Go.wp_at_succ
theorem wfI8 {k : Int} (h1 : -9223372036854775808 <= k) (h2 : k <= 9223372036854775807) : (Lit.int .i64 k).wf = true := by
 have e1 : IntKind.i64.min = -9223372036854775808 := by decide
 have e2 : IntKind.i64.max = 9223372036854775807 := by decide
 simp only [Lit.wf, e1, e2, Bool.and_eq_true, decide_eq_true_eq]
 exact ⟨h1, h2⟩
theorem keyT_of {k n : Int} {s : ByteArray} (h1 : -9223372036854775808 <= k) (h2 : k <= 9223372036854775807) (h3 : -9223372036854775808 <= n) (h4 : n <= 9223372036854775807) (h5 : s.size <= 1000000000) : KeyT ⟨k, n, s⟩ := ⟨wfI8 h1 h2, wfI8 h3 h4, by show s.size <= maxLen; unfold maxLen; omega⟩
theorem p8_pl : (p8 5).pl = [⟨0, 0, ⟨#[]⟩⟩, ⟨1, 5, ⟨#[]⟩⟩] := rfl
theorem p8_keys : ∀ t ∈ (p8 5).pl, KeyT t := fun t ht => by
 rw [p8_pl] at ht
 rcases List.mem_cons.1 ht with rfl | ht
 ·exact keyT_of (by decide) (by decide) (by decide) (by decide) (by decide)
 ·obtain rfl := List.mem_singleton.1 ht
  exact keyT_of (by decide) (by decide) (by decide) (by decide) (by decide)
theorem p8_keyp : KeyP (p8 5).pd8 := ⟨by show (ByteArray.mk #[112]).size <= maxLen; unfold maxLen; decide, wfI8 (by decide) (by decide)⟩
theorem p8_fact : (p8 5).fact = true := by decide
theorem TBlk.tsP8 {w : World} {g : Nat} {l : List Tm} {n : Nat} (hn : n = l.length) (hl : n <= 4398046511104) (h : TBlk w g l n) : TsP w (.slice (some ⟨g, 0, none⟩) n n) l := (h.own hn hl (Nat.zero_le _)).tsP
set_option maxRecDepth 20000 in
set_option maxHeartbeats 1000000 in
theorem first8_any (Y : World) : Calls Tryz.prog 9 #[] Y fun e Y' => e = .returned (.bool true) /\ Below Y.heap.size Y Y' := by
 go_enter Tryz.func9, Tryz.ntmps9
 go_upto_region 4 with (go_at_call 6; refine (bp_new Y Y (Below.refl _ _)).mono ?_; rintro e W1 ⟨g, A, rfl, h1, -, -⟩; have H1 := hm7 h1; clear h1)
 go_upto_region 5 with (first | (go_at_call 29; refine (lfact8_any 5 _).mono ?_; rintro e W2 ⟨B1, rfl, ht, -, hb⟩; have HT1 := hm7 (TBlk.tsP8 rfl (by decide) ht); have H2 := hm7 (H1.out.below hb); clear ht hb H1) | (go_at_call 12; refine (bp_add H2.out (p8 5) _ HT1.out p8_fact p8_keys p8_keyp (by decide) (by decide) (by decide)).mono ?_; rintro e W3 ⟨c, hc, rfl, A3, h3, -, -⟩; clear HT1 H2; obtain rfl : c = true := hc.2 (by simp); have H3 := hm7 h3; clear h3 hc))
 go_upto_region 6 with (first | (go_at_call 29; refine (lfact8_any 5 _).mono ?_; rintro e W4 ⟨B2, rfl, ht, -, hb⟩; have HT2 := hm7 (TBlk.tsP8 rfl (by decide) ht); have H4 := hm7 (H3.out.below hb); clear ht hb H3) | (go_at_call 12; refine (bp_add H4.out (p8 5) _ HT2.out p8_fact p8_keys p8_keyp (by decide) (by decide) (by decide)).mono ?_; rintro e W5 ⟨c, hc, rfl, A5, h5, -, -⟩; clear HT2 H4; obtain rfl : c = false := (Bool.eq_false_iff.2 fun h => hc.1 h (by simp [aE8])); have H5 := hm7 h5; clear h5 hc))
 have e5 : aE8 (aE8 [] (p8 5)) (p8 5) = [(p8 5, 4)] := by simp [aE8]
 rw [e5] at H5
 clear e5
 go_upto_region 7 with (go_at_call 14; refine (bp_turn H5.out (by decide)).mono ?_; rintro e W6 ⟨rfl, A6, h6, -, -⟩; have H6 := hm7 h6; clear h6 H5)
 have e6 : (((([(p8 5, (4 : Int))] : List (At × Int)).filter fun x => hp7 4 x.2).length : Nat) : Int) = 1 := by decide
 have e7 : (([(p8 5, (4 : Int))] : List (At × Int)).map fun x => (x.1, tE8 x.2)) = [(p8 5, 2)] := by simp [tE8]
 rw [e6]
 rw [e7] at H6
 clear e6 e7
 go_upto_region 8 with (go_at_call 21; refine (bp_facts H6.out 2 (by decide) (by decide)).mono ?_; rintro e W ⟨fv, Q, A7, rfl, q1, -, q3, q4, -, -, -⟩; have H7 := hm7 q1; have HP := hm7 q3; have HB := hm7 q4.bl; clear q1 q3 q4 H6)
 have e8 : ((([(p8 5, (2 : Int))] : List (At × Int)).filter fun x => hp7 2 x.2).map Prod.fst) = [p8 5] := by
  have : hp7 2 2 = true := by decide
  simp [this]
 obtain ⟨ab, rfl⟩ : ∃ ab, Q = [(p8 5, ab)] := by
  have h := HP.out
  rw [e8] at h
  have h2 := List.perm_singleton.1 h
  match Q, h2 with
  | [(x, ab)], h2 => exact ⟨ab, by rw [List.cons.inj h2 |>.1 |> (show x = p8 5 from ·)]⟩
 clear HP e8
 have h7 := H7.out
 have ho := h7.o.a
 have ht := (h7.t _ (List.mem_singleton.2 rfl)).1
 obtain ⟨gb, cap, rfl, hcap⟩ : ∃ g cap, fv = .slice (some ⟨g, 0, none⟩) 1 cap /\ 1 <= cap := by
  rcases ho.2 with ⟨-, h⟩ | ⟨g, cap, cur, rfl, -, -, hn, -⟩
  ·cases h
  ·exact ⟨g, cap, rfl, hn⟩
 have HR : Hid (∀ w', Below W.heap.size W w' -> ∀ i, i < 5 -> w'.cell? ⟨gb, i, none⟩ = (acell (enc8 (p8 5, ab)))[i]?) := fun w' h i hi => by
  have := (ho.later h).cells 0 _ rfl i hi
  simpa using this
 have HR0 : Hid (∀ w', Below W.heap.size W w' -> w'.cell? ⟨gb, 0, none⟩ = some (.int .i64 0)) := fun w' h => HR.out w' h 0 (by decide)
 have HR1 : Hid (∀ w', Below W.heap.size W w' -> w'.cell? ⟨gb, 1, none⟩ = some (.int .i64 0)) := fun w' h => HR.out w' h 1 (by decide)
 have HR2 : Hid (∀ w', Below W.heap.size W w' -> w'.cell? ⟨gb, 2, none⟩ = some (.string ⟨#[]⟩)) := fun w' h => HR.out w' h 2 (by decide)
 have HR3 : Hid (∀ w', Below W.heap.size W w' -> w'.cell? ⟨gb, 3, none⟩ = some (.string ⟨#[112]⟩)) := fun w' h => HR.out w' h 3 (by decide)
 have HR4 : Hid (∀ w', Below W.heap.size W w' -> w'.cell? ⟨gb, 4, none⟩ = some (.slice (some ⟨ab, 0, none⟩) 1 1)) := fun w' h => HR.out w' h 4 (by decide)
 have HSA : Hid (∀ (w' : World) (B : Nat), Below W.heap.size W w' -> TBlk w' B [⟨1, 5, ⟨#[]⟩⟩] 1 -> Calls Tryz.prog 30 #[.agg #[.int .i64 0, .int .i64 0, .string ⟨#[]⟩, .string ⟨#[112]⟩, .slice (some ⟨ab, 0, none⟩) 1 1], .agg #[.int .i64 0, .int .i64 0, .string ⟨#[]⟩, .string ⟨#[112]⟩, .slice (some ⟨B, 0, none⟩) 1 1]] w' fun e Y' => e = .returned (.bool true) /\ Below w'.heap.size w' Y') := fun w' B hw hB => by
  have := sameAtom_any (p8 5) (p8 5) (.slice (some ⟨ab, 0, none⟩) 1 1) (.slice (some ⟨B, 0, none⟩) 1 1) w' (TBlk.ts rfl (by decide) (ht.later hw)) (TBlk.ts rfl (by decide) hB)
  rw [decide_eq_true rfl] at this
  exact this
 clear h7 ho ht HR H7
 refine wp_region_held_drew (S := fun w' => Below W.heap.size W w') (by kernel_rfl) (by exact (Below.refl _ _).drew) (fun hH => ?_)
 revert hH
 generalize W.drew = V
 intro hH
 refine wTl 0 (.bool true) rfl (by kernel_rfl) (fun _ _ _ h => h) rfl (fun w' h => by clear h; go_simp) hH ?_
 simp only [wA, wB, wC, wD]
 refine wTl 1 (.bool true) rfl (by kernel_rfl) (fun _ _ _ h => h) rfl (fun w' h => by clear h; go_simp) hH ?_
 simp only [wA, wB, wC, wD]
 refine wTl 2 (.bool false) rfl (by kernel_rfl) (fun _ _ _ h => h) rfl (fun w' h => by clear h; go_simp) hH ?_
 simp only [wA, wB, wC, wD]
 refine wTl 3 (.bool true) rfl (by kernel_rfl) (fun _ _ _ h => h) rfl (fun w' h => by clear h; go_simp) hH ?_
 simp only [wA, wB, wC, wD]
 refine wTl 4 (.bool true) rfl (by kernel_rfl) (fun _ _ _ h => h) rfl (fun w' h => by clear h; go_simp) hH ?_
 simp only [wA, wB, wC, wD]
 refine wTl 5 (.bool true) rfl (by kernel_rfl) (fun _ _ _ h => h) rfl (fun w' h => by clear h; go_simp) hH ?_
 simp only [wA, wB, wC, wD]
 refine wTl 6 (.int .i64 0) rfl (by kernel_rfl) (fun _ _ _ h => h) rfl (fun w' h => by clear h; go_simp) hH ?_
 simp only [wA, wB, wC, wD]
 refine wTl 7 (.bool true) rfl (by kernel_rfl) (fun _ _ _ h => h) rfl (fun w' h => by clear h; go_simp) hH ?_
 simp only [wA, wB, wC, wD]
 refine wTl 8 (.bool true) rfl (by kernel_rfl) (fun _ _ _ h => h) rfl (fun w' h => by clear h; go_simp) hH ?_
 simp only [wA, wB, wC, wD]
 refine wTl 9 (.bool true) rfl (by kernel_rfl) (fun _ _ _ h => h) rfl (fun w' h => by clear h; go_simp) hH ?_
 simp only [wA, wB, wC, wD]
 refine wTl 10 (.int .i64 0) rfl (by kernel_rfl) (fun _ _ _ h => h) rfl (fun w' h => by clear h; go_simp) hH ?_
 simp only [wA, wB, wC, wD]
 refine wTl 11 (.bool true) rfl (by kernel_rfl) (fun _ _ _ h => h) rfl (fun w' h => by clear h; go_simp) hH ?_
 simp only [wA, wB, wC, wD]
 refine wTl 12 (.bool true) rfl (by kernel_rfl) (fun _ _ _ h => h) rfl (fun w' h => by clear h; go_simp) hH ?_
 simp only [wA, wB, wC, wD]
 refine wTl 13 (.bool true) rfl (by kernel_rfl) (fun _ _ _ h => h) rfl (fun w' h => by clear h; go_simp) hH ?_
 simp only [wA, wB, wC, wD]
 refine wTl 14 (.int .i64 1) rfl (by kernel_rfl) (fun _ _ _ h => h) rfl (fun w' h => by clear h; go_simp) hH ?_
 simp only [wA, wB, wC, wD]
 refine wTl 15 (.bool true) rfl (by kernel_rfl) (fun _ _ _ h => h) rfl (fun w' h => by clear h; go_simp) hH ?_
 simp only [wA, wB, wC, wD]
 refine wTl 16 (.bool true) rfl (by kernel_rfl) (fun _ _ _ h => h) rfl (fun w' h => by clear h; go_simp) hH ?_
 simp only [wA, wB, wC, wD]
 refine wTl 17 (.bool true) rfl (by kernel_rfl) (fun _ _ _ h => h) rfl (fun w' h => by clear h; go_simp) hH ?_
 simp only [wA, wB, wC, wD]
 refine wTl 18 (.slice (some ⟨gb, 0, none⟩) 1 cap) rfl (by kernel_rfl) (fun _ _ _ h => h) rfl (fun w' h => by clear h; go_simp) hH ?_
 simp only [wA, wB, wC, wD]
 refine wTl 19 (.int .i64 1) rfl (by kernel_rfl) (fun _ _ _ h => h) rfl (fun w' h => by clear h; go_simp) hH ?_
 simp only [wA, wB, wC, wD]
 refine wTl 20 (.bool true) rfl (by kernel_rfl) (fun _ _ _ h => h) rfl (fun w' h => by clear h; go_simp) hH ?_
 simp only [wA, wB, wC, wD]
 refine wTl 21 (.bool true) rfl (by kernel_rfl) (fun _ _ _ h => h) rfl (fun w' h => by clear h; go_simp) hH ?_
 simp only [wA, wB, wC, wD]
 refine wTl 22 (.bool true) rfl (by kernel_rfl) (fun _ _ _ h => h) rfl (fun w' h => by clear h; go_simp) hH ?_
 simp only [wA, wB, wC, wD]
 refine wTl 23 (.slice (some ⟨gb, 0, none⟩) 1 cap) rfl (by kernel_rfl) (fun _ _ _ h => h) rfl (fun w' h => by clear h; go_simp) hH ?_
 simp only [wA, wB, wC, wD]
 refine wTl 24 (.pointer (some ⟨gb, 0, none⟩)) rfl (by kernel_rfl) (fun _ _ _ h => h) rfl (fun w' h => by clear h; go_simp) hH ?_
 simp only [wA, wB, wC, wD]
 refine wTl 25 (.agg #[.int .i64 0, .int .i64 0, .string ⟨#[]⟩, .string ⟨#[112]⟩, .slice (some ⟨ab, 0, none⟩) 1 1]) rfl (by kernel_rfl) (fun _ _ _ h => h) rfl (fun w' h => by have a0 := HR0.out w' h; have a1 := HR1.out w' h; have a2 := HR2.out w' h; have a3 := HR3.out w' h; have a4 := HR4.out w' h; clear h; go_simp) hH ?_
 simp only [wA, wB, wC, wD]
 refine wRd 26 (by kernel_rfl) rfl (fun K hK => ?_)
 go_simp
 refine (lfact8_any 5 _).mono ?_
 rintro e V1 ⟨A5, rfl, hA5, -, hb⟩
 have HA5 := hm7 hA5
 clear hA5
 refine hK.out _ _ (hH.trans (hb.mono hH.size)) (fun hH => ?_)
 clear hK hb
 try simp only [wA, wB, wC, wD]
 refine wRd 27 (by kernel_rfl) rfl (fun K hK => ?_)
 go_simp
 refine (HSA.out _ A5 hH HA5.out).mono ?_
 rintro e V2 ⟨rfl, hb⟩
 refine hK.out _ _ (hH.trans (hb.mono hH.size)) (fun hH => ?_)
 clear hK hb
 try simp only [wA, wB, wC, wD]
 refine wTl 28 (.bool true) rfl (by kernel_rfl) (fun _ _ _ h => h) rfl (fun w' h => by clear h; go_simp) hH ?_
 simp only [wA, wB, wC, wD]
 refine wTl 29 (.bool true) rfl (by kernel_rfl) (fun _ _ _ h => h) rfl (fun w' h => by clear h; go_simp) hH ?_
 simp only [Act.put, List.setIfInBounds_toArray, List.set_cons_zero]
 refine wpAnyH_done (by kernel_rfl) ?_ _
 have HV := hm7 hH
 clear hH
 go_wp2
 go_ret
 exact ⟨rfl, HB.out.trans (HV.out.mono HB.out.size)⟩
end Go.Proofs.YtechceagghcipabGreatDoor
