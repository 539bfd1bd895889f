import Derived.Test.YtechceagghcipaaGreatEG1
import Derived.BigQuiet
import Derived.Test.YtechceagghcipaaGreatL1
/-
  law 8: a base as a list of facts with their parts, in blocks A; all its calls.
-/
namespace Go.Proofs.YtechceagghcipaaGreat
open Go.RowKit

def BP8 (w0 : World) (A : Nat → Prop) (g m tb : Nat) (E : List (At × Int)) (Y : World) : Prop :=
  ∃ tv mn mr ga B T K s, BS w0 g tv mn mr ga B m T K s Y ∧ In8 T K s ∧ T.length ≤ tb ∧ E.Perm (EL8 T K s) ∧ ∀ b, A b ↔ PA8 g tv mn mr B K b
/-- What a call leaves of a base. -/
def BW8 (w0 : World) (A : Nat → Prop) (g m tb : Nat) (E : List (At × Int)) (Y Y' : World) : Prop := ∃ A', BP8 w0 A' g m tb E Y' ∧ Fr A Y Y' ∧ ∀ b, A' b → A b ∨ Y.heap.size ≤ b
section
variable {w0 : World} {A : Nat → Prop} {g m tb : Nat} {E : List (At × Int)} {Y Y' : World}
theorem BP8.fr (h : BP8 w0 A g m tb E Y) {P : Nat → Prop} (hf : Fr P Y Y') (hn : ∀ b, P b → b < Y.heap.size → ¬ A b ∧ w0.heap.size ≤ b) : BP8 w0 A g m tb E Y' := by
  obtain ⟨tv, mn, mr, ga, B, T, K, s, h1, h2, h3, h4, h5⟩ := h
  exact ⟨tv, mn, mr, ga, B, T, K, s, h1.fr hf (fun b hb hl hc => (hn b hb hl).1 ((h5 b).2 hc)) (fun b hb hl => (hn b hb hl).2), h2, h3, h4, h5⟩
theorem BP8.below (h : BP8 w0 A g m tb E Y) (hb : Below Y.heap.size Y Y') : BP8 w0 A g m tb E Y' := h.fr (P := fun _ => False) (Fr.of hb) fun _ h => h.elim
theorem BP8.lt (h : BP8 w0 A g m tb E Y) {b : Nat} (hb : A b) : w0.heap.size ≤ b ∧ b < Y.heap.size := by
  obtain ⟨tv, mn, mr, ga, B, T, K, s, h1, -, -, -, h5⟩ := h
  exact h1.lt ((h5 b).1 hb)
theorem BP8.bl (h : BP8 w0 A g m tb E Y) : Below w0.heap.size w0 Y := by
  obtain ⟨tv, mn, mr, ga, B, T, K, s, h1, -⟩ := h
  exact h1.bl
theorem BP8.nd (h : BP8 w0 A g m tb E Y) : (E.map Prod.fst).Nodup := by
  obtain ⟨tv, mn, mr, ga, B, T, K, s, -, h2, -, h4, -⟩ := h
  exact (h4.map Prod.fst).nodup_iff.2 (EL8_nd h2)
theorem BP8.pos (h : BP8 w0 A g m tb E Y) : ∀ x ∈ E, x.2 = 1 ∨ x.2 = 2 ∨ x.2 = 4 := fun x hx => by
  obtain ⟨tv, mn, mr, ga, B, T, K, s, -, h2, -, h4, -⟩ := h
  exact EL8_pos (h4.mem_iff.1 hx)
theorem aE8_perm {E E' : List (At × Int)} (hp : E.Perm E') (f : At) : (aE8 E f).Perm (aE8 E' f) := by
  unfold aE8
  by_cases hm : f ∈ E.map Prod.fst
  · rw [if_pos hm, if_pos ((hp.map Prod.fst).mem_iff.1 hm)]; exact hp
  · rw [if_neg hm, if_neg fun hc => hm ((hp.map Prod.fst).mem_iff.2 hc)]; exact hp.append_right _
theorem bp_new (w0 Y : World) (hb : Below w0.heap.size w0 Y) : Calls Tryz.prog 16 #[] Y fun e Y' => ∃ g A, e = .returned (.pointer (some ⟨g, 0, none⟩)) ∧ BP8 w0 A g 0 0 [] Y' ∧ (∀ b, A b → Y.heap.size ≤ b) ∧ Below Y.heap.size Y Y' := by
  refine (bnew8_any w0 Y hb).mono ?_
  rintro e Y' ⟨g, mn, mr, rfl, h1, ⟨k1, k2, k3⟩, h3⟩
  refine ⟨g, _, rfl, ⟨_, _, _, _, _, _, _, _, h1, ⟨List.nodup_nil, nofun, nofun, nofun, by simp⟩, by simp, List.Perm.refl _, fun b => Iff.rfl⟩, fun b hb => ?_, h3⟩
  rcases hb with (rfl | hb | rfl) | rfl | ⟨p, hp, -⟩
  · exact k1
  · cases hb
  · exact k2
  · exact k3
  · cases hp
theorem bp_add (h : BP8 w0 A g m tb E Y) (f : At) (x : Value) (hx : TsP Y x f.args) (hf : f.fact = true) (hk : ∀ t ∈ f.pl, KeyT t) (hkp : KeyP f.pd8) (hn : f.args.length ≤ 100000000) (ht : tb + f.pl.length ≤ 1000000000) (hE : E.length < 1000000000) :
    Calls Tryz.prog 17 #[.pointer (some ⟨g, 0, none⟩), f.v x] Y fun e Y' => ∃ c : Bool, (c = true ↔ f ∉ E.map Prod.fst) ∧ e = .returned (.tuple #[.bool c, .int .i64 0]) ∧ BW8 w0 A g m (tb + f.pl.length) (aE8 E f) Y Y' := by
  obtain ⟨tv, mn, mr, ga, B, T, K, s, h1, h2, h3, h4, h5⟩ := h
  have hEl := h4.length_eq
  have hKl := K_len h2
  have hwd : f.pl.length = (st8 K s f.pd8 f.args.length).wd := by
    by_cases hp : f.pd8 ∈ K
    · have e : st8 K s f.pd8 f.args.length = s f.pd8 := if_pos hp
      obtain ⟨n, k1, -, k3, -⟩ := h2.ar _ hp
      have enn : n = f.args.length := by have : f.pd8.ar = (f.args.length : Int) := rfl; omega
      rw [e, k3, enn]
      simp [At.pl]
      omega
    · have e : st8 K s f.pd8 f.args.length = New7 (1 + f.args.length) := if_neg hp
      rw [e]
      simp [At.pl, New7]
      omega
  have hc : (st8 K s f.pd8 f.args.length).rows.length < 10000000000 := by
    by_cases hp : f.pd8 ∈ K
    · have e : st8 K s f.pd8 f.args.length = s f.pd8 := if_pos hp
      rw [e]
      have := rows_len h2 hp
      omega
    · have e : st8 K s f.pd8 f.args.length = New7 (1 + f.args.length) := if_neg hp
      rw [e]
      simp [New7]
  refine (badd8_any w0 g tv mn mr ga B m T K s f x Y h1 hx hf hk hkp (by omega) (by omega) hwd hc).mono ?_
  rintro e Y' ⟨rfl, s', ⟨tv', ga', B', k1, k2, k3⟩, k4, k5⟩
  obtain ⟨q1, q2⟩ := add_EL8 h2 f hn (by omega) hc k4 k5
  have hm := add_mem h2 f
  refine ⟨_, ?_, rfl, _, ⟨tv', mn, mr, ga', B', _, _, s', k1, q1, ?_, (aE8_perm h4 f).trans q2.symm, fun b => Iff.rfl⟩, k2.mono fun b _ hb => (h5 b).2 hb, fun b hb => (k3 b hb).imp (h5 b).2 id⟩
  · rw [decide_eq_true_eq, hm, (h4.map Prod.fst).mem_iff]
  · have := ens8_len f.pl T
    omega
theorem bp_turn (h : BP8 w0 A g m tb E Y) (hE : E.length ≤ 100000000) : Calls Tryz.prog 19 #[.pointer (some ⟨g, 0, none⟩)] Y fun e Y' => e = .returned (.int .i64 (((E.filter fun x => hp7 4 x.2).length : Nat) : Int)) ∧ BW8 w0 A g m tb (E.map fun x => (x.1, tE8 x.2)) Y Y' := by
  obtain ⟨tv, mn, mr, ga, B, T, K, s, h1, h2, h3, h4, h5⟩ := h
  have hEl := h4.length_eq
  have hKl := K_len h2
  refine (bturn8_any w0 g tv mn mr ga B m T K s Y h1 (by omega)).mono ?_
  rintro e Y' ⟨rfl, tv', ga', B', k1, k2, k3⟩
  refine ⟨?_, _, ⟨tv', mn, mr, ga', B', T, K, _, k1, turn_In8 h2, h3, ?_, fun b => Iff.rfl⟩, k2.mono fun b _ hb => (h5 b).2 hb, fun b hb => (k3 b hb).imp (h5 b).2 id⟩
  · have e1 := len_sum h2 4
    have e2 : (fun p => len7 (s p) 4) = fun p => ((s p).rows.length : Int) - ((s p).xf : Int) := funext fun p => len7_four (s p)
    rw [e2] at e1
    rw [e1, (h4.filter _).length_eq]
  · rw [turn_EL8 h2]
    exact h4.map _
theorem bp_part (h : BP8 w0 A g m tb E Y) (f : At) (x : Value) (hx : TsP Y x f.args) (hk : ∀ t ∈ f.pl, KeyT t) (hkp : KeyP f.pd8) (hl : f.pl.length ≤ 1000000000) :
    Calls Tryz.prog 8 #[.pointer (some ⟨g, 0, none⟩), f.v x] Y fun e Y' => ∃ q : Int, (∀ q', (f, q') ∈ E ↔ q' ≠ 0 ∧ q = q') ∧ e = .returned (.int .i64 q) ∧ Below Y.heap.size Y Y' := by
  obtain ⟨tv, mn, mr, ga, B, T, K, s, h1, h2, h3, h4, h5⟩ := h
  refine (bpart8_any w0 g tv mn mr ga B m T K s f x Y h1 hx hk hkp hl).mono ?_
  rintro e Y' ⟨rfl, hb⟩
  exact ⟨_, fun q' => by rw [h4.mem_iff]; exact bpt8_mem h2 f q', rfl, hb⟩
theorem bp_len (h : BP8 w0 A g m tb E Y) (parts : Int) (hE : E.length ≤ 100000000) : Calls Tryz.prog 9 #[.pointer (some ⟨g, 0, none⟩), .int .i64 parts] Y fun e Y' => e = .returned (.int .i64 (((E.filter fun x => hp7 parts x.2).length : Nat) : Int)) ∧ Below Y.heap.size Y Y' := by
  obtain ⟨tv, mn, mr, ga, B, T, K, s, h1, h2, h3, h4, h5⟩ := h
  have hEl := h4.length_eq
  have hKl := K_len h2
  refine (blen8_any w0 g tv mn mr ga B m T K s parts Y h1 (by omega)).mono ?_
  rintro e Y' ⟨rfl, hb⟩
  exact ⟨by rw [len_sum h2 parts, (h4.filter _).length_eq], hb⟩
/-- What a call that gathers facts leaves. -/
def FW8 (w0 : World) (A : Nat → Prop) (g m tb : Nat) (E : List (At × Int)) (L : List At) (Y : World) (e : Ending) (Y' : World) : Prop :=
  ∃ fv Q A', e = .returned fv ∧ AL8 Y' Y.heap.size fv Q ∧ srtC8 Q ∧ (Q.map Prod.fst).Perm L ∧ BP8 w0 A' g m tb E Y' ∧ Fr A Y Y' ∧ (∀ b, A' b → A b ∨ Y.heap.size ≤ b) ∧ ∀ b, (fv.ownBlock = some b ∨ ∃ x ∈ Q, x.2 = b) → ¬ A' b
theorem bp_facts (h : BP8 w0 A g m tb E Y) (parts : Int) (hE : E.length ≤ 10000000) (hm : m ≤ 10000000000000) : Calls Tryz.prog 7 #[.pointer (some ⟨g, 0, none⟩), .int .i64 parts] Y (FW8 w0 A g (m + E.length) tb E ((E.filter fun x => hp7 parts x.2).map Prod.fst) Y) := by
  obtain ⟨tv, mn, mr, ga, B, T, K, s, h1, h2, h3, h4, h5⟩ := h
  have hEl := h4.length_eq
  have hKl := K_len h2
  have hfp := facts_perm h2 parts
  have hfl : (K.flatMap (fcp8 T s parts)).length ≤ 1000000000 := by
    have := hfp.length_eq
    rw [List.length_map] at this
    have := List.length_filter_le (fun x : At × Int => hp7 parts x.2) (EL8 T K s)
    omega
  refine (facts8_any w0 g tv mn mr ga B m T K s parts Y h1 (by omega) hm (fun p hp => ?_) hfl).mono ?_
  · obtain ⟨n, k1, k2, -, k4⟩ := h2.ar p hp
    exact ⟨n, k1, by omega, k4⟩
  · rintro e Y' ⟨fv, Q, B', rfl, q1, q2, q3, q4, q5, q6, q7⟩
    exact ⟨fv, Q, _, rfl, q1, q2, q3.trans (hfp.trans ((h4.filter _).map _).symm), ⟨tv, mn, mr, ga, B', T, K, s, q4.up (by omega), h2, h3, h4, fun b => Iff.rfl⟩, q5.mono fun b _ hb => (h5 b).2 hb, fun b hb => (q6 b hb).imp (h5 b).2 id, q7⟩
/-- What Preds answers. -/
def PW8 (E : List (At × Int)) (Y : World) (e : Ending) (Y' : World) : Prop := ∃ v l, e = .returned v ∧ OwnP Y' Y.heap.size v l ∧ l.Nodup ∧ srt8P l ∧ (∀ p, p ∈ l ↔ ∃ x ∈ E, x.1.pd8 = p) ∧ Below Y.heap.size Y Y'
theorem bp_preds (h : BP8 w0 A g m tb E Y) (hE : E.length ≤ 10000000) : Calls Tryz.prog 12 #[.pointer (some ⟨g, 0, none⟩)] Y (PW8 E Y) := by
  obtain ⟨tv, mn, mr, ga, B, T, K, s, h1, h2, h3, h4, h5⟩ := h
  have hEl := h4.length_eq
  have hKl := K_len h2
  refine (preds8_any w0 g tv mn mr ga B m T K s Y h1 (by omega)).mono ?_
  rintro e Y' ⟨v, l, rfl, q1, q2, q3, q4⟩
  refine ⟨v, l, rfl, q1, q2.nodup_iff.2 h2.nd, q3, fun p => ?_, q4⟩
  rw [q2.mem_iff, preds_mem h2 p]
  exact ⟨fun ⟨x, hx, e⟩ => ⟨x, h4.mem_iff.2 hx, e⟩, fun ⟨x, hx, e⟩ => ⟨x, h4.mem_iff.1 hx, e⟩⟩
end
end Go.Proofs.YtechceagghcipaaGreat
/-
  law 8: fact, preds.
-/
namespace Go.Proofs.YtechceagghcipaaGreat
open Go.RowKit
attribute [local go_sem ↓] Go.wp_at_zero Go.wp_at_succ

def p8 (k : Int) : At := ⟨⟨0, 0, ⟨#[]⟩⟩, ⟨#[112]⟩, [⟨1, k, ⟨#[]⟩⟩]⟩
set_option maxRecDepth 20000 in
set_option maxHeartbeats 1000000 in
theorem lfact8_any (k : Int) (Y : World) : Calls Tryz.prog 37 #[.int .i64 k] Y fun e Y' => ∃ A, e = .returned ((p8 k).v (.slice (some ⟨A, 0, none⟩) 1 1)) ∧ TBlk Y' A [⟨1, k, ⟨#[]⟩⟩] 1 ∧ Y.heap.size ≤ A ∧ Below Y.heap.size Y Y' := by
  go_enter Tryz.func37, Tryz.ntmps37
  go_wp2
  have hb := below2 Y (.cells #[.int .i64 0, .int .i64 0, .string ⟨#[]⟩, .string ⟨#[112]⟩, .slice (some ⟨Y.heap.size + 1, 0, none⟩) 1 1] 34) (.cells #[.int .i64 1, .int .i64 k, .string ⟨#[]⟩] 31)
  have hx := (Bk.new Y #[.int .i64 0, .int .i64 0, .string ⟨#[]⟩, .string ⟨#[112]⟩, .slice (some ⟨Y.heap.size + 1, 0, none⟩) 1 1] 34).below (below1 _ (.cells #[.int .i64 1, .int .i64 k, .string ⟨#[]⟩] 31))
  have ht : TBlk ((Y.alloc (.cells #[.int .i64 0, .int .i64 0, .string ⟨#[]⟩, .string ⟨#[112]⟩, .slice (some ⟨Y.heap.size + 1, 0, none⟩) 1 1] 34)).alloc (.cells #[.int .i64 1, .int .i64 k, .string ⟨#[]⟩] 31)) (Y.heap.size + 1) [⟨1, k, ⟨#[]⟩⟩] 1 := by
    have h1 := Bk.new (Y.alloc (.cells #[.int .i64 0, .int .i64 0, .string ⟨#[]⟩, .string ⟨#[112]⟩, .slice (some ⟨Y.heap.size + 1, 0, none⟩) 1 1] 34)) #[.int .i64 1, .int .i64 k, .string ⟨#[]⟩] 31
    rw [show (Y.alloc (.cells #[.int .i64 0, .int .i64 0, .string ⟨#[]⟩, .string ⟨#[112]⟩, .slice (some ⟨Y.heap.size + 1, 0, none⟩) 1 1] 34)).heap.size = Y.heap.size + 1 by simp] at h1
    refine ⟨_, h1, rfl, fun j t hj ht => ?_⟩
    obtain rfl : j = 0 := by omega
    cases ht
    exact ⟨rfl, rfl, rfl⟩
  obtain ⟨⟨r0, r1⟩, r2, r3, r4⟩ := five8 hx
  exact bodyPost_ret (v := (p8 k).v (.slice (some ⟨Y.heap.size + 1, 0, none⟩) 1 1)) (by simp [results, Tryz.results37, go_sem, r0, r1, r2, r3, r4, p8]) rfl ⟨Y.heap.size + 1, rfl, ht, by omega, hb⟩
end Go.Proofs.YtechceagghcipaaGreat
/-
  Apply: what it answers is its own. (Written out of A1.)
-/
namespace Go.Proofs.YtechceagghcipaaGreat
open Go.RowKit
attribute [local go_sem ↓] Go.wp_at_zero Go.wp_at_succ

theorem TBlk.own {w : World} {B g : Nat} {l : List Tm} {n : Nat} (hn : n = l.length) (hl : n ≤ 4398046511104) (hB : B ≤ g) (h : TBlk w g l n) : OwnT w B (.slice (some ⟨g, 0, none⟩) n n) l := by
  subst hn
  obtain ⟨C, h1, h2, h3⟩ := h
  refine ⟨tcs_len l, Or.inr ⟨g, l.length, C, rfl, hB, h1, Nat.le_refl _, by unfold maxLen; omega, h2, ?_⟩⟩
  rw [List.take_of_length_le (by rw [Array.length_toList, h2]; exact Nat.le_refl _)]
  apply List.ext_getElem?
  intro j
  by_cases hj : j < l.length * 3
  · have hq : j / 3 < l.length := by omega
    obtain ⟨d, hd⟩ : ∃ d, l[j / 3]? = some d := ⟨_, List.getElem?_eq_getElem hq⟩
    have hg := tcs_get l (j / 3) d hd (j % 3) (by omega)
    rw [show j / 3 * 3 + j % 3 = j by omega] at hg
    obtain ⟨a, b, c⟩ := h3 (j / 3) d hq hd
    rw [hg, Array.getElem?_toList]
    have h4 : j % 3 = 0 ∨ j % 3 = 1 ∨ j % 3 = 2 := by omega
    rcases h4 with e | e | e
    · rw [e, show j = j / 3 * 3 by omega, a]; rfl
    · rw [e, show j = j / 3 * 3 + 1 by omega, b]; rfl
    · rw [e, show j = j / 3 * 3 + 2 by omega, c]; rfl
  · rw [List.getElem?_eq_none (by rw [Array.length_toList]; omega), List.getElem?_eq_none (by rw [tcs_len]; omega)]
end Go.Proofs.YtechceagghcipaaGreat
